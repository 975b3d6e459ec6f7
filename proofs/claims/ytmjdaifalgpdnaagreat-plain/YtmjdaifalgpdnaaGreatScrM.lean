import Derived.Test.YtmjdaifalgpdnaaGreatPscE
import Derived.Test.YtmjdaifalgpdnaaGreatPlaF
import Derived.Great.BuildSlice
import Derived.Deep.AppendLies
namespace Go.Proofs.YtmjdaifalgpdnaaGreat
open Go.RowKit

theorem advIf_is {s : ByteArray} {c : Int} {st : St} (h : isB s st c = false) : advIf s c st = st := by unfold advIf; rw [h]; rfl
theorem advIf_sp {s : ByteArray} {c : Int} {st : St} (h : st.bad = true) : advIf s c st = st := by
  apply advIf_is
  unfold isB peekOk
  rw [h]; rfl
theorem advIf_bb (s : ByteArray) (c : Int) (st : St) : (advIf s c st).bad = st.bad := by unfold advIf adv; split <;> rfl

/-- What the document's reader has, by what the program has read. -/
theorem exprS_ways (s : ByteArray) (n : Nat) (st : St) (hb : st.bad = false) (hi : st.i ≤ s.size) (hn : 2 * (s.size - st.i) + 2 ≤ n) (r : List Part × St) (hr : listG s (stopT s) n (advIf s 94 ⟨st.i, false, 0⟩) [] = r) :
    (r.2.bad = true ∧ (exprS s n st).2 = r.2) ∨
    (r.2.bad = false ∧ (exprS s n st).2 = advIf s 36 r.2 ∧ (exprS s n st).1.groups = r.2.g) ∨
    (r.2.bad = false ∧ (exprS s n st).2 = spoil r.2 ∧ advIf s 36 r.2 = r.2 ∧ r.2.i < s.size ∧ isB s r.2 47 = false) := by
  have hz : zeroed st = ⟨st.i, false, 0⟩ := by unfold zeroed; rw [hb]
  have h1 := On.advIf (s := s) (a := ⟨st.i, false, 0⟩) 94 hi
  have h := listG_top s n (advIf s 94 ⟨st.i, false, 0⟩) [] (by rw [advIf_bb]) h1.2 (by have := h1.1; dsimp only at this; omega)
  rw [hr] at h
  have e2 : (exprS s n st).2 = advIf s 36 (partsS s false n (advIf s 94 ⟨st.i, false, 0⟩) []).2 := by rw [← hz]; rfl
  have e1 : (exprS s n st).1.groups = (partsS s false n (advIf s 94 ⟨st.i, false, 0⟩) []).2.g := by rw [← hz]; rfl
  rcases h with ⟨hb, h⟩ | ⟨hb, h⟩ | ⟨hb, h, hi, h36, h47⟩
  · left
    rw [e2, h]
    exact ⟨hb, advIf_sp hb⟩
  · right; left
    rw [e2, e1, h]
    exact ⟨hb, rfl, rfl⟩
  · right; right
    rw [e2, h]
    exact ⟨hb, advIf_sp rfl, advIf_is h36, hi, h47⟩

theorem extract_all (s : ByteArray) (c : Nat) (h : s.size ≤ c) : s.extract 0 c = s := by
  apply ByteArray.ext
  rw [ByteArray.data_extract]
  exact Array.extract_eq_self_of_le h

/-- An expression in a script, as the program reads it and as the document does. -/
theorem pattern_ways (s : ByteArray) (n c : Nat) (st : St) (hb : st.bad = false) (hi : st.i ≤ s.size) (hn : 2 * (s.size - st.i) + 2 ≤ n) (hc : c = min s.size (st.i + 60)) (r : List Part × St) (hr : listG (s.extract 0 c) (stopT (s.extract 0 c)) n (advIf (s.extract 0 c) 94 ⟨st.i, false, 0⟩) [] = r) :
    ((patternS s n st).2.bad = false ∧ r.2.bad = false ∧ isB s (advIf (s.extract 0 c) 36 r.2) 47 = true ∧ (patternS s n st).2.i = (advIf (s.extract 0 c) 36 r.2).i + 1 ∧ (patternS s n st).1.1 = r.2.g) ∨
    ((patternS s n st).2.bad = true ∧ ((r.2.bad = true ∧ (patternS s n st).2.i = r.2.i) ∨ (r.2.bad = false ∧ isB s (advIf (s.extract 0 c) 36 r.2) 47 = false ∧ (patternS s n st).2.i = (advIf (s.extract 0 c) 36 r.2).i))) := by
  have hz : (s.extract 0 c).size = c := by rw [ByteArray.size_extract]; omega
  have hW := exprS_ways (s.extract 0 c) n st hb (by omega) (by omega) r hr
  have hxl := expr_le s n st hi
  have same : ∀ x : Ex × St, exprS s n st = x → exprS (s.extract 0 c) n st = x → x.2.i ≤ c → (isB (s.extract 0 c) r.2 47 = false → r.2.i < c → isB s r.2 47 = false) →
    ((patternS s n st).2.bad = false ∧ r.2.bad = false ∧ isB s (advIf (s.extract 0 c) 36 r.2) 47 = true ∧ (patternS s n st).2.i = (advIf (s.extract 0 c) 36 r.2).i + 1 ∧ (patternS s n st).1.1 = r.2.g) ∨
    ((patternS s n st).2.bad = true ∧ ((r.2.bad = true ∧ (patternS s n st).2.i = r.2.i) ∨ (r.2.bad = false ∧ isB s (advIf (s.extract 0 c) 36 r.2) 47 = false ∧ (patternS s n st).2.i = (advIf (s.extract 0 c) 36 r.2).i))) := by
    intro x hx hx' hle hno
    have hp : patternS s n st = ((x.1.groups, s.extract st.i x.2.i), eatIf s 47 x.2) := by unfold patternS; rw [hx, if_neg (by omega)]
    rw [hx'] at hW
    rw [hp]
    dsimp only
    rcases hW with ⟨h1, h2⟩ | ⟨h1, h2, h3⟩ | ⟨h1, h2, h3, h4, h5⟩
    · right
      rw [h2, eatIf_bad h1]
      exact ⟨h1, .inl ⟨h1, rfl⟩⟩
    · rw [h2, h3]
      have hbb : (advIf (s.extract 0 c) 36 r.2).bad = false := by rw [advIf_bb]; exact h1
      rw [eatIf_ok hbb]
      generalize advIf (s.extract 0 c) 36 r.2 = y at *
      unfold eatS
      cases hy : isB s y 47
      · right
        exact ⟨rfl, .inr ⟨h1, rfl, rfl⟩⟩
      · left
        exact ⟨hbb, h1, rfl, rfl, rfl⟩
    · right
      rw [h2, eatIf_bad rfl, h3]
      exact ⟨rfl, .inr ⟨h1, hno h5 (by omega), rfl⟩⟩
  by_cases hcs : c < s.size
  · have hc60 : c = st.i + 60 := by omega
    rcases expr_cut hcs n hb (by omega) hn with ⟨h1, h2⟩ | ⟨h1, h2⟩
    · exact same _ rfl h1 h2 (fun h3 h4 => by rw [← cut_is hcs 47 h4]; exact h3)
    · have hp : (patternS s n st).2.bad = true ∧ (patternS s n st).2.i = c := by
        unfold patternS
        rcases h1 with h1 | ⟨h1, h3⟩
        · rw [if_pos (by omega)]
          exact ⟨rfl, by dsimp only; omega⟩
        · rw [if_neg (by omega)]
          dsimp only
          rw [eatIf_bad h1]
          exact ⟨h1, h3⟩
      right
      refine ⟨hp.1, ?_⟩
      rw [hp.2]
      rcases hW with ⟨g1, g2⟩ | ⟨g1, g2, g3⟩ | ⟨g1, g2, g3, g4, g5⟩
      · left
        rw [g2] at h2
        rcases h2 with h2 | h2
        · exact ⟨g1, h2.2.symm⟩
        · rw [g1] at h2; cases h2.1
      · right
        rw [g2] at h2
        rcases h2 with h2 | h2
        · have := h2.1
          rw [advIf_bb, g1] at this
          cases this
        · exact ⟨g1, h2.2.2, h2.2.1.symm⟩
      · exfalso
        rw [g2] at h2
        rcases h2 with h2 | h2
        · have := h2.2
          simp [spoil] at this
          omega
        · cases h2.1
  · have hcc : c = s.size := by omega
    have he : s.extract 0 c = s := extract_all s c (by omega)
    exact same _ rfl (by rw [he]) (by omega) (fun h3 _ => by rw [he] at h3; exact h3)

/-- An expression that the program has read, of which the groups are known. -/
def PEx (w : World) (lo : Nat) (v : Value) (g : Nat) : Prop := ∃ xb a0 a1 a2 a3, v = .pointer (some ⟨xb, 0, none⟩) ∧ Blk w xb #[a0, a1, a2, a3, .int .i64 g] 149 ∧ lo ≤ xb

set_option maxRecDepth 100000 in
set_option maxHeartbeats 1600000 in
theorem pexpression_any (n b : Nat) (s : ByteArray) (st : St) (en : Int) (cv ov : Value) (w : World) (h : SR w b s st.i en cv ov) (hb : st.bad = false) (hs : s.size ≤ 1048576) (hi : st.i ≤ s.size) (hn : 2 * (s.size - st.i) + 2 ≤ n) :
    Calls Tryz.prog 80 #[.pointer (some ⟨b, 0, none⟩)] w fun e w' => TookS w b s en cv ov (patternS s n st).2 (fun e w' => ∃ v, e = .returned v ∧ PEx w' w.heap.size v (patternS s n st).1.1) e w' := by
  have hbl := h.lt
  have c0 := h.c0
  have c1 := h.c1
  have c2 := h.c2
  have h1 := h.alloc (.cells #[.string s, .int .i64 st.i, .int .i64 en, .slice none 0 0, .int .i64 0] 154)
  have k1 := (Kp.refl b w).alloc (.cells #[.string s, .int .i64 st.i, .int .i64 en, .slice none 0 0, .int .i64 0] 154)
  have B1 := Blk.new w #[.string s, .int .i64 st.i, .int .i64 en, .slice none 0 0, .int .i64 0] 154
  go_enter Tryz.func80, Tryz.ntmps80
  go_wp2_with fail
  obtain ⟨c, hc⟩ : ∃ c, c = min s.size (st.i + 60) := ⟨_, rfl⟩
  have HC := hide hc
  have hw60 : IntKind.i64.wrap ((st.i : Int) + 60) = (st.i : Int) + 60 := wrapE _ (by omega) (by omega)
  have b0 : (w.alloc (.cells #[.string s, .int .i64 st.i, .int .i64 en, .slice none 0 0, .int .i64 0] 154)).cell? ⟨w.heap.size, 0, none⟩ = some (.string s) := B1.cell 0 rfl
  have bf := B1.fz
  have hne : w.heap.size ≠ b := by omega
  have hmin : (if (st.i : Int) + 60 < (s.size : Int) then (st.i : Int) + 60 else (s.size : Int)) = (c : Int) := by split <;> omega
  have hcle : c ≤ s.size := by omega
  clear hc
  go_region
  have hcut : ER ((w.alloc (.cells #[.string (s.extract 0 c), .int .i64 st.i, .int .i64 en, .slice none 0 0, .int .i64 0] 154)).drew) w.heap.size (s.extract 0 c) st.i en (.slice none 0 0) 0 ∧ SR ((w.alloc (.cells #[.string (s.extract 0 c), .int .i64 st.i, .int .i64 en, .slice none 0 0, .int .i64 0] 154)).drew) b s st.i en cv ov ∧ Kp b w ((w.alloc (.cells #[.string (s.extract 0 c), .int .i64 st.i, .int .i64 en, .slice none 0 0, .int .i64 0] 154)).drew) := ⟨Blk.new w _ _, h.alloc _, ((Kp.refl b w).alloc _).drew⟩
  have hwl : w.heap.size < ((w.alloc (.cells #[.string (s.extract 0 c), .int .i64 st.i, .int .i64 en, .slice none 0 0, .int .i64 0] 154)).drew).heap.size := hcut.1.lt
  generalize (w.alloc (.cells #[.string (s.extract 0 c), .int .i64 st.i, .int .i64 en, .slice none 0 0, .int .i64 0] 154)).drew = wc at *
  have hc := HC.out
  clear hmin
  obtain ⟨hE, hR, hK⟩ := hcut
  have hz : (s.extract 0 c).size = c := by rw [ByteArray.size_extract]; omega
  clear c0 c1 c2 h1 k1 B1 b0 bf h hw60
  have hPW := pattern_ways s n c st hb hi hn hc _ rfl
  go_wp2_with fail
  refine (pexpr_any n w.heap.size (s.extract 0 c) st.i en _ hE (by omega) (by omega) (by omega)).mono ?_
  rintro e w2 ⟨k2, hT⟩
  have hR2 : SR w2 b s st.i en cv ov := Blk.kp hR k2 (by omega)
  have hK2 : Kp b w w2 := ⟨k2.os.trans hK.os, k2.tape.trans hK.tape, k2.output.trans hK.output, Nat.le_trans hK.size k2.size, fun j hj hjb => (k2.block j (Nat.lt_of_lt_of_le hj hK.size) (by omega)).trans (hK.block j hj hjb)⟩
  clear hE hR hK k2
  generalize listG (s.extract 0 c) (stopT (s.extract 0 c)) n (advIf (s.extract 0 c) 94 ⟨st.i, false, 0⟩) [] = r at *
  have hF : (advIf (s.extract 0 c) 36 r.2).bad = r.2.bad := advIf_bb _ _ _
  rcases hT with ⟨hrb, xb, pv, qs, rfl, hX, hxb, -, -, -, hE2⟩ | ⟨hrb, rfl⟩
  · replace hPW : ((patternS s n st).2.bad = false ∧ isB s (advIf (s.extract 0 c) 36 r.2) 47 = true ∧ (patternS s n st).2.i = (advIf (s.extract 0 c) 36 r.2).i + 1 ∧ (patternS s n st).1.1 = r.2.g) ∨ ((patternS s n st).2.bad = true ∧ isB s (advIf (s.extract 0 c) 36 r.2) 47 = false ∧ (patternS s n st).2.i = (advIf (s.extract 0 c) 36 r.2).i) := by
      rcases hPW with ⟨g1, g2, g3, g4, g5⟩ | ⟨g1, ⟨g2, g3⟩ | ⟨g2, g3, g4⟩⟩
      · exact .inl ⟨g1, g3, g4, g5⟩
      · rw [hrb] at g2; cases g2
      · exact .inr ⟨g1, g3, g4⟩
    have e1 : w2.cell? ⟨w.heap.size, 1, none⟩ = some (.int .i64 ((advIf (s.extract 0 c) 36 r.2).i : Nat)) := hE2.rd.c1
    rw [hrb] at hF
    generalize advIf (s.extract 0 c) 36 r.2 = y at *
    have hyl : y.i ≤ s.size := by
      rcases hPW with ⟨_, g, _⟩ | ⟨_, _, g⟩
      · have := peekOk_lt (isB_ok g); omega
      · have := pattern_le s n st hi; omega
    have f1 := hR2.fz
    have f2 := hR2.c1
    have hxb2 : w.heap.size < xb := Nat.lt_of_lt_of_le hwl hxb
    have HX := hide (And.intro hX hxb2)
    have HPW := hide hPW
    clear hPW hX hxb
    go_wp2_with fail
    refine (sTakeOneOf ⟨#[47]⟩ (st := y) (hR2.set1 _ y.i rfl) hF hs hyl).mono ?_
    rintro e w4 ⟨hK4, hT4⟩
    have e4 : oneOfS s (ByteArray.mk #[47]).data.toList y = eatS s 47 y := oneOf_eat s 47 47 rfl y
    rw [e4] at hT4
    have hK5 := (hK2.set 1 _).trans hK4
    have hX4 := (HX.out.1.other (p := ⟨b, 1, none⟩) (show b ≠ xb by omega) (.int .i64 (y.i : Nat))).kp hK4 (show xb ≠ b by omega)
    have HX4 := hide hX4
    clear hX4
    rcases hT4 with ⟨hb4, ⟨rfl, -⟩, hR4⟩ | ⟨hb4, rfl⟩
    · go_wp2_with fail
      go_ret
      have hy : isB s y 47 = true := by
        unfold eatS at hb4
        split at hb4
        · assumption
        · cases hb4
      rcases HPW.out with ⟨g1, g2, g3, g4⟩ | ⟨g1, g2, g3⟩
      · have e5 : (eatS s 47 y).i = y.i + 1 := by unfold eatS; rw [g2]; rfl
        rw [e5] at hR4
        have hX5 := HX4.out
        rw [← g4] at hX5
        exact ⟨hK5, .inl ⟨g1, ⟨_, rfl, xb, _, _, _, _, rfl, hX5, by omega⟩, by rw [g3]; exact hR4⟩⟩
      · rw [g2] at hy; cases hy
    · refine ⟨rfl, ?_⟩
      have hy : isB s y 47 = false := by
        cases hq : isB s y 47
        · rfl
        · unfold eatS at hb4; rw [hq] at hb4; exact absurd hb4 (by show ¬ y.bad = true; rw [hF]; simp)
      rcases HPW.out with ⟨g1, g2, g3, g4⟩ | ⟨g1, g2, g3⟩
      · rw [hy] at g2; cases g2
      · have e5 : (eatS s 47 y).i = y.i := by unfold eatS; rw [hy]; rfl
        refine ⟨hK5, .inr ⟨g1, ?_⟩⟩
        rw [e5, g3]
  · refine ⟨rfl, ?_⟩
    rcases hPW with ⟨g1, g2, g3, g4, g5⟩ | ⟨g1, ⟨g2, g3⟩ | ⟨g2, g3, g4⟩⟩
    · rw [hrb] at g2; cases g2
    · exact ⟨hK2, .inr ⟨g1, by rw [g3]⟩⟩
    · rw [hrb] at g2; cases g2
end Go.Proofs.YtmjdaifalgpdnaaGreat

namespace Go.Proofs.YtmjdaifalgpdnaaGreat
open Go.RowKit

/-- Two lists, member by member. -/
def All2 {α β : Type} (R : α → β → Prop) (xs : List α) (ys : List β) : Prop := xs.length = ys.length ∧ ∀ (i : Nat) (x : α) (y : β), xs[i]? = some x → ys[i]? = some y → R x y
theorem All2.nil {α β : Type} {R : α → β → Prop} : All2 R [] [] := ⟨rfl, fun i x y h => by simp at h⟩
theorem All2.snoc {α β : Type} {R : α → β → Prop} {xs : List α} {ys : List β} {x : α} {y : β} (h : All2 R xs ys) (k : R x y) : All2 R (xs ++ [x]) (ys ++ [y]) := by
  refine ⟨by simp [h.1], fun i a b ha hb => ?_⟩
  by_cases hi : i < xs.length
  · rw [List.getElem?_append_left hi] at ha
    rw [List.getElem?_append_left (by rw [← h.1]; exact hi)] at hb
    exact h.2 i a b ha hb
  · rw [List.getElem?_append_right (by omega)] at ha
    rw [List.getElem?_append_right (by rw [← h.1]; omega), ← h.1] at hb
    cases hj : i - xs.length with
    | zero => rw [hj] at ha hb; simp at ha hb; subst ha; subst hb; exact k
    | succ j => rw [hj] at ha; simp at ha
theorem All2.modify {α β : Type} {R : α → β → Prop} {xs : List α} {ys : List β} (h : All2 R xs ys) (j : Nat) (f : α → α) (hf : ∀ x y, R x y → R (f x) y) : All2 R (xs.modify j f) ys := by
  refine ⟨by simp [h.1], fun i a b ha hb => ?_⟩
  rw [List.getElem?_modify] at ha
  cases hx : xs[i]? with
  | none => rw [hx] at ha; cases ha
  | some x =>
    rw [hx] at ha
    have := h.2 i x b hx hb
    simp at ha
    subst ha
    split
    · exact hf _ _ this
    · exact this

/-- Rows of cells, one behind the other. -/
def flatC (css : List (Array Value)) : List Value := css.flatMap Array.toList
theorem flatC_snoc (css : List (Array Value)) (c : Array Value) : flatC (css ++ [c]) = flatC css ++ c.toList := by simp [flatC]
theorem flatC_len {m : Nat} : ∀ {css : List (Array Value)}, (∀ c ∈ css, c.size = m) → (flatC css).length = css.length * m
  | [], _ => by simp [flatC]
  | c :: css, h => by
    have h1 := flatC_len (css := css) (fun d hd => h d (List.mem_cons_of_mem _ hd))
    have h2 := h c List.mem_cons_self
    have e : flatC (c :: css) = c.toList ++ flatC css := rfl
    rw [e, List.length_append, h1, Array.length_toList, h2, List.length_cons, Nat.add_mul]
    omega
theorem flatC_get {m : Nat} : ∀ {css : List (Array Value)}, (∀ c ∈ css, c.size = m) → ∀ (i o : Nat), o < m → (flatC css)[i * m + o]? = (css[i]?).bind (·[o]?)
  | [], _, i, o, _ => by simp [flatC]
  | c :: css, h, 0, o, ho => by
    have h2 := h c List.mem_cons_self
    have e : flatC (c :: css) = c.toList ++ flatC css := rfl
    rw [e, Nat.zero_mul, Nat.zero_add, List.getElem?_append_left (by rw [Array.length_toList, h2]; exact ho)]
    simp
  | c :: css, h, i + 1, o, ho => by
    have h1 := flatC_get (css := css) (fun d hd => h d (List.mem_cons_of_mem _ hd)) i o ho
    have h2 := h c List.mem_cons_self
    have e : flatC (c :: css) = c.toList ++ flatC css := rfl
    have e2 : (i + 1) * m = i * m + m := by rw [Nat.add_mul, Nat.one_mul]
    rw [e, e2, List.getElem?_append_right (by rw [Array.length_toList, h2]; omega), Array.length_toList, h2]
    have e3 : i * m + m + o - m = i * m + o := by omega
    rw [e3, h1]
    simp
theorem flatC_set {m : Nat} : ∀ {css : List (Array Value)}, (∀ c ∈ css, c.size = m) → ∀ (i o : Nat) (v : Value), o < m → (flatC css).set (i * m + o) v = flatC (css.modify i (·.setIfInBounds o v))
  | [], _, i, o, v, _ => by simp [flatC]
  | c :: css, h, 0, o, v, ho => by
    have h2 := h c List.mem_cons_self
    have e : flatC (c :: css) = c.toList ++ flatC css := rfl
    rw [e, Nat.zero_mul, Nat.zero_add, List.set_append_left _ _ (by rw [Array.length_toList, h2]; exact ho)]
    simp [flatC]
  | c :: css, h, i + 1, o, v, ho => by
    have h1 := flatC_set (css := css) (fun d hd => h d (List.mem_cons_of_mem _ hd)) i o v ho
    have h2 := h c List.mem_cons_self
    have e : flatC (c :: css) = c.toList ++ flatC css := rfl
    have e2 : (i + 1) * m = i * m + m := by rw [Nat.add_mul, Nat.one_mul]
    rw [e, e2, List.set_append_right _ _ (by rw [Array.length_toList, h2]; omega), Array.length_toList, h2]
    have e3 : i * m + m + o - m = i * m + o := by omega
    rw [e3, h1]
    simp [flatC]

theorem own_ne {w : World} {b1 b2 s1 s2 n1 n2 k : Nat} {e1 e2 : TypeId} {v1 v2 : Value} {x1 x2 : List Value} (h1 : w.ownsRow b1 e1 s1 v1 n1 x1) (h2 : w.ownsRow b2 e2 s2 v2 n2 x2) (hne : e1 ≠ e2) (hk : v1.ownBlock = some k) : v2.ownBlock ≠ some k := by
  intro hk2
  rcases h1.2 with ⟨rfl, _⟩ | ⟨g1, c1, u1, rfl, _, hg1, _⟩
  · cases hk
  rcases h2.2 with ⟨rfl, _⟩ | ⟨g2, c2, u2, rfl, _, hg2, _⟩
  · cases hk2
  simp only [Value.ownBlock, Option.some.injEq] at hk hk2
  subst hk; subst hk2
  rw [hg1] at hg2
  simp only [Option.some.injEq, Obj.cells.injEq] at hg2
  exact hne hg2.2.1
theorem own_form {w : World} {base size n : Nat} {e : TypeId} {v : Value} {xs : List Value} (h : w.ownsRow base e size v n xs) : ∃ pa cap, v = .slice pa n cap ∧ n ≤ cap := by
  rcases h.2 with ⟨h1, h2⟩ | ⟨g, cap, cur, h1, _, _, h3, _⟩
  · exact ⟨none, 0, by rw [h1, h2], by omega⟩
  · exact ⟨_, _, h1, h3⟩

/-- One struct as a slice literal. -/
theorem build_one {t e : TypeId} {m : Nat} (hu : Tryz.prog.underlying t = some (.slice e)) (hi : ∃ ie z, Tryz.prog.info? e = some ie ∧ ie.zero = some z ∧ ie.size = m ∧ z.cells.size = m) (hm : 0 < m) (hm2 : m ≤ 1000) {cs : Array Value} (hc : cs.size = m) (w : World) :
    (Instr.buildSlice t 1 #[(0, .agg cs)]).run Tryz.prog w = .ok (.slice (some ⟨w.heap.size, 0, none⟩) 1 1) (w.alloc (.cells cs e)) := by
  obtain ⟨ie, z, h1, h2, h3, h4⟩ := hi
  refine run_buildSlice w t e 1 _ cs ie z hu h1 h2 (by rw [h3]; omega) (by rw [h3]; omega) ?_
  have := Great.fill_whole (s := m) hm [Value.agg cs] ((Array.range (1 * m)).map (z.cells[· % z.cells.size]!)) (by intro v hv; simp at hv; subst hv; exact hc) (by simp)
  rw [h3]
  simpa [Value.cells] using this
theorem infoCmdF : (Tryz.prog.info? 62).map (fun i => (i.zero, i.size, i.bytes)) = some (some (.agg zeroC), 31, 312) := by kernel_rfl
theorem infoCmd4 : ∃ ie z, Tryz.prog.info? 62 = some ie ∧ ie.zero = some z ∧ ie.size = 31 ∧ z.cells.size = 31 := by
  obtain ⟨i0, h1, h2, h3, h4⟩ := info_parts infoCmdF
  exact ⟨i0, _, h1, h2, h3, rfl⟩

theorem CmdV.set30 {cs : Array Value} {t : CmT} (h : CmdV cs t) {v : Value} (hv : v.oneCell' = true) : CmdV (cs.setIfInBounds 30 v) t := by
  obtain ⟨h1, h2, h3, h4, h5, h6, A, B, nt, f, h7, h8⟩ := h
  refine ⟨by simp [h1], one_set h2 30 hv, ?_, ?_, ?_, ?_, A, B, nt, f, ⟨?_, ?_, ?_, ?_, ?_, ?_, ?_, h7.rv.set 30 (by omega) v⟩, h8⟩
  · rw [Array.getElem?_setIfInBounds_ne (by omega)]; exact h3
  · rw [Array.getElem?_setIfInBounds_ne (by omega)]; exact h4
  · rw [Array.getElem?_setIfInBounds_ne (by omega)]; exact h5
  · rw [Array.getElem?_setIfInBounds_ne (by omega)]; exact h6
  · exact get_ne 30 _ h7.e2 (by omega)
  · exact get_ne 30 _ h7.e3 (by omega)
  · exact get_ne 30 _ h7.e8 (by omega)
  · exact get_ne 30 _ h7.e9 (by omega)
  · exact get_ne 30 _ h7.e10 (by omega)
  · exact get_ne 30 _ h7.e15 (by omega)
  · exact get_ne 30 _ h7.e16 (by omega)
end Go.Proofs.YtmjdaifalgpdnaaGreat
