import Derived.Test.YtmjdaifalgpdnaaGreatScrB
import Derived.Test.YtmjdaifalgpdnaaGreatPlaB
namespace Go.Proofs.YtmjdaifalgpdnaaGreat
open Go.RowKit

def amongB (s : ByteArray) (st : St) (l : List UInt8) : Bool := peekOk s st && hasL l (peekC s st)

set_option maxHeartbeats 400000 in
theorem among_any (b : Nat) (s l : ByteArray) (st : St) (w : World) (h : RD w b s st) (hs : s.size ≤ 1048576) (hl : l.size ≤ 1048576) :
    Calls Tryz.prog 51 #[.pointer (some ⟨b, 0, none⟩), .string l] w fun e w' => e = .returned (.bool (amongB s st l.data.toList)) ∧ ∃ n, w' = w.drewN n := by
  cases hp : peekOk s st
  · have HP : Hid (peekOk s st = false) := hp
    clear hp
    go_enter Tryz.func51, Tryz.ntmps51
    go_wp2_with fail
    refine (peek_any b s st _ h hs).mono ?_
    rintro e w1 ⟨rfl, n, rfl⟩
    rw [HP.out]
    go_wp2_with fail
    go_ret
    exact ⟨ret_bool (by simp [amongB, HP.out]), n, rfl⟩
  · have HP : Hid (peekOk s st = true) := hp
    clear hp
    go_enter Tryz.func51, Tryz.ntmps51
    go_wp2_with fail
    refine (peek_any b s st _ h hs).mono ?_
    rintro e w1 ⟨rfl, n, rfl⟩
    rw [HP.out]
    go_wp2_with (go_at_call 41; refine (has_any l _ _ hl).mono ?_; rintro e w2 ⟨rfl, rfl⟩)
    go_ret
    exact ⟨ret_bool (by simp [amongB, HP.out]), n, rfl⟩

/-- Blanks are passed. -/
def blanksS (s : ByteArray) : Nat → St → St
  | 0, st => st
  | n + 1, st => if isB s st 32 then blanksS s n (adv st) else st

theorem Fwd.blanks {s : ByteArray} : ∀ (n : Nat) (st : St), st.i ≤ s.size → Fwd s st (blanksS s n st)
  | 0, st, h => Fwd.refl h
  | n + 1, st, h => by
    rw [blanksS]
    split
    · next hc => exact (Fwd.adv (peekOk_lt (isB_ok hc))).trans (Fwd.blanks n _ (Fwd.adv (peekOk_lt (isB_ok hc))).2.1)
    · exact Fwd.refl h

theorem RD.kp_drew {w : World} {b : Nat} {s : ByteArray} {st : St} (h : RD w b s st) (n : Nat) : RD (w.drewN n) b s st := h

set_option maxHeartbeats 800000 in
theorem blanks_any (n b : Nat) (s : ByteArray) (st : St) (w : World) (h : RD w b s st) (hs : s.size ≤ 1048576) (hi : st.i ≤ s.size) (hn : s.size < st.i + n) :
    Calls Tryz.prog 26 #[.pointer (some ⟨b, 0, none⟩)] w fun e w' => e = .returned (.tuple #[]) ∧ RD w' b s (blanksS s n st) ∧ Kp b w w' := by
  go_enter Tryz.func26, Tryz.ntmps26
  go_wp2_with fail
  go_loopg [] n (fun k w' => ∃ cur : St, RD w' b s cur ∧ Kp b w w' ∧ cur.i ≤ s.size ∧ s.size < cur.i + k ∧ Hid (blanksS s k cur = blanksS s n st))
  case atStart => exact ⟨st, h, Kp.refl _ _, hi, hn, rfl⟩
  case round =>
    obtain ⟨cur, hR, hK, hci, hck, HE⟩ := hrel
    have r1 := hR.c1
    have rf := hR.fz
    cases hx : isB s cur 32
    · have HX := hide hx
      go_wp2_with (go_at_call 27; refine (is_of hx hR hs).mono ?_; rintro e w1 ⟨rfl, n1, rfl⟩)
      go_end0
      refine ⟨rfl, ?_, hK.drewN n1⟩
      have := HE.out
      rw [← this]
      cases hk : gk with
      | zero => rw [hk] at hck; omega
      | succ k => rw [blanksS, HX.out]; exact hR
    · have HX := hide hx
      have hlt := peekOk_lt (isB_ok hx)
      go_wp2_with (go_at_call 27; refine (is_of hx hR hs).mono ?_; rintro e w1 ⟨rfl, n1, rfl⟩)
      go_roundg (gk - 1)
      case measure => omega
      case rel =>
        obtain ⟨k, rfl⟩ : ∃ k, gk = k + 1 := ⟨gk - 1, by omega⟩
        refine ⟨adv cur, (hR.drewN n1).adv rfl, (hK.drewN n1).set _ _, by simp [adv]; omega, by simp [adv]; omega, ?_⟩
        have := HE.out
        rw [blanksS, HX.out] at this
        exact this
end Go.Proofs.YtmjdaifalgpdnaaGreat

namespace Go.Proofs.YtmjdaifalgpdnaaGreat
open Go.RowKit

/-- Where the line ends. -/
def lineE (s : ByteArray) : Nat → Nat → Nat
  | 0, i => i
  | n + 1, i => if h : i < s.size then (if (s[i].toNat : Int) = 10 then i else lineE s n (i + 1)) else i

theorem lineE_le (s : ByteArray) : ∀ n i, i ≤ s.size → i ≤ lineE s n i ∧ lineE s n i ≤ s.size
  | 0, i, h => ⟨Nat.le_refl _, h⟩
  | n + 1, i, h => by
    rw [lineE]
    split
    · split
      · exact ⟨Nat.le_refl _, h⟩
      · have := lineE_le s n (i + 1) (by omega); omega
    · exact ⟨Nat.le_refl _, h⟩

set_option maxHeartbeats 800000 in
theorem line_any (n b : Nat) (s : ByteArray) (st : St) (w : World) (h : RD w b s st) (hs : s.size ≤ 1048576) (hi : st.i ≤ s.size) (hn : s.size < st.i + n) :
    Calls Tryz.prog 53 #[.pointer (some ⟨b, 0, none⟩)] w fun e w' => e = .returned (.string (s.extract st.i (lineE s n st.i))) ∧ RD w' b s { st with i := lineE s n st.i } ∧ Kp b w w' := by
  have h1 := h.c1
  have h0 := h.c0
  go_enter Tryz.func53, Tryz.ntmps53
  go_wp2_with fail
  go_loopg [] n (fun k w' => ∃ i : Nat, RD w' b s { st with i := i } ∧ Kp b w w' ∧ st.i ≤ i ∧ i ≤ s.size ∧ s.size < i + k ∧ Hid (lineE s k i = lineE s n st.i))
  case atStart => exact ⟨st.i, h, Kp.refl _ _, Nat.le_refl _, hi, hn, rfl⟩
  case round =>
    obtain ⟨i, hR, hK, hsi, hci, hck, HE⟩ := hrel
    have r0 := hR.c0
    have r1 := hR.c1
    have rf := hR.fz
    obtain ⟨k, rfl⟩ : ∃ k, gk = k + 1 := ⟨gk - 1, by omega⟩
    clear h1 h0
    by_cases hl : i < s.size
    · have hE := HE.out
      rw [lineE, dif_pos hl] at hE
      have hd : decide ((i : Int) < s.size) = true := by simp; omega
      by_cases hx : (s[i].toNat : Int) = 10
      · rw [if_pos hx] at hE
        have HE2 := hide hE
        clear hE HE
        go_wp2_with fail
        go_quiet (fail)
        go_wp2_with fail
        go_quiet (fail)
        go_wp2_with fail
        go_ret
        rw [← HE2.out]
        exact ⟨rfl, (hR.drewN _).drewN _, (hK.drewN _).drewN _⟩
      · rw [if_neg hx] at hE
        have HE2 := hide hE
        clear hE HE
        go_wp2_with fail
        go_quiet (fail)
        go_wp2_with fail
        go_roundg k
        case measure => omega
        case rel => exact ⟨i + 1, (hR.drewN _).set1 _ _ rfl, (hK.drewN _).set _ _, by omega, by omega, by omega, HE2.out⟩
    · have hE := HE.out
      rw [lineE, dif_neg hl] at hE
      have HE2 := hide hE
      have hd : decide ((i : Int) < s.size) = false := by simp; omega
      clear hE HE
      go_wp2_with fail
      go_quiet (fail)
      go_wp2_with fail
      go_quiet (fail)
      go_wp2_with fail
      go_ret
      rw [← HE2.out]
      exact ⟨rfl, (hR.drewN _).drewN _, (hK.drewN _).drewN _⟩

def lettersL : List UInt8 := [97, 98, 99, 100, 101, 102, 103, 104, 105, 106, 107, 108, 109, 110, 111, 112, 113, 114, 115, 116, 117, 118, 119, 120, 121, 122]
def digitsL : List UInt8 := [48, 49, 50, 51, 52, 53, 54, 55, 56, 57]
def digits1L : List UInt8 := [49, 50, 51, 52, 53, 54, 55, 56, 57]

theorem among_letters (b : Nat) (s : ByteArray) {x : Bool} {st : St} {w : World} (hx : amongB s st lettersL = x) (h : RD w b s st) (hs : s.size ≤ 1048576) :
    Calls Tryz.prog 51 #[.pointer (some ⟨b, 0, none⟩), .string ⟨#[97, 98, 99, 100, 101, 102, 103, 104, 105, 106, 107, 108, 109, 110, 111, 112, 113, 114, 115, 116, 117, 118, 119, 120, 121, 122]⟩] w fun e w' => e = .returned (.bool x) ∧ ∃ n, w' = w.drewN n := by
  subst hx; exact among_any b s ⟨#[97, 98, 99, 100, 101, 102, 103, 104, 105, 106, 107, 108, 109, 110, 111, 112, 113, 114, 115, 116, 117, 118, 119, 120, 121, 122]⟩ st w h hs (by decide)
theorem among_digits (b : Nat) (s : ByteArray) {x : Bool} {st : St} {w : World} (hx : amongB s st digitsL = x) (h : RD w b s st) (hs : s.size ≤ 1048576) :
    Calls Tryz.prog 51 #[.pointer (some ⟨b, 0, none⟩), .string ⟨#[48, 49, 50, 51, 52, 53, 54, 55, 56, 57]⟩] w fun e w' => e = .returned (.bool x) ∧ ∃ n, w' = w.drewN n := by
  subst hx; exact among_any b s ⟨#[48, 49, 50, 51, 52, 53, 54, 55, 56, 57]⟩ st w h hs (by decide)
theorem among_digits1 (b : Nat) (s : ByteArray) {x : Bool} {st : St} {w : World} (hx : amongB s st digits1L = x) (h : RD w b s st) (hs : s.size ≤ 1048576) :
    Calls Tryz.prog 51 #[.pointer (some ⟨b, 0, none⟩), .string ⟨#[49, 50, 51, 52, 53, 54, 55, 56, 57]⟩] w fun e w' => e = .returned (.bool x) ∧ ∃ n, w' = w.drewN n := by
  subst hx; exact among_any b s ⟨#[49, 50, 51, 52, 53, 54, 55, 56, 57]⟩ st w h hs (by decide)

/-- Letters, at most so many. -/
def wordL (s : ByteArray) : Nat → St → St
  | 0, st => st
  | n + 1, st => if amongB s st lettersL then wordL s n (adv st) else st
def wordS (s : ByteArray) (st : St) : ByteArray × St :=
  if (wordL s 8 st).i = st.i then (⟨#[]⟩, spoil st) else (s.extract st.i (wordL s 8 st).i, wordL s 8 st)

theorem amongB_lt {s : ByteArray} {st : St} {l : List UInt8} (h : amongB s st l = true) : st.i < s.size := by
  simp only [amongB, Bool.and_eq_true] at h; exact peekOk_lt h.1
theorem wordL_le (s : ByteArray) : ∀ n st, st.i ≤ s.size → st.i ≤ (wordL s n st).i ∧ (wordL s n st).i ≤ s.size ∧ (wordL s n st).bad = st.bad ∧ (wordL s n st).g = st.g
  | 0, st, h => ⟨Nat.le_refl _, h, rfl, rfl⟩
  | n + 1, st, h => by
    rw [wordL]
    split
    · next hc =>
      have := amongB_lt hc
      have h2 := wordL_le s n (adv st) (by simp [adv]; omega)
      simp only [adv] at h2 ⊢
      exact ⟨by omega, h2.2.1, h2.2.2⟩
    · exact ⟨Nat.le_refl _, h, rfl, rfl⟩

set_option maxHeartbeats 800000 in
theorem word_any (b : Nat) (s : ByteArray) (st : St) (w : World) (h : RD w b s st) (hs : s.size ≤ 1048576) (hi : st.i ≤ s.size) :
    Calls Tryz.prog 54 #[.pointer (some ⟨b, 0, none⟩)] w fun e w' => e = .returned (.string (wordS s st).1) ∧ RD w' b s (wordS s st).2 ∧ Kp b w w' := by
  have h1 := h.c1
  go_enter Tryz.func54, Tryz.ntmps54
  go_wp2_with fail
  go_loopg [4] 8 (fun k kv w' => ∃ (j : Nat) (cur : St), kv = .int .i64 j ∧ j + k = 8 ∧ RD w' b s cur ∧ Kp b w w' ∧ st.i ≤ cur.i ∧ cur.i ≤ s.size ∧ Hid (wordL s k cur = wordL s 8 st))
  case atStart => exact ⟨0, st, rfl, rfl, h, Kp.refl _ _, Nat.le_refl _, hi, rfl⟩
  case round =>
    obtain ⟨j, cur, rfl, hjk, hR, hK, hsi, hci, HE⟩ := hrel
    have r0 := hR.c0
    have r1 := hR.c1
    have rf := hR.fz
    clear h1
    have fin : ∀ w2 : World, RD w2 b s cur → Kp b w w2 → wordL s 8 st = cur → Hid (RD w2 b s cur ∧ Kp b w w2 ∧ wordL s 8 st = cur) := fun w2 a b c => ⟨a, b, c⟩
    by_cases hgo : 0 < gk ∧ amongB s cur lettersL = true
    · obtain ⟨hk, hx⟩ := hgo
      obtain ⟨k, rfl⟩ : ∃ k, gk = k + 1 := ⟨gk - 1, by omega⟩
      have hlt := amongB_lt hx
      have hE := HE.out
      rw [wordL, if_pos hx] at hE
      have HE2 := hide hE
      have hj : (j : Int) < 8 := by omega
      clear hE HE fin
      go_wp2_with (go_at_call 51; refine (among_letters b s hx hR hs).mono ?_; rintro e w1 ⟨rfl, n1, rfl⟩)
      go_roundg k
      case measure => omega
      case rel => exact ⟨j + 1, adv cur, by go_num, by omega, (hR.drewN n1).adv rfl, (hK.drewN n1).set _ _, by simp [adv]; omega, by simp [adv]; omega, HE2.out⟩
    · have hE : wordL s 8 st = cur := by
        rw [← HE.out]
        cases hk : gk with
        | zero => rfl
        | succ k =>
          rw [wordL, if_neg]
          intro h
          exact hgo ⟨by omega, h⟩
      have key : ((j : Int) < 8 ∧ amongB s cur lettersL = false) ∨ ¬ (j : Int) < 8 := by
        by_cases h0 : 0 < gk
        · left
          refine ⟨by omega, ?_⟩
          cases hx : amongB s cur lettersL
          · rfl
          · exact absurd ⟨h0, hx⟩ hgo
        · right; omega
      have HF := hide hE
      clear hE HE fin hgo
      go_upto_region 3 with fail
      go_cut [14] (fun bv wc => bv = .bool false ∧ ∃ n1, wc = wr.drewN n1)
      case first =>
        rcases key with ⟨h1, h2⟩ | h1
        · go_wp2_with (go_at_call 51; refine (among_letters b s h2 hR hs).mono ?_; rintro e w1 ⟨rfl, n1, rfl⟩)
          go_meet
          case rel => exact ⟨rfl, n1, rfl⟩
        · go_wp2_with fail
          go_meet
          case rel => exact ⟨rfl, 0, rfl⟩
      case rest =>
        obtain ⟨rfl, n1, rfl⟩ := hcut
        clear key
        by_cases he : cur.i = st.i
        · have hd : (cur.i : Int) = st.i := by omega
          have r2 := hR.c2
          go_wp2_with fail
          go_ret
          have e2 : wordS s st = (⟨#[]⟩, spoil st) := by unfold wordS; rw [HF.out, if_pos he]
          rw [e2]
          refine ⟨rfl, ?_, (hK.drewN n1).set _ _⟩
          have h9 := wordL_le s 8 st hi
          rw [HF.out] at h9
          have e3 : cur = st := by
            obtain ⟨i1, b1, g1⟩ := cur
            obtain ⟨i2, b2, g2⟩ := st
            simp only at h9 he
            rw [he, h9.2.2.1, h9.2.2.2]
          rw [← e3]
          exact (hR.drewN n1).spoil
        · have hd : ¬ (cur.i : Int) = st.i := by omega
          have hle : (st.i : Int) ≤ cur.i := by omega
          go_wp2_with fail
          go_quiet (fail)
          go_wp2_with fail
          go_ret
          have e2 : wordS s st = (s.extract st.i cur.i, cur) := by unfold wordS; rw [HF.out, if_neg he]
          rw [e2]
          exact ⟨rfl, (hR.drewN n1).drewN _, (hK.drewN n1).drewN _⟩

/-- A blank and a word. -/
def spacedS (s : ByteArray) (st : St) : ByteArray × St := if (eatS s 32 st).bad = true then (⟨#[]⟩, eatS s 32 st) else wordS s (eatS s 32 st)

set_option maxHeartbeats 800000 in
theorem spaced_any (b : Nat) (s : ByteArray) (st : St) (w : World) (h : RD w b s st) (hs : s.size ≤ 1048576) (hi : st.i ≤ s.size) :
    Calls Tryz.prog 55 #[.pointer (some ⟨b, 0, none⟩)] w fun e w' => e = .returned (.string (spacedS s st).1) ∧ RD w' b s (spacedS s st).2 ∧ Kp b w w' := by
  go_enter Tryz.func55, Tryz.ntmps55
  go_wp2_with fail
  refine (eat_any b s st 32 w h hs).mono ?_
  rintro e w1 ⟨rfl, hR, hK⟩
  have r2 := hR.c2
  cases hb : (eatS s 32 st).bad
  · have HB := hide hb
    rw [hb] at r2
    clear hb
    go_wp2_with fail
    refine (word_any b s _ w1 hR hs (eat_le s 32 st hi)).mono ?_
    rintro e w2 ⟨rfl, hR2, hK2⟩
    go_wp2_with fail
    go_ret
    have e2 : spacedS s st = wordS s (eatS s 32 st) := by unfold spacedS; rw [HB.out]; rfl
    rw [e2]
    exact ⟨rfl, hR2, hK.trans hK2⟩
  · have HB := hide hb
    rw [hb] at r2
    clear hb
    go_wp2_with fail
    go_ret
    have e2 : spacedS s st = (⟨#[]⟩, eatS s 32 st) := by unfold spacedS; rw [HB.out]; rfl
    rw [e2]
    exact ⟨rfl, hR, hK⟩
end Go.Proofs.YtmjdaifalgpdnaaGreat

namespace Go.Proofs.YtmjdaifalgpdnaaGreat
open Go.RowKit

/-- An expression as a value, of which the groups are known. -/
def ExA (v : Value) (g : Nat) : Prop := ∃ fi la ka kl kc, v = .agg #[.bool fi, .bool la, .slice ka kl kc, .int .i64 g]

theorem Fwd.advIf {s : ByteArray} {st : St} (c : Int) (h : st.i ≤ s.size) : Fwd s st (advIf s c st) := by
  unfold Go.Proofs.YtmjdaifalgpdnaaGreat.advIf
  split
  · next hc => exact Fwd.adv (peekOk_lt (isB_ok hc))
  · exact Fwd.refl h
theorem expr_le (s : ByteArray) (n : Nat) (st : St) (h : st.i ≤ s.size) : st.i ≤ (exprS s n st).2.i ∧ (exprS s n st).2.i ≤ s.size := by
  have h1 := Fwd.advIf (st := zeroed st) 94 h
  have h2 := (fwd_all s n).2.2 false (advIf s 94 (zeroed st)) [] h1.2.1
  have h3 := Fwd.advIf 36 h2.2.1
  have h4 := (h1.trans h2).trans h3
  exact ⟨h4.1, h4.2.1⟩

def patternS (s : ByteArray) (n : Nat) (st : St) : (Nat × ByteArray) × St :=
  if 60 < (exprS s n st).2.i - st.i then (((exprS s n st).1.groups, ⟨#[]⟩), { (exprS s n st).2 with i := st.i + 60, bad := true })
  else (((exprS s n st).1.groups, s.extract st.i (exprS s n st).2.i), eatIf s 47 (exprS s n st).2)

/-- An expression out of its variable, and a value. -/
theorem ret_pat {fn : Func} {p u : Tmp} (hres : fn.results = #[.cell p 57, .tmp u]) {w : World} {k : Nat} {a0 a1 a2 a3 : Value} {tmps : Array Value} (ht : tmps.getD p undef = .pointer (some ⟨k, 0, none⟩)) (h : Blk w k #[a0, a1, a2, a3] 57) :
    (results fn tmps).run Tryz.prog w = .ok (.tuple #[.agg #[a0, a1, a2, a3], tmps.getD u undef]) w := by
  obtain ⟨c0, c1, c2, c3, _⟩ := h.four
  have ht' : tmps[p]?.getD undef = .pointer (some ⟨k, 0, none⟩) := by simpa using ht
  simp [results, hres, ht', go_sem, c0, c1, c2, c3]

set_option maxHeartbeats 1600000 in
theorem pattern_any (n b : Nat) (s : ByteArray) (st : St) (w : World) (h : RD w b s st) (hs : s.size ≤ 1048576) (hi : st.i ≤ s.size) (hn : 2 * (s.size - st.i) + 2 ≤ n) (hn' : n ≤ 4000000) :
    Calls Tryz.prog 50 #[.pointer (some ⟨b, 0, none⟩)] w fun e w' => ∃ v, e = .returned (.tuple #[v, .string (patternS s n st).1.2]) ∧ ExA v (patternS s n st).1.1 ∧ RD w' b s (patternS s n st).2 ∧ Kp b w w' := by
  have h1 := h.c1
  have hbl := h.lt
  have hRa := h.alloc (.cells #[.bool false, .bool false, .slice none 0 0, .int .i64 0] 57)
  have hKa : Kp b w (w.alloc (.cells #[.bool false, .bool false, .slice none 0 0, .int .i64 0] 57)) := (Kp.refl b w).alloc _
  have hBx := Blk.new w #[.bool false, .bool false, .slice none 0 0, .int .i64 0] 57
  go_enter Tryz.func50, Tryz.ntmps50
  go_wp2_with fail
  refine (expr_any n b s st _ hRa hs hi hn hn').mono ?_
  rintro e w1 ⟨ka, kl, kc, xs, rfl, -, -, hR1, hK1⟩
  have hB1 := hBx.kp hK1 (by omega)
  have hKK := hKa.trans hK1
  obtain ⟨hge, hle⟩ := expr_le s n st hi
  have hbl1 := hR1.lt
  have hwl1 := hB1.lt
  obtain ⟨c0, c1, c2, c3, cf⟩ := hB1.four
  clear hRa hKa hBx h1
  generalize hp : exprS s n st = p at *
  have HP := hide hp
  clear hp
  obtain ⟨x, q⟩ := p
  dsimp only at *
  have r0 := hR1.c0
  have r1 := hR1.c1
  have r2 := hR1.c2
  have rf := hR1.fz
  by_cases hl : 60 < q.i - st.i
  · have hd : decide ((60 : Int) < (q.i : Int) - st.i) = true := by simp; omega
    go_wp2_with fail
    have hne : w.heap.size ≠ b := by omega
    have hBf := ((((hB1.other (p := ⟨b, 1, none⟩) (Ne.symm hne) (.int .i64 ((st.i : Int) + 60))).other (p := ⟨b, 2, none⟩) (Ne.symm hne) (.bool true)).put4 (.bool x.first) (.bool x.last) (.slice ka kl kc) (.int .i64 x.groups)).alloc (.cells #[.bool x.first, .bool x.last, .slice ka kl kc, .int .i64 x.groups] 57))
    refine bodyPost_ret (ret_pat rfl rfl hBf) rfl ?_
    have e2 : patternS s n st = ((x.groups, ⟨#[]⟩), { q with i := st.i + 60, bad := true }) := by unfold patternS; rw [HP.out, if_pos hl]
    rw [e2]
    refine ⟨_, rfl, ⟨_, _, _, _, _, rfl⟩, ?_, ?_⟩
    · have hR2 : RD ((w1.setCell ⟨b, 1, none⟩ (.int .i64 ((st.i : Int) + 60))).setCell ⟨b, 2, none⟩ (.bool true)) b s { q with i := st.i + 60, bad := true } := (hR1.set1 _ (st.i + 60) rfl).set2 true
      exact ((((hR2.other hne _).other hne _).other hne _).other hne _).alloc _
    · exact (Kp.put4 ((hKK.set 1 _).set 2 _) (Nat.le_refl _) _ _ _ _).alloc _
  · have hd : decide ((60 : Int) < (q.i : Int) - st.i) = false := by simp; omega
    go_wp2_with fail
    go_quiet (fail)
    have hne : w.heap.size ≠ b := by omega
    have e2 : patternS s n st = ((x.groups, s.extract st.i q.i), eatIf s 47 q) := by unfold patternS; rw [HP.out, if_neg hl]
    have hX : Blk ((w1.alloc (.cells #[.bool x.first, .bool x.last, .slice ka kl kc, .int .i64 x.groups] 57)).drewN nq) w1.heap.size #[.bool x.first, .bool x.last, .slice ka kl kc, .int .i64 x.groups] 57 := (Blk.new _ _ _).drewN nq
    have hB2 := (hB1.alloc (.cells #[.bool x.first, .bool x.last, .slice ka kl kc, .int .i64 x.groups] 57)).drewN nq
    have hR2 := (hR1.alloc (.cells #[.bool x.first, .bool x.last, .slice ka kl kc, .int .i64 x.groups] 57)).drewN nq
    have hK2 := (hKK.alloc (.cells #[.bool x.first, .bool x.last, .slice ka kl kc, .int .i64 x.groups] 57)).drewN nq
    have hX1 := hX.lt
    cases hb : q.bad
    · rw [hb] at r2
      have e3 : eatIf s 47 q = eatS s 47 q := eatIf_ok hb
      have HB := hide hb
      clear hb
      go_wp2_with fail
      refine (eat_any b s q 47 _ hR2 hs).mono ?_
      rintro e w3 ⟨rfl, hR3, hK3⟩
      have hX3 := hX.kp hK3 (by omega)
      have hB3 := hB2.kp hK3 (by omega)
      obtain ⟨y0, y1, y2, y3, yf⟩ := hX3.four
      obtain ⟨z0, z1, z2, z3, zf⟩ := hB3.four
      go_wp2_with fail
      have hBf := hB3.put4 (.bool x.first) (.bool x.last) (.slice ka kl kc) (.int .i64 x.groups)
      refine bodyPost_ret (ret_pat rfl rfl hBf) rfl ?_
      rw [e2, e3]
      refine ⟨_, rfl, ⟨_, _, _, _, _, rfl⟩, ?_, ?_⟩
      · exact hR3.put4 hne _ _ _ _
      · exact Kp.put4 (hK2.trans hK3) (Nat.le_refl _) _ _ _ _
    · rw [hb] at r2
      have e3 : eatIf s 47 q = q := eatIf_bad hb
      clear hb
      go_wp2_with fail
      have hBf := hB2.put4 (.bool x.first) (.bool x.last) (.slice ka kl kc) (.int .i64 x.groups)
      refine bodyPost_ret (ret_pat rfl rfl hBf) rfl ?_
      rw [e2, e3]
      refine ⟨_, rfl, ⟨_, _, _, _, _, rfl⟩, ?_, ?_⟩
      · exact hR2.put4 hne _ _ _ _
      · exact Kp.put4 hK2 (Nat.le_refl _) _ _ _ _
end Go.Proofs.YtmjdaifalgpdnaaGreat
