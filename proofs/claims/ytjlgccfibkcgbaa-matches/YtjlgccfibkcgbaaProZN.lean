import Derived.Test.YtjlgccfibkcgbaaProZM
namespace Go.Proofs.Ytjlgccfibkcgbaa
open Go.RowKit Go.Shelf

/-- A row of ints. -/
def Ints (w : World) (v : Value) (ss : List Int) : Prop := w.ownsRow 0 3 1 v ss.length (ss.map fun x => Value.int .i64 x)

theorem Ints.agree {w w' : World} {v : Value} {ss : List Int} (h : Ints w v ss) (hk : ∀ k, v.ownBlock = some k → w'.heap[k]? = w.heap[k]?) : Ints w' v ss := by
  refine ⟨h.1, ?_⟩
  rcases h.2 with hn | ⟨g, cap, cur, rfl, h0, hg, rest⟩
  · exact .inl hn
  · exact .inr ⟨g, cap, cur, rfl, h0, by rw [hk g rfl]; exact hg, rest⟩
theorem Ints.lay {w : World} {v : Value} {ss : List Int} (h : Ints w v ss) (hn : 0 < ss.length) : ∃ g cap, v = .slice (some ⟨g, 0, none⟩) ss.length cap ∧ g < w.heap.size ∧ ss.length ≤ cap := by
  rcases h.2 with ⟨h1, h2⟩ | ⟨g, cap, cur, h1, _, hg, hle, _⟩
  · omega
  · exact ⟨g, cap, h1, (Array.getElem?_eq_some_iff.1 hg).1, hle⟩
theorem Ints.cell {w : World} {g n cap : Nat} {ss : List Int} (h : Ints w (.slice (some ⟨g, 0, none⟩) n cap) ss) {i : Nat} (hi : i < ss.length) : w.cell? ⟨g, i, none⟩ = some (.int .i64 (ss.getD i 0)) := by
  have hn : n = ss.length := by
    rcases h.2 with ⟨h1, h2⟩ | ⟨g', cap', cur, h1, _⟩
    · omega
    · cases h1; rfl
  subst hn
  rw [World.ownsRow.cellAt h i (by omega), List.getElem?_map, List.getElem?_eq_getElem hi, List.getD_eq_getElem?_getD, List.getElem?_eq_getElem hi]
  rfl
theorem Ints.put {w : World} {g n cap : Nat} {ss : List Int} (h : Ints w (.slice (some ⟨g, 0, none⟩) n cap) ss) {i : Nat} (hi : i < ss.length) (x : Int) : Ints (w.setCell ⟨g, i, none⟩ (.int .i64 x)) (.slice (some ⟨g, 0, none⟩) n cap) (ss.set i x) := by
  have hn : n = ss.length := by
    rcases h.2 with ⟨h1, h2⟩ | ⟨g', cap', cur, h1, _⟩
    · omega
    · cases h1; rfl
  subst hn
  have := ownsRow_setAt h (j := i) (by omega) (.int .i64 x)
  unfold Ints
  rw [List.length_set, List.map_set]
  exact this
theorem Ints.fz {w : World} {g n cap : Nat} {ss : List Int} (h : Ints w (.slice (some ⟨g, 0, none⟩) n cap) ss) (o : Nat) : w.frozen? ⟨g, o, none⟩ = false := by
  rcases h.2 with ⟨h', _⟩ | ⟨g', cap', cur, h', _, hg', _⟩
  · cases h'
  · simp only [Value.slice.injEq, Option.some.injEq, Addr.mk.injEq, and_true] at h'
    obtain ⟨rfl, -, rfl⟩ := h'
    simp [World.frozen?, hg']

/-- What has turned while spans are set: the map, and the row of the spans. -/
structure SpF (C : MC) (w : World) (D : DataW Value) (sb : Nat) (U : World) (D' : DataW Value) : Prop where
  ms : MS C U D'
  kq : Kq C.mm (some sb) w U
  rows : ∀ k, MRow D' k → MRow D k ∨ w.heap.size ≤ k

section
variable {C : MC} {w U : World} {D D' : DataW Value} {sb : Nat}
theorem SpF.refl (h : MS C w D) (sb : Nat) : SpF C w D sb w D := ⟨h, Kq.refl _ _ _, fun _ h => .inl h⟩
theorem SpF.trans (h : SpF C w D sb U D') {U2 : World} {D2 : DataW Value} (k : SpF C U D' sb U2 D2) : SpF C w D sb U2 D2 :=
  ⟨k.ms, h.kq.trans k.kq (.inl rfl), fun j hj => by
    rcases k.rows j hj with e | e
    · exact h.rows j e
    · exact .inr (Nat.le_trans h.kq.size e)⟩
theorem SpF.of_step (hm : MS C U D') (hs : Step C w D U D') (sb : Nat) : SpF C w D sb U D' := ⟨hm, Kq.of_kp hs.kp, hs.rows⟩
theorem SpF.unused (h : SpF C w D sb U D') {k : Nat} (hk : ¬ Used C D k) (hl : k < w.heap.size) : ¬ Used C D' k := by
  rintro (e | e | e | e | e)
  · exact hk (.inl e)
  · exact hk (.inr (.inl e))
  · exact hk (.inr (.inr (.inl e)))
  · exact hk (.inr (.inr (.inr (.inl e))))
  · rcases h.rows k e with e | e
    · exact hk (.inr (.inr (.inr (.inr e))))
    · omega
theorem SpF.set (h : SpF C w D sb U D') (hu : ¬ Used C D' sb) (o : Nat) (u : Value) : SpF C w D sb (U.setCell ⟨sb, o, none⟩ u) D' :=
  ⟨h.ms.setBox hu o u, kq_setRow h.kq (.inl rfl) o u, h.rows⟩
theorem SpF.below (h : SpF C w D sb U D') {V : World} (hb : Below U.heap.size U V) : SpF C w D sb V D' := h.trans (SpF.of_step (h.ms.below hb) (Step.below hb) sb)
end

/-- The copies of a part, the longest first, up to the end: how many, and where the last one begins. -/
inductive LoopR (s : ByteArray) (x : Part) (e : Nat) : Nat → Nat → Nat → Nat → Nat → Prop
  | stop {n l : Nat} : x.mn ≤ n → LoopR s x e n e l n l
  | more {n p l r n' l' : Nat} : ((n : Int) < x.mn ∨ p < e) → Best (fun m => NextR s x n p m ∧ Copies (AtomR s x) x.mn x.mx (n + 1) m e) r → LoopR s x e (n + 1) r p n' l' → LoopR s x e n p l n' l'

mutual
/-- The spans that parts set, from p to e. -/
def SpanR (s : ByteArray) : List Part → Nat → Nat → List Int → List Int → Prop
  | [], _, _, ss, ss' => ss' = ss
  | x :: xs, p, e, ss, ss' => ∃ m ss1, Best (fun m => Copies (AtomR s x) x.mn x.mx 0 p m ∧ SeqR s xs m e) m ∧ SpanC s x p m ss ss1 ∧ SpanR s xs m e ss1 ss'
def SpanC (s : ByteArray) : Part → Nat → Nat → List Int → List Int → Prop
  | .mk g kids neg ps mn mx, p, e, ss, ss' => if g = 0 then ss' = ss else ∃ n l, LoopR s (.mk g kids neg ps mn mx) e 0 p p n l ∧ if n = 0 then ss' = ss else SpanR s kids l e ((ss.set (2 * g) l).set (2 * g + 1) e) ss'
end

theorem LoopR.last {s : ByteArray} {x : Part} {e n p l n' l' : Nat} (h : LoopR s x e n p l n' l') : (n' = n ∧ l' = l ∧ p = e) ∨ (n < n' ∧ AtomR s x l' e) := by
  induction h with
  | stop h1 => exact .inl ⟨rfl, rfl, rfl⟩
  | more h1 h2 _ ih =>
    right
    rcases ih with ⟨rfl, rfl, rfl⟩ | ⟨h3, h4⟩
    · exact ⟨by omega, h2.1.1.2.1⟩
    · exact ⟨by omega, h4⟩
theorem LoopR.ge {s : ByteArray} {x : Part} {e n p l n' l' : Nat} (h : LoopR s x e n p l n' l') : p ≤ s.size → l ≤ p → l ≤ l' ∧ l' ≤ s.size := by
  induction h with
  | stop h1 => intro h2 h3; exact ⟨Nat.le_refl _, by omega⟩
  | more h1 h2 _ ih =>
    intro h3 h4
    have hb := AtomR.bound s x _ _ h3 h2.1.1.2.1
    have := ih hb.2 hb.1
    omega

def SpanLC (C : MC) (Gm : Nat) (ps : List Part) : Prop := ∀ (i : Int) (p e : Nat) (sv : Value) (sb : Nat) (ss : List Int) (w : World) (D : DataW Value), AtW C i ps → WFs Gm ps → 2 * Gm + 2 ≤ ss.length → p ≤ C.s.size → e ≤ C.s.size → SeqR C.s ps p e → MS C w D → Ints w sv ss → sv.ownBlock = some sb → ¬ Used C D sb →
  Calls Try.prog 35 #[.pointer (some ⟨C.mb, 0, none⟩), sv, .int .i64 i, .int .i64 (p : Nat), .int .i64 (e : Nat)] w fun r w' => ∃ ss' D', r = .returned (.tuple #[]) ∧ SpanR C.s ps p e ss ss' ∧ Ints w' sv ss' ∧ ss'.length = ss.length ∧ SpF C w D sb w' D'

def SpanCC (C : MC) (Gm : Nat) (x : Part) : Prop := ∀ (xs : List Part) (i : Int) (p e : Nat) (sv : Value) (sb : Nat) (ss : List Int) (w : World) (D : DataW Value), AtW C i (x :: xs) → WF Gm x → 2 * Gm + 2 ≤ ss.length → p ≤ C.s.size → e ≤ C.s.size → Copies (AtomR C.s x) x.mn x.mx 0 p e → MS C w D → Ints w sv ss → sv.ownBlock = some sb → ¬ Used C D sb →
  Calls Try.prog 50 #[.pointer (some ⟨C.mb, 0, none⟩), sv, .int .i64 i, .int .i64 (p : Nat), .int .i64 (e : Nat)] w fun r w' => ∃ ss' D', r = .returned (.tuple #[]) ∧ SpanC C.s x p e ss ss' ∧ Ints w' sv ss' ∧ ss'.length = ss.length ∧ SpF C w D sb w' D'

set_option maxRecDepth 100000 in
set_option maxHeartbeats 1000000 in
theorem spanCopies_any (C : MC) (ok : C.Ok) (Gm : Nat) (hGm : Gm ≤ 9) (x : Part) (ih : SpanLC C Gm x.kids) : SpanCC C Gm x := by
  intro xs i p e sv sb ss w D hA hW hlen hp he hc h hI hsb hu
  obtain ⟨j, P, rfl, hjl, hP, hAn, hAi⟩ := hA.cons
  obtain ⟨g, cap, hpv, hgl, hcap⟩ := h.parts hP.get
  have hfew := ok.few
  have hsm := ok.small
  have m0 : w.cell? ⟨C.mb, 0, none⟩ = some (.pointer (some ⟨C.xb, 0, none⟩)) := h.m.cell 0 rfl
  have x2 : w.cell? ⟨C.xb, 2, none⟩ = some (.slice (some ⟨g, 0, none⟩) C.all.length cap) := by rw [← hpv]; exact h.x.cell 2 rfl
  have hfl := h.flat
  rw [hpv] at hfl
  obtain ⟨-, -, -, -, p4, p5, -, p7, -⟩ := part_cells hfl hP.get
  rw [hP.least] at p7
  by_cases hg : x.g = 0
  · rw [(hP.plain hg).1] at p4
    have HH := hide (And.intro h (And.intro hI hg))
    clear h hI hg hfl hA hP hAn hAi
    go_enter Try.func50, Try.ntmps50
    go_wp2_with fail
    refine bodyPost_ret (results_none rfl _ _ _) rfl ?_
    obtain ⟨h, hI, hg⟩ := HH.out
    refine ⟨ss, D, rfl, ?_, hI, rfl, SpF.refl h sb⟩
    obtain ⟨g', kids, neg, ps, mn, mx⟩ := x
    simp only [Part.g] at hg
    simp only [SpanC, hg, if_true]
  · rw [(hP.group hg).1] at p4
    have hgd : ((x.g : Int) == 0) = false := by rw [beq_eq_false_iff_ne]; omega
    have hwf := hA.wf
    have hmmm := hA.mm
    simp only [WFs] at hwf
    simp only [MMs] at hmmm
    have hb : 0 ≤ x.mn ∧ x.mn ≤ 9 := by
      obtain ⟨g, kids, neg, ps, mn, mx⟩ := x
      simp only [WF] at hwf
      exact ⟨hwf.1.2.2.1, hwf.1.2.2.2.1⟩
    have hx : x.mx < 0 ∨ x.mn ≤ x.mx := by obtain ⟨g, kids, neg, ps, mn, mx⟩ := x; simp only [MM] at hmmm; exact hmmm.1.1
    have hgG : x.g ≤ Gm := by obtain ⟨g, kids, neg, ps, mn, mx⟩ := x; simp only [WF] at hW; exact hW.1
    have hWk : WFs Gm x.kids := by obtain ⟨g, kids, neg, ps, mn, mx⟩ := x; simp only [WF] at hW; exact hW.2.2.2.2.2.2.2
    have hcb := Copies.bound (N := C.s.size) (fun p q hp ha => AtomR.bound C.s x p q hp ha) hc hp
    have HH := hide (And.intro h (And.intro hI (And.intro hA (And.intro hP (And.intro hAi (And.intro hc (And.intro hu hWk)))))))
    clear h hI hfl hA hP hAn hAi hc hu hwf hmmm hWk
    go_enter Try.func50, Try.ntmps50
    go_wp2_with fail
    go_loopg [3, 11, 12] ((e - p) * 11 + x.mn.toNat + 1) (fun k bv mv lv w' => ∃ (b n l : Nat) (D1 : DataW Value), bv = .int .i64 (b : Nat) ∧ mv = .int .i64 (n : Nat) ∧ lv = .int .i64 (l : Nat) ∧ b ≤ e ∧ l ≤ b ∧ (e - b) * 11 + (x.mn.toNat - n) + 1 ≤ k ∧ (x.mx < 0 ∨ (n : Int) ≤ x.mx) ∧ (n : Int) ≤ x.mn + b ∧ Hid (SpF C w D sb w' D1 ∧ Step C w D w' D1 ∧ Copies (AtomR C.s x) x.mn x.mx n b e ∧ ∀ n' l', LoopR C.s x e n b l n' l' → LoopR C.s x e 0 p p n' l'))
    case atStart =>
      exact ⟨p, 0, p, D, rfl, rfl, rfl, hcb.1, Nat.le_refl _, by omega, by omega, by omega, SpF.refl HH.out.1 sb, Step.refl _ _ _, HH.out.2.2.2.2.2.1, fun _ _ h => h⟩
    case round =>
      obtain ⟨b, n, l, D1, rfl, rfl, rfl, hbe, hlb, hk, hn1, hn2, HR⟩ := hrel
      have hfl2 := HR.out.1.ms.flat
      rw [hpv] at hfl2
      obtain ⟨-, -, -, -, q4, q5, -, q7, -⟩ := part_cells hfl2 HH.out.2.2.2.1.get
      rw [HH.out.2.2.2.1.least] at q7
      rw [(HH.out.2.2.2.1.group hg).1] at q4
      have hwr : IntKind.i64.wrap ((n : Int) + 1) = (n : Int) + 1 := wrapE ((n : Int) + 1) (by omega) (by omega)
      by_cases hcond : (n : Int) < x.mn ∨ b < e
      · have hex : ∃ r, NextR C.s x n b r ∧ Copies (AtomR C.s x) x.mn x.mx (n + 1) r e := by
          rcases copies_step.1 HR.out.2.2.1 with ⟨h1, h2⟩ | h
          · omega
          · exact h
        have hcall := copyEnd_any C ok x xs (j : Int) HH.out.2.2.1 n b e (by omega) he hn1 hn2 hex wr D1 HR.out.1.ms
        have hfin : ∀ (m : Nat) (D2 : DataW Value) (wr2 : World), Best (fun m => NextR C.s x n b m ∧ Copies (AtomR C.s x) x.mn x.mx (n + 1) m e) m → MS C wr2 D2 → Step C wr D1 wr2 D2 →
            m ≤ e ∧ b ≤ m ∧ (e - m) * 11 + (x.mn.toNat - (n + 1)) + 1 ≤ gk - 1 ∧ (x.mx < 0 ∨ ((n + 1 : Nat) : Int) ≤ x.mx) ∧ ((n + 1 : Nat) : Int) ≤ x.mn + m ∧ Hid (SpF C w D sb wr2 D2 ∧ Step C w D wr2 D2 ∧ Copies (AtomR C.s x) x.mn x.mx (n + 1) m e ∧ ∀ n' l', LoopR C.s x e (n + 1) m b n' l' → LoopR C.s x e 0 p p n' l') := fun m D2 wr2 hbest hm2 hs2 => by
          obtain ⟨r1, r2, r3, r4⟩ := HR.out
          have hbd := AtomR.bound C.s x b m (by omega) hbest.1.1.2.1
          have hbe2 := Copies.bound (N := C.s.size) (fun p q hp ha => AtomR.bound C.s x p q hp ha) hbest.1.2 hbd.2
          have h1 := hbest.1.1.1
          have h3 := hbest.1.1.2.2
          refine ⟨hbe2.1, hbd.1, ?_, by omega, by omega, r1.trans (SpF.of_step hm2 hs2 sb), r2.trans hs2, hbest.1.2, fun n' l' hl => r4 n' l' (.more hcond hbest hl)⟩
          by_cases hpq : b < m
          · have : (e - m) * 11 + 11 ≤ (e - b) * 11 := by omega
            omega
          · have : m = b := by omega
            subst this
            omega
        clear hfl2
        by_cases hnm : (n : Int) < x.mn
        · have d1 : decide ((n : Int) < x.mn) = true := by simp [hnm]
          go_wp2_with fail
          refine hcall.mono ?_
          rintro r wr2 ⟨m, D2, rfl, hbest, hm2, hs2⟩
          have hf := hfin m D2 wr2 hbest hm2 hs2
          clear hbest hm2 hs2 hfin hcall
          go_wp2_with fail
          go_roundg (gk - 1)
          case measure => omega
          obtain ⟨f1, f2, f3, f4, f5, f6⟩ := hf
          exact ⟨m, n + 1, b, D2, rfl, by go_num, rfl, f1, f2, f3, f4, f5, f6⟩
        · have d1 : decide ((n : Int) < x.mn) = false := by simp; omega
          have d2 : decide ((b : Int) < (e : Int)) = true := by simp; omega
          go_wp2_with fail
          refine hcall.mono ?_
          rintro r wr2 ⟨m, D2, rfl, hbest, hm2, hs2⟩
          have hf := hfin m D2 wr2 hbest hm2 hs2
          clear hbest hm2 hs2 hfin hcall
          go_wp2_with fail
          go_roundg (gk - 1)
          case measure => omega
          obtain ⟨f1, f2, f3, f4, f5, f6⟩ := hf
          exact ⟨m, n + 1, b, D2, rfl, by go_num, rfl, f1, f2, f3, f4, f5, f6⟩
      · have hbe' : b = e := by omega
        subst hbe'
        have d1 : decide ((n : Int) < x.mn) = false := by simp; omega
        have d2 : decide ((b : Int) < (b : Int)) = false := by simp
        have hst : LoopR C.s x b 0 p p n l := HR.out.2.2.2 n l (.stop (by omega))
        clear hfl2
        by_cases hn0 : n = 0
        · subst hn0
          go_wp2_with fail
          refine bodyPost_end (results_none rfl _ _ _) rfl ?_
          obtain ⟨r1, r2, r3, r4⟩ := HR.out
          refine ⟨ss, D1, rfl, ?_, HH.out.2.1.agree (fun k e => ?_), rfl, r1⟩
          · obtain ⟨g', kids, neg, ps, mn, mx⟩ := x
            simp only [Part.g] at hg
            simp only [SpanC, hg, if_false]
            exact ⟨0, l, hst, by simp⟩
          · rw [hsb] at e
            cases e
            refine r2.kp.block sb ?_ (fun e => HH.out.2.2.2.2.2.2.1 (.inr (.inr (.inl e))))
            rcases HH.out.2.1.2 with ⟨h1, h2⟩ | ⟨g', cap', cur, h1, _, hg', _⟩
            · rw [h1] at hsb; cases hsb
            · rw [h1] at hsb; cases hsb; exact (Array.getElem?_eq_some_iff.1 hg').1
        · have d3 : decide ((0 : Int) < (n : Int)) = true := by simp; omega
          obtain ⟨r1, r2, r3, r4⟩ := HR.out
          obtain ⟨h, hI, hA, hP, hAi, hc, hu, hWk⟩ := HH.out
          obtain ⟨sb', cap2, rfl, hsl, hsc⟩ := hI.lay (by omega)
          have hsbe : sb = sb' := by cases hsb; rfl
          subst hsbe
          have hkI : Ints wr (.slice (some ⟨sb, 0, none⟩) ss.length cap2) ss := hI.agree (fun k e => by
            cases e
            exact r2.kp.block sb hsl (fun e => hu (.inr (.inr (.inl e)))))
          have hngb : g ≠ sb := fun e => hu (.inr (.inr (.inr (.inl (by rw [hpv, e]; rfl)))))
          have hgN : x.g ≤ 9 := by omega
          obtain ⟨i0, hi0⟩ : ∃ i0 : Nat, i0 = 2 * x.g := ⟨_, rfl⟩
          obtain ⟨i1, hi1⟩ : ∃ i1 : Nat, i1 = 2 * x.g + 1 := ⟨_, rfl⟩
          have w0 : IntKind.i64.wrap (2 * (x.g : Int)) = (i0 : Int) := by rw [wrapE (2 * (x.g : Int)) (by omega) (by omega)]; omega
          have w1 : IntKind.i64.wrap ((i0 : Int) + 1) = (i1 : Int) := by rw [wrapE ((i0 : Int) + 1) (by omega) (by omega)]; omega
          have s0 := hkI.cell (i := i0) (by omega)
          have s1 := hkI.cell (i := i1) (by omega)
          have sf0 := hkI.fz i0
          have sf1 := hkI.fz i1
          have l0 : (i0 : Int) < (ss.length : Nat) := by omega
          have l1 : (i1 : Int) < (ss.length : Nat) := by omega
          have hne : i0 ≠ i1 := by omega
          have HI01 := hide (And.intro hi0 hi1)
          clear hi0 hi1
          generalize ss.getD i0 0 = y0 at *
          generalize ss.getD i1 0 = y1 at *
          have t0 : (wr.setCell ⟨sb, i0, none⟩ (.int .i64 (l : Nat))).drew.cell? ⟨g, j * 9 + 4, none⟩ = some (.int .i64 (x.g : Nat)) := by
            rw [← q4]
            show World.cell? (wr.setCell _ _) _ = _
            simp only [World.cell?, Below.heap_setCell wr ⟨sb, i0, none⟩ (.int .i64 (l : Nat)) g hngb]
          have t1 : ((wr.setCell ⟨sb, i0, none⟩ (.int .i64 (l : Nat))).setCell ⟨sb, i1, none⟩ (.int .i64 (b : Nat))).drew.cell? ⟨g, j * 9 + 4, none⟩ = some (.int .i64 (x.g : Nat)) := by
            rw [← t0]
            show World.cell? (World.setCell _ _ _) _ = World.cell? (wr.setCell _ _) _
            simp only [World.cell?, Below.heap_setCell (wr.setCell ⟨sb, i0, none⟩ (.int .i64 (l : Nat))) ⟨sb, i1, none⟩ (.int .i64 (b : Nat)) g hngb]
          have t5 : ((wr.setCell ⟨sb, i0, none⟩ (.int .i64 (l : Nat))).setCell ⟨sb, i1, none⟩ (.int .i64 (b : Nat))).drew.cell? ⟨g, j * 9 + 5, none⟩ = some (.int .i64 P.inner) := by
            rw [← q5]
            show World.cell? (World.setCell _ _ _) _ = World.cell? wr _
            simp only [World.cell?, Below.heap_setCell (wr.setCell ⟨sb, i0, none⟩ (.int .i64 (l : Nat))) ⟨sb, i1, none⟩ (.int .i64 (b : Nat)) g hngb, Below.heap_setCell wr ⟨sb, i0, none⟩ (.int .i64 (l : Nat)) g hngb]
          have hu1 := r1.unused hu hsl
          have r8 := ((r1.set hu1 i0 (.int .i64 (l : Nat))).set hu1 i1 (.int .i64 (b : Nat))).below (V := ((wr.setCell ⟨sb, i0, none⟩ (.int .i64 (l : Nat))).setCell ⟨sb, i1, none⟩ (.int .i64 (b : Nat))).drew) (Below.refl _ _).drew
          have hI8 : Ints ((wr.setCell ⟨sb, i0, none⟩ (.int .i64 (l : Nat))).setCell ⟨sb, i1, none⟩ (.int .i64 (b : Nat))).drew (.slice (some ⟨sb, 0, none⟩) ss.length cap2) ((ss.set i0 l).set i1 b) := ((hkI.put (i := i0) (by omega) (l : Nat)).put (i := i1) (by rw [List.length_set]; omega) (b : Nat)).agree fun _ _ => rfl
          have hlast : AtomR C.s x l b := by
            rcases hst.last with ⟨h1, _⟩ | ⟨_, h2⟩
            · omega
            · exact h2
          have hcall8 := ih P.inner l b _ sb _ _ D1 (hAi hg) hWk (by rw [List.length_set, List.length_set]; exact hlen) (hst.ge hp (Nat.le_refl _)).2 he ((atomR_group hg l b).1 hlast) r8.ms hI8 rfl hu1
          have HW8 := hide (And.intro hst r8)
          clear hlast hI8 r8 hu1
          have HZ := hide (And.intro r1 (And.intro r2 (And.intro h (And.intro hI (And.intro hA (And.intro hP (And.intro hAi (And.intro hu (And.intro hWk (And.intro hkI hst))))))))))
          clear r1 r2 r3 r4 h hI hA hP hAi hc hu hWk hkI hst HR HH
          go_wp2_with fail
          go_region_held3 (fun w' => w'.cell? ⟨g, j * 9 + 4, none⟩ = some (.int .i64 (x.g : Nat))) (first | go_keep | exact t0 | exact t1) (fail)
          go_wp2_with fail
          refine hcall8.mono ?_
          rintro r w9 ⟨ss', D9, rfl, hS9, hI9, hl9, hF9⟩
          go_wp2_with fail
          refine bodyPost_end (results_none rfl _ _ _) rfl ?_
          obtain ⟨hst, r8⟩ := HW8.out
          refine ⟨ss', D9, rfl, ?_, hI9, by rw [hl9, List.length_set, List.length_set], r8.trans hF9⟩
          obtain ⟨h0, h1⟩ := HI01.out
          subst h0 h1
          obtain ⟨g', kids, neg, ps, mn, mx⟩ := x
          simp only [Part.g] at hg
          simp only [SpanC, hg, if_false]
          exact ⟨n, l, hst, by rw [if_neg hn0]; exact hS9⟩
end Go.Proofs.Ytjlgccfibkcgbaa
