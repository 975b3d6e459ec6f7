import Derived.Test.YtpnecblofjpgfaaGreatDoorRefP
import Derived.Deep.RegionWith
namespace Go.Proofs.YtpnecblofjpgfaaGreatDoor
open Go.RowKit

def T : Nat → Prop := fun _ => True

theorem Agree.below {w w' : World} (h : Below w.heap.size w w') : Agree T w w' := ⟨h.size, fun k _ hl => h.block k hl⟩
theorem Row.below {w w' : World} {v : Value} {n : Nat} {xs : List Value} (h : Row T w v n xs) (hb : Below w.heap.size w w') : Row T w' v n xs := h.agree (Agree.below hb)
theorem KRep.below {w w' : World} {l : List Part} {xs : List Value} (h : KRep T w l xs) (hb : Below w.heap.size w w') : KRep T w' l xs := KRep.agree (Agree.below hb) _ _ h
theorem PartV.below {w w' : World} {x : Part} {v : Value} (h : PartV T w x v) (hb : Below w.heap.size w w') : PartV T w' x v := by
  obtain ⟨g, kids, neg, ps, mn, mx⟩ := x
  obtain ⟨ka, kl, kc, xs, h1, h2, h3⟩ := h
  exact ⟨ka, kl, kc, xs, h1, h2.below hb, h3.below hb⟩

/-- A new row of bools that says which places R takes. -/
def Says (s : ByteArray) (w w' : World) (e : Ending) (R : Nat → Prop) : Prop :=
  ∃ g F, e = .returned (.slice (some ⟨g, 0, none⟩) (s.size + 1) (s.size + 1)) ∧ Blk w' g (bcells (s.size + 1) F) 4 ∧ w.heap.size ≤ g ∧ (∀ q, q ≤ s.size → (F q = true ↔ R q)) ∧ Below w.heap.size w w'

def SeqC (s : ByteArray) (l : List Part) : Prop := ∀ (w : World) (ka : Option Addr) (kl kc : Nat) (xs : List Value) (i p : Nat), Row T w (.slice ka kl kc) l.length xs → KRep T w l xs → i ≤ l.length → p ≤ s.size →
  Calls Tryz.prog 19 #[.slice ka kl kc, .int .i64 i, .string s, .int .i64 p] w fun e w' => Says s w w' e (SeqR s (l.drop i) p)

def AtomC (s : ByteArray) (x : Part) : Prop := ∀ (w : World) (v : Value) (p : Nat), PartV T w x v → p ≤ s.size →
  Calls Tryz.prog 69 #[v, .string s, .int .i64 p] w fun e w' => Says s w w' e (AtomR s x p)

set_option maxHeartbeats 1600000 in
theorem copyEnds_any (s : ByteArray) (hs : s.size ≤ 1048576) (G : Nat) (x : Part) (hx : WF G x) (ih : SeqC s x.kids) : AtomC s x := by
  obtain ⟨g, kids, neg, ps, mn, mx⟩ := x
  intro w v p hv hp
  obtain ⟨ka, kl, kc, xs, rfl, hRow, hKR⟩ := hv
  have hps : ps.size ≤ 2097152 := by simp only [WF] at hx; exact hx.2.1
  have IH : Hid (SeqC s kids) := ih
  clear ih hx
  have hB := Blk.new w #[.int .i64 g, .slice ka kl kc, .bool neg, .string ps, .int .i64 mn, .int .i64 mx] 76
  obtain ⟨c0, c1, c2, c3, c4, c5, cf⟩ := hB.six
  have hb0 : Below w.heap.size w (w.alloc (.cells #[.int .i64 g, .slice ka kl kc, .bool neg, .string ps, .int .i64 mn, .int .i64 mx] 76)) := (Below.refl _ _).alloc (Nat.le_refl _) _
  by_cases hg : g = 0
  · subst hg
    have hmk := make_bools s.size hs
    by_cases hlt : p < s.size
    · obtain ⟨p1, hp1⟩ : ∃ p1 : Nat, p1 = p + 1 := ⟨_, rfl⟩
      have HP1 := hide hp1
      have hw : IntKind.i64.wrap ((p : Int) + 1) = (p1 : Int) := by rw [wrapE ((p : Int) + 1) (by omega) (by omega)]; omega
      have hl1 : p1 < s.size + 1 := by omega
      have hl2 : (p1 : Int) < (s.size : Int) + 1 := by omega
      clear hp1
      go_enter Tryz.func69, Tryz.ntmps69
      go_wp2_with fail
      have hB1 : Blk ((w.alloc (.cells #[.int .i64 0, .slice ka kl kc, .bool neg, .string ps, .int .i64 mn, .int .i64 mx] 76)).alloc (.cells (bcells (s.size + 1) fun _ => false) 4)) (w.heap.size + 1) (bcells (s.size + 1) fun _ => false) 4 := Blk.newAt (by simp)
      have hx0 := hB1.cell p1 (bcells_get hl1)
      have hxf := hB1.fz p1
      go_region_with (go_at_call 85; refine (one_any _ _ _ _ _ _ _ _ _ _ hps).mono ?_; rintro e w1 ⟨rfl, hb1⟩; have hx1 := (hb1.cell (p := ⟨w.heap.size + 1, p1, none⟩) (by simp)).trans hx0; have hx2 := (hb1.frozen (p := ⟨w.heap.size + 1, p1, none⟩) (by simp)).trans hxf)
      all_goals
        go_wp2_with fail
        go_ret
        refine ⟨w.heap.size + 1, put (fun _ => false) p1 (oneB neg ps s[p].toNat), rfl, ?_, by omega, ?_, ?_⟩
        · have := (hB1.drew.below hb1).set p1 (.bool (oneB neg ps s[p].toNat)) (bcells_set _ _ _ _)
          exact this
        · intro q hq
          simp only [AtomR, if_true, put]
          have hpp := HP1.out
          by_cases hqp : q = p1
          · rw [if_pos hqp]
            constructor
            · intro h; exact ⟨by omega, hlt, h⟩
            · rintro ⟨_, _, h⟩; exact h
          · rw [if_neg hqp]
            constructor
            · intro h; cases h
            · rintro ⟨h, _⟩; omega
        · exact ((hb0.alloc (by simp) _).trans ((Below.drew (Below.refl _ _)).trans (hb1.mono (by simp; omega)))).setCell (by simp) _
    · go_enter Tryz.func69, Tryz.ntmps69
      go_wp2_with fail
      go_ret
      refine ⟨w.heap.size + 1, fun _ => false, rfl, Blk.newAt (by simp), by omega, ?_, hb0.alloc (by simp) _⟩
      intro q hq
      simp only [AtomR, if_true]
      constructor
      · intro h; cases h
      · rintro ⟨_, h, _⟩; exact absurd h hlt
  · have hg1 : decide ((0 : Int) < g) = true := by simp; omega
    go_enter Tryz.func69, Tryz.ntmps69
    go_wp2_with fail
    refine (IH.out _ ka kl kc xs 0 p (hRow.below hb0) (hKR.below hb0) (Nat.zero_le _) hp).mono ?_
    rintro e w1 ⟨gr, F, rfl, hB1, hgr, hF, hb1⟩
    go_wp2_with fail
    go_ret
    refine ⟨gr, F, rfl, hB1, by simp at hgr; omega, ?_, hb0.trans (hb1.mono (by simp))⟩
    intro q hq
    rw [hF q hq]
    simp only [AtomR, List.drop_zero]
    rw [if_neg hg]
end Go.Proofs.YtpnecblofjpgfaaGreatDoor

namespace Go.Proofs.YtpnecblofjpgfaaGreatDoor
open Go.RowKit

/-- One copy more, behind each place of a set. -/
def StepR (A : Nat → Nat → Prop) (N : Nat) (F0 : Nat → Bool) (full : Bool) (q : Nat) : Prop := ∃ p, p ≤ N ∧ F0 p = true ∧ A p q ∧ (p < q ∨ full = false)

def StepC (s : ByteArray) (x : Part) : Prop := ∀ (w : World) (v : Value) (gf : Nat) (F0 : Nat → Bool) (full : Bool), PartV T w x v → Blk w gf (bcells (s.size + 1) F0) 4 →
  Calls Tryz.prog 50 #[v, .string s, .slice (some ⟨gf, 0, none⟩) (s.size + 1) (s.size + 1), .bool full] w fun e w' => Says s w w' e (StepR (AtomR s x) s.size F0 full)

set_option maxHeartbeats 1600000 in
theorem step_any (s : ByteArray) (hs : s.size ≤ 1048576) (x : Part) (ih : AtomC s x) : StepC s x := by
  intro w v gf F0 full hv hF0
  have IH := hide ih
  clear ih
  have hmk := make_bools s.size hs
  have HV := hide hv
  have hgf := hF0.lt
  obtain ⟨g, kids, neg, ps, mn, mx⟩ := x
  obtain ⟨ka, kl, kc, xs, rfl, hRow, hKR⟩ := hv
  clear hRow hKR
  go_enter Tryz.func50, Tryz.ntmps50
  go_wp2_with fail
  go_loopg [10, 11, 12] (s.size + 1) (fun k i c q w' => ∃ (p : Nat) (F : Nat → Bool), i = .int .i64 p ∧ p + k = s.size + 1 ∧ Blk w' (w.heap.size + 1) (bcells (s.size + 1) F) 4 ∧ Blk w' w.heap.size #[.int .i64 g, .slice ka kl kc, .bool neg, .string ps, .int .i64 mn, .int .i64 mx] 76 ∧ Below w.heap.size w w' ∧ (∀ q, q ≤ s.size → (F q = true ↔ ∃ p', p' < p ∧ F0 p' = true ∧ AtomR s (.mk g kids neg ps mn mx) p' q ∧ (p' < q ∨ full = false))))
  case atStart =>
    refine ⟨0, fun _ => false, rfl, by omega, Blk.newAt (by simp), (Blk.new _ _ _).alloc _, ((Below.refl _ _).alloc (Nat.le_refl _) _).alloc (by simp) _, ?_⟩
    intro q hq
    constructor
    · intro h; cases h
    · rintro ⟨p', h, _⟩; omega
  case round =>
    obtain ⟨p, F, rfl, hpk, hBl, hBx, hBel, hF⟩ := hrel
    have HF := hide hF
    clear hF
    by_cases hlt : p ≤ s.size
    · have hB0 := hF0.below hBel
      have f0 := hB0.cell p (bcells_get (by omega))
      have hlt1 : p < s.size + 1 := by omega
      obtain ⟨c0, c1, c2, c3, c4, c5, cf⟩ := hBx.six
      cases hfp : F0 p
      · rw [hfp] at f0
        have HFP := hide hfp
        clear hfp
        go_wp2_with fail
        go_roundg (gk - 1)
        case measure => omega
        case rel =>
          refine ⟨p + 1, F, by go_num, by omega, hBl, hBx, hBel, ?_⟩
          intro q hq
          rw [HF.out q hq]
          constructor
          · rintro ⟨p', h1, h2⟩; exact ⟨p', by omega, h2⟩
          · rintro ⟨p', h1, h2, h3⟩
            by_cases he : p' = p
            · subst he; rw [HFP.out] at h2; cases h2
            · exact ⟨p', by omega, h2, h3⟩
      · rw [hfp] at f0
        have HFP := hide hfp
        clear hfp
        go_wp2_with fail
        refine (IH.out _ _ p (HV.out.below hBel) hlt).mono ?_
        rintro e w1 ⟨gc, C, rfl, hBc, hgc, hC, hb1⟩
        have HC := hide hC
        clear hC
        have hBl1 := hBl.below hb1
        have hBx1 := hBx.below hb1
        have hBel1 : Below w.heap.size w w1 := hBel.trans (hb1.mono hBel.size)
        have hl1 := hBl.lt
        clear f0 c0 c1 c2 c3 c4 c5 cf hb1 hBl hBx hBel hB0
        obtain ⟨k0, hk0⟩ : ∃ k0, k0 = gk := ⟨_, rfl⟩
        have HK0 := hide hk0
        clear hk0
        go_wp2_with fail
        go_loopg [12] (s.size + 1) (fun k j w' => ∃ (q : Nat) (H : Nat → Bool), j = .int .i64 q ∧ p ≤ q ∧ s.size + 1 ≤ q + k ∧ q ≤ s.size + 1 ∧ Blk w' (w.heap.size + 1) (bcells (s.size + 1) H) 4 ∧ Blk w' w.heap.size #[.int .i64 g, .slice ka kl kc, .bool neg, .string ps, .int .i64 mn, .int .i64 mx] 76 ∧ Blk w' gc (bcells (s.size + 1) C) 4 ∧ Below w.heap.size w w' ∧ (∀ z, z ≤ s.size → (H z = true ↔ F z = true ∨ (p ≤ z ∧ z < q ∧ C z = true ∧ (p < z ∨ full = false)))))
        case atStart =>
          refine ⟨p, F, rfl, Nat.le_refl _, by omega, by omega, hBl1, hBx1, hBc, hBel1, ?_⟩
          intro z hz
          constructor
          · intro h; exact .inl h
          · rintro (h | h)
            · exact h
            · omega
        case round =>
          obtain ⟨q, H, rfl, hpq, hqk, hq, hBl2, hBx2, hBc2, hBel2, hH⟩ := hrel
          have HH := hide hH
          clear hH
          by_cases hql : q ≤ s.size
          · have hql1 : q < s.size + 1 := by omega
            have c1 := hBc2.cell q (bcells_get hql1)
            have l1 := hBl2.cell q (bcells_get hql1)
            have lf := hBl2.fz q
            by_cases hcond : C q = true ∧ (p < q ∨ full = false)
            · obtain ⟨hcq, hfl⟩ := hcond
              rw [hcq] at c1
              have HCQ := hide hcq
              clear hcq
              have HX : Hid (∀ z, z ≤ s.size → (put H q true z = true ↔ F z = true ∨ (p ≤ z ∧ z < q + 1 ∧ C z = true ∧ (p < z ∨ full = false)))) := by
                intro z hz
                unfold put
                by_cases hzq : z = q
                · subst hzq
                  rw [if_pos rfl]
                  simp only [true_iff]
                  exact .inr ⟨hpq, by omega, HCQ.out, hfl⟩
                · rw [if_neg hzq, HH.out z hz]
                  constructor
                  · rintro (h | ⟨h1, h2, h3⟩)
                    · exact .inl h
                    · exact .inr ⟨h1, by omega, h3⟩
                  · rintro (h | ⟨h1, h2, h3⟩)
                    · exact .inl h
                    · exact .inr ⟨h1, by omega, h3⟩
              by_cases hlt2 : p < q
              · go_wp2_with fail
                go_roundg (gk - 1)
                case measure => omega
                case rel =>
                  exact ⟨q + 1, put H q true, by go_num, by omega, by omega, by omega, hBl2.set q _ (bcells_set _ _ _ _), hBx2.other (by simp) _, hBc2.other (by simp; omega) _, hBel2.setCell (by simp) _, HX.out⟩
              · have hfl' : full = false := by rcases hfl with h | h; omega; exact h
                subst hfl'
                have hd : decide ((p : Int) < q) = false := by simp; omega
                go_wp2_with fail
                go_roundg (gk - 1)
                case measure => omega
                case rel =>
                  exact ⟨q + 1, put H q true, by go_num, by omega, by omega, by omega, hBl2.set q _ (bcells_set _ _ _ _), hBx2.other (by simp) _, hBc2.other (by simp; omega) _, hBel2.setCell (by simp) _, HX.out⟩
            · have HX : Hid (∀ z, z ≤ s.size → (H z = true ↔ F z = true ∨ (p ≤ z ∧ z < q + 1 ∧ C z = true ∧ (p < z ∨ full = false)))) := by
                intro z hz
                rw [HH.out z hz]
                constructor
                · rintro (h | ⟨h1, h2, h3⟩)
                  · exact .inl h
                  · exact .inr ⟨h1, by omega, h3⟩
                · rintro (h | ⟨h1, h2, h3⟩)
                  · exact .inl h
                  · by_cases hzq : z = q
                    · subst hzq; exact absurd h3 hcond
                    · exact .inr ⟨h1, by omega, h3⟩
              have HCD := hide hcond
              clear hcond
              cases hcq : C q
              · rw [hcq] at c1
                clear hcq
                go_wp2_with fail
                go_roundg (gk - 1)
                case measure => omega
                case rel =>
                  exact ⟨q + 1, H, by go_num, by omega, by omega, by omega, hBl2, hBx2, hBc2, hBel2, HX.out⟩
              · have hfl : ¬ p < q ∧ full = true := by
                  have := HCD.out
                  simp only [hcq, true_and, not_or] at this
                  exact ⟨this.1, by simpa using this.2⟩
                obtain ⟨hnl, rfl⟩ := hfl
                have hd : decide ((p : Int) < q) = false := by simp; omega
                rw [hcq] at c1
                clear hcq
                go_wp2_with fail
                go_roundg (gk - 1)
                case measure => omega
                case rel =>
                  exact ⟨q + 1, H, by go_num, by omega, by omega, by omega, hBl2, hBx2, hBc2, hBel2, HX.out⟩
          · go_wp2_with fail
            go_roundg (k0 - 1)
            case measure => have := HK0.out; omega
            case rel =>
              have hk := HK0.out
              refine ⟨p + 1, H, by go_num, by omega, hBl2, hBx2, hBel2, ?_⟩
              intro z hz
              rw [HH.out z hz, HF.out z hz]
              constructor
              · rintro (⟨p', h1, h2⟩ | ⟨h1, h2, h3, h4⟩)
                · exact ⟨p', by omega, h2⟩
                · exact ⟨p, by omega, HFP.out, (HC.out z hz).1 h3, h4⟩
              · rintro ⟨p', h1, h2, h3, h4⟩
                by_cases he : p' = p
                · subst he
                  exact .inr ⟨(AtomR.bound s _ _ _ hlt h3).1, by omega, (HC.out z hz).2 h3, h4⟩
                · exact .inl ⟨p', by omega, h2, h3, h4⟩
    · go_wp2_with fail
      go_ret
      refine ⟨w.heap.size + 1, F, rfl, hBl, by omega, ?_, hBel⟩
      intro q hq
      rw [HF.out q hq]
      constructor
      · rintro ⟨p', h1, h2, h3⟩; exact ⟨p', by omega, h2, h3⟩
      · rintro ⟨p', h1, h2, h3⟩; exact ⟨p', by omega, h2, h3⟩
end Go.Proofs.YtpnecblofjpgfaaGreatDoor

namespace Go.Proofs.YtpnecblofjpgfaaGreatDoor
open Go.RowKit

/-- What at most j further copies that are not empty come to. -/
def Rj (A : Nat → Nat → Prop) (L0 : Nat → Prop) : Nat → Nat → Prop
  | 0, q => L0 q
  | j + 1, q => Rj A L0 j q ∨ ∃ r, Rj A L0 j r ∧ A r q ∧ r < q

section
variable {A : Nat → Nat → Prop} {mn mx : Int}

theorem Rj.congr {L L' : Nat → Prop} (h : ∀ q, L q ↔ L' q) : ∀ j q, Rj A L j q ↔ Rj A L' j q
  | 0, q => h q
  | j + 1, q => by
    simp only [Rj]
    rw [Rj.congr h j q]
    constructor
    · rintro (h1 | ⟨r, h1, h2⟩)
      · exact .inl h1
      · exact .inr ⟨r, (Rj.congr h j r).1 h1, h2⟩
    · rintro (h1 | ⟨r, h1, h2⟩)
      · exact .inl h1
      · exact .inr ⟨r, (Rj.congr h j r).2 h1, h2⟩

theorem Rj.front (L0 : Nat → Prop) : ∀ j q, Rj A L0 (j + 1) q ↔ Rj A (Rj A L0 1) j q
  | 0, q => Iff.rfl
  | j + 1, q => by
    rw [Rj, Rj]
    have h := Rj.front L0 j
    constructor
    · rintro (h1 | ⟨r, h1, h2⟩)
      · exact .inl ((h q).1 h1)
      · exact .inr ⟨r, (h r).1 h1, h2⟩
    · rintro (h1 | ⟨r, h1, h2⟩)
      · exact .inl ((h q).2 h1)
      · exact .inr ⟨r, (h r).2 h1, h2⟩

theorem Rj.mono {L0 : Nat → Prop} {i j q : Nat} (h : i ≤ j) (hq : Rj A L0 i q) : Rj A L0 j q := by
  induction h with
  | refl => exact hq
  | step _ ih => exact .inl ih

theorem Copies.less {n p q : Nat} (h : Copies A mn mx n p q) : ∀ k, n = k + 1 → mn ≤ k → Copies A mn mx k p q := by
  induction h with
  | stop _ => intro k _ hk; exact .stop hk
  | @more n p r q h1 h2 h3 _ ih =>
    intro k hn hk
    subst hn
    exact .more (by omega) h2 (by omega) (ih (k + 1) rfl (by omega))

theorem Copies.first {n p q : Nat} (hn : (n : Int) < mn) : Copies A mn mx n p q ↔ ∃ r, A p r ∧ Copies A mn mx (n + 1) r q := by
  constructor
  · intro h
    cases h with
    | stop h => omega
    | more h1 h2 h3 h4 => exact ⟨_, h2, h4⟩
  · rintro ⟨r, h1, h2⟩
    exact .more (.inl hn) h1 (.inr hn) h2

theorem copies_to_R {K p q : Nat} (h : Copies A mn mx K p q) : mn ≤ K → ∀ L0 : Nat → Prop, L0 p → ∃ j : Nat, (mx < 0 ∨ (K : Int) + j ≤ mx ∨ j = 0) ∧ Rj A L0 j q := by
  induction h with
  | stop _ => intro _ L0 h; exact ⟨0, .inr (.inr rfl), h⟩
  | @more n p r q h1 h2 h3 _ ih =>
    intro hK L0 hp
    obtain ⟨j, hj, hR⟩ := ih (by omega) (Rj A L0 1) (.inr ⟨p, hp, h2, by omega⟩)
    exact ⟨j + 1, by omega, (Rj.front L0 j q).2 hR⟩

theorem copies_of_R : ∀ (j K q : Nat) (L0 : Nat → Prop), mn ≤ K → (mx < 0 ∨ (K : Int) + j ≤ mx ∨ j = 0) → Rj A L0 j q → ∃ r, L0 r ∧ Copies A mn mx K r q
  | 0, K, q, L0, hK, _, h => ⟨q, h, .stop hK⟩
  | j + 1, K, q, L0, hK, hc, h => by
    obtain ⟨r, hr, hcop⟩ := copies_of_R j (K + 1) q (Rj A L0 1) (by omega) (by omega) ((Rj.front L0 j q).1 h)
    rcases hr with hr | ⟨p, hp, ha, hlt⟩
    · exact ⟨r, hr, hcop.less K rfl hK⟩
    · exact ⟨p, hp, .more (by omega) ha (.inl hlt) hcop⟩

/-- The set does not grow any more. -/
theorem Rj.still {L0 : Nat → Prop} {i : Nat} (h : ∀ q, Rj A L0 (i + 1) q → Rj A L0 i q) : ∀ j q, Rj A L0 j q → Rj A L0 i q := by
  intro j
  induction j with
  | zero => intro q hq; exact Rj.mono (Nat.zero_le _) hq
  | succ j ih =>
    intro q hq
    rcases hq with hq | ⟨r, hr, ha, hlt⟩
    · exact ih q hq
    · exact h q (.inr ⟨r, ih r hr, ha, hlt⟩)
end

/-- How many places are not in a set. -/
def cnt (F : Nat → Bool) : Nat → Nat
  | 0 => 0
  | n + 1 => cnt F n + (if F n then 0 else 1)

theorem cnt_le (F : Nat → Bool) : ∀ n, cnt F n ≤ n
  | 0 => Nat.le_refl _
  | n + 1 => by have := cnt_le F n; rw [cnt]; split <;> omega

theorem cnt_mono {F G : Nat → Bool} : ∀ n, (∀ z, z < n → F z = true → G z = true) → cnt G n ≤ cnt F n
  | 0, _ => Nat.le_refl _
  | n + 1, h => by
    have h1 := cnt_mono n (fun z hz => h z (by omega))
    rw [cnt, cnt]
    cases hF : F n
    · simp; split <;> omega
    · rw [h n (by omega) hF]; simp; exact h1

theorem cnt_lt {F G : Nat → Bool} : ∀ n, (∀ z, z < n → F z = true → G z = true) → (∃ z, z < n ∧ F z = false ∧ G z = true) → cnt G n < cnt F n
  | 0, _, h => by obtain ⟨z, hz, _⟩ := h; omega
  | n + 1, h, ⟨z, hz, h1, h2⟩ => by
    rw [cnt, cnt]
    have hm := cnt_mono n (fun z hz => h z (by omega))
    by_cases hzn : z = n
    · subst hzn; rw [h1, h2]; simp; omega
    · have := cnt_lt n (fun z hz => h z (by omega)) ⟨z, by omega, h1, h2⟩
      cases hF : F n
      · simp; split <;> omega
      · rw [h n (by omega) hF]; simp; exact this

end Go.Proofs.YtpnecblofjpgfaaGreatDoor

namespace Go.Proofs.YtpnecblofjpgfaaGreatDoor
open Go.RowKit

theorem Rj.le {A : Nat → Nat → Prop} {L0 : Nat → Prop} {N : Nat} (hA : ∀ p q, p ≤ N → A p q → p ≤ q ∧ q ≤ N) (hL : ∀ r, L0 r → r ≤ N) : ∀ j q, Rj A L0 j q → q ≤ N
  | 0, q, h => hL q h
  | j + 1, q, h => by
    rcases h with h | ⟨r, hr, ha, _⟩
    · exact Rj.le hA hL j q h
    · exact (hA r q (Rj.le hA hL j r hr) ha).2

/-- What holds at each round of the second loop of partEnds. -/
structure PE (A : Nat → Nat → Prop) (mx : Int) (N K0 : Nat) (L0 : Nat → Prop) (L B : Nat → Bool) (sm : Bool) (j : Nat) : Prop where
  l : ∀ q, q ≤ N → (L q = true ↔ Rj A L0 j q)
  b : ∀ q, q ≤ N → (B q = true ↔ Rj A L0 j q ∧ (j = 0 ∨ ¬ Rj A L0 (j - 1) q))
  some : sm = false → ∀ q, q ≤ N → B q = false
  cond : mx < 0 ∨ (K0 : Int) + j ≤ mx ∨ j = 0

section
variable {A : Nat → Nat → Prop} {mx : Int} {N K0 : Nat} {L0 : Nat → Prop} {L B X M B' : Nat → Bool} {sm sm' : Bool} {j : Nat}

theorem PE.start (h : ∀ q, q ≤ N → (L q = true ↔ L0 q)) : PE A mx N K0 L0 L L true 0 :=
  ⟨h, fun q hq => by rw [h q hq]; simp [Rj], (fun h => (by cases h)), .inr (.inr rfl)⟩

theorem PE.next (hA : ∀ p q, p ≤ N → A p q → p ≤ q ∧ q ≤ N) (hL : ∀ r, L0 r → r ≤ N) (h : PE A mx N K0 L0 L B sm j) (hX : ∀ q, q ≤ N → (X q = true ↔ StepR A N B true q))
    (hM : ∀ q, q ≤ N → M q = (L q || X q)) (hB : ∀ q, q ≤ N → B' q = (X q && !L q)) (hs : sm' = false → ∀ q, q ≤ N → B' q = false) (hc : mx < 0 ∨ (K0 : Int) + j < mx) :
    PE A mx N K0 L0 M B' sm' (j + 1) := by
  have key : ∀ q, q ≤ N → (Rj A L0 (j + 1) q ↔ Rj A L0 j q ∨ X q = true) := by
    intro q hq
    rw [hX q hq]
    constructor
    · rintro (h1 | ⟨r, hr, ha, hlt⟩)
      · exact .inl h1
      · have hrN := Rj.le hA hL j r hr
        by_cases hj : j = 0 ∨ ¬ Rj A L0 (j - 1) r
        · exact .inr ⟨r, hrN, (h.b r hrN).2 ⟨hr, hj⟩, ha, .inl hlt⟩
        · simp only [not_or, Classical.not_not] at hj
          obtain ⟨hj0, hj1⟩ := hj
          left
          obtain ⟨i, rfl⟩ : ∃ i, j = i + 1 := ⟨j - 1, by omega⟩
          exact .inr ⟨r, by simpa using hj1, ha, hlt⟩
    · rintro (h1 | ⟨r, hr, h2, ha, hlt⟩)
      · exact .inl h1
      · exact .inr ⟨r, ((h.b r hr).1 h2).1, ha, by rcases hlt with h | h; exact h; cases h⟩
  refine ⟨fun q hq => ?_, fun q hq => ?_, hs, by omega⟩
  · rw [hM q hq, key q hq, ← h.l q hq]; simp
  · rw [hB q hq, key q hq]
    simp only [Nat.add_sub_cancel]
    rw [← h.l q hq]
    cases L q <;> cases X q <;> simp

theorem PE.size (h : PE A mx N K0 L0 L B sm j) : ∀ q, q ≤ N → B q = true → L q = true := fun q hq hb => (h.l q hq).2 ((h.b q hq).1 hb).1

theorem PE.done1 {mn : Int} (hA : ∀ p q, p ≤ N → A p q → p ≤ q ∧ q ≤ N) (hL : ∀ r, L0 r → r ≤ N) (hK : mn ≤ K0) (h : PE A mx N K0 L0 L B sm j) (hs : sm = false) :
    ∀ q, q ≤ N → (L q = true ↔ ∃ r, L0 r ∧ Copies A mn mx K0 r q) := by
  intro q hq
  rw [h.l q hq]
  constructor
  · intro hr; exact copies_of_R j K0 q L0 hK h.cond hr
  · rintro ⟨r, hr, hc⟩
    obtain ⟨i, _, hR⟩ := copies_to_R hc hK L0 hr
    have hb : ∀ z, Rj A L0 j z → ¬ (j = 0 ∨ ¬ Rj A L0 (j - 1) z) := by
      intro z hz hj
      have hzN := Rj.le hA hL j z hz
      have := (h.b z hzN).2 ⟨hz, hj⟩
      rw [h.some hs z hzN] at this
      cases this
    by_cases hj : j = 0
    · subst hj
      exact absurd (.inl rfl) (hb r hr)
    · obtain ⟨k, rfl⟩ : ∃ k, j = k + 1 := ⟨j - 1, by omega⟩
      refine Rj.mono (Nat.le_succ k) (Rj.still (i := k) (fun z hz => ?_) i q hR)
      have := hb z hz
      simp only [Nat.add_sub_cancel, not_or, Classical.not_not] at this
      exact this.2

theorem PE.done2 {mn : Int} (hK : mn ≤ K0) (h : PE A mx N K0 L0 L B sm j) (h0 : ¬ mx < 0) (hk : ¬ (K0 : Int) + j < mx) :
    ∀ q, q ≤ N → (L q = true ↔ ∃ r, L0 r ∧ Copies A mn mx K0 r q) := by
  intro q hq
  rw [h.l q hq]
  constructor
  · intro hr; exact copies_of_R j K0 q L0 hK h.cond hr
  · rintro ⟨r, hr, hc⟩
    obtain ⟨i, hi, hR⟩ := copies_to_R hc hK L0 hr
    exact Rj.mono (by omega) hR
end

end Go.Proofs.YtpnecblofjpgfaaGreatDoor
