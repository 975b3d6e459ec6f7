import Derived.Test.YtpnecblofjpgfaaGreatDoorMatL
import Derived.Deep.DeepCutAuto
namespace Go.Proofs.YtpnecblofjpgfaaGreatDoor
open Go.RowKit Go.Shelf

open Classical in
/-- How many places of a text are not in a set. -/
noncomputable def gaps (n : Nat) (R : Nat → Prop) : Nat := cnt (fun p => decide (R p)) (n + 1)
theorem gaps_le (n : Nat) (R : Nat → Prop) : gaps n R ≤ n + 1 := cnt_le _ _
theorem gaps_mono {n : Nat} {R S : Nat → Prop} (h : ∀ p, R p → S p) : gaps n S ≤ gaps n R := cnt_mono _ fun z _ hz => by simpa using h z (by simpa using hz)
theorem gaps_lt {n : Nat} {R S : Nat → Prop} (h : ∀ p, R p → S p) {q : Nat} (hq : q ≤ n) (h1 : ¬ R q) (h2 : S q) : gaps n S < gaps n R :=
  cnt_lt _ (fun z _ hz => by simpa using h z (by simpa using hz)) ⟨q, by omega, by simpa using h1, by simpa using h2⟩

open Classical in
/-- How long the second loop may go on. -/
noncomputable def toGo (n : Nat) (F R : Nat → Prop) : Nat := 2 * gaps n R + (if ∃ q, F q then 1 else 0)
theorem toGo_le (n : Nat) (F R : Nat → Prop) : toGo n F R ≤ 2 * n + 3 := by
  have := gaps_le n R
  unfold toGo; split <;> omega
theorem toGo_next {n : Nat} {F R F' R' : Nat → Prop} (hF : ∃ q, F q) (hR : ∀ q, R q → R' q) (hF' : ∀ q, F' q → q ≤ n ∧ ¬ R q ∧ R' q) : toGo n F' R' < toGo n F R := by
  unfold toGo
  rw [if_pos hF]
  have h1 := gaps_mono (n := n) hR
  split
  · next h =>
    obtain ⟨q, hq⟩ := h
    obtain ⟨a, b, c⟩ := hF' q hq
    have := gaps_lt hR a b c
    omega
  · omega

/-- What a step of the places answers. -/
def StepF (C : MC) (w : World) (F : FuncId) (c1 c2 : Value) (A : Nat → Nat → Prop) : Prop :=
  ∀ w1 D1 u T, MS C w1 D1 → Kp C.mm w w1 → PSet w1 u C.s.size T → Calls Tryz.prog F #[u, c1, c2] w1 (EndsP C w1 (stepR A T))

set_option maxRecDepth 100000 in
set_option maxHeartbeats 2000000 in
theorem copies_any (C : MC) (ok : C.Ok) (x : Part) (xs : List Part) (j : Nat) (hA : AtW C (j : Int) (x :: xs)) (g cap : Nat) (hpv : C.pv = .slice (some ⟨g, 0, none⟩) C.all.length cap) (A : Nat → Nat → Prop) (F : FuncId) (c1 c2 : Value) (hF1 : Enters F)
    (w : World) (D : DataW Value) (h : MS C w D) (made : Nat) (hmd : x.mx < 0 ∨ (made : Int) ≤ x.mx) (hmd2 : made ≤ 1048576) (v : Value) (S : Nat → Prop) (hv : PSet w v C.s.size S) (hF : StepF C w F c1 c2 A) :
    Calls Tryz.prog 75 #[.pointer (some ⟨g, j * 9, none⟩), .int .i64 (made : Nat), v, .func (.func F) #[] #[c1, c2]] w (EndsP C w (copiesS A x.mn x.mx made S)) := by
  obtain ⟨j', P, hj', hjl, hP, -, -⟩ := hA.cons
  obtain rfl : j = j' := by omega
  obtain ⟨m0, m9, x9, hmm⟩ := hA.counts
  have hsm := ok.small
  have HP := hide (And.intro hP hpv)
  have HC : ∀ w' D', MS C w' D' → w'.cell? ⟨g, j * 9 + 7, none⟩ = some (.int .i64 x.mn) ∧ w'.cell? ⟨g, j * 9 + 8, none⟩ = some (.int .i64 (mxV x.mx)) := fun w' D' h' => by
    have hfl := h'.flat
    rw [hpv] at hfl
    obtain ⟨-, -, -, -, -, -, -, e7, e8⟩ := part_cells hfl hP.get
    rw [hP.least] at e7
    rw [hP.most] at e8
    exact ⟨e7, e8⟩
  have HF := hide hF
  obtain ⟨gv, cv, rfl, -, -⟩ := hv.form
  have HV := hide (And.intro h hv)
  have HCC := hide HC
  unfold Enters at hF1
  clear hP hpv hF h hv HC hA
  go_enter Tryz.func75, Tryz.ntmps75
  go_wp2_with fail
  go_loopg [1, 2, 9] (x.mn - made).toNat (fun k md pl nx w' => ∃ (i : Nat) (gp cp : Nat) (D' : DataW Value), md = .int .i64 ((made + i : Nat) : Int) ∧ pl = .slice (some ⟨gp, 0, none⟩) (C.s.size / 64 + 1) cp ∧ (i = 0 ∨ (made : Int) + i ≤ x.mn) ∧ (x.mn - made).toNat ≤ i + k ∧ Hid (PSet w' (.slice (some ⟨gp, 0, none⟩) (C.s.size / 64 + 1) cp) C.s.size (itS A S i) ∧ MS C w' D' ∧ Kp C.mm w w'))
  case atStart => exact ⟨0, gv, cv, D, rfl, rfl, .inl rfl, by omega, HV.out.2, HV.out.1, Kp.refl _ _⟩
  case round =>
    obtain ⟨i, gp, cp, D', rfl, rfl, hi, hik, HI⟩ := hrel
    obtain ⟨e7, e8⟩ := HCC.out _ _ HI.out.2.1
    have hib : i ≤ 9 := by omega
    by_cases hlt : (made : Int) + i < x.mn
    · go_wp2_with fail
      refine (HF.out _ D' _ _ HI.out.2.1 HI.out.2.2 HI.out.1).mono ?_
      rintro e w1 ⟨u, D1, rfl, hu, hm1, K1⟩
      obtain ⟨gu, cu, rfl, -, -⟩ := hu.form
      have hp1 := HI.out.1.kp HI.out.2.1 K1
      have HU := hide (And.intro hu (And.intro hm1 (And.intro (HI.out.2.2.trans K1) hp1)))
      clear hu hm1 hp1 e7 e8 K1
      go_wp2_with fail
      refine (equal_any _ _ _ C.s.size _ _ hsm HU.out.1 HU.out.2.2.2).mono ?_
      rintro e w2 ⟨b, rfl, hb, hbl⟩
      have HB := hide (And.intro hb hbl)
      clear hb hbl
      cases b
      · go_wp2_with fail
        go_roundg (gk - 1)
        case measure => omega
        case rel =>
          exact ⟨i + 1, gu, cu, D1, by go_num, rfl, .inr (by omega), by omega, HU.out.1.below HB.out.2, HU.out.2.1.below HB.out.2, HU.out.2.2.1.trans (Kp.below HB.out.2)⟩
      · go_wp2_with fail
        go_ret
        have hfix : ∀ q, stepR A (itS A S i) q ↔ itS A S i q := HB.out.1.1 trivial
        exact ⟨_, D1, rfl, (HU.out.2.2.2.below HB.out.2).congr (fun q => (copies_fix hmm hlt hfix q).symm), HU.out.2.1.below HB.out.2, HU.out.2.2.1.trans (Kp.below HB.out.2)⟩
    · have hmn : x.mn ≤ (made : Int) + i := by omega
      have hmx : x.mx < 0 ∨ (made : Int) + i ≤ x.mx := by omega
      obtain ⟨S0, hS0⟩ : ∃ S0, S0 = itS A S i := ⟨_, rfl⟩
      have HS0 := hide hS0
      rw [← hS0] at HI
      obtain ⟨N, hN⟩ : ∃ N, N = 2 * C.s.size + 3 := ⟨_, rfl⟩
      have hN2 : N ≤ 200000 := by omega
      have hT0 := toGo_le C.s.size S0 S0
      rw [← hN] at hT0
      have HT0 := hide hT0
      have hli : i = 0 ∨ (made : Int) + i = x.mn := by omega
      have hd : decide (((made + i : Nat) : Int) < x.mn) = false := by simp; omega
      clear hS0 hN hT0 e8 hik hi hlt
      go_wp2_with fail
      clear e7 hd
      go_loopg [1, 2, 10] N (fun k md pl rd w' => ∃ (i2 gp cp gr cr : Nat) (D' : DataW Value) (Fs Rs : Nat → Prop), md = .int .i64 ((made + i + i2 : Nat) : Int) ∧ pl = .slice (some ⟨gp, 0, none⟩) (C.s.size / 64 + 1) cp ∧ rd = .slice (some ⟨gr, 0, none⟩) (C.s.size / 64 + 1) cr ∧ i2 + k ≤ N ∧ (x.mx < 0 ∨ (made : Int) + i + i2 ≤ x.mx) ∧
        Hid (toGo C.s.size Fs Rs ≤ k ∧ Front A S0 i2 Fs Rs ∧ PSet w' (.slice (some ⟨gp, 0, none⟩) (C.s.size / 64 + 1) cp) C.s.size Fs ∧ PSet w' (.slice (some ⟨gr, 0, none⟩) (C.s.size / 64 + 1) cr) C.s.size Rs ∧ MS C w' D' ∧ Kp C.mm w w'))
      case atStart => exact ⟨0, gp, cp, gp, cp, D', S0, S0, rfl, rfl, rfl, by omega, by omega, HT0.out, Front.zero S0, HI.out.1, HI.out.1, HI.out.2.1, HI.out.2.2⟩
      case round =>
        clear HI HT0
        obtain ⟨i2, gp, cp, gr, cr, D', Fs, Rs, rfl, rfl, rfl, hik, hmx2, HI⟩ := hrel
        obtain ⟨e7, e8⟩ := HCC.out _ _ HI.out.2.2.2.2.1
        by_cases hlt : ((made + i + i2 : Nat) : Int) < mxV x.mx
        · have hlt2 : x.mx < 0 ∨ (made : Int) + i + i2 + 1 ≤ x.mx := by
            unfold mxV at hlt
            split at hlt
            · next h => exact .inl h
            · exact .inr (by omega)
          generalize mxV x.mx = mxv at *
          go_wp2_with fail
          refine (isEmpty_any _ _ C.s.size Fs hsm HI.out.2.2.1).mono ?_
          rintro e w1 ⟨b, rfl, hb, rfl⟩
          have HB := hide hb
          clear hb
          cases b
          · have HNE : Hid (∃ q, Fs q) := by
              rw [Hid]
              apply Classical.byContradiction
              intro hn
              have := HB.out.2 (fun p hp => hn ⟨p, hp⟩)
              cases this
            clear HB
            go_wp2_with fail
            refine (HF.out _ D' _ _ HI.out.2.2.2.2.1 HI.out.2.2.2.2.2 HI.out.2.2.1).mono ?_
            rintro e w2 ⟨u, D2, rfl, hu, hm2, K2⟩
            obtain ⟨gu, cu, rfl, -, -⟩ := hu.form
            have hr2 := HI.out.2.2.2.1.kp HI.out.2.2.2.2.1 K2
            have HU := hide (And.intro hu (And.intro hm2 (And.intro (HI.out.2.2.2.2.2.trans K2) hr2)))
            clear hu hm2 hr2 K2 e7 e8
            go_wp2_with fail
            refine (without_any _ _ _ C.s.size _ _ hsm HU.out.1 HU.out.2.2.2).mono ?_
            rintro e w3 ⟨y, rfl, hy, hbl3⟩
            obtain ⟨gy, cy, rfl, -, -⟩ := hy.form
            have HY := hide (And.intro hy (And.intro (HU.out.2.1.below hbl3) (And.intro (HU.out.2.2.1.trans (Kp.below hbl3)) (HU.out.2.2.2.below hbl3))))
            clear hy hbl3
            go_wp2_with fail
            refine (uni_any _ _ _ C.s.size _ _ hsm HY.out.2.2.2 HY.out.1).mono ?_
            rintro e w4 ⟨z, rfl, hz, hbl4⟩
            obtain ⟨gz, cz, rfl, -, -⟩ := hz.form
            have HZ := hide (And.intro hz hbl4)
            clear hz hbl4
            have HT : Hid (toGo C.s.size (fun q => stepR A Fs q ∧ ¬ Rs q) (fun q => Rs q ∨ (stepR A Fs q ∧ ¬ Rs q)) < gk) := by
              rw [Hid]
              exact Nat.lt_of_lt_of_le (toGo_next HNE.out (fun q hq => .inl hq) (fun q hq => ⟨HY.out.1.bound q hq, hq.2, .inr hq⟩)) HI.out.1
            go_wp2_with fail
            go_roundg (toGo C.s.size (fun q => stepR A Fs q ∧ ¬ Rs q) (fun q => Rs q ∨ (stepR A Fs q ∧ ¬ Rs q)))
            case measure => exact HT.out
            case rel =>
              have ht := HT.out
              exact ⟨i2 + 1, gy, cy, gz, cz, D2, _, _, by go_num, rfl, rfl, by omega, by omega, Nat.le_refl _, HI.out.2.1.next, HY.out.1.below HZ.out.2, HZ.out.1, HY.out.2.1.below HZ.out.2, HY.out.2.2.1.trans (Kp.below HZ.out.2)⟩
          · go_wp2_with fail
            go_ret
            obtain ⟨h1, h2, h3, h4, h5, h6⟩ := HI.out
            exact ⟨_, D', rfl, h4.congr (fun q => (copies_end hmn hli hmx2 (by rw [← HS0.out]; exact h2) (.inr (HB.out.1 trivial)) q).symm), h5, h6⟩
        · have hend : x.mx ≥ 0 ∧ (made : Int) + i + i2 = x.mx := by
            unfold mxV at hlt
            split at hlt
            · next h => exfalso; apply hlt; omega
            · exact ⟨by omega, by omega⟩
          have hd : decide (((made + i + i2 : Nat) : Int) < mxV x.mx) = false := by simpa using hlt
          generalize mxV x.mx = mxv at *
          go_wp2_with fail
          go_ret
          obtain ⟨h1, h2, h3, h4, h5, h6⟩ := HI.out
          exact ⟨_, D', rfl, h4.congr (fun q => (copies_end hmn hli hmx2 (by rw [← HS0.out]; exact h2) (.inl hend.2) q).symm), h5, h6⟩
end Go.Proofs.YtpnecblofjpgfaaGreatDoor
