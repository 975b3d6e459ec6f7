import Derived.Test.YtpnecblofjpgfaaGreatDoorMatB
import Derived.Deep.LoopGhost
namespace Go.Proofs.YtpnecblofjpgfaaGreatDoor
open Go.RowKit

/-- A set of places of a text of n bytes, in memory. -/
def PSet (w : World) (v : Value) (n : Nat) (R : Nat → Prop) : Prop :=
  (∀ p, R p → p ≤ n) ∧ ∃ W, WordsP w v (n / 64 + 1) W ∧ (∀ j, W j < 18446744073709551616) ∧ ∀ p, (W (p / 64)).testBit (p % 64) = true ↔ R p

def bitsOf (W : Nat → Nat) (p : Nat) : Bool := (W (p / 64)).testBit (p % 64)
theorem holds_bits {W : Nat → Nat} (h : ∀ j, W j < 18446744073709551616) : HoldsP W (bitsOf W) := ⟨h, fun _ => rfl⟩

section
variable {w w' : World} {v : Value} {n : Nat} {R S : Nat → Prop} {W : Nat → Nat} {M : Nat → Bool}
theorem PSet.of (hw : WordsP w v (n / 64 + 1) W) (hM : HoldsP W M) (hR : ∀ p, M p = true ↔ R p) (hb : ∀ p, R p → p ≤ n) : PSet w v n R :=
  ⟨hb, W, hw, hM.1, fun p => by rw [hM.2]; exact hR p⟩
theorem PSet.ofm {m : Nat} (hm : m = n / 64 + 1) (hw : WordsP w v m W) (hM : HoldsP W M) (hR : ∀ p, M p = true ↔ R p) (hb : ∀ p, R p → p ≤ n) : PSet w v n R := by
  subst hm; exact PSet.of hw hM hR hb
theorem PSet.congr (h : PSet w v n R) (e : ∀ p, R p ↔ S p) : PSet w v n S := by
  have : R = S := funext fun p => propext (e p)
  rw [← this]; exact h
theorem PSet.agree (h : PSet w v n R) (hk : ∀ k, v.ownBlock = some k → w'.heap[k]? = w.heap[k]?) : PSet w' v n R := by
  obtain ⟨h1, W, h2, h3⟩ := h
  exact ⟨h1, W, h2.agree hk, h3⟩
theorem PSet.lt (h : PSet w v n R) : ∀ k, v.ownBlock = some k → k < w.heap.size := by
  obtain ⟨h1, W, h2, h3⟩ := h
  exact h2.lt
theorem PSet.typed (h : PSet w v n R) : ∀ k, v.ownBlock = some k → ∃ c, w.heap[k]? = some (.cells c 88) := by
  obtain ⟨h1, W, h2, h3⟩ := h
  exact h2.typed
theorem PSet.below (h : PSet w v n R) (hb : Below w.heap.size w w') : PSet w' v n R := h.agree fun k hk => hb.block k (h.lt k hk)
theorem PSet.form (h : PSet w v n R) : ∃ g cap, v = .slice (some ⟨g, 0, none⟩) (n / 64 + 1) cap ∧ g < w.heap.size ∧ n / 64 + 1 ≤ cap := by
  obtain ⟨h1, W, h2, h3⟩ := h
  exact h2.lay (by omega)
theorem PSet.bound (h : PSet w v n R) : ∀ p, R p → p ≤ n := h.1
end

/-- Answers a set in new memory. -/
def SetP (w : World) (n : Nat) (R : Nat → Prop) (e : Ending) (w' : World) : Prop := ∃ v, e = .returned v ∧ PSet w' v n R ∧ Below w.heap.size w w'

/-- The first i words by f, the others as they were. -/
def partW (i : Nat) (f W : Nat → Nat) : Nat → Nat := fun j => if j < i then f j else W j
theorem partW_next (i : Nat) (f W : Nat → Nat) : putW (partW i f W) i (f i) = partW (i + 1) f W := by
  funext j
  unfold putW partW
  by_cases h : j = i
  · subst h; rw [if_pos rfl, if_pos (by omega)]
  · rw [if_neg h]
    by_cases h2 : j < i
    · rw [if_pos h2, if_pos (by omega)]
    · rw [if_neg h2, if_neg (by omega)]
theorem partW_zero (f W : Nat → Nat) : partW 0 f W = W := by
  funext j; unfold partW; rw [if_neg (by omega)]

set_option maxRecDepth 100000 in
set_option maxHeartbeats 1000000 in
/-- Those places that are in the other set too. -/
theorem among_any (w : World) (v u : Value) (n : Nat) (R S : Nat → Prop) (hn : n ≤ 60000) (hv : PSet w v n R) (hu : PSet w u n S) :
    Calls Tryz.prog 40 #[v, u] w fun e w' => SetP w n (fun p => R p ∧ S p) e w' := by
  obtain ⟨hR, W, hW, hWl, hWb⟩ := hv
  obtain ⟨hS, V, hV, hVl, hVb⟩ := hu
  have HX := hide (And.intro hR (And.intro hS (And.intro hWb hVb)))
  clear hR hS hWb hVb
  obtain ⟨m, hm⟩ : ∃ m, m = n / 64 + 1 := ⟨_, rfl⟩
  rw [← hm] at hW hV
  have hm2 : m ≤ 1048576 := by omega
  have hm1 : 0 < m := by omega
  have HM := hide hm
  clear hm
  obtain ⟨g2, cap2, rfl, hg2, hc2⟩ := hV.lay hm1
  go_enter Tryz.func40, Tryz.ntmps40
  go_wp2_with fail
  refine (clone_any w v m W hm1 hm2 hW).mono ?_
  rintro e w1 ⟨v1, rfl, hv1, hb1, hf1⟩
  have hV1 := hV.below hb1
  obtain ⟨g1, cap1, rfl, hg1, hc1⟩ := hv1.lay hm1
  have hf := hf1 g1 rfl
  have HH := hide hb1
  have HV := hide hVl
  have HWL := hide hWl
  clear hW hV hb1 hf1 hVl hWl
  go_wp2_with fail
  go_loopg [6, 7, 12] m (fun k i x c w' => ∃ j : Nat, c = .int .i64 (j : Nat) ∧ j + k = m ∧ WordsP w' (.slice (some ⟨g1, 0, none⟩) m cap1) m (partW j (fun j => W j &&& V j) W) ∧ WordsP w' (.slice (some ⟨g2, 0, none⟩) m cap2) m V ∧ Below w.heap.size w w')
  case atStart => exact ⟨0, rfl, by omega, by rw [partW_zero]; exact hv1, hV1, HH.out⟩
  case round =>
    obtain ⟨j, rfl, hjk, h1, h2, hb⟩ := hrel
    clear hv1 hV1
    by_cases hj : j < m
    · have hji : (j : Int) < (m : Int) := by omega
      have c1 := h1.cell hj
      have c2 := h2.cell hj
      have f1 := h1.fz j
      have e1 : partW j (fun j => W j &&& V j) W j = W j := by unfold partW; rw [if_neg (by omega)]
      rw [e1] at c1
      have hbits := bits_and_u64_nat (W j) (V j) (HWL.out j) (HV.out j)
      have HP := hide (partW_next j (fun j => W j &&& V j) W)
      clear e1
      go_wp2_with fail
      go_roundg (gk - 1)
      case measure => omega
      case rel =>
        refine ⟨j + 1, by go_num, by omega, ?_, h2.other (by simp [Value.ownBlock]; omega) _, hb.setCell (by simp; omega) _⟩
        rw [← HP.out]
        exact h1.put j _
    · have hjm : j = m := by omega
      subst hjm
      go_wp2_with fail
      go_ret
      refine ⟨.slice (some ⟨g1, 0, none⟩) j cap1, rfl, ?_, hb⟩
      obtain ⟨hR, hS, hWb, hVb⟩ := HX.out
      refine PSet.ofm HM.out (h1.congr (V := fun j => W j &&& V j) (fun i hi => by unfold partW; rw [if_pos (by omega)])) ((holds_bits HWL.out).and (holds_bits HV.out)) (fun p => ?_) (fun p hp => ?_)
      · unfold bitsOf
        rw [← hWb p, ← hVb p]
        cases (W (p / 64)).testBit (p % 64) <;> cases (V (p / 64)).testBit (p % 64) <;> simp
      · first | exact hR p hp.1 | (rcases hp with h | h; exact hR p h; exact hS p h)

set_option maxRecDepth 100000 in
set_option maxHeartbeats 1000000 in
/-- The places of both sets. -/
theorem uni_any (w : World) (v u : Value) (n : Nat) (R S : Nat → Prop) (hn : n ≤ 60000) (hv : PSet w v n R) (hu : PSet w u n S) :
    Calls Tryz.prog 98 #[v, u] w fun e w' => SetP w n (fun p => R p ∨ S p) e w' := by
  obtain ⟨hR, W, hW, hWl, hWb⟩ := hv
  obtain ⟨hS, V, hV, hVl, hVb⟩ := hu
  have HX := hide (And.intro hR (And.intro hS (And.intro hWb hVb)))
  clear hR hS hWb hVb
  obtain ⟨m, hm⟩ : ∃ m, m = n / 64 + 1 := ⟨_, rfl⟩
  rw [← hm] at hW hV
  have hm2 : m ≤ 1048576 := by omega
  have hm1 : 0 < m := by omega
  have HM := hide hm
  clear hm
  obtain ⟨g2, cap2, rfl, hg2, hc2⟩ := hV.lay hm1
  go_enter Tryz.func98, Tryz.ntmps98
  go_wp2_with fail
  refine (clone_any w v m W hm1 hm2 hW).mono ?_
  rintro e w1 ⟨v1, rfl, hv1, hb1, hf1⟩
  have hV1 := hV.below hb1
  obtain ⟨g1, cap1, rfl, hg1, hc1⟩ := hv1.lay hm1
  have hf := hf1 g1 rfl
  have HH := hide hb1
  have HV := hide hVl
  have HWL := hide hWl
  clear hW hV hb1 hf1 hVl hWl
  go_wp2_with fail
  go_loopg [6, 7, 12] m (fun k i x c w' => ∃ j : Nat, c = .int .i64 (j : Nat) ∧ j + k = m ∧ WordsP w' (.slice (some ⟨g1, 0, none⟩) m cap1) m (partW j (fun j => W j ||| V j) W) ∧ WordsP w' (.slice (some ⟨g2, 0, none⟩) m cap2) m V ∧ Below w.heap.size w w')
  case atStart => exact ⟨0, rfl, by omega, by rw [partW_zero]; exact hv1, hV1, HH.out⟩
  case round =>
    obtain ⟨j, rfl, hjk, h1, h2, hb⟩ := hrel
    clear hv1 hV1
    by_cases hj : j < m
    · have hji : (j : Int) < (m : Int) := by omega
      have c1 := h1.cell hj
      have c2 := h2.cell hj
      have f1 := h1.fz j
      have e1 : partW j (fun j => W j ||| V j) W j = W j := by unfold partW; rw [if_neg (by omega)]
      rw [e1] at c1
      have hbits := bits_or_u64_nat (W j) (V j) (HWL.out j) (HV.out j)
      have HP := hide (partW_next j (fun j => W j ||| V j) W)
      clear e1
      go_wp2_with fail
      go_roundg (gk - 1)
      case measure => omega
      case rel =>
        refine ⟨j + 1, by go_num, by omega, ?_, h2.other (by simp [Value.ownBlock]; omega) _, hb.setCell (by simp; omega) _⟩
        rw [← HP.out]
        exact h1.put j _
    · have hjm : j = m := by omega
      subst hjm
      go_wp2_with fail
      go_ret
      refine ⟨.slice (some ⟨g1, 0, none⟩) j cap1, rfl, ?_, hb⟩
      obtain ⟨hR, hS, hWb, hVb⟩ := HX.out
      refine PSet.ofm HM.out (h1.congr (V := fun j => W j ||| V j) (fun i hi => by unfold partW; rw [if_pos (by omega)])) ((holds_bits HWL.out).or (holds_bits HV.out)) (fun p => ?_) (fun p hp => ?_)
      · unfold bitsOf
        rw [← hWb p, ← hVb p]
        cases (W (p / 64)).testBit (p % 64) <;> cases (V (p / 64)).testBit (p % 64) <;> simp
      · first | exact hR p hp.1 | (rcases hp with h | h; exact hR p h; exact hS p h)

set_option maxRecDepth 100000 in
set_option maxHeartbeats 1000000 in
/-- Those places that are not in the other set. -/
theorem without_any (w : World) (v u : Value) (n : Nat) (R S : Nat → Prop) (hn : n ≤ 60000) (hv : PSet w v n R) (hu : PSet w u n S) :
    Calls Tryz.prog 97 #[v, u] w fun e w' => SetP w n (fun p => R p ∧ ¬ S p) e w' := by
  obtain ⟨hR, W, hW, hWl, hWb⟩ := hv
  obtain ⟨hS, V, hV, hVl, hVb⟩ := hu
  have HX := hide (And.intro hR (And.intro hS (And.intro hWb hVb)))
  clear hR hS hWb hVb
  obtain ⟨m, hm⟩ : ∃ m, m = n / 64 + 1 := ⟨_, rfl⟩
  rw [← hm] at hW hV
  have hm2 : m ≤ 1048576 := by omega
  have hm1 : 0 < m := by omega
  have HM := hide hm
  clear hm
  obtain ⟨g2, cap2, rfl, hg2, hc2⟩ := hV.lay hm1
  go_enter Tryz.func97, Tryz.ntmps97
  go_wp2_with fail
  refine (clone_any w v m W hm1 hm2 hW).mono ?_
  rintro e w1 ⟨v1, rfl, hv1, hb1, hf1⟩
  have hV1 := hV.below hb1
  obtain ⟨g1, cap1, rfl, hg1, hc1⟩ := hv1.lay hm1
  have hf := hf1 g1 rfl
  have HH := hide hb1
  have HV := hide hVl
  have HWL := hide hWl
  clear hW hV hb1 hf1 hVl hWl
  go_wp2_with fail
  go_loopg [6, 7, 12] m (fun k i x c w' => ∃ j : Nat, c = .int .i64 (j : Nat) ∧ j + k = m ∧ WordsP w' (.slice (some ⟨g1, 0, none⟩) m cap1) m (partW j (fun j => W j &&& (18446744073709551615 - V j)) W) ∧ WordsP w' (.slice (some ⟨g2, 0, none⟩) m cap2) m V ∧ Below w.heap.size w w')
  case atStart => exact ⟨0, rfl, by omega, by rw [partW_zero]; exact hv1, hV1, HH.out⟩
  case round =>
    obtain ⟨j, rfl, hjk, h1, h2, hb⟩ := hrel
    clear hv1 hV1
    by_cases hj : j < m
    · have hji : (j : Int) < (m : Int) := by omega
      have c1 := h1.cell hj
      have c2 := h2.cell hj
      have f1 := h1.fz j
      have e1 : partW j (fun j => W j &&& (18446744073709551615 - V j)) W j = W j := by unfold partW; rw [if_neg (by omega)]
      rw [e1] at c1
      have hbits := u64_andNot_nat (W j) (V j) (HWL.out j) (HV.out j)
      have HP := hide (partW_next j (fun j => W j &&& (18446744073709551615 - V j)) W)
      clear e1
      go_wp2_with fail
      go_roundg (gk - 1)
      case measure => omega
      case rel =>
        refine ⟨j + 1, by go_num, by omega, ?_, h2.other (by simp [Value.ownBlock]; omega) _, hb.setCell (by simp; omega) _⟩
        rw [← HP.out]
        exact h1.put j _
    · have hjm : j = m := by omega
      subst hjm
      go_wp2_with fail
      go_ret
      refine ⟨.slice (some ⟨g1, 0, none⟩) j cap1, rfl, ?_, hb⟩
      obtain ⟨hR, hS, hWb, hVb⟩ := HX.out
      refine PSet.ofm HM.out (h1.congr (V := fun j => W j &&& (18446744073709551615 - V j)) (fun i hi => by unfold partW; rw [if_pos (by omega)])) ((holds_bits HWL.out).without (holds_bits HV.out)) (fun p => ?_) (fun p hp => ?_)
      · unfold bitsOf
        rw [← hWb p, ← hVb p]
        cases (W (p / 64)).testBit (p % 64) <;> cases (V (p / 64)).testBit (p % 64) <;> simp
      · first | exact hR p hp.1 | (rcases hp with h | h; exact hR p h; exact hS p h)
end Go.Proofs.YtpnecblofjpgfaaGreatDoor
