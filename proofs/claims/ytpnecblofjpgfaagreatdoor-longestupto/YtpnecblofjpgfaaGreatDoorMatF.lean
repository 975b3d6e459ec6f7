import Derived.Test.YtpnecblofjpgfaaGreatDoorMatE
import Derived.Deep.QuietTactic
import Derived.BigQuiet
namespace Go.Proofs.YtpnecblofjpgfaaGreatDoor
open Go.RowKit Go.Shelf

/-- The greatest one. -/
def Best (R : Nat → Prop) (m : Nat) : Prop := R m ∧ ∀ m', R m' → m' ≤ m

/-- The greatest place, -1 if there is none. -/
def LastR (R : Nat → Prop) (r : Int) : Prop := (r = -1 ∧ ∀ p, ¬ R p) ∨ ∃ m : Nat, r = (m : Int) ∧ Best R m

theorem words_zero {n : Nat} {R : Nat → Prop} {W : Nat → Nat} (hR : ∀ p, R p → p ≤ n) (hWl : ∀ j, W j < 18446744073709551616) (hWb : ∀ p, (W (p / 64)).testBit (p % 64) = true ↔ R p) : ∀ i, n / 64 + 1 ≤ i → W i = 0 := fun i hi => by
  by_cases h0 : W i = 0
  · exact h0
  · have hl : (W i).log2 < 64 := by rw [Nat.log2_lt h0, ← pow64]; exact hWl i
    have h1 := hWb (i * 64 + (W i).log2)
    rw [show (i * 64 + (W i).log2) / 64 = i by omega, show (i * 64 + (W i).log2) % 64 = (W i).log2 by omega] at h1
    have := hR _ (h1.1 (Nat.testBit_log2 h0))
    omega

set_option maxRecDepth 100000 in
set_option maxHeartbeats 1000000 in
theorem last_any (w : World) (v : Value) (n : Nat) (R : Nat → Prop) (hn : n ≤ 60000) (hv : PSet w v n R) :
    Calls Tryz.prog 43 #[v] w fun e w' => ∃ r, e = .returned (.int .i64 r) ∧ LastR R r ∧ w' = w := by
  obtain ⟨hR, W, hW, hWl, hWb⟩ := hv
  have hz := words_zero hR hWl hWb
  obtain ⟨m, hm⟩ : ∃ m, m = n / 64 + 1 := ⟨_, rfl⟩
  rw [← hm] at hW hz
  have HX := hide (And.intro hWb (And.intro hWl hz))
  have hm2 : m ≤ 1000 := by omega
  have hm1 : 0 < m := by omega
  clear hm hz hWb hR hWl
  obtain ⟨g, cap, rfl, hg, hc⟩ := hW.lay hm1
  go_enter Tryz.func43, Tryz.ntmps43
  go_wp2_with fail
  go_loopg [3] m (fun k c w' => c = .int .i64 ((k : Nat) - 1 : Int) ∧ k ≤ m ∧ w' = w ∧ ∀ j, k ≤ j → W j = 0)
  case atStart => exact ⟨by go_num, Nat.le_refl _, rfl, HX.out.2.2⟩
  case round =>
    obtain ⟨rfl, hkm, rfl, hU⟩ := hrel
    by_cases hk : 0 < gk
    · obtain ⟨j, rfl⟩ : ∃ j, gk = j + 1 := ⟨gk - 1, by omega⟩
      have hj : j < m := by omega
      have hji : (j : Int) < (m : Int) := by omega
      have c1 := hW.cell hj
      have HU := hide hU
      clear hU
      have ej : (((j + 1 : Nat) : Int) - 1) = (j : Int) := by omega
      rw [ej]
      have hwj := HX.out.2.1 j
      by_cases hx0 : W j = 0
      · rw [hx0] at c1
        go_wp2_with fail
        go_roundg j
        case measure => omega
        case rel =>
          refine ⟨rfl, by omega, rfl, fun i hi => ?_⟩
          by_cases hij : i = j
          · subst hij; exact hx0
          · exact HU.out i (by omega)
      · have hd : ((W j : Int) == 0) = false := by simp; omega
        have hd2 : ((W j : Int) != 0) = true := by simp; omega
        have HL := hide (len64_any (W j) wr hwj hx0)
        obtain ⟨t, ht⟩ : ∃ t, t = (W j).log2 := ⟨_, rfl⟩
        have HT := hide ht
        rw [← ht] at HL
        have htl : t < 64 := by rw [ht, Nat.log2_lt hx0, ← pow64]; exact hwj
        clear ht
        go_wp2_with fail
        refine HL.out.mono ?_
        rintro e w1 ⟨rfl, rfl⟩
        go_wp2_with fail
        go_ret
        refine ⟨((j * 64 + t : Nat) : Int), by simp; omega, .inr ⟨j * 64 + t, rfl, ?_, ?_⟩, rfl⟩
        · have hh := (holds_bits HX.out.2.1).top hx0 (fun i hi => HU.out i (by omega))
          rw [HT.out]
          exact (HX.out.1 _).1 hh.2.1
        · intro p hp
          have hh := (holds_bits HX.out.2.1).top hx0 (fun i hi => HU.out i (by omega))
          rw [HT.out]
          by_cases hc : j * 64 + (W j).log2 < p
          · have h1 := hh.2.2 p hc
            have h2 := (HX.out.1 p).2 hp
            unfold bitsOf at h1
            rw [h1] at h2; cases h2
          · omega
    · obtain rfl : gk = 0 := by omega
      go_wp2_with fail
      go_ret
      refine ⟨-1, rfl, .inl ⟨rfl, fun p hp => ?_⟩, rfl⟩
      have := (HX.out.1 p).2 hp
      rw [hU _ (Nat.zero_le _)] at this
      simp at this

set_option maxRecDepth 100000 in
set_option maxHeartbeats 1000000 in
theorem isEmpty_any (w : World) (v : Value) (n : Nat) (R : Nat → Prop) (hn : n ≤ 60000) (hv : PSet w v n R) :
    Calls Tryz.prog 96 #[v] w fun e w' => ∃ b, e = .returned (.bool b) ∧ (b = true ↔ ∀ p, ¬ R p) ∧ w' = w := by
  have H := hide (last_any w v n R hn hv)
  clear hv
  go_enter Tryz.func96, Tryz.ntmps96
  go_wp2_with fail
  refine H.out.mono ?_
  rintro e w1 ⟨r, rfl, hr, rfl⟩
  have HR := hide hr
  clear hr
  go_wp2_with fail
  go_ret
  refine ⟨_, rfl, ?_, rfl⟩
  rcases HR.out with ⟨rfl, h⟩ | ⟨m, rfl, h⟩
  · simp; exact h
  · have hd : decide ((m : Int) < 0) = false := by simp
    rw [hd]
    constructor
    · intro h'; cases h'
    · intro h'; exact absurd h.1 (h' m)

theorem word_eq {W V : Nat → Nat} (hW : ∀ j, W j < 18446744073709551616) (hV : ∀ j, V j < 18446744073709551616) (h : ∀ p, (W (p / 64)).testBit (p % 64) = (V (p / 64)).testBit (p % 64)) (j : Nat) : W j = V j := by
  apply Nat.eq_of_testBit_eq
  intro k
  by_cases hk : k < 64
  · have := h (j * 64 + k)
    rw [show (j * 64 + k) / 64 = j by omega, show (j * 64 + k) % 64 = k by omega] at this
    exact this
  · have e : ∀ x : Nat, x < 18446744073709551616 → x.testBit k = false := fun x hx => by
      apply Nat.testBit_lt_two_pow
      rw [pow64] at hx
      exact Nat.lt_of_lt_of_le hx (Nat.pow_le_pow_right (by decide) (by omega))
    rw [e _ (hW j), e _ (hV j)]

set_option maxRecDepth 100000 in
set_option maxHeartbeats 1000000 in
/-- slices.Equal. -/
theorem equal_any (w : World) (v u : Value) (n : Nat) (R S : Nat → Prop) (hn : n ≤ 60000) (hv : PSet w v n R) (hu : PSet w u n S) :
    Calls Tryz.prog 95 #[v, u] w fun e w' => ∃ b, e = .returned (.bool b) ∧ (b = true ↔ ∀ p, R p ↔ S p) ∧ Below w.heap.size w w' := by
  obtain ⟨hR, W, hW, hWl, hWb⟩ := hv
  obtain ⟨hS, V, hV, hVl, hVb⟩ := hu
  have HX := hide (And.intro hR (And.intro hS (And.intro hWb hVb)))
  have HZ := hide (And.intro (words_zero hR hWl hWb) (words_zero hS hVl hVb))
  clear hR hS hWb hVb
  obtain ⟨m, hm⟩ : ∃ m, m = n / 64 + 1 := ⟨_, rfl⟩
  rw [← hm] at hW hV HZ
  have hm2 : m ≤ 1000 := by omega
  have hm1 : 0 < m := by omega
  clear hm
  obtain ⟨g1, cap1, rfl, hg1, hc1⟩ := hW.lay hm1
  obtain ⟨g2, cap2, rfl, hg2, hc2⟩ := hV.lay hm1
  have HWL := hide (And.intro hWl hVl)
  clear hWl hVl
  go_enter Tryz.func95, Tryz.ntmps95
  go_wp2_with fail
  go_loopg [5, 13] m (fun k i c w' => ∃ j : Nat, c = .int .i64 (j : Nat) ∧ j + k = m ∧ Below w.heap.size w w' ∧ ∀ i, i < j → W i = V i)
  case atStart => exact ⟨0, rfl, by omega, Below.refl _ _, fun i hi => by omega⟩
  case round =>
    obtain ⟨j, rfl, hjk, hb, hE⟩ := hrel
    have HE := hide hE
    clear hE
    by_cases hj : j < m
    · have hji : (j : Int) < (m : Int) := by omega
      have c1 := (hW.below hb).cell hj
      have c2 := (hV.below hb).cell hj
      by_cases hx : W j = V j
      · rw [hx] at c1
        go_wp2_with fail
        go_quiet (fail)
        go_wp2_with fail
        go_roundg (gk - 1)
        case measure => omega
        case rel =>
          refine ⟨j + 1, by go_num, by omega, ?_, fun i hi => ?_⟩
          · exact ⟨hb.os, hb.tape, hb.output, hb.size, hb.block⟩
          · by_cases hij : i = j
            · subst hij; exact hx
            · exact HE.out i (by omega)
      · have hd : ((W j : Int) != (V j : Int)) = true := by simp; omega
        go_wp2_with fail
        go_quiet (fail)
        go_wp2_with fail
        go_ret
        refine ⟨false, rfl, ?_, ⟨hb.os, hb.tape, hb.output, hb.size, hb.block⟩⟩
        obtain ⟨hR, hS, hWb, hVb⟩ := HX.out
        constructor
        · intro h; cases h
        · intro h
          exact absurd (word_eq HWL.out.1 HWL.out.2 (fun p => by rw [Bool.eq_iff_iff, hWb p, hVb p]; exact h p) j) hx
    · go_wp2_with fail
      go_ret
      refine ⟨true, rfl, ?_, hb⟩
      obtain ⟨hR, hS, hWb, hVb⟩ := HX.out
      simp only [true_iff]
      intro p
      rw [← hWb p, ← hVb p]
      by_cases hp : p / 64 < j
      · rw [HE.out _ hp]
      · rw [HZ.out.1 _ (by omega), HZ.out.2 _ (by omega)]

/-- A word without its low bits. -/
def cutB (x k : Nat) : Nat := x &&& (18446744073709551615 - (2 ^ k - 1))
theorem cutB_bit {x k : Nat} (hk : k < 64) (t : Nat) (ht : t < 64) : (cutB x k).testBit t = (x.testBit t && decide (k ≤ t)) := by
  have hp : 2 ^ k - 1 < 18446744073709551616 := by have := two_pow_lt hk; omega
  rw [cutB, Nat.testBit_and, not_bit hp ht, Nat.testBit_two_pow_sub_one]
  congr 1
  by_cases h : t < k
  · have : ¬ k ≤ t := by omega
    simp [h, this]
  · have : k ≤ t := by omega
    simp [h, this]
theorem cutB_lt {x k : Nat} (hx : x < 18446744073709551616) : cutB x k < 18446744073709551616 := Nat.lt_of_le_of_lt Nat.and_le_left hx
theorem cutB_run (x k : Nat) (hk : k < 64) (hx : x < 18446744073709551616) : bits .andNot .u64 (x : Int) ((2 : Int) ^ k - 1) = ((cutB x k : Nat) : Int) := by
  have hp := two_pow_lt hk
  have h0 : 0 < 2 ^ k := Nat.two_pow_pos k
  have := u64_andNot_nat x (2 ^ k - 1) hx (by omega)
  rw [cutB, ← this]
  congr 1
  have : ((2 ^ k - 1 : Nat) : Int) = ((2 ^ k : Nat) : Int) - 1 := by omega
  rw [this]
  simp

/-- The lowest place from a place on, -1 if there is none. -/
def FirstR (R : Nat → Prop) (a : Nat) (r : Int) : Prop := (r = -1 ∧ ∀ p, a ≤ p → ¬ R p) ∨ ∃ m : Nat, r = (m : Int) ∧ a ≤ m ∧ R m ∧ ∀ p, a ≤ p → R p → m ≤ p

/-- Of the i-th word the bits from the place on. -/
def fromW (W : Nat → Nat) (a i : Nat) : Nat := if i = a / 64 then cutB (W i) (a % 64) else W i
theorem fromW_lt {W : Nat → Nat} (hW : ∀ j, W j < 18446744073709551616) (a i : Nat) : fromW W a i < 18446744073709551616 := by
  unfold fromW; split
  · exact cutB_lt (hW i)
  · exact hW i
theorem fromW_bit {W : Nat → Nat} {a i : Nat} (hi : a / 64 ≤ i) (t : Nat) (ht : t < 64) : (fromW W a i).testBit t = ((W i).testBit t && decide (a ≤ i * 64 + t)) := by
  unfold fromW
  split
  · next h => rw [cutB_bit (by omega) t ht]; congr 1; rw [decide_eq_decide]; omega
  · next h => have : decide (a ≤ i * 64 + t) = true := by simp; omega
              rw [this, Bool.and_true]
theorem first_here {W : Nat → Nat} {R : Nat → Prop} {a i : Nat} (hW : ∀ j, W j < 18446744073709551616) (hWb : ∀ p, (W (p / 64)).testBit (p % 64) = true ↔ R p) (hi : a / 64 ≤ i) (hlow : ∀ p, a ≤ p → p < i * 64 → ¬ R p) (h0 : fromW W a i ≠ 0) :
    FirstR R a ((i * 64 + Lib.ctz 64 (fromW W a i) : Nat) : Int) := by
  obtain ⟨h1, h2, h3⟩ := ctz_bit _ (fromW_lt hW a i) h0
  have hb := fromW_bit (W := W) hi _ h1
  rw [h2] at hb
  have hb1 := hb.symm
  rw [Bool.and_eq_true, decide_eq_true_eq] at hb1
  refine .inr ⟨_, rfl, hb1.2, ?_, fun p hp hr => ?_⟩
  · rw [← hWb, show (i * 64 + Lib.ctz 64 (fromW W a i)) / 64 = i by omega, show (i * 64 + Lib.ctz 64 (fromW W a i)) % 64 = Lib.ctz 64 (fromW W a i) by omega]
    exact hb1.1
  · by_cases hc : i * 64 + Lib.ctz 64 (fromW W a i) ≤ p
    · exact hc
    · by_cases hpi : p < i * 64
      · exact absurd hr (hlow p hp hpi)
      · have hb := fromW_bit (W := W) hi (p % 64) (by omega)
        rw [h3 (p % 64) (by omega)] at hb
        have hr2 := (hWb p).2 hr
        rw [show p / 64 = i by omega] at hr2
        rw [hr2, Bool.true_and] at hb
        have := hb.symm
        rw [decide_eq_false_iff_not] at this
        omega
theorem first_none {W : Nat → Nat} {R : Nat → Prop} {a i : Nat} (hWb : ∀ p, (W (p / 64)).testBit (p % 64) = true ↔ R p) (hi : a / 64 ≤ i) (hlow : ∀ p, a ≤ p → p < i * 64 → ¬ R p) (h0 : fromW W a i = 0) : ∀ p, a ≤ p → p < (i + 1) * 64 → ¬ R p := fun p hp hl hr => by
  by_cases hpi : p < i * 64
  · exact hlow p hp hpi hr
  · have hb := fromW_bit (W := W) hi (p % 64) (by omega)
    rw [h0, Nat.zero_testBit] at hb
    have hr2 := (hWb p).2 hr
    rw [show p / 64 = i by omega] at hr2
    rw [hr2, Bool.true_and] at hb
    have := hb.symm
    rw [decide_eq_false_iff_not] at this
    omega

set_option maxRecDepth 100000 in
set_option maxHeartbeats 1000000 in
theorem firstFrom_any (w : World) (v : Value) (n a : Nat) (R : Nat → Prop) (hn : n ≤ 60000) (ha : a ≤ n) (hv : PSet w v n R) (hT : TabOk w) :
    Calls Tryz.prog 25 #[v, .int .i64 (a : Nat)] w fun e w' => ∃ r, e = .returned (.int .i64 r) ∧ FirstR R a r ∧ w' = w := by
  obtain ⟨hR, W, hW, hWl, hWb⟩ := hv
  have hz := words_zero hR hWl hWb
  obtain ⟨m, hm⟩ : ∃ m, m = n / 64 + 1 := ⟨_, rfl⟩
  rw [← hm] at hW hz
  have HX := hide (And.intro hWb (And.intro hWl (And.intro hz hT)))
  have hm2 : m ≤ 1000 := by omega
  have hm1 : 0 < m := by omega
  have ha1 : a / 64 < m := by omega
  clear hm hz hWb hR hWl hT
  obtain ⟨g, cap, rfl, hg, hc⟩ := hW.lay hm1
  go_enter Tryz.func25, Tryz.ntmps25
  go_wp2_with fail
  go_loopg [5, 6] m (fun k c x w' => ∃ i : Nat, c = .int .i64 (i : Nat) ∧ i + k = m + a / 64 ∧ a / 64 ≤ i ∧ i ≤ m ∧ w' = w ∧ Hid (∀ p, a ≤ p → p < i * 64 → ¬ R p))
  case atStart => exact ⟨a / 64, by simp, by omega, Nat.le_refl _, by omega, rfl, fun p h1 h2 => by omega⟩
  case round =>
    obtain ⟨i, rfl, hik, hai, him, rfl, HU⟩ := hrel
    by_cases hi : i < m
    · have hii : (i : Int) < (m : Int) := by omega
      have c1 := hW.cell hi
      have hwj := HX.out.2.1 i
      have HN := hide (fun h0 => first_none HX.out.1 hai HU.out h0)
      have HF := hide (fun h0 => first_here HX.out.2.1 HX.out.1 hai HU.out h0)
      have hyl := fromW_lt HX.out.2.1 a i
      by_cases hia : i = a / 64
      · have hy : fromW W a i = cutB (W i) (a % 64) := by unfold fromW; rw [if_pos hia]
        have hk : a % 64 < 64 := by omega
        have hcut := cutB_run (W i) (a % 64) hk hwj
        have hwp : IntKind.u64.wrap ((2 : Int) ^ (a % 64)) = (2 : Int) ^ (a % 64) := by rw [wrap_pow hk]; simp
        have hwq : IntKind.u64.wrap ((2 : Int) ^ (a % 64) - 1) = (2 : Int) ^ (a % 64) - 1 := by
          have h0 : 0 < 2 ^ (a % 64) := Nat.two_pow_pos _
          have hp := two_pow_lt hk
          have e : ((2 : Int) ^ (a % 64)) = ((2 ^ (a % 64) : Nat) : Int) := by simp
          rw [e, IntKind.wrap_u64]
          omega
        rw [← hy] at hcut
        have hie : ((i : Int) == (a : Int) / 64) = true := by simp; omega
        have HY := hide hia
        clear hia hy
        generalize fromW W a i = y at *
        by_cases hy0 : y = 0
        · subst hy0
          go_wp2_with fail
          go_roundg (gk - 1)
          case measure => omega
          case rel => exact ⟨i + 1, by go_num, by omega, by omega, by omega, rfl, HN.out trivial⟩
        · have hd : ((y : Int) == 0) = false := by simp; omega
          have hd2 : ((y : Int) != 0) = true := by simp; omega
          have HL := hide (tz64_any y hyl hy0 wr HX.out.2.2.2)
          have HF1 := hide (HF.out hy0)
          have hct := (ctz_bit y hyl hy0).1
          generalize Lib.ctz 64 y = t at *
          clear HF HN
          go_wp2_with fail
          refine HL.out.mono ?_
          rintro e w1 ⟨rfl, rfl⟩
          go_wp2_with fail
          go_ret
          exact ⟨((i * 64 + t : Nat) : Int), by simp, HF1.out, rfl⟩
      · have hy : fromW W a i = W i := by unfold fromW; rw [if_neg hia]
        rw [hy] at HN HF hyl
        have hie : ((i : Int) == (a : Int) / 64) = false := by simp; omega
        generalize W i = y at *
        by_cases hy0 : y = 0
        · subst hy0
          go_wp2_with fail
          go_roundg (gk - 1)
          case measure => omega
          case rel => exact ⟨i + 1, by go_num, by omega, by omega, by omega, rfl, HN.out trivial⟩
        · have hd : ((y : Int) == 0) = false := by simp; omega
          have hd2 : ((y : Int) != 0) = true := by simp; omega
          have HL := hide (tz64_any y hyl hy0 wr HX.out.2.2.2)
          have HF1 := hide (HF.out hy0)
          have hct := (ctz_bit y hyl hy0).1
          generalize Lib.ctz 64 y = t at *
          clear HF HN
          go_wp2_with fail
          refine HL.out.mono ?_
          rintro e w1 ⟨rfl, rfl⟩
          go_wp2_with fail
          go_ret
          exact ⟨((i * 64 + t : Nat) : Int), by simp, HF1.out, rfl⟩
    · go_wp2_with fail
      go_ret
      refine ⟨-1, rfl, .inl ⟨rfl, fun p hp hr => ?_⟩, rfl⟩
      by_cases hpi : p < i * 64
      · exact HU.out p hp hpi hr
      · have := (HX.out.1 p).2 hr
        rw [HX.out.2.2.1 _ (by omega)] at this
        simp at this
end Go.Proofs.YtpnecblofjpgfaaGreatDoor
