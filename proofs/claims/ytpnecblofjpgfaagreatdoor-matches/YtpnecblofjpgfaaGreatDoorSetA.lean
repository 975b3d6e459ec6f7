import Derived.WalkKit
namespace Go.Proofs.YtpnecblofjpgfaaGreatDoor

/-- Words of 64 bits that hold a set of places. -/
def HoldsP (W : Nat → Nat) (M : Nat → Bool) : Prop := (∀ j, W j < 18446744073709551616) ∧ ∀ p, (W (p / 64)).testBit (p % 64) = M p

section
variable {W V : Nat → Nat} {M N : Nat → Bool}
theorem pow64 : (18446744073709551616 : Nat) = 2 ^ 64 := by decide
theorem HoldsP.and (h : HoldsP W M) (k : HoldsP V N) : HoldsP (fun j => W j &&& V j) (fun p => M p && N p) :=
  ⟨fun j => Nat.lt_of_le_of_lt Nat.and_le_left (h.1 j), fun p => by rw [Nat.testBit_and, h.2, k.2]⟩
theorem HoldsP.or (h : HoldsP W M) (k : HoldsP V N) : HoldsP (fun j => W j ||| V j) (fun p => M p || N p) :=
  ⟨fun j => by have h1 := h.1 j; have h2 := k.1 j; rw [pow64] at h1 h2 ⊢; exact Nat.or_lt_two_pow h1 h2, fun p => by rw [Nat.testBit_or, h.2, k.2]⟩
theorem not_bit {x k : Nat} (hx : x < 18446744073709551616) (hk : k < 64) : (18446744073709551615 - x).testBit k = !x.testBit k := by
  have h := Nat.testBit_two_pow_sub_succ (x := x) (n := 64) (by simpa using hx) k
  have e : 2 ^ 64 - (x + 1) = 18446744073709551615 - x := by have : (2 : Nat) ^ 64 = 18446744073709551616 := by decide
                                                             omega
  rw [e] at h
  rw [h]
  simp [hk]
theorem HoldsP.without (h : HoldsP W M) (k : HoldsP V N) : HoldsP (fun j => W j &&& (18446744073709551615 - V j)) (fun p => M p && !N p) :=
  ⟨fun j => Nat.lt_of_le_of_lt Nat.and_le_left (h.1 j), fun p => by rw [Nat.testBit_and, not_bit (k.1 _) (by omega), h.2, k.2]⟩
theorem HoldsP.none : HoldsP (fun _ => 0) (fun _ => false) := ⟨fun _ => (by decide : (0 : Nat) < 18446744073709551616), fun p => by simp⟩
theorem HoldsP.one (q : Nat) : HoldsP (fun j => if j = q / 64 then 2 ^ (q % 64) else 0) (fun p => decide (p = q)) := by
  refine ⟨fun j => ?_, fun p => ?_⟩
  · dsimp only
    split
    · rw [pow64]; exact Nat.pow_lt_pow_right (by decide) (by omega)
    · decide
  · dsimp only
    split
    · next h =>
      rw [Nat.testBit_two_pow]
      apply decide_eq_decide.2
      omega
    · next h =>
      rw [Nat.zero_testBit]
      have : p ≠ q := fun e => h (by rw [e])
      simp [this]
/-- The places right behind. -/
theorem HoldsP.later (h : HoldsP W M) : HoldsP (fun j => (W j <<< 1) % 18446744073709551616 ||| (if j = 0 then 0 else W (j - 1) >>> 63)) (fun p => decide (0 < p) && M (p - 1)) := by
  refine ⟨fun j => ?_, fun p => ?_⟩
  · have h1 : (W j <<< 1) % 18446744073709551616 < 2 ^ 64 := by rw [← pow64]; exact Nat.mod_lt _ (by decide)
    have h2 : (if j = 0 then 0 else W (j - 1) >>> 63) < 2 ^ 64 := by
      split
      · decide
      · have := h.1 (j - 1); rw [pow64] at this; exact Nat.lt_of_le_of_lt (Nat.shiftRight_le _ _) this
    rw [pow64]
    exact Nat.or_lt_two_pow h1 h2
  · rw [Nat.testBit_or, pow64, Nat.testBit_mod_two_pow, Nat.testBit_shiftLeft]
    by_cases h0 : p % 64 = 0
    · rw [h0]
      have e1 : decide (0 ≥ 1) = false := by decide
      rw [e1]
      simp only [Bool.false_and, Bool.and_false, Bool.false_or]
      by_cases hp : p = 0
      · subst hp; simp
      · have hj : p / 64 ≠ 0 := by omega
        rw [if_neg hj, Nat.testBit_shiftRight]
        have e2 : p / 64 - 1 = (p - 1) / 64 := by omega
        have e3 : 63 + 0 = (p - 1) % 64 := by omega
        rw [e2, e3, h.2]
        have : decide (0 < p) = true := by simp; omega
        rw [this]; simp
    · have e1 : decide (p % 64 ≥ 1) = true := by simp; omega
      have e2 : decide (p % 64 < 64) = true := by simp; omega
      have e3 : p % 64 - 1 = (p - 1) % 64 := by omega
      have e4 : p / 64 = (p - 1) / 64 := by omega
      rw [e1, e2]
      simp only [Bool.true_and]
      have h9 : (if p / 64 = 0 then 0 else W (p / 64 - 1) >>> 63).testBit (p % 64) = false := by
        split
        · simp
        · rw [Nat.testBit_shiftRight]
          apply Nat.testBit_lt_two_pow
          have := h.1 (p / 64 - 1)
          rw [pow64] at this
          exact Nat.lt_of_lt_of_le this (Nat.pow_le_pow_right (by decide) (by omega))
      rw [h9, Bool.or_false, e3]
      conv => lhs; rw [e4]
      rw [h.2]
      have : decide (0 < p) = true := by simp; omega
      rw [this]; simp
/-- The places right ahead. -/
theorem HoldsP.earlier (h : HoldsP W M) : HoldsP (fun j => W j >>> 1 ||| (W (j + 1) <<< 63) % 18446744073709551616) (fun p => M (p + 1)) := by
  refine ⟨fun j => ?_, fun p => ?_⟩
  · have h1 : (W (j + 1) <<< 63) % 18446744073709551616 < 2 ^ 64 := by rw [← pow64]; exact Nat.mod_lt _ (by decide)
    have h2 : W j >>> 1 < 2 ^ 64 := by have := h.1 j; rw [pow64] at this; exact Nat.lt_of_le_of_lt (Nat.shiftRight_le _ _) this
    rw [pow64]
    exact Nat.or_lt_two_pow h2 h1
  · rw [Nat.testBit_or, Nat.testBit_shiftRight, pow64, Nat.testBit_mod_two_pow, Nat.testBit_shiftLeft]
    by_cases h0 : p % 64 = 63
    · have e1 : (p + 1) / 64 = p / 64 + 1 := by omega
      have e2 : (p + 1) % 64 = 0 := by omega
      have h3 : (W (p / 64)).testBit (1 + p % 64) = false := by
        apply Nat.testBit_lt_two_pow
        have := h.1 (p / 64)
        rw [pow64] at this
        exact Nat.lt_of_lt_of_le this (Nat.pow_le_pow_right (by decide) (by omega))
      rw [h3, h0]
      have := h.2 (p + 1)
      rw [e1, e2] at this
      simpa using this
    · have e1 : (p + 1) / 64 = p / 64 := by omega
      have e2 : (p + 1) % 64 = 1 + p % 64 := by omega
      have e3 : decide (p % 64 ≥ 63) = false := by simp; omega
      rw [e3]
      have := h.2 (p + 1)
      rw [e1, e2] at this
      simpa using this
theorem HoldsP.zero (h : HoldsP W M) {j : Nat} (hz : W j = 0) {p : Nat} (hp : p / 64 = j) : M p = false := by
  rw [← h.2 p, hp, hz, Nat.zero_testBit]
/-- The greatest place of words. -/
theorem HoldsP.top (h : HoldsP W M) {i : Nat} (hi : W i ≠ 0) (hz : ∀ j, i < j → W j = 0) : (W i).log2 < 64 ∧ M (i * 64 + (W i).log2) = true ∧ ∀ p, i * 64 + (W i).log2 < p → M p = false := by
  have hl : (W i).log2 < 64 := by
    rw [Nat.log2_lt hi, ← pow64]
    exact h.1 i
  refine ⟨hl, ?_, fun p hp => ?_⟩
  · rw [← h.2]
    have e1 : (i * 64 + (W i).log2) / 64 = i := by omega
    have e2 : (i * 64 + (W i).log2) % 64 = (W i).log2 := by omega
    rw [e1, e2]
    exact Nat.testBit_log2 hi
  · by_cases hc : p / 64 = i
    · rw [← h.2, hc]
      apply Nat.testBit_lt_two_pow
      exact Nat.lt_of_lt_of_le Nat.lt_log2_self (Nat.pow_le_pow_right (by decide) (by omega))
    · exact h.zero (hz (p / 64) (by omega)) rfl
/-- All places up to n. -/
theorem HoldsP.all (n : Nat) : HoldsP (fun j => if j < n / 64 then 18446744073709551615 else if j = n / 64 then 18446744073709551615 >>> (63 - n % 64) else 0) (fun p => decide (p ≤ n)) := by
  have ones : ∀ k, (18446744073709551615 : Nat).testBit k = decide (k < 64) := fun k => by
    have : (18446744073709551615 : Nat) = 2 ^ 64 - 1 := by decide
    rw [this, Nat.testBit_two_pow_sub_one]
  refine ⟨fun j => ?_, fun p => ?_⟩
  · dsimp only
    split
    · decide
    · split
      · exact Nat.lt_of_le_of_lt (Nat.shiftRight_le _ _) (by decide)
      · decide
  · dsimp only
    split
    · rw [ones]
      apply decide_eq_decide.2
      omega
    · split
      · rw [Nat.testBit_shiftRight, ones]
        apply decide_eq_decide.2
        omega
      · rw [Nat.zero_testBit]
        symm
        rw [decide_eq_false_iff_not]
        omega
end
end Go.Proofs.YtpnecblofjpgfaaGreatDoor
