import Derived.Test.YtjlgccfibkcgbaaProY
import Derived.Laws.BitsAllLaws
namespace Go.Proofs.Ytjlgccfibkcgbaa
open Go.RowKit

/-- The places of a set below a number, the greatest first. -/
def down (F : Nat → Bool) : Nat → List Nat
  | 0 => []
  | n + 1 => if F n then n :: down F n else down F n

theorem mem_down (F : Nat → Bool) : ∀ (n q : Nat), q ∈ down F n ↔ q < n ∧ F q = true
  | 0, q => by simp [down]
  | n + 1, q => by
    rw [down]
    split
    · next h =>
      rw [List.mem_cons, mem_down F n q]
      constructor
      · rintro (rfl | ⟨h1, h2⟩)
        · exact ⟨by omega, h⟩
        · exact ⟨by omega, h2⟩
      · rintro ⟨h1, h2⟩
        by_cases hq : q = n
        · exact .inl hq
        · exact .inr ⟨by omega, h2⟩
    · next h =>
      rw [mem_down F n q]
      constructor
      · rintro ⟨h1, h2⟩; exact ⟨by omega, h2⟩
      · rintro ⟨h1, h2⟩
        refine ⟨?_, h2⟩
        by_cases hq : q = n
        · subst hq; exact absurd h2 h
        · omega

/-- The places from the top down to the greatest of a word: what is left of it comes next. -/
theorem down_top (F : Nat → Bool) {n m : Nat} (hm : m < n) (hF : F m = true) (hu : ∀ q, m < q → q < n → F q = false) : down F n = m :: down F m := by
  induction n with
  | zero => omega
  | succ n ih =>
    rw [down]
    by_cases h : n = m
    · subst h; rw [if_pos hF]
    · rw [if_neg (by rw [hu n (by omega) (by omega)]; simp)]
      exact ih (by omega) (fun q h1 h2 => hu q h1 (by omega))

theorem down_skip (F : Nat → Bool) {n m : Nat} (hm : m ≤ n) (hu : ∀ q, m ≤ q → q < n → F q = false) : down F n = down F m := by
  induction n with
  | zero => rw [show m = 0 from by omega]
  | succ n ih =>
    by_cases h : m = n + 1
    · rw [h]
    · rw [down, if_neg (by rw [hu n (by omega) (by omega)]; simp)]
      exact ih (by omega) (fun q h1 h2 => hu q h1 (by omega))

theorem down_len (F : Nat → Bool) : ∀ n, (down F n).length ≤ n
  | 0 => by simp [down]
  | n + 1 => by
    have := down_len F n
    rw [down]; split
    · simp; omega
    · omega

theorem bitLen_log2 (x : Nat) (h : x < 18446744073709551616) (h0 : x ≠ 0) : Lib.bitLen x = x.log2 + 1 := by
  induction x using Nat.strongRecOn with
  | _ x ih =>
    rw [Lib.bitLen_half x h0 (by omega), Nat.log2_def]
    by_cases h2 : 2 ≤ x
    · rw [if_pos h2, ih (x / 2) (by omega) (by omega) (by omega)]; omega
    · have : x = 1 := by omega
      subst this
      decide

theorem top_bit {x : Nat} (h0 : x ≠ 0) : x.testBit x.log2 = true ∧ ∀ k, x.log2 < k → x.testBit k = false := by
  refine ⟨Nat.testBit_log2 h0, fun k hk => ?_⟩
  apply Nat.testBit_lt_two_pow
  exact Nat.lt_of_lt_of_le Nat.lt_log2_self (Nat.pow_le_pow_right (by omega) (by omega))

/-- A word without one of its bits. -/
def clearB (x t : Nat) : Nat := x &&& (18446744073709551615 - 2 ^ t)

theorem clearB_bit {x t : Nat} (ht : t < 64) (hx : x < 18446744073709551616) (k : Nat) : (clearB x t).testBit k = (x.testBit k && !decide (k = t)) := by
  have h1 := Nat.testBit_two_pow_sub_succ (n := 64) (x := 2 ^ t) (by have := two_pow_lt ht; omega) k
  rw [show 2 ^ 64 - (2 ^ t + 1) = 18446744073709551615 - 2 ^ t from by omega] at h1
  rw [clearB, Nat.testBit_and, h1, Nat.testBit_two_pow]
  by_cases hk : k < 64
  · have : decide (k < 64) = true := by simp [hk]
    rw [this, Bool.true_and]
    congr 2
    rw [Bool.eq_iff_iff]; simp; omega
  · have : x.testBit k = false := Nat.testBit_lt_two_pow (Nat.lt_of_lt_of_le (show x < 2 ^ 64 by omega) (Nat.pow_le_pow_right (by omega) (by omega)))
    rw [this]; simp

theorem clearB_lt {x t : Nat} (hx : x < 18446744073709551616) : clearB x t < 18446744073709551616 := Nat.lt_of_le_of_lt Nat.and_le_left hx

theorem clearB_small {x t : Nat} (ht : t < 64) (hx : x < 18446744073709551616) (hb : x.testBit t = true) : clearB x t < x := by
  have h1 : clearB x t ≤ x := Nat.and_le_left
  have h2 : clearB x t ≠ x := by
    intro e
    have := clearB_bit ht hx t
    rw [e, hb] at this
    simp at this
  omega

theorem clearB_run (x t : Nat) (ht : t < 64) (hx : x < 18446744073709551616) : bits .andNot .u64 (x : Int) ((2 : Int) ^ t) = ((clearB x t : Nat) : Int) := by
  have := u64_andNot_nat x (2 ^ t) hx (two_pow_lt ht)
  rw [clearB, ← this]; simp

end Go.Proofs.Ytjlgccfibkcgbaa
