import Derived.Test.YtpnecblofjpgfaaGreatDoorRefN
namespace Go.Proofs.YtpnecblofjpgfaaGreatDoor

/-- k steps of a relation. -/
def It (A : Nat → Nat → Prop) : Nat → Nat → Nat → Prop
  | 0, p, q => p = q
  | k + 1, p, q => ∃ r, A p r ∧ It A k r q

section
variable {A : Nat → Nat → Prop} {mn mx : Int} {N : Nat}
theorem It.snoc : ∀ (k : Nat) (p r q : Nat), It A k p r → A r q → It A (k + 1) p q
  | 0, p, r, q, h, ha => by cases h; exact ⟨q, ha, rfl⟩
  | k + 1, p, r, q, ⟨t, h1, h2⟩, ha => ⟨t, h1, It.snoc k t r q h2 ha⟩
theorem It.unsnoc : ∀ (k : Nat) (p q : Nat), It A (k + 1) p q → ∃ r, It A k p r ∧ A r q
  | 0, p, q, ⟨t, h1, h2⟩ => by cases h2; exact ⟨p, rfl, h1⟩
  | k + 1, p, q, ⟨t, h1, h2⟩ => by
    obtain ⟨r, h3, h4⟩ := It.unsnoc k t q h2
    exact ⟨r, ⟨t, h1, h3⟩, h4⟩
/-- The same steps the other way round. -/
theorem It.rev : ∀ (k : Nat) (p q : Nat), It (fun a b => A b a) k q p ↔ It A k p q
  | 0, p, q => ⟨fun h => h.symm, fun h => h.symm⟩
  | k + 1, p, q => by
    constructor
    · rintro ⟨r, h1, h2⟩
      exact It.snoc k p r q ((It.rev k p r).1 h2) h1
    · intro h
      obtain ⟨r, h1, h2⟩ := It.unsnoc k p q h
      exact ⟨r, h2, (It.rev k p r).2 h1⟩
theorem Copies.it (hm : mx < 0 ∨ mn ≤ mx) {n p q : Nat} (h : Copies A mn mx n p q) : (mx < 0 ∨ (n : Int) ≤ mx) → ∃ k : Nat, It A k p q ∧ mn ≤ n + k ∧ (mx < 0 ∨ (n : Int) + k ≤ mx) := by
  induction h with
  | stop h => intro hn; exact ⟨0, rfl, by omega, by omega⟩
  | @more n p r q hc ha _ _ ih =>
    intro hn
    obtain ⟨k, h1, h2, h3⟩ := ih (by omega)
    exact ⟨k + 1, ⟨r, ha, h1⟩, by omega, by omega⟩
theorem It.copies (hA : ∀ p q, p ≤ N → A p q → p ≤ q ∧ q ≤ N) : ∀ (k n p q : Nat), p ≤ N → It A k p q → mn ≤ n + k → (mx < 0 ∨ (n : Int) + k ≤ mx) → Copies A mn mx n p q
  | 0, n, p, q, _, h, h1, _ => by cases h; exact .stop (by omega)
  | k + 1, n, p, q, hp, ⟨r, ha, hi⟩, h1, h2 => by
    have hb := hA p r hp ha
    by_cases hc : p < r ∨ (n : Int) < mn
    · exact .more (by omega) ha hc (It.copies hA k (n + 1) r q hb.2 hi (by omega) (by omega))
    · have : r = p := by omega
      subst this
      exact It.copies hA k n r q hp hi (by omega) (by omega)
theorem copies_iff (hA : ∀ p q, p ≤ N → A p q → p ≤ q ∧ q ≤ N) (hm : mx < 0 ∨ mn ≤ mx) {n p q : Nat} (hn : mx < 0 ∨ (n : Int) ≤ mx) (hp : p ≤ N) : Copies A mn mx n p q ↔ ∃ k : Nat, It A k p q ∧ mn ≤ n + k ∧ (mx < 0 ∨ (n : Int) + k ≤ mx) :=
  ⟨fun h => h.it hm hn, fun ⟨k, h1, h2, h3⟩ => It.copies hA k n p q hp h1 h2 h3⟩

/-- What one step reaches from a set. -/
def stepR (A : Nat → Nat → Prop) (S : Nat → Prop) : Nat → Prop := fun q => ∃ p, S p ∧ A p q
/-- What k steps reach. -/
def itS (A : Nat → Nat → Prop) (S : Nat → Prop) : Nat → Nat → Prop
  | 0 => S
  | k + 1 => stepR A (itS A S k)
theorem itS_it (S : Nat → Prop) : ∀ (k q : Nat), itS A S k q ↔ ∃ p, S p ∧ It A k p q
  | 0, q => ⟨fun h => ⟨q, h, rfl⟩, fun ⟨p, h, e⟩ => by cases e; exact h⟩
  | k + 1, q => by
    constructor
    · rintro ⟨r, h1, h2⟩
      obtain ⟨p, h3, h4⟩ := (itS_it S k r).1 h1
      exact ⟨p, h3, It.snoc k p r q h4 h2⟩
    · rintro ⟨p, h1, h2⟩
      obtain ⟨r, h3, h4⟩ := It.unsnoc k p q h2
      exact ⟨r, (itS_it S k r).2 ⟨p, h1, h3⟩, h4⟩
/-- A set that a step does not change is not changed by more. -/
theorem itS_fix {S : Nat → Prop} (h : ∀ q, stepR A S q ↔ S q) : ∀ (k q : Nat), itS A S k q ↔ S q
  | 0, q => Iff.rfl
  | k + 1, q => by
    rw [← h q]
    constructor
    · rintro ⟨r, h1, h2⟩; exact ⟨r, (itS_fix h k r).1 h1, h2⟩
    · rintro ⟨r, h1, h2⟩; exact ⟨r, (itS_fix h k r).2 h1, h2⟩
theorem itS_add (S : Nat → Prop) : ∀ (j k q : Nat), itS A (itS A S j) k q ↔ itS A S (j + k) q
  | _, 0, _ => Iff.rfl
  | j, k + 1, q => by
    constructor
    · rintro ⟨r, h1, h2⟩; exact ⟨r, (itS_add S j k r).1 h1, h2⟩
    · rintro ⟨r, h1, h2⟩; exact ⟨r, (itS_add S j k r).2 h1, h2⟩
/-- The sets that are reached in at most j steps, and those that the last step came to first. -/
structure Front (A : Nat → Nat → Prop) (S : Nat → Prop) (j : Nat) (F R : Nat → Prop) : Prop where
  all : ∀ q, R q ↔ ∃ i, i ≤ j ∧ itS A S i q
  sub : ∀ q, F q → R q
  old : ∀ r q, R r → ¬ F r → A r q → R q
theorem Front.zero (S : Nat → Prop) : Front A S 0 S S :=
  ⟨fun q => ⟨fun h => ⟨0, Nat.le_refl _, h⟩, fun ⟨i, hi, h⟩ => by obtain rfl : i = 0 := by omega
                                                                  exact h⟩, fun _ h => h, fun _ _ h k => absurd h k⟩
theorem Front.next {S F R : Nat → Prop} {j : Nat} (h : Front A S j F R) : Front A S (j + 1) (fun q => stepR A F q ∧ ¬ R q) (fun q => R q ∨ (stepR A F q ∧ ¬ R q)) := by
  have reach : ∀ r q, R r → A r q → R q ∨ (stepR A F q ∧ ¬ R q) := fun r q hr ha => by
    by_cases hq : R q
    · exact .inl hq
    · by_cases hf : F r
      · exact .inr ⟨⟨r, hf, ha⟩, hq⟩
      · exact .inl (h.old r q hr hf ha)
  refine ⟨fun q => ⟨?_, ?_⟩, fun q hq => .inr hq, fun r q hr hf ha => ?_⟩
  · rintro (hq | ⟨⟨p, hp, ha⟩, _⟩)
    · obtain ⟨i, hi, hx⟩ := (h.all q).1 hq
      exact ⟨i, by omega, hx⟩
    · obtain ⟨i, hi, hx⟩ := (h.all p).1 (h.sub p hp)
      exact ⟨i + 1, by omega, p, hx, ha⟩
  · rintro ⟨i, hi, hx⟩
    cases i with
    | zero => exact .inl ((h.all q).2 ⟨0, Nat.zero_le _, hx⟩)
    | succ i =>
      obtain ⟨r, hr, ha⟩ := hx
      exact reach r q ((h.all r).2 ⟨i, by omega, hr⟩) ha
  · rcases hr with hr | hr
    · exact reach r q hr ha
    · exact absurd hr hf
/-- Nothing new: nothing more is reached. -/
theorem Front.done {S F R : Nat → Prop} {j : Nat} (h : Front A S j F R) (he : ∀ q, ¬ F q) : ∀ (i q : Nat), itS A S i q → R q
  | 0, q, hq => (h.all q).2 ⟨0, Nat.zero_le _, hq⟩
  | i + 1, q, ⟨r, hr, ha⟩ => h.old r q (Front.done h he i r hr) (he r) ha
/-- What the copies of a part reach from a set, n of them being made already. -/
def copiesS (A : Nat → Nat → Prop) (mn mx : Int) (n : Nat) (S : Nat → Prop) (q : Nat) : Prop := ∃ k : Nat, itS A S k q ∧ mn ≤ n + k ∧ (mx < 0 ∨ (n : Int) + k ≤ mx)
theorem copies_fix {S : Nat → Prop} {n i : Nat} (hm : mx < 0 ∨ mn ≤ mx) (hn : (n : Int) + i < mn) (hf : ∀ q, stepR A (itS A S i) q ↔ itS A S i q) (q : Nat) : copiesS A mn mx n S q ↔ itS A S i q := by
  have same : ∀ k, i ≤ k → (itS A S k q ↔ itS A S i q) := fun k hk => by
    obtain ⟨d, rfl⟩ : ∃ d, k = i + d := ⟨k - i, by omega⟩
    rw [← itS_add]
    exact itS_fix hf d q
  constructor
  · rintro ⟨k, h1, h2, _⟩
    exact (same k (by omega)).1 h1
  · intro h
    exact ⟨(mn - n).toNat, (same _ (by omega)).2 h, by omega, by omega⟩
theorem copies_end {S F R : Nat → Prop} {n i j : Nat} (hi : mn ≤ (n : Int) + i) (hl : i = 0 ∨ (n : Int) + i = mn) (hx : mx < 0 ∨ (n : Int) + i + j ≤ mx) (h : Front A (itS A S i) j F R) (he : (n : Int) + i + j = mx ∨ ∀ q, ¬ F q) (q : Nat) : copiesS A mn mx n S q ↔ R q := by
  constructor
  · rintro ⟨k, h1, h2, h3⟩
    obtain ⟨d, rfl⟩ : ∃ d, k = i + d := ⟨k - i, by omega⟩
    rw [← itS_add] at h1
    rcases he with he | he
    · exact (h.all q).2 ⟨d, by omega, h1⟩
    · exact h.done he d q h1
  · intro hr
    obtain ⟨d, hd, hx2⟩ := (h.all q).1 hr
    rw [itS_add] at hx2
    exact ⟨i + d, hx2, by omega, by omega⟩
/-- From a set of places: where the copies may end. -/
theorem copiesS_ends (hA : ∀ p q, p ≤ N → A p q → p ≤ q ∧ q ≤ N) (hm : mx < 0 ∨ mn ≤ mx) {n : Nat} (hn : mx < 0 ∨ (n : Int) ≤ mx) {S : Nat → Prop} (hS : ∀ p, S p → p ≤ N) (q : Nat) : copiesS A mn mx n S q ↔ ∃ p, S p ∧ Copies A mn mx n p q := by
  constructor
  · rintro ⟨k, h1, h2, h3⟩
    obtain ⟨p, hp, hi⟩ := (itS_it S k q).1 h1
    exact ⟨p, hp, It.copies hA k n p q (hS p hp) hi h2 h3⟩
  · rintro ⟨p, hp, hc⟩
    obtain ⟨k, h1, h2, h3⟩ := hc.it hm hn
    exact ⟨k, (itS_it S k q).2 ⟨p, hp, h1⟩, h2, h3⟩
/-- .. and, the other way round, where they may begin. -/
theorem copiesS_begins (hA : ∀ p q, p ≤ N → A p q → p ≤ q ∧ q ≤ N) (hm : mx < 0 ∨ mn ≤ mx) {n : Nat} (hn : mx < 0 ∨ (n : Int) ≤ mx) {S : Nat → Prop} {p : Nat} (hp : p ≤ N) : copiesS (fun a b => A b a) mn mx n S p ↔ ∃ q, S q ∧ Copies A mn mx n p q := by
  constructor
  · rintro ⟨k, h1, h2, h3⟩
    obtain ⟨q, hq, hi⟩ := (itS_it S k p).1 h1
    exact ⟨q, hq, It.copies hA k n p q hp ((It.rev k p q).1 hi) h2 h3⟩
  · rintro ⟨q, hq, hc⟩
    obtain ⟨k, h1, h2, h3⟩ := hc.it hm hn
    exact ⟨k, (itS_it S k p).2 ⟨q, hq, (It.rev k p q).2 h1⟩, h2, h3⟩
end
end Go.Proofs.YtpnecblofjpgfaaGreatDoor
