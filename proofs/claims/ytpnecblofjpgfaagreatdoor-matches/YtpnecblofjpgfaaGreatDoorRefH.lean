import Derived.Test.YtpnecblofjpgfaaGreatDoorRefG
namespace Go.Proofs.YtpnecblofjpgfaaGreatDoor
open Go.RowKit

/-- A reader goes forward, within its text; the groups are at most nine. -/
def Fwd (s : ByteArray) (st st' : St) : Prop := st.i ≤ st'.i ∧ st'.i ≤ s.size ∧ (st.g ≤ 9 → st'.g ≤ 9)

theorem Fwd.refl {s : ByteArray} {st : St} (h : st.i ≤ s.size) : Fwd s st st := ⟨Nat.le_refl _, h, id⟩
theorem Fwd.trans {s : ByteArray} {a b c : St} (h : Fwd s a b) (k : Fwd s b c) : Fwd s a c := ⟨Nat.le_trans h.1 k.1, k.2.1, fun x => k.2.2 (h.2.2 x)⟩
theorem Fwd.adv {s : ByteArray} {st : St} (h : st.i < s.size) : Fwd s st (adv st) := ⟨by simp [Go.Proofs.YtpnecblofjpgfaaGreatDoor.adv], by simp [Go.Proofs.YtpnecblofjpgfaaGreatDoor.adv]; omega, id⟩
theorem Fwd.spoil {s : ByteArray} {st : St} (h : st.i ≤ s.size) : Fwd s st (spoil st) := ⟨Nat.le_refl _, h, id⟩
theorem Fwd.eatIf {s : ByteArray} {st : St} (c : Int) (h : st.i ≤ s.size) : Fwd s st (eatIf s c st) := ⟨eatIf_ge s c st, eatIf_le s c st h, fun x => by rw [eatIf_g]; exact x⟩
theorem Fwd.digit {s : ByteArray} {st : St} (lo : Int) (h : st.i ≤ s.size) : Fwd s st (digitS s lo st).2 := ⟨digit_ge s lo st, digit_le s lo st h, fun x => by rw [digit_g]; exact x⟩
theorem item_ge (s : ByteArray) (st : St) : st.i ≤ (itemS s st).2.i := by rcases item_cases s st with h | h <;> omega
theorem Fwd.item {s : ByteArray} {st : St} (h : st.i ≤ s.size) : Fwd s st (itemS s st).2 := ⟨item_ge s st, item_le s st h, fun x => by rw [item_g]; exact x⟩

theorem Fwd.setLoop {s : ByteArray} : ∀ (n : Nat) (ps : ByteArray) (st : St), st.i ≤ s.size → Fwd s st (setLoop s n ps st).2
  | 0, _, _, h => Fwd.refl h
  | n + 1, ps, st, h => by
    rw [Go.Proofs.YtpnecblofjpgfaaGreatDoor.setLoop]
    split
    · exact (Fwd.item h).trans (Fwd.setLoop n _ _ (item_le s st h))
    · exact Fwd.refl h

theorem Fwd.set {s : ByteArray} {st : St} (n : Nat) (h : st.i ≤ s.size) : Fwd s st (setS s n st).2 := by
  unfold setS
  simp only []
  cases hn : isB s st 94
  · simp only [Bool.false_eq_true, if_false]
    exact (Fwd.setLoop n _ _ h).trans (Fwd.eatIf _ (Fwd.setLoop n _ _ h).2.1)
  · simp only [if_true]
    have h1 := Fwd.adv (peekOk_lt (isB_ok hn))
    have h2 := Fwd.setLoop n ⟨#[]⟩ (Go.Proofs.YtpnecblofjpgfaaGreatDoor.adv st) h1.2.1
    exact (h1.trans h2).trans (Fwd.eatIf _ h2.2.1)

theorem Fwd.bounds {s : ByteArray} {st : St} (h : st.i ≤ s.size) : Fwd s st (boundsS s st).2 := by
  have h1 := Fwd.digit (st := st) 48 h
  unfold boundsS
  split
  · next hc =>
    have h2 := Fwd.adv (peekOk_lt (isB_ok hc.2))
    split
    · have h3 := Fwd.eatIf 92 h2.2.1
      exact ((h1.trans h2).trans h3).trans (Fwd.eatIf 125 h3.2.1)
    · have h4 := Fwd.digit (48 + (digitS s 48 st).1) h2.2.1
      have h3 := Fwd.eatIf 92 h4.2.1
      exact (((h1.trans h2).trans h4).trans h3).trans (Fwd.eatIf 125 h3.2.1)
  · have h3 := Fwd.eatIf 92 h1.2.1
    exact (h1.trans h3).trans (Fwd.eatIf 125 h3.2.1)

theorem isEsc_lt {s : ByteArray} {st : St} {c : Int} (h : isEsc s st c = true) : st.i + 1 < s.size := by
  unfold isEsc at h
  by_cases hl : st.i + 1 < s.size
  · exact hl
  · simp [hl] at h

theorem isEsc_bad {s : ByteArray} {st : St} {c : Int} (h : isEsc s st c = true) : st.bad = false := by
  unfold isEsc at h
  cases hb : st.bad
  · rfl
  · simp [hb] at h

theorem Fwd.adv2 {s : ByteArray} {st : St} (h : st.i + 1 < s.size) : Fwd s st (Go.Proofs.YtpnecblofjpgfaaGreatDoor.adv (Go.Proofs.YtpnecblofjpgfaaGreatDoor.adv st)) :=
  (Fwd.adv (by omega)).trans (Fwd.adv (by simp [Go.Proofs.YtpnecblofjpgfaaGreatDoor.adv]; omega))

theorem Fwd.count {s : ByteArray} {r : Part × St} (h : r.2.i ≤ s.size) : Fwd s r.2 (countS s r).2 := by
  unfold countS
  split
  · exact Fwd.refl h
  · split
    · next hc => exact Fwd.adv (peekOk_lt (isB_ok hc))
    · split
      · next hc => exact (Fwd.adv2 (isEsc_lt hc)).trans (Fwd.bounds (Fwd.adv2 (isEsc_lt hc)).2.1)
      · exact Fwd.refl h

theorem fwd_all (s : ByteArray) (n : Nat) :
    (∀ st, st.i ≤ s.size → Fwd s st (partS s n st).2 ∧ ((partS s n st).2.bad = true ∨ st.i < (partS s n st).2.i)) ∧
    (∀ st, st.i ≤ s.size → Fwd s st (escS s n st).2) ∧
    (∀ inner st l, st.i ≤ s.size → Fwd s st (partsS s inner n st l).2) := by
  induction n with
  | zero =>
    refine ⟨fun st h => ?_, fun st h => ?_, fun inner st l h => ?_⟩
    · simp only [partS]; exact ⟨Fwd.spoil h, .inl rfl⟩
    · simp only [escS]; exact Fwd.spoil h
    · simp only [partsS]; exact Fwd.refl h
  | succ n ih =>
    obtain ⟨ihp, ihe, ihs⟩ := ih
    refine ⟨fun st h => ?_, fun st h => ?_, fun inner st l h => ?_⟩
    · rw [partS]
      split
      · exact ⟨Fwd.spoil h, .inl rfl⟩
      · next hc =>
        have hlt : st.i < s.size := by
          simp only [not_or] at hc
          exact peekOk_lt (by simpa using hc.1)
        have h1 := Fwd.adv hlt
        have key : ∀ r : Part × St, Fwd s (adv st) r.2 → Fwd s st (countS s r).2 ∧ ((countS s r).2.bad = true ∨ st.i < (countS s r).2.i) := fun r hr => by
          have h2 := hr.trans (Fwd.count hr.2.1)
          refine ⟨h1.trans h2, .inr ?_⟩
          have := h2.1
          simp [adv] at this
          omega
        split
        · exact key _ (Fwd.refl h1.2.1)
        · split
          · exact key _ (Fwd.set _ h1.2.1)
          · split
            · exact key _ (ihe _ h1.2.1)
            · exact key _ (Fwd.refl h1.2.1)
    · rw [escS]
      split
      · exact Fwd.spoil h
      · next hc =>
        have hlt : st.i < s.size := by
          simp only [not_or] at hc
          exact peekOk_lt (by simpa using hc.1)
        have h1 := Fwd.adv hlt
        split
        · exact h1
        · split
          · exact h1
          · next h2 =>
            have hg : st.g < 9 := by
              simp only [not_or] at hc
              have := hc.2.2
              simp only [Decidable.not_not] at h2
              simp only [h2, true_and] at this
              omega
            have h0 : Fwd s st (opened st) := ⟨by simp [opened], by simp [opened]; omega, fun _ => by simp [opened]; omega⟩
            have h3 := ihs true (opened st) [] h0.2.1
            have h4 := Fwd.eatIf 92 h3.2.1
            exact ((h0.trans h3).trans h4).trans (Fwd.eatIf 41 h4.2.1)
    · rw [partsS]
      split
      · exact Fwd.refl h
      · have h1 := (ihp st h).1
        exact h1.trans (ihs inner _ _ h1.2.1)

end Go.Proofs.YtpnecblofjpgfaaGreatDoor
