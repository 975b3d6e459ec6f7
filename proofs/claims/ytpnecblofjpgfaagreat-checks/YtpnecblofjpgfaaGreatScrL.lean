import Derived.Test.YtpnecblofjpgfaaGreatScrK
namespace Go.Proofs.YtpnecblofjpgfaaGreat
open Go.RowKit

/-- Onwards, and within the text. -/
def On (s : ByteArray) (a b : St) : Prop := a.i ≤ b.i ∧ b.i ≤ s.size
theorem On.refl {s : ByteArray} {a : St} (h : a.i ≤ s.size) : On s a a := ⟨Nat.le_refl _, h⟩
theorem On.trans {s : ByteArray} {a b c : St} (h : On s a b) (k : On s b c) : On s a c := ⟨Nat.le_trans h.1 k.1, k.2⟩
theorem On.eat {s : ByteArray} {a : St} (c : Int) (h : a.i ≤ s.size) : On s a (eatS s c a) := ⟨eat_ge s c a, eat_le s c a h⟩
theorem On.eatIf {s : ByteArray} {a : St} (c : Int) (h : a.i ≤ s.size) : On s a (eatIf s c a) := ⟨eatIf_ge s c a, eatIf_le s c a h⟩
theorem On.adv {s : ByteArray} {a : St} (h : a.i < s.size) : On s a (adv a) := ⟨by simp [Go.Proofs.YtpnecblofjpgfaaGreat.adv], by simp [Go.Proofs.YtpnecblofjpgfaaGreat.adv]; omega⟩
theorem On.spoil {s : ByteArray} {a : St} (h : a.i ≤ s.size) : On s a (spoil a) := ⟨Nat.le_refl _, h⟩
theorem On.advIf {s : ByteArray} {a : St} (c : Int) (h : a.i ≤ s.size) : On s a (advIf s c a) := by
  unfold Go.Proofs.YtpnecblofjpgfaaGreat.advIf
  split
  · next hc => exact On.adv (peekOk_lt (isB_ok hc))
  · exact On.refl h
theorem On.word {s : ByteArray} {a : St} (h : a.i ≤ s.size) : On s a (wordS s a).2 := by
  have h1 := wordL_le s 8 a h
  unfold wordS
  split
  · exact On.spoil h
  · exact ⟨h1.1, h1.2.1⟩
theorem On.spaced {s : ByteArray} {a : St} (h : a.i ≤ s.size) : On s a (spacedS s a).2 := by
  have h1 := On.eat 32 h
  unfold spacedS
  split
  · exact h1
  · exact h1.trans (On.word h1.2)
theorem On.digit {s : ByteArray} {a : St} (lo : Int) (h : a.i ≤ s.size) : On s a (digitS s lo a).2 := ⟨digit_ge s lo a, digit_le s lo a h⟩
theorem On.repl {s : ByteArray} (g : Nat) : ∀ (n : Nat) (a : St), a.i ≤ s.size → On s a (replL s g n a)
  | 0, _, h => On.refl h
  | n + 1, a, h => by
    rw [replL]
    split
    · exact On.refl h
    · have h1 := piece_le s g a h
      exact On.trans ⟨h1.1, h1.2.1⟩ (On.repl g n _ h1.2.1)
theorem repl_end {s : ByteArray} (g : Nat) : ∀ (n : Nat) (a : St), a.i ≤ s.size → s.size - a.i + 1 < n → (replL s g n a).bad = true ∨ isB s (replL s g n a) 47 = true
  | 0, _, _, h => by omega
  | n + 1, a, h, hn => by
    rw [replL]
    split
    · assumption
    · have h1 := piece_le s g a h
      rcases h1.2.2 with hb | hl
      · cases n with
        | zero => omega
        | succ n => rw [replL, if_pos (.inl hb)]; exact .inl hb
      · exact repl_end g n _ h1.2.1 (by omega)
theorem On.flags {s : ByteArray} {a : St} (n0 : Int) (t0 : ByteArray) (h : a.i ≤ s.size) : On s a (flagsS s n0 t0 a).2 := by
  have h1 : On s a (if amongB s a digits1L then digitS s 49 a else (n0, a)).2 := by
    split
    · exact On.digit 49 h
    · exact On.refl h
  unfold flagsS
  generalize (if amongB s a digits1L then digitS s 49 a else (n0, a)) = d at *
  have h2 := h1.trans (On.advIf 103 h1.2)
  have h3 := h2.trans (On.advIf 112 h2.2)
  have h4 := h3.trans (On.advIf 119 h3.2)
  dsimp only
  split
  · exact h4.trans (On.spaced h4.2)
  · exact h4
theorem On.subst {s : ByteArray} {a : St} {n : Nat} (h : a.i ≤ s.size) (hn : 2 * (s.size - a.i) + 2 ≤ n) : On s a (substS s n a) := by
  have h1 := On.eat 47 h
  unfold substS
  split
  · exact h1
  · have h2 := pattern_le s n _ h1.2
    have h3 := On.repl (patternS s n (eatS s 47 a)).1.1 n _ h2.2
    have h4 := h1.trans (On.trans ⟨h2.1, h2.2⟩ h3)
    have h5 := repl_end (patternS s n (eatS s 47 a)).1.1 n _ h2.2
    dsimp only
    split
    · exact h4
    · next hb =>
      by_cases hx : s.size - (patternS s n (eatS s 47 a)).2.i + 1 < n
      · rcases h5 hx with h6 | h6
        · exact absurd h6 hb
        · have h7 := On.adv (s := s) (peekOk_lt (isB_ok h6))
          exact h4.trans (h7.trans (On.flags _ _ h7.2))
      · exfalso
        have := h1.1
        have := h2.1
        omega
theorem On.from {s : ByteArray} : ∀ (n : Nat) (f : ByteArray) (a : St), a.i ≤ s.size → On s a (fromL s n f a).2
  | 0, _, _, h => On.refl h
  | n + 1, f, a, h => by
    rw [fromL]
    split
    · exact On.refl h
    · split
      · exact On.trans (On.spoil h) (On.from n f _ h)
      · next hc =>
        have hl : a.i < s.size := by
          simp only [not_or] at hc
          exact peekOk_lt (by simpa using hc.1)
        exact (On.adv hl).trans (On.from n _ _ (On.adv hl).2)
theorem On.to {s : ByteArray} (m : Nat) : ∀ (n : Nat) (f : ByteArray) (a : St), a.i ≤ s.size → On s a (toL s m n f a).2
  | 0, _, _, h => On.refl h
  | n + 1, f, a, h => by
    rw [toL]
    split
    · exact On.refl h
    · split
      · exact On.trans (On.spoil h) (On.to m n f _ h)
      · next hc =>
        have hl : a.i < s.size := by
          simp only [not_or] at hc
          exact peekOk_lt (by simpa using hc.1)
        exact (On.adv hl).trans (On.to m n _ _ (On.adv hl).2)
theorem On.table {s : ByteArray} {a : St} (n : Nat) (h : a.i ≤ s.size) : On s a (tableS s n a).2 := by
  have h1 := On.eat 47 h
  have h2 := h1.trans (On.from n ⟨#[]⟩ _ h1.2)
  have h3 := h2.trans (On.eatIf 47 h2.2)
  have h4 := h3.trans (On.to (fromL s n ⟨#[]⟩ (eatS s 47 a)).1.size n ⟨#[]⟩ _ h3.2)
  exact h4.trans (On.eatIf 47 h4.2)
theorem On.rest {s : ByteArray} {a : St} {n : Nat} (op : Int) (h : a.i ≤ s.size) (hn : 2 * (s.size - a.i) + 2 ≤ n) : On s a (restS s n op a) := by
  have h1 := On.eat 32 h
  have h2 := lineE_le s (s.size + 1) (eatS s 32 a).i h1.2
  unfold restS
  split
  · split
    · exact h1
    · exact h1.trans h2
  split
  · exact On.word h
  split
  · split
    · exact On.spaced h
    · exact On.refl h
  split
  · split
    · exact On.digit 48 h
    · exact On.refl h
  split
  · exact On.subst h hn
  split
  · exact On.spaced h
  split
  · exact On.table _ h
  · exact On.refl h
theorem On.addrs {s : ByteArray} {a : St} (n : Nat) (h : a.i ≤ s.size) : On s a (addrsS s n a).2 := by
  have h1 := addr_le s n a h
  unfold addrsS
  split
  · next hc =>
    have h2 := On.adv (s := s) (peekOk_lt (isB_ok hc.2.2))
    have h3 := addr_le s n _ h2.2
    have h4 : On s a (addrS s n (Go.Proofs.YtpnecblofjpgfaaGreat.adv (addrS s n a).2)).2 := On.trans (On.trans ⟨h1.1, h1.2⟩ h2) ⟨h3.1, h3.2⟩
    dsimp only
    split
    · exact h4.trans (On.spoil h4.2)
    · exact h4
  · exact h1
theorem On.blanks {s : ByteArray} {a : St} (n : Nat) (h : a.i ≤ s.size) : On s a (blanksS s n a) := ⟨(Fwd.blanks n a h).1, (Fwd.blanks n a h).2.1⟩
theorem command_on {s : ByteArray} {a : St} {n : Nat} (nest : Nat) (full : Bool) (h : a.i ≤ s.size) (hn : 2 * (s.size - a.i) + 2 ≤ n) : On s a (commandS s n nest full a).2 ∧ ((commandS s n nest full a).2.bad = false → a.i < (commandS s n nest full a).2.i) := by
  have h1 := On.addrs n h
  have h2 := h1.trans (On.blanks (s.size + 1) h1.2)
  have h3 := h2.trans (On.advIf 33 h2.2)
  unfold commandS
  dsimp only
  split
  · next hb => exact ⟨h1, fun h => by rw [hb] at h; cases h⟩
  · split
    · exact ⟨h3.trans (On.spoil h3.2), fun h => by cases h⟩
    · next hl =>
      have hp : peekOk s (advIf s 33 (blanksS s (s.size + 1) (addrsS s n a).2)) = true := by
        unfold letterBad at hl
        simp only [not_or] at hl
        simpa using hl.1
      have h4 := On.adv (s := s) (peekOk_lt hp)
      have h5 : (Go.Proofs.YtpnecblofjpgfaaGreat.adv (advIf s 33 (blanksS s (s.size + 1) (addrsS s n a).2))).i = (advIf s 33 (blanksS s (s.size + 1) (addrsS s n a).2)).i + 1 := rfl
      have h6 := On.rest (n := n) (peekC s (advIf s 33 (blanksS s (s.size + 1) (addrsS s n a).2))) h4.2 (by have := h3.1; omega)
      exact ⟨h3.trans (h4.trans h6), fun _ => by have := h3.1; have := h6.1; dsimp only; omega⟩

/-- The commands of a script, from a place on. -/
def commandsS (s : ByteArray) (n : Nat) : Nat → List CmT → Nat → St → (List CmT × Nat) × St
  | 0, l, nest, st => ((l, nest), st)
  | k + 1, l, nest, st =>
    if st.bad = true ∨ s.size ≤ st.i then ((l, nest), st) else
    if isB s (blanksS s (s.size + 1) st) 10 = true then commandsS s n k l nest (adv (blanksS s (s.size + 1) st)) else
    if s.size ≤ (blanksS s (s.size + 1) st).i then commandsS s n k l nest (blanksS s (s.size + 1) st) else
    if (commandS s n nest (decide (60 ≤ l.length)) (blanksS s (s.size + 1) st)).2.bad = true then ((l, nest), (commandS s n nest (decide (60 ≤ l.length)) (blanksS s (s.size + 1) st)).2) else
    commandsS s n k (l ++ [(commandS s n nest (decide (60 ≤ l.length)) (blanksS s (s.size + 1) st)).1])
      (if (commandS s n nest (decide (60 ≤ l.length)) (blanksS s (s.size + 1) st)).1.op = 123 then nest + 1 else if (commandS s n nest (decide (60 ≤ l.length)) (blanksS s (s.size + 1) st)).1.op = 125 then nest - 1 else nest)
      (if (commandS s n nest (decide (60 ≤ l.length)) (blanksS s (s.size + 1) st)).2.i < s.size then eatS s 10 (commandS s n nest (decide (60 ≤ l.length)) (blanksS s (s.size + 1) st)).2 else (commandS s n nest (decide (60 ≤ l.length)) (blanksS s (s.size + 1) st)).2)
/-- All of them: bad, if a block is not ended. -/
def allS (s : ByteArray) (n k : Nat) (st : St) : List CmT × St := ((commandsS s n k [] 0 st).1.1, if 0 < (commandsS s n k [] 0 st).1.2 then spoil (commandsS s n k [] 0 st).2 else (commandsS s n k [] 0 st).2)
end Go.Proofs.YtpnecblofjpgfaaGreat
