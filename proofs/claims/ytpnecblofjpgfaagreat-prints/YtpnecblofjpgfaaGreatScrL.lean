import Derived.Test.YtpnecblofjpgfaaGreatScrK
namespace Go.Proofs.YtpnecblofjpgfaaGreat
open Go.RowKit

theorem On.addrs {s : ByteArray} {a : St} (n : Nat) (h : a.i ≤ s.size) : On s a (addrsS s n a).2 := by
  have h1 := addr_le s n a h
  unfold addrsS
  split
  · next hc =>
    have h2 := On.adv (s := s) (peekOk_lt (isB_ok hc.2.2))
    have h3 := addr_le s n _ h2.2
    have h4 : On s a (addrS s n (Go.Proofs.YtpnecblofjpgfaaGreat.adv (addrS s n a).2)).2 := On.trans (On.trans ⟨h1.1, h1.2⟩ h2) ⟨h3.1, h3.2⟩
    dsimp only
    split
    · exact h4.trans (On.spoil h4.2)
    · exact h4
  · exact h1
theorem On.blanks {s : ByteArray} {a : St} (n : Nat) (h : a.i ≤ s.size) : On s a (blanksS s n a) := ⟨(Fwd.blanks n a h).1, (Fwd.blanks n a h).2.1⟩
theorem command_on {s : ByteArray} {a : St} {n : Nat} (nest : Nat) (full : Bool) (h : a.i ≤ s.size) (hn : 2 * (s.size - a.i) + 2 ≤ n) : On s a (commandS s n nest full a).2 ∧ ((commandS s n nest full a).2.bad = false → a.i < (commandS s n nest full a).2.i) := by
  have h1 := On.addrs n h
  have h2 := h1.trans (On.blanks (s.size + 1) h1.2)
  have h3 := h2.trans (On.advIf 33 h2.2)
  unfold commandS
  dsimp only
  split
  · next hb => exact ⟨h1, fun h => by rw [hb] at h; cases h⟩
  · split
    · exact ⟨h3.trans (On.spoil h3.2), fun h => by cases h⟩
    · next hl =>
      have hp : peekOk s (advIf s 33 (blanksS s (s.size + 1) (addrsS s n a).2)) = true := by
        unfold letterBad at hl
        simp only [not_or] at hl
        simpa using hl.1
      have h4 := On.adv (s := s) (peekOk_lt hp)
      have h5 : (Go.Proofs.YtpnecblofjpgfaaGreat.adv (advIf s 33 (blanksS s (s.size + 1) (addrsS s n a).2))).i = (advIf s 33 (blanksS s (s.size + 1) (addrsS s n a).2)).i + 1 := rfl
      have h6 := On.rest (n := n) (peekC s (advIf s 33 (blanksS s (s.size + 1) (addrsS s n a).2))) h4.2 (by have := h3.1; omega)
      exact ⟨h3.trans (h4.trans h6), fun _ => by have := h3.1; have := h6.1; dsimp only; omega⟩

/-- The commands of a script, from a place on. -/
def commandsS (s : ByteArray) (n : Nat) : Nat → List CmT → Nat → St → (List CmT × Nat) × St
  | 0, l, nest, st => ((l, nest), st)
  | k + 1, l, nest, st =>
    if st.bad = true ∨ s.size ≤ st.i then ((l, nest), st) else
    if isB s (blanksS s (s.size + 1) st) 10 = true then commandsS s n k l nest (adv (blanksS s (s.size + 1) st)) else
    if s.size ≤ (blanksS s (s.size + 1) st).i then commandsS s n k l nest (blanksS s (s.size + 1) st) else
    if (commandS s n nest (decide (60 ≤ l.length)) (blanksS s (s.size + 1) st)).2.bad = true then ((l, nest), (commandS s n nest (decide (60 ≤ l.length)) (blanksS s (s.size + 1) st)).2) else
    commandsS s n k (l ++ [(commandS s n nest (decide (60 ≤ l.length)) (blanksS s (s.size + 1) st)).1])
      (if (commandS s n nest (decide (60 ≤ l.length)) (blanksS s (s.size + 1) st)).1.op = 123 then nest + 1 else if (commandS s n nest (decide (60 ≤ l.length)) (blanksS s (s.size + 1) st)).1.op = 125 then nest - 1 else nest)
      (if (commandS s n nest (decide (60 ≤ l.length)) (blanksS s (s.size + 1) st)).2.i < s.size then eatS s 10 (commandS s n nest (decide (60 ≤ l.length)) (blanksS s (s.size + 1) st)).2 else (commandS s n nest (decide (60 ≤ l.length)) (blanksS s (s.size + 1) st)).2)
/-- All of them: bad, if a block is not ended. -/
def allS (s : ByteArray) (n k : Nat) (st : St) : List CmT × St := ((commandsS s n k [] 0 st).1.1, if 0 < (commandsS s n k [] 0 st).1.2 then spoil (commandsS s n k [] 0 st).2 else (commandsS s n k [] 0 st).2)
end Go.Proofs.YtpnecblofjpgfaaGreat
