import Derived.Test.YtpnecblofjpgfaaGreatScrJ
namespace Go.Proofs.YtpnecblofjpgfaaGreat
open Go.RowKit

/-- Onwards, and within the text. -/
def On (s : ByteArray) (a b : St) : Prop := a.i ≤ b.i ∧ b.i ≤ s.size
theorem On.refl {s : ByteArray} {a : St} (h : a.i ≤ s.size) : On s a a := ⟨Nat.le_refl _, h⟩
theorem On.trans {s : ByteArray} {a b c : St} (h : On s a b) (k : On s b c) : On s a c := ⟨Nat.le_trans h.1 k.1, k.2⟩
theorem On.eat {s : ByteArray} {a : St} (c : Int) (h : a.i ≤ s.size) : On s a (eatS s c a) := ⟨eat_ge s c a, eat_le s c a h⟩
theorem On.eatIf {s : ByteArray} {a : St} (c : Int) (h : a.i ≤ s.size) : On s a (eatIf s c a) := ⟨eatIf_ge s c a, eatIf_le s c a h⟩
theorem On.adv {s : ByteArray} {a : St} (h : a.i < s.size) : On s a (adv a) := ⟨by simp [Go.Proofs.YtpnecblofjpgfaaGreat.adv], by simp [Go.Proofs.YtpnecblofjpgfaaGreat.adv]; omega⟩
theorem On.spoil {s : ByteArray} {a : St} (h : a.i ≤ s.size) : On s a (spoil a) := ⟨Nat.le_refl _, h⟩
theorem On.advIf {s : ByteArray} {a : St} (c : Int) (h : a.i ≤ s.size) : On s a (advIf s c a) := by
  unfold Go.Proofs.YtpnecblofjpgfaaGreat.advIf
  split
  · next hc => exact On.adv (peekOk_lt (isB_ok hc))
  · exact On.refl h
theorem On.word {s : ByteArray} {a : St} (h : a.i ≤ s.size) : On s a (wordS s a).2 := by
  have h1 := wordL_le s 8 a h
  unfold wordS
  split
  · exact On.spoil h
  · exact ⟨h1.1, h1.2.1⟩
theorem On.spaced {s : ByteArray} {a : St} (h : a.i ≤ s.size) : On s a (spacedS s a).2 := by
  have h1 := On.eat 32 h
  unfold spacedS
  split
  · exact h1
  · exact h1.trans (On.word h1.2)
theorem On.digit {s : ByteArray} {a : St} (lo : Int) (h : a.i ≤ s.size) : On s a (digitS s lo a).2 := ⟨digit_ge s lo a, digit_le s lo a h⟩
theorem On.repl {s : ByteArray} (g : Nat) : ∀ (n : Nat) (a : St), a.i ≤ s.size → On s a (replL s g n a)
  | 0, _, h => On.refl h
  | n + 1, a, h => by
    rw [replL]
    split
    · exact On.refl h
    · have h1 := piece_le s g a h
      exact On.trans ⟨h1.1, h1.2.1⟩ (On.repl g n _ h1.2.1)
theorem repl_end {s : ByteArray} (g : Nat) : ∀ (n : Nat) (a : St), a.i ≤ s.size → s.size - a.i + 1 < n → (replL s g n a).bad = true ∨ isB s (replL s g n a) 47 = true
  | 0, _, _, h => by omega
  | n + 1, a, h, hn => by
    rw [replL]
    split
    · assumption
    · have h1 := piece_le s g a h
      rcases h1.2.2 with hb | hl
      · cases n with
        | zero => omega
        | succ n => rw [replL, if_pos (.inl hb)]; exact .inl hb
      · exact repl_end g n _ h1.2.1 (by omega)
theorem On.flags {s : ByteArray} {a : St} (n0 : Int) (t0 : ByteArray) (h : a.i ≤ s.size) : On s a (flagsS s n0 t0 a).2 := by
  have h1 : On s a (if amongB s a digits1L then digitS s 49 a else (n0, a)).2 := by
    split
    · exact On.digit 49 h
    · exact On.refl h
  unfold flagsS
  generalize (if amongB s a digits1L then digitS s 49 a else (n0, a)) = d at *
  have h2 := h1.trans (On.advIf 103 h1.2)
  have h3 := h2.trans (On.advIf 112 h2.2)
  have h4 := h3.trans (On.advIf 119 h3.2)
  dsimp only
  split
  · exact h4.trans (On.spaced h4.2)
  · exact h4
theorem On.subst {s : ByteArray} {a : St} {n : Nat} (h : a.i ≤ s.size) (hn : 2 * (s.size - a.i) + 2 ≤ n) : On s a (substS s n a) := by
  have h1 := On.eat 47 h
  unfold substS
  split
  · exact h1
  · have h2 := pattern_le s n _ h1.2
    have h3 := On.repl (patternS s n (eatS s 47 a)).1.1 n _ h2.2
    have h4 := h1.trans (On.trans ⟨h2.1, h2.2⟩ h3)
    have h5 := repl_end (patternS s n (eatS s 47 a)).1.1 n _ h2.2
    dsimp only
    split
    · exact h4
    · next hb =>
      by_cases hx : s.size - (patternS s n (eatS s 47 a)).2.i + 1 < n
      · rcases h5 hx with h6 | h6
        · exact absurd h6 hb
        · have h7 := On.adv (s := s) (peekOk_lt (isB_ok h6))
          exact h4.trans (h7.trans (On.flags _ _ h7.2))
      · exfalso
        have := h1.1
        have := h2.1
        omega
theorem On.from {s : ByteArray} : ∀ (n : Nat) (f : ByteArray) (a : St), a.i ≤ s.size → On s a (fromL s n f a).2
  | 0, _, _, h => On.refl h
  | n + 1, f, a, h => by
    rw [fromL]
    split
    · exact On.refl h
    · split
      · exact On.trans (On.spoil h) (On.from n f _ h)
      · next hc =>
        have hl : a.i < s.size := by
          simp only [not_or] at hc
          exact peekOk_lt (by simpa using hc.1)
        exact (On.adv hl).trans (On.from n _ _ (On.adv hl).2)
theorem On.to {s : ByteArray} (m : Nat) : ∀ (n : Nat) (f : ByteArray) (a : St), a.i ≤ s.size → On s a (toL s m n f a).2
  | 0, _, _, h => On.refl h
  | n + 1, f, a, h => by
    rw [toL]
    split
    · exact On.refl h
    · split
      · exact On.trans (On.spoil h) (On.to m n f _ h)
      · next hc =>
        have hl : a.i < s.size := by
          simp only [not_or] at hc
          exact peekOk_lt (by simpa using hc.1)
        exact (On.adv hl).trans (On.to m n _ _ (On.adv hl).2)
theorem On.table {s : ByteArray} {a : St} (n : Nat) (h : a.i ≤ s.size) : On s a (tableS s n a).2 := by
  have h1 := On.eat 47 h
  have h2 := h1.trans (On.from n ⟨#[]⟩ _ h1.2)
  have h3 := h2.trans (On.eatIf 47 h2.2)
  have h4 := h3.trans (On.to (fromL s n ⟨#[]⟩ (eatS s 47 a)).1.size n ⟨#[]⟩ _ h3.2)
  exact h4.trans (On.eatIf 47 h4.2)
theorem On.rest {s : ByteArray} {a : St} {n : Nat} (op : Int) (h : a.i ≤ s.size) (hn : 2 * (s.size - a.i) + 2 ≤ n) : On s a (restS s n op a) := by
  have h1 := On.eat 32 h
  have h2 := lineE_le s (s.size + 1) (eatS s 32 a).i h1.2
  unfold restS
  split
  · split
    · exact h1
    · exact h1.trans h2
  split
  · exact On.word h
  split
  · split
    · exact On.spaced h
    · exact On.refl h
  split
  · split
    · exact On.digit 48 h
    · exact On.refl h
  split
  · exact On.subst h hn
  split
  · exact On.spaced h
  split
  · exact On.table _ h
  · exact On.refl h

def addrsX (A B : AdT) : ByteArray := if B.kind = 0 then addrX A.kind A.num A.text else addrX A.kind A.num A.text ++ ⟨#[44]⟩ ++ addrX B.kind B.num B.text
/-- A command's printed text. -/
def textX (op : Int) (A B : AdT) (nt : Bool) (f : Rf) : ByteArray := (if nt = true then addrsX A B ++ ⟨#[33]⟩ else addrsX A B) ++ ⟨#[byteOf op]⟩ ++ restX op f

structure FdV (cs : Array Value) (A B : AdT) (nt : Bool) (f : Rf) : Prop where
  e2 : cs[2]? = some (.int .u8 A.kind)
  e3 : cs[3]? = some (.int .i64 A.num)
  e8 : cs[8]? = some (.string A.text)
  e9 : cs[9]? = some (.int .u8 B.kind)
  e10 : cs[10]? = some (.int .i64 B.num)
  e15 : cs[15]? = some (.string B.text)
  e16 : cs[16]? = some (.bool nt)
  rv : RfV cs f

def AdB (m : Nat) (A : AdT) : Prop := 0 ≤ A.num ∧ A.num < 100000 ∧ A.text.size ≤ m
/-- Both addresses are what stands there. -/
def ADR (s : ByteArray) (st st2 : St) (A B : AdT) : Prop := st2.bad = false → AdB s.size A ∧ AdB s.size B ∧ addrsX A B = s.extract st.i st2.i

theorem addr_size (s : ByteArray) (n : Nat) (st : St) : (addrS s n st).1.text.size ≤ s.size := by
  unfold addrS
  split
  · exact Nat.zero_le _
  · split
    · show (patternS s n (adv st)).1.2.size ≤ s.size
      unfold patternS
      split
      · exact Nat.zero_le _
      · exact ext_size _ _ _
    · split
      · exact Nat.zero_le _
      · exact Nat.zero_le _
theorem adr_one (s : ByteArray) (n : Nat) (st : St) : ADR s st (addrS s n st).2 (addrS s n st).1 ⟨0, 0, ⟨#[]⟩⟩ := fun hb =>
  ⟨⟨addr_num.1, addr_num.2, addr_size s n st⟩, ⟨Int.le_refl 0, (by show (0 : Int) < 100000; decide), Nat.zero_le _⟩, by unfold addrsX; rw [if_pos rfl]; exact addr_text hb⟩
theorem adr_two {s : ByteArray} {n : Nat} {st q : St} {A : AdT} (hA : ADR s st q A ⟨0, 0, ⟨#[]⟩⟩) (hb : q.bad = false) (hq : st.i ≤ q.i) (h : isB s q 44 = true) (hle : (adv q).i ≤ (addrS s n (adv q)).2.i) (hk : (addrS s n (adv q)).1.kind ≠ 0) : ADR s st (addrS s n (adv q)).2 A (addrS s n (adv q)).1 := fun hb2 => by
  obtain ⟨h1, _, h3⟩ := hA hb
  refine ⟨h1, ⟨addr_num.1, addr_num.2, addr_size s n (adv q)⟩, ?_⟩
  unfold addrsX at h3 ⊢
  rw [if_pos rfl] at h3
  rw [if_neg hk, h3, addr_text hb2]
  show _ ++ (⟨#[byteOf 44]⟩ : ByteArray) ++ _ = _
  rw [← is_byte h, ext_app s hq (Nat.le_succ _)]
  exact ext_app s (by omega) hle
end Go.Proofs.YtpnecblofjpgfaaGreat
