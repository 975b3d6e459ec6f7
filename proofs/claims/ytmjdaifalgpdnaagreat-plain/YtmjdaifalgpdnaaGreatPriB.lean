import Derived.Test.YtmjdaifalgpdnaaGreatScrI
namespace Go.Proofs.YtmjdaifalgpdnaaGreat
open Go.RowKit

theorem ext_snoc (s : ByteArray) (b i : Nat) (hb : b ≤ i) (hi : i < s.size) : s.extract b (i + 1) = s.extract b i ++ ⟨#[s[i]]⟩ := by
  apply ByteArray.ext
  rw [ByteArray.data_append, ByteArray.data_extract, ByteArray.data_extract]
  exact Array.extract_succ_right (by omega) (by simpa using hi)
theorem ext_app (s : ByteArray) {a b c : Nat} (h1 : a ≤ b) (h2 : b ≤ c) : s.extract a b ++ s.extract b c = s.extract a c := by
  apply ByteArray.ext
  rw [ByteArray.data_append, ByteArray.data_extract, ByteArray.data_extract, ByteArray.data_extract, Array.extract_append_extract, Nat.min_eq_left h1, Nat.max_eq_right h2]
theorem ext_nil (s : ByteArray) (a : Nat) : s.extract a a = ⟨#[]⟩ := by
  apply ByteArray.ext
  rw [ByteArray.data_extract]
  simp
  exact Nat.min_le_left _ _
theorem app_nil (a : ByteArray) : a ++ ⟨#[]⟩ = a := by
  apply ByteArray.ext
  rw [ByteArray.data_append]
  simp
theorem nil_app (a : ByteArray) : ⟨#[]⟩ ++ a = a := by
  apply ByteArray.ext
  rw [ByteArray.data_append]
  simp

theorem peek_byte {s : ByteArray} {st : St} (h : peekOk s st = true) : s.extract st.i (st.i + 1) = ⟨#[byteOf (peekC s st)]⟩ := by
  have hl := peekOk_lt h
  rw [ext_snoc s st.i st.i (Nat.le_refl _) hl, ext_nil, nil_app]
  have hb : st.bad = false := by
    unfold peekOk at h
    cases hx : st.bad
    · rfl
    · rw [hx] at h; simp at h
  have : byteOf (peekC s st) = s[st.i] := by
    unfold peekC byteOf
    rw [dif_pos ⟨hb, hl⟩]
    simp
  rw [this]
theorem is_peek {s : ByteArray} {st : St} {c : Int} (h : isB s st c = true) : peekOk s st = true ∧ peekC s st = c := by
  unfold isB at h
  simpa using h
theorem is_byte {s : ByteArray} {st : St} {c : Int} (h : isB s st c = true) : s.extract st.i (st.i + 1) = ⟨#[byteOf c]⟩ := by
  obtain ⟨h1, h2⟩ := is_peek h
  rw [peek_byte h1, h2]
theorem eat_not {s : ByteArray} {st : St} {c : Int} (h : (eatS s c st).bad = false) : isB s st c = true ∧ eatS s c st = adv st := by
  unfold eatS at h ⊢
  split at h
  · next hc => exact ⟨hc, by rw [if_pos hc]; rfl⟩
  · cases h
theorem eatIf_not {s : ByteArray} {st : St} {c : Int} (h : (eatIf s c st).bad = false) : st.bad = false ∧ isB s st c = true ∧ eatIf s c st = adv st := by
  unfold eatIf at h ⊢
  cases hb : st.bad
  · rw [hb] at h
    have := eat_not (s := s) (st := st) (c := c) (by simpa using h)
    exact ⟨rfl, this.1, by simpa using this.2⟩
  · rw [hb] at h
    simp [hb] at h

/-- A number in decimal. -/
def decS (n : Nat) : ByteArray := if n < 10 then ⟨#[byteOf (48 + n)]⟩ else decS (n / 10) ++ ⟨#[byteOf (48 + (n % 10 : Nat))]⟩
termination_by n
decreasing_by omega

theorem decS_digit {n : Nat} (h : n < 10) : decS n = ⟨#[byteOf (48 + n)]⟩ := by rw [decS, if_pos h]
theorem decS_more {n d : Nat} (h : 0 < n) (hd : d < 10) : decS (10 * n + d) = decS n ++ ⟨#[byteOf (48 + d)]⟩ := by
  rw [decS, if_neg (by omega)]
  have h1 : (10 * n + d) / 10 = n := by omega
  have h2 : (10 * n + d) % 10 = d := by omega
  rw [h1, h2]

theorem among_dig0 {s : ByteArray} {st : St} (h : amongB s st digitsL = true) : peekOk s st = true ∧ 48 ≤ peekC s st ∧ peekC s st ≤ 57 := by
  unfold amongB at h
  simp only [Bool.and_eq_true] at h
  refine ⟨h.1, ?_⟩
  have h2 := h.2
  unfold hasL digitsL at h2
  simp at h2
  omega
theorem among_digit1 {s : ByteArray} {st : St} (h : amongB s st digits1L = true) : peekOk s st = true ∧ 49 ≤ peekC s st ∧ peekC s st ≤ 57 := by
  unfold amongB at h
  simp only [Bool.and_eq_true] at h
  refine ⟨h.1, ?_⟩
  have h2 := h.2
  unfold hasL digits1L at h2
  simp at h2
  omega
theorem among1_among {s : ByteArray} {st : St} (h : amongB s st digits1L = true) : amongB s st digitsL = true := by
  unfold amongB at h ⊢
  simp only [Bool.and_eq_true] at h ⊢
  refine ⟨h.1, ?_⟩
  have h2 := h.2
  unfold hasL digits1L at h2
  unfold hasL digitsL
  simp at h2 ⊢
  omega
theorem digit_of {s : ByteArray} {st : St} {lo : Int} (h : peekOk s st = true) (h1 : lo ≤ peekC s st) (h2 : peekC s st ≤ 57) : digitS s lo st = (peekC s st - 48, adv st) := by
  unfold digitS
  rw [if_pos ⟨h, h1, h2⟩]
  rfl
theorem dec_one {s : ByteArray} {st : St} (h : peekOk s st = true) (h1 : 48 ≤ peekC s st) (h2 : peekC s st ≤ 57) : decS (peekC s st - 48).toNat = s.extract st.i (st.i + 1) := by
  have e : (48 : Int) + ((peekC s st - 48).toNat : Nat) = peekC s st := by omega
  rw [decS_digit (by omega), peek_byte h, e]

theorem num_up (s : ByteArray) : ∀ (k : Nat) (a : Int) (st : St), st.i ≤ (numL s k a st).2.i
  | 0, _, _ => Nat.le_refl _
  | k + 1, a, st => by
    rw [numL]
    split
    · next hc =>
      obtain ⟨h1, h2, h3⟩ := among_dig0 hc
      rw [digit_of h1 h2 h3]
      have := num_up s k (10 * a + (peekC s st - 48)) (adv st)
      simp only [adv] at this ⊢
      omega
    · exact Nat.le_refl _

theorem num_text (s : ByteArray) : ∀ (k : Nat) (a : Int) (st : St), 0 < a → st.i ≤ s.size → decS a.toNat ++ s.extract st.i (numL s k a st).2.i = decS (numL s k a st).1.toNat ∧ 0 < (numL s k a st).1 ∧ (numL s k a st).1 < 10 ^ k * (a + 1) ∧ (numL s k a st).2.bad = st.bad
  | 0, a, st, ha, _ => by
    rw [numL]
    dsimp only
    exact ⟨by rw [ext_nil, app_nil], ha, by omega, rfl⟩
  | k + 1, a, st, ha, hi => by
    rw [numL]
    split
    · next hc =>
      obtain ⟨h1, h2, h3⟩ := among_dig0 hc
      have hl := peekOk_lt h1
      rw [digit_of h1 h2 h3]
      dsimp only
      have ih := num_text s k (10 * a + (peekC s st - 48)) (adv st) (by omega) (by simp [adv]; omega)
      have hge := (num_up s k (10 * a + (peekC s st - 48)) (adv st))
      refine ⟨?_, ih.2.1, ?_, ih.2.2.2⟩
      · rw [← ih.1]
        have e : (10 * a + (peekC s st - 48)).toNat = 10 * a.toNat + (peekC s st - 48).toNat := by omega
        rw [e, decS_more (by omega) (by omega), ← decS_digit (by omega), dec_one h1 h2 h3, ByteArray.append_assoc]
        rw [show (adv st).i = st.i + 1 from rfl] at hge ⊢
        rw [ext_app s (Nat.le_succ _) hge]
      · have h4 := ih.2.2.1
        have h5 : (10 : Int) ^ (k + 1) * (a + 1) = 10 ^ k * (10 * (a + 1)) := by rw [Int.pow_succ, Int.mul_assoc]
        rw [h5]
        have h6 : (10 : Int) ^ k * (10 * a + (peekC s st - 48) + 1) ≤ 10 ^ k * (10 * (a + 1)) := Int.mul_le_mul_of_nonneg_left (by omega) (Int.pow_nonneg (by omega))
        omega
    · dsimp only
      refine ⟨by rw [ext_nil, app_nil], ha, ?_, rfl⟩
      have h6 : (1 : Int) * (a + 1) ≤ 10 ^ (k + 1) * (a + 1) := Int.mul_le_mul_of_nonneg_right (Int.pow_pos (by omega)) (by omega)
      omega
theorem pattern_text {s : ByteArray} {n : Nat} {st : St} (hi : st.i ≤ s.size) (hb : (patternS s n st).2.bad = false) : (patternS s n st).1.2 ++ ⟨#[47]⟩ = s.extract st.i (patternS s n st).2.i := by
  have h1 := expr_le s n st hi
  unfold patternS at hb ⊢
  split at hb
  · cases hb
  · next hc =>
    rw [if_neg hc]
    obtain ⟨_, h3, h4⟩ := eatIf_not hb
    dsimp only
    rw [h4]
    show _ = s.extract st.i ((exprS s n st).2.i + 1)
    rw [← ext_app s h1.1 (Nat.le_succ _), is_byte h3]
    rfl

def addrX (k n : Int) (t : ByteArray) : ByteArray := if k = 110 then decS n.toNat else if k = 36 then ⟨#[36]⟩ else if k = 47 then ⟨#[47]⟩ ++ t ++ ⟨#[47]⟩ else ⟨#[]⟩

theorem addr_text {s : ByteArray} {n : Nat} {st : St} (hb : (addrS s n st).2.bad = false) : addrX (addrS s n st).1.kind (addrS s n st).1.num (addrS s n st).1.text = s.extract st.i (addrS s n st).2.i := by
  unfold addrS at hb ⊢
  split
  · next hc => exact (is_byte hc).symm
  · next h0 =>
    rw [if_neg h0] at hb
    split
    · next hc =>
      rw [if_pos hc] at hb
      have hl := peekOk_lt (isB_ok hc)
      have h1 := pattern_text (n := n) (show (adv st).i ≤ s.size by simp [adv]; omega) hb
      have h2 := pattern_le s n (adv st) (by simp [adv]; omega)
      show (⟨#[47]⟩ : ByteArray) ++ (patternS s n (adv st)).1.2 ++ ⟨#[47]⟩ = _
      rw [ByteArray.append_assoc, h1]
      have h3 := is_byte hc
      show (⟨#[byteOf 47]⟩ : ByteArray) ++ _ = _
      rw [← h3]
      exact ext_app s (by omega) h2.1
    · next h1 =>
      rw [if_neg h1] at hb
      split
      · exact (ext_nil s st.i).symm
      · next hc =>
        have hc' : amongB s st digits1L = true := by simpa using hc
        obtain ⟨h2, h3, h4⟩ := among_digit1 hc'
        have hl := peekOk_lt h2
        have h5 : numL s 4 0 st = numL s 3 (peekC s st - 48) (adv st) := by
          rw [numL, if_pos (among1_among hc'), digit_of h2 (by omega) h4]
          dsimp only
          congr 1
          omega
        have h6 := num_text s 3 (peekC s st - 48) (adv st) (by omega) (by simp [adv]; omega)
        have h7 := num_up s 3 (peekC s st - 48) (adv st)
        show decS (numL s 4 0 st).1.toNat = s.extract st.i (numL s 4 0 st).2.i
        rw [h5, ← h6.1, dec_one h2 (by omega) h4]
        rw [show (adv st).i = st.i + 1 from rfl] at h7 ⊢
        exact ext_app s (by omega) h7
theorem addr_num {s : ByteArray} {n : Nat} {st : St} : 0 ≤ (addrS s n st).1.num ∧ (addrS s n st).1.num < 100000 := by
  unfold addrS
  split
  · exact ⟨by simp, by simp⟩
  · split
    · exact ⟨by simp, by simp⟩
    · split
      · exact ⟨by simp, by simp⟩
      · next hc =>
        have hc' : amongB s st digits1L = true := by simpa using hc
        obtain ⟨h2, h3, h4⟩ := among_digit1 hc'
        have hl := peekOk_lt h2
        have h5 : numL s 4 0 st = numL s 3 (peekC s st - 48) (adv st) := by
          rw [numL, if_pos (among1_among hc'), digit_of h2 (by omega) h4]
          dsimp only
          congr 1
          omega
        have h6 := num_text s 3 (peekC s st - 48) (adv st) (by omega) (by simp [adv]; omega)
        rw [h5]
        dsimp only
        have h8 := h6.2.2.1
        have h9 : (10 : Int) ^ 3 * (peekC s st - 48 + 1) ≤ 10 ^ 3 * 10 := Int.mul_le_mul_of_nonneg_left (by omega) (by decide)
        have h10 : (10 : Int) ^ 3 * 10 = 10000 := by decide
        exact ⟨by omega, by omega⟩

theorem word_text {s : ByteArray} {st : St} (hi : st.i ≤ s.size) (hb : (wordS s st).2.bad = false) : (wordS s st).1 = s.extract st.i (wordS s st).2.i ∧ (wordS s st).1.size ≠ 0 := by
  have h1 := wordL_le s 8 st hi
  unfold wordS at hb ⊢
  split at hb
  · cases hb
  · next hc =>
    rw [if_neg hc]
    refine ⟨rfl, ?_⟩
    rw [ByteArray.size_extract]
    omega
theorem spaced_text {s : ByteArray} {st : St} (hb : (spacedS s st).2.bad = false) : ⟨#[32]⟩ ++ (spacedS s st).1 = s.extract st.i (spacedS s st).2.i ∧ (spacedS s st).1.size ≠ 0 := by
  unfold spacedS at hb ⊢
  split at hb
  · next hc => rw [hc] at hb; cases hb
  · next hc =>
    rw [if_neg hc]
    obtain ⟨h1, h2⟩ := eat_not (s := s) (st := st) (c := 32) (by simpa using hc)
    rw [h2] at hb ⊢
    have hl := peekOk_lt (isB_ok h1)
    have h3 := word_text (show (adv st).i ≤ s.size by simp [adv]; omega) hb
    have h4 : (adv st).i ≤ (wordS s (adv st)).2.i := by
      unfold wordS
      split
      · exact Nat.le_refl _
      · exact (wordL_le s 8 (adv st) (by simp [adv]; omega)).1
    refine ⟨?_, h3.2⟩
    rw [h3.1]
    show (⟨#[byteOf 32]⟩ : ByteArray) ++ _ = _
    rw [← is_byte h1]
    exact ext_app s (by omega) h4
end Go.Proofs.YtmjdaifalgpdnaaGreat

namespace Go.Proofs.YtmjdaifalgpdnaaGreat
open Go.RowKit

theorem repl_fin {s : ByteArray} (g : Nat) : ∀ (n : Nat) (a : St), a.i ≤ s.size → s.size - a.i + 1 < n → (replL s g n a).bad = true ∨ isB s (replL s g n a) 47 = true
  | 0, _, _, h => by omega
  | n + 1, a, hi, hn => by
    rw [replL]
    split
    · next h => exact h
    · next h =>
      obtain ⟨h1, h2, h3⟩ := piece_le s g a hi
      rcases h3 with h3 | h3
      · left
        have : replL s g n (pieceS s g a) = pieceS s g a := by cases n <;> simp [replL, h3]
        rw [this]; exact h3
      · exact repl_fin g n _ h2 (by omega)
theorem repl_up {s : ByteArray} (g : Nat) : ∀ (n : Nat) (a : St), a.i ≤ s.size → a.i ≤ (replL s g n a).i ∧ (replL s g n a).i ≤ s.size
  | 0, _, h => ⟨Nat.le_refl _, h⟩
  | n + 1, a, hi => by
    rw [replL]
    split
    · exact ⟨Nat.le_refl _, hi⟩
    · obtain ⟨h1, h2, _⟩ := piece_le s g a hi
      have := repl_up g n _ h2
      omega
theorem repl_badX {s : ByteArray} (g n : Nat) {st : St} (h : st.bad = true) : replL s g n st = st := by cases n <;> simp [replL, h]

theorem from_text (s : ByteArray) : ∀ (n : Nat) (f : ByteArray) (st : St), st.i ≤ s.size → (fromL s n f st).2.bad = false → (fromL s n f st).1 = f ++ s.extract st.i (fromL s n f st).2.i ∧ st.i ≤ (fromL s n f st).2.i ∧ (fromL s n f st).2.i ≤ s.size
  | 0, f, st, hi, _ => by
    rw [fromL]
    exact ⟨by rw [ext_nil, app_nil], Nat.le_refl _, hi⟩
  | n + 1, f, st, hi, hb => by
    rw [fromL] at hb ⊢
    split
    · exact ⟨by rw [ext_nil, app_nil], Nat.le_refl _, hi⟩
    · next h0 =>
      rw [if_neg h0] at hb
      split
      · next h1 =>
        rw [if_pos h1] at hb
        have e : fromL s n f (spoil st) = (f, spoil st) := by cases n <;> simp [fromL, spoil]
        rw [e] at hb; cases hb
      · next h1 =>
        rw [if_neg h1] at hb
        have hok : peekOk s st = true := by
          cases hx : peekOk s st
          · exact absurd (.inl hx) h1
          · rfl
        have hl := peekOk_lt hok
        have ih := from_text s n (f ++ ⟨#[byteOf (peekC s st)]⟩) (adv st) (by simp [adv]; omega) hb
        rw [show (adv st).i = st.i + 1 from rfl] at ih
        generalize fromL s n (f ++ ⟨#[byteOf (peekC s st)]⟩) (adv st) = z at *
        refine ⟨?_, by omega, ih.2.2⟩
        rw [ih.1, ← peek_byte hok, ByteArray.append_assoc, ext_app s (Nat.le_succ _) ih.2.1]
theorem to_text (s : ByteArray) (m : Nat) : ∀ (n : Nat) (f : ByteArray) (st : St), st.i ≤ s.size → f.size ≤ m → s.size < st.i + n → (toL s m n f st).2.bad = false → (toL s m n f st).1 = f ++ s.extract st.i (toL s m n f st).2.i ∧ st.i ≤ (toL s m n f st).2.i ∧ (toL s m n f st).2.i ≤ s.size ∧ (toL s m n f st).1.size = m
  | 0, _, _, _, _, h, _ => by omega
  | n + 1, f, st, hi, hm, hn, hb => by
    rw [toL] at hb ⊢
    split
    · next h0 =>
      rw [if_pos h0] at hb
      refine ⟨by rw [ext_nil, app_nil], Nat.le_refl _, hi, ?_⟩
      rcases h0 with h0 | h0
      · rw [h0] at hb; cases hb
      · show f.size = m; omega
    · next h0 =>
      rw [if_neg h0] at hb
      split
      · next h1 =>
        rw [if_pos h1] at hb
        have e : toL s m n f (spoil st) = (f, spoil st) := by cases n <;> simp [toL, spoil]
        rw [e] at hb; cases hb
      · next h1 =>
        rw [if_neg h1] at hb
        have hok : peekOk s st = true := by
          cases hx : peekOk s st
          · exact absurd (.inl hx) h1
          · rfl
        have hl := peekOk_lt hok
        have hz : (f ++ ⟨#[byteOf (peekC s st)]⟩).size = f.size + 1 := by rw [ByteArray.size_append]; rfl
        have ih := to_text s m n (f ++ ⟨#[byteOf (peekC s st)]⟩) (adv st) (by simp [adv]; omega) (by simp only [not_or] at h0; omega) (by simp only [adv]; omega) hb
        rw [show (adv st).i = st.i + 1 from rfl] at ih
        generalize toL s m n (f ++ ⟨#[byteOf (peekC s st)]⟩) (adv st) = z at *
        refine ⟨?_, by omega, ih.2.2.1, ih.2.2.2⟩
        rw [ih.1, ← peek_byte hok, ByteArray.append_assoc, ext_app s (Nat.le_succ _) ih.2.1]

def flagX (f : Rf) : ByteArray :=
  let a := if 0 < f.n then decS f.n.toNat else ⟨#[]⟩
  let b := if f.g = true then a ++ ⟨#[103]⟩ else a
  let c := if f.p = true then b ++ ⟨#[112]⟩ else b
  if f.w = true then c ++ ⟨#[119, 32]⟩ ++ f.text else c

def restX (op : Int) (f : Rf) : ByteArray :=
  if op = 97 ∨ op = 105 ∨ op = 99 ∨ op = 119 then ⟨#[32]⟩ ++ f.text else
  if op = 58 then f.text else
  if op = 98 ∨ op = 116 then (if f.text.size = 0 then ⟨#[]⟩ else ⟨#[32]⟩ ++ f.text) else
  if op = 113 ∨ op = 81 then (if f.said = true then decS f.n.toNat else ⟨#[]⟩) else
  if op = 115 then ⟨#[47]⟩ ++ f.tt ++ ⟨#[47]⟩ ++ f.r ++ ⟨#[47]⟩ ++ flagX f else
  if op = 121 then ⟨#[47]⟩ ++ f.text.extract 0 (f.text.size / 2) ++ ⟨#[47]⟩ ++ f.text.extract (f.text.size / 2) f.text.size ++ ⟨#[47]⟩ else ⟨#[]⟩

/-- What a command's fields print, behind its letter, is what stands there. -/
def RT (s : ByteArray) (op : Int) (st st' : St) (cs : Array Value) : Prop := st'.bad = false → ∃ f, RfV cs f ∧ 0 ≤ f.n ∧ f.n < 100000 ∧ f.text.size ≤ s.size ∧ f.tt.size ≤ s.size ∧ f.r.size ≤ s.size ∧ restX op f = s.extract st.i st'.i

theorem half_app (a b : ByteArray) (h : b.size = a.size) : (a ++ b).extract 0 ((a ++ b).size / 2) = a ∧ (a ++ b).extract ((a ++ b).size / 2) (a ++ b).size = b := by
  have hz : (a ++ b).size / 2 = a.size := by rw [ByteArray.size_append, h]; omega
  rw [hz]
  have hd : a.data.size = a.size := rfl
  have hd2 : b.data.size = b.size := rfl
  constructor
  · apply ByteArray.ext
    rw [ByteArray.data_extract, ByteArray.data_append]
    rw [← hd]
    simp
  · apply ByteArray.ext
    rw [ByteArray.data_extract, ByteArray.data_append, ByteArray.size_append, Array.extract_append]
    have e1 : a.data.extract a.size (a.size + b.size) = #[] := by
      apply Array.eq_empty_of_size_eq_zero
      rw [Array.size_extract]
      omega
    have e2 : a.size - a.data.size = 0 := by omega
    have e3 : a.size + b.size - a.data.size = b.data.size := by omega
    rw [e1, e2, e3]
    simp

theorem table_text {s : ByteArray} {n : Nat} {st : St} (hn : s.size + 1 < n) (hb : (tableS s n st).2.bad = false) :
    ⟨#[47]⟩ ++ (tableS s n st).1.extract 0 ((tableS s n st).1.size / 2) ++ ⟨#[47]⟩ ++ (tableS s n st).1.extract ((tableS s n st).1.size / 2) (tableS s n st).1.size ++ ⟨#[47]⟩ = s.extract st.i (tableS s n st).2.i ∧ (tableS s n st).1.size ≤ s.size := by
  unfold tableS at hb ⊢
  dsimp only at hb ⊢
  obtain ⟨b1, i1, e1⟩ := eatIf_not hb
  have hle : ∀ (f : ByteArray) (a : St), a.bad = true → (toL s (fromL s n ⟨#[]⟩ (eatS s 47 st)).1.size n f a).2.bad = true := fun f a h => by
    have : toL s (fromL s n ⟨#[]⟩ (eatS s 47 st)).1.size n f a = (f, a) := by cases n <;> simp [toL, h]
    rw [this]; exact h
  have b2 : (eatIf s 47 (fromL s n ⟨#[]⟩ (eatS s 47 st)).2).bad = false := by
    cases hx : (eatIf s 47 (fromL s n ⟨#[]⟩ (eatS s 47 st)).2).bad
    · rfl
    · rw [hle _ _ hx] at b1; cases b1
  obtain ⟨b3, i3, e3⟩ := eatIf_not b2
  have b4 : (eatS s 47 st).bad = false := by
    cases hx : (eatS s 47 st).bad
    · rfl
    · have : fromL s n ⟨#[]⟩ (eatS s 47 st) = (⟨#[]⟩, eatS s 47 st) := by cases n <;> simp [fromL, hx]
      rw [this] at b3; rw [hx] at b3; cases b3
  obtain ⟨i5, e5⟩ := eat_not b4
  rw [e5] at b1 b3 i1 i3 e1 e3 ⊢
  clear b2 hle hb
  have l5 := peekOk_lt (isB_ok i5)
  have h6 := from_text s n ⟨#[]⟩ (adv st) (by simp [adv]; omega) b3
  rw [nil_app] at h6
  generalize fromL s n ⟨#[]⟩ (adv st) = fr at *
  rw [e3] at b1 i1 e1 ⊢
  have l3 := peekOk_lt (isB_ok i3)
  have h7 := to_text s fr.1.size n ⟨#[]⟩ (adv fr.2) (by simp [adv]; omega) (Nat.zero_le _) (by simp only [adv]; omega) b1
  rw [nil_app] at h7
  generalize toL s fr.1.size n ⟨#[]⟩ (adv fr.2) = tl at *
  rw [e1]
  have l1 := peekOk_lt (isB_ok i1)
  obtain ⟨h8, h9⟩ := half_app fr.1 tl.1 h7.2.2.2
  rw [h8, h9]
  have c1 : (adv st).i = st.i + 1 := rfl
  have c2 : (adv fr.2).i = fr.2.i + 1 := rfl
  have c3 : (adv tl.2).i = tl.2.i + 1 := rfl
  rw [c1] at h6
  rw [c2] at h7
  constructor
  · rw [c3, h6.1, h7.1]
    show (⟨#[byteOf 47]⟩ : ByteArray) ++ _ ++ ⟨#[byteOf 47]⟩ ++ _ ++ ⟨#[byteOf 47]⟩ = _
    conv => lhs; lhs; lhs; lhs; lhs; rw [← is_byte i5]
    conv => lhs; lhs; lhs; rhs; rw [← is_byte i3]
    conv => lhs; rhs; rw [← is_byte i1]
    rw [ext_app s (by omega) (by omega), ext_app s (by omega) (by omega), ext_app s (by omega) (by omega), ext_app s (by omega) (by omega)]
  · rw [ByteArray.size_append, h6.1, h7.1, ByteArray.size_extract, ByteArray.size_extract]
    omega

theorem spaced_up (s : ByteArray) (st : St) (hi : st.i ≤ s.size) : st.i ≤ (spacedS s st).2.i ∧ (spacedS s st).2.i ≤ s.size := by
  unfold spacedS
  split
  · exact ⟨eat_ge s 32 st, eat_le s 32 st hi⟩
  · have h1 := eat_ge s 32 st
    have h2 := eat_le s 32 st hi
    have h3 := wordL_le s 8 (eatS s 32 st) h2
    unfold wordS
    split
    · exact ⟨h1, h2⟩
    · exact ⟨by dsimp only; omega, h3.2.1⟩

theorem flag_text {s : ByteArray} {st : St} {f : Rf} (hi : st.i ≤ s.size) (hb : (flagsS s 0 ⟨#[]⟩ st).2.bad = false) (h1 : f.n = (flagsS s 0 ⟨#[]⟩ st).1.n) (h2 : f.g = (flagsS s 0 ⟨#[]⟩ st).1.g) (h3 : f.p = (flagsS s 0 ⟨#[]⟩ st).1.p) (h4 : f.w = (flagsS s 0 ⟨#[]⟩ st).1.w) (h5 : f.text = (flagsS s 0 ⟨#[]⟩ st).1.text) :
    flagX f = s.extract st.i (flagsS s 0 ⟨#[]⟩ st).2.i ∧ st.i ≤ (flagsS s 0 ⟨#[]⟩ st).2.i ∧ 0 ≤ f.n ∧ f.n < 100000 ∧ f.text.size ≤ s.size := by
  obtain ⟨s5, hs5⟩ : ∃ s5, s5 = (if amongB s st digits1L then digitS s 49 st else (0, st)).2 := ⟨_, rfl⟩
  obtain ⟨N5, hN5⟩ : ∃ N5, N5 = (if amongB s st digits1L then digitS s 49 st else (0, st)).1 := ⟨_, rfl⟩
  obtain ⟨s6, hs6⟩ : ∃ s6, s6 = advIf s 103 s5 := ⟨_, rfl⟩
  obtain ⟨s7, hs7⟩ : ∃ s7, s7 = advIf s 112 s6 := ⟨_, rfl⟩
  obtain ⟨s8, hs8⟩ : ∃ s8, s8 = if isB s s7 119 then (spacedS s (adv s7)).2 else s7 := ⟨_, rfl⟩
  obtain ⟨T8, hT8⟩ : ∃ T8, T8 = if isB s s7 119 then (spacedS s (adv s7)).1 else ⟨#[]⟩ := ⟨_, rfl⟩
  have e1 := flags_fl st s5 s6 s7 N5 T8 hs5 hN5 hs6 hs7 hT8
  have e2 := flags_st (t0 := ⟨#[]⟩) st s5 s6 s7 s8 hs5 hs6 hs7 hs8
  rw [e2] at hb ⊢
  unfold flagX
  rw [h1, h2, h3, h4, h5, e1]
  clear h1 h2 h3 h4 h5 e1 e2
  dsimp only
  have hd1 : (if 0 < N5 then decS N5.toNat else ⟨#[]⟩) = s.extract st.i s5.i ∧ st.i ≤ s5.i ∧ s5.i ≤ s.size ∧ 0 ≤ N5 ∧ N5 < 100000 := by
    rw [hs5, hN5]
    split
    · next hc =>
      obtain ⟨p1, p2, p3⟩ := among_digit1 hc
      have hl := peekOk_lt p1
      rw [digit_of p1 p2 p3]
      dsimp only
      rw [if_pos (by omega), dec_one p1 (by omega) p3]
      exact ⟨rfl, by simp [adv], by simp [adv]; omega, by omega, by omega⟩
    · dsimp only
      rw [if_neg (by omega), ext_nil]
      exact ⟨rfl, Nat.le_refl _, hi, by omega, by omega⟩
  generalize (if 0 < N5 then decS N5.toNat else ⟨#[]⟩) = dx at *
  have adv_text : ∀ (x : Int) (y : ByteArray) (a : St), y = s.extract st.i a.i → st.i ≤ a.i → a.i ≤ s.size → (if isB s a x = true then y ++ ⟨#[byteOf x]⟩ else y) = s.extract st.i (advIf s x a).i ∧ st.i ≤ (advIf s x a).i ∧ (advIf s x a).i ≤ s.size := by
    intro x y a hy ha hs
    unfold advIf
    split
    · next hc =>
      have hl := peekOk_lt (isB_ok hc)
      rw [hy, ← is_byte hc, ext_app s ha (Nat.le_succ _)]
      exact ⟨rfl, by simp [adv]; omega, by simp [adv]; omega⟩
    · exact ⟨hy, ha, hs⟩
  have g1 := adv_text 103 _ s5 hd1.1 hd1.2.1 hd1.2.2.1
  rw [← hs6] at g1
  have g2 := adv_text 112 _ s6 g1.1 g1.2.1 g1.2.2
  rw [← hs7] at g2
  have hn := hd1.2.2.2
  change (if isB s s6 112 = true then (if isB s s5 103 = true then dx ++ ⟨#[103]⟩ else dx) ++ ⟨#[112]⟩ else (if isB s s5 103 = true then dx ++ ⟨#[103]⟩ else dx)) = _ ∧ _ at g2
  generalize (if isB s s6 112 = true then (if isB s s5 103 = true then dx ++ ⟨#[103]⟩ else dx) ++ ⟨#[112]⟩ else (if isB s s5 103 = true then dx ++ ⟨#[103]⟩ else dx)) = dy at *
  clear g1 hd1 hs5 hs6 hs7 hN5 adv_text
  cases hw : isB s s7 119
  · rw [hw] at hs8 hT8
    simp only [Bool.false_eq_true, if_false] at hs8 hT8 ⊢
    rw [hs8, hT8]
    exact ⟨g2.1, g2.2.1, hn.1, hn.2, Nat.zero_le _⟩
  · rw [hw] at hs8 hT8
    simp only [if_true] at hs8 hT8 ⊢
    rw [hs8] at hb ⊢
    rw [hT8]
    have h6 := spaced_text hb
    have h8 := spaced_up s (adv s7) (by have := peekOk_lt (isB_ok hw); simp [adv]; omega)
    have c1 : (adv s7).i = s7.i + 1 := rfl
    rw [c1] at h6 h8
    refine ⟨?_, by omega, hn.1, hn.2, ?_⟩
    · have h9 : (⟨#[119, 32]⟩ : ByteArray) = ⟨#[byteOf 119]⟩ ++ ⟨#[32]⟩ := rfl
      have h10 : ∀ (a b c d : ByteArray), a ++ (b ++ c) ++ d = a ++ b ++ (c ++ d) := fun a b c d => by rw [← ByteArray.append_assoc, ByteArray.append_assoc]
      rw [h9, h10, h6.1, g2.1, ← is_byte hw, ext_app s g2.2.1 (Nat.le_succ _), ext_app s (by omega) h8.1]
    · have h11 : ((⟨#[32]⟩ : ByteArray) ++ (spacedS s (adv s7)).1).size = (s.extract (s7.i + 1) (spacedS s (adv s7)).2.i).size := by rw [h6.1]
      rw [ByteArray.size_append, ByteArray.size_extract] at h11
      omega

theorem subst_text {s : ByteArray} {n : Nat} {st : St} (hn : 2 * (s.size - st.i) + 2 ≤ n) (hb : (substS s n st).bad = false) :
    restX 115 (substF s n st) = s.extract st.i (substS s n st).i ∧ 0 ≤ (substF s n st).n ∧ (substF s n st).n < 100000 ∧ (substF s n st).text.size ≤ s.size ∧ (substF s n st).tt.size ≤ s.size ∧ (substF s n st).r.size ≤ s.size := by
  unfold substS at hb ⊢
  split at hb
  · next h => rw [h] at hb; cases hb
  · next h0 =>
    rw [if_neg h0]
    obtain ⟨i1, e1⟩ := eat_not (s := s) (st := st) (c := 47) (by simpa using h0)
    have l1 := peekOk_lt (isB_ok i1)
    dsimp only at hb ⊢
    split at hb
    · next h => rw [h] at hb; cases hb
    · next h2 =>
      rw [if_neg h2]
      unfold substF
      dsimp only
      rw [e1] at *
      have b3 : (patternS s n (adv st)).2.bad = false := by
        cases hx : (patternS s n (adv st)).2.bad
        · rfl
        · rw [repl_badX _ n hx] at h2; exact absurd hx h2
      have h4 := pattern_text (n := n) (show (adv st).i ≤ s.size by simp [adv]; omega) b3
      have h5 := pattern_le s n (adv st) (by simp [adv]; omega)
      have c1 : (adv st).i = st.i + 1 := rfl
      rw [c1] at h4 h5
      generalize patternS s n (adv st) = pt at *
      have h6 := repl_fin pt.1.1 n pt.2 h5.2 (by omega)
      have h7 := repl_up (s := s) pt.1.1 n pt.2 h5.2
      generalize replL s pt.1.1 n pt.2 = rp at *
      have i8 : isB s rp 47 = true := by
        rcases h6 with h | h
        · exact absurd h h2
        · exact h
      have l8 := peekOk_lt (isB_ok i8)
      have h9 := flag_text (f := ⟨(flagsS s 0 ⟨#[]⟩ (adv rp)).1.text, (flagsS s 0 ⟨#[]⟩ (adv rp)).1.n, false, pt.1.2, s.extract pt.2.i rp.i, (flagsS s 0 ⟨#[]⟩ (adv rp)).1.g, (flagsS s 0 ⟨#[]⟩ (adv rp)).1.p, (flagsS s 0 ⟨#[]⟩ (adv rp)).1.w⟩) (show (adv rp).i ≤ s.size by simp [adv]; omega) hb rfl rfl rfl rfl rfl
      have c2 : (adv rp).i = rp.i + 1 := rfl
      rw [c2] at h9
      refine ⟨?_, h9.2.2.1, h9.2.2.2.1, h9.2.2.2.2, ?_, ?_⟩
      · show (⟨#[byteOf 47]⟩ : ByteArray) ++ pt.1.2 ++ ⟨#[47]⟩ ++ s.extract pt.2.i rp.i ++ ⟨#[byteOf 47]⟩ ++ flagX _ = _
        have hA : ∀ a b c d e g : ByteArray, a ++ b ++ c ++ d ++ e ++ g = a ++ (b ++ c) ++ d ++ e ++ g := fun a b c d e g => by rw [@ByteArray.append_assoc a b c]
        rw [hA, h4, h9.1]
        conv => lhs; lhs; lhs; lhs; lhs; rw [← is_byte i1]
        conv => lhs; lhs; rhs; rw [← is_byte i8]
        rw [ext_app s (by omega) (by omega), ext_app s (by omega) (by omega), ext_app s (by omega) (by omega), ext_app s (by omega) (by omega)]
      · have h11 : (pt.1.2 ++ (⟨#[47]⟩ : ByteArray)).size = (s.extract (st.i + 1) pt.2.i).size := by rw [h4]
        rw [ByteArray.size_append, ByteArray.size_extract] at h11
        show pt.1.2.size ≤ s.size
        omega
      · show (s.extract pt.2.i rp.i).size ≤ s.size
        rw [ByteArray.size_extract]
        omega
end Go.Proofs.YtmjdaifalgpdnaaGreat
