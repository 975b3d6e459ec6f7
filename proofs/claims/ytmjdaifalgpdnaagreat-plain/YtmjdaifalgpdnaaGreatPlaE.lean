import Derived.Test.YtmjdaifalgpdnaaGreatPlaD
namespace Go.Proofs.YtmjdaifalgpdnaaGreat

/-- Every byte but a newline. -/
abbrev NL (c : Int) : Prop := c ≠ 10

section
variable {s t : ByteArray} {a b L n m : Nat} {st : St}

theorem lineE_mv (H : Ag s t a b L) (ht : b + L < t.size) (h10 : (t[b + L].toNat : Int) = 10) : ∀ (n m i : Nat), a ≤ i → i ≤ a + L → lineE s n i = a + L → a + L < i + m → lineE t m (b + (i - a)) = b + L
  | n, 0, i, h, h2, he, hm => by omega
  | n, m + 1, i, h, h2, he, hm => by
    by_cases h3 : i = a + L
    · have e : b + (i - a) = b + L := by omega
      rw [e, lineE, dif_pos ht, if_pos h10]
    · cases n with
      | zero => rw [lineE] at he; exact absurd he h3
      | succ n =>
        rw [lineE] at he
        split at he
        · next hl =>
          split at he
          · exact absurd he h3
          · next hne =>
            have hr := H.r
            have hg := H.get h (by omega) hl (by omega)
            rw [lineE, dif_pos (by omega), if_neg (by rw [hg]; exact hne)]
            have ih := lineE_mv H ht h10 n m (i + 1) (by omega) (by omega) he (by omega)
            have e : b + (i + 1 - a) = b + (i - a) + 1 := by omega
            rw [e] at ih
            exact ih
        · exact absurd he h3

theorem from_bad (f : ByteArray) (h : st.bad = true) : fromL s n f st = (f, st) := by
  cases n with
  | zero => rfl
  | succ n => rw [fromL, if_pos (.inl h)]
theorem to_bad (f : ByteArray) (M : Nat) (h : st.bad = true) : toL s M n f st = (f, st) := by
  cases n with
  | zero => rfl
  | succ n => rw [toL, if_pos (.inl h)]
theorem repl_bad0 (g : Nat) (h : st.bad = true) : replL s g n st = st := by
  cases n with
  | zero => rfl
  | succ n => rw [replL, if_pos (.inl h)]

theorem from_mv (H : Ag s t a b L) : ∀ (n m : Nat) (f : ByteArray) (st : St), a ≤ st.i → st.i ≤ s.size → (fromL s n f st).2.bad = false → isB s (fromL s n f st).2 47 = true → (fromL s n f st).2.i < a + L → a + L < st.i + n → a + L < st.i + m → fromL t m f (mv a b st) = ((fromL s n f st).1, mv a b (fromL s n f st).2)
  | 0, m, f, st, h, hi, hb, h47, he, hn, hm => by rw [fromL] at he; dsimp only at he; omega
  | n + 1, 0, f, st, h, hi, hb, h47, he, hn, hm => by have := (On.from (n + 1) f st hi).1; omega
  | n + 1, m + 1, f, st, h, hi, hb, h47, he, hn, hm => by
    have h2 : st.i < a + L := by have := (On.from (n + 1) f st hi).1; omega
    rw [fromL] at hb h47 he ⊢
    rw [fromL, H.is 47 h h2, H.ok h h2, H.c h h2]
    by_cases c1 : st.bad = true ∨ isB s st 47 = true
    · rw [if_pos c1, if_pos (show (mv a b st).bad = true ∨ _ from c1)]
    · rw [if_neg c1] at hb h47 he ⊢
      rw [if_neg (show ¬ ((mv a b st).bad = true ∨ _) from c1)]
      by_cases c2 : peekOk s st = false ∨ peekC s st = 10 ∨ peekC s st = 92 ∨ hasL f.data.toList (peekC s st) = true
      · rw [if_pos c2, from_bad f rfl] at hb; cases hb
      · rw [if_neg c2] at hb h47 he ⊢
        rw [if_neg c2]
        have hl : st.i < s.size := by
          simp only [not_or] at c2
          exact peekOk_lt (by simpa using c2.1)
        have e : (adv st).i = st.i + 1 := rfl
        rw [← mv_adv h]
        exact from_mv H n m _ (adv st) (by omega) (by omega) hb h47 he (by omega) (by omega)
theorem to_mv (H : Ag s t a b L) (M : Nat) : ∀ (n m : Nat) (f : ByteArray) (st : St), a ≤ st.i → st.i ≤ s.size → (toL s M n f st).2.bad = false → (toL s M n f st).2.i < a + L → a + L < st.i + n → a + L < st.i + m → toL t M m f (mv a b st) = ((toL s M n f st).1, mv a b (toL s M n f st).2)
  | 0, m, f, st, h, hi, hb, he, hn, hm => by rw [toL] at he; dsimp only at he; omega
  | n + 1, 0, f, st, h, hi, hb, he, hn, hm => by have := (On.to M (n + 1) f st hi).1; omega
  | n + 1, m + 1, f, st, h, hi, hb, he, hn, hm => by
    have h2 : st.i < a + L := by have := (On.to M (n + 1) f st hi).1; omega
    rw [toL] at hb he ⊢
    rw [toL, H.ok h h2, H.c h h2]
    by_cases c1 : st.bad = true ∨ M ≤ f.size
    · rw [if_pos c1, if_pos (show (mv a b st).bad = true ∨ _ from c1)]
    · rw [if_neg c1] at hb he ⊢
      rw [if_neg (show ¬ ((mv a b st).bad = true ∨ _) from c1)]
      by_cases c2 : peekOk s st = false ∨ peekC s st = 10 ∨ peekC s st = 92 ∨ peekC s st = 47
      · rw [if_pos c2, to_bad f M rfl] at hb; cases hb
      · rw [if_neg c2] at hb he ⊢
        rw [if_neg c2]
        have hl : st.i < s.size := by
          simp only [not_or] at c2
          exact peekOk_lt (by simpa using c2.1)
        have e : (adv st).i = st.i + 1 := rfl
        rw [← mv_adv h]
        exact to_mv H M n m _ (adv st) (by omega) (by omega) hb he (by omega) (by omega)

theorem table_mv (H : Agx NL s t a b L) (h : a ≤ st.i) (h2 : st.i ≤ a + L) (hb : (tableS s (s.size + 2) st).2.bad = false) (he : (tableS s (s.size + 2) st).2.i ≤ a + L) : (tableS t (t.size + 2) (mv a b st)).2 = mv a b (tableS s (s.size + 2) st).2 := by
  have hl := H.ag.l
  have hr := H.ag.r
  obtain ⟨q1, q2, q3⟩ := H.eat (c := 47) (by decide) h h2
  unfold tableS at hb he ⊢
  dsimp only at hb he ⊢
  obtain ⟨e1, e2, e3⟩ := eatIf_was hb
  rw [e3] at he
  obtain ⟨p, hp⟩ : ∃ p, p = eatS s 47 st := ⟨_, rfl⟩
  rw [← hp] at q1 q2 q3 hb he e1 e2 e3 ⊢
  have hpi : p.i ≤ s.size := by omega
  obtain ⟨F, hF⟩ : ∃ F, F = fromL s (s.size + 2) ⟨#[]⟩ p := ⟨_, rfl⟩
  have hFo := On.from (s := s) (s.size + 2) ⟨#[]⟩ p hpi
  rw [← hF] at hFo hb he e1 e2 e3 ⊢
  have f1 : (eatIf s 47 F.2).bad = false := by
    cases hx : (eatIf s 47 F.2).bad
    · rfl
    · rw [to_bad _ _ hx] at e1; exact e1.symm.trans hx ▸ rfl
  obtain ⟨g1, g2, g3⟩ := eatIf_was f1
  have g4 := peekOk_lt (isB_ok g2)
  have g5 : (eatIf s 47 F.2).i = F.2.i + 1 := by rw [g3]; rfl
  have hT := On.to (s := s) F.1.size (s.size + 2) ⟨#[]⟩ (eatIf s 47 F.2) (by omega)
  obtain ⟨T, hTe⟩ : ∃ T, T = toL s F.1.size (s.size + 2) ⟨#[]⟩ (eatIf s 47 F.2) := ⟨_, rfl⟩
  rw [← hTe] at hT he e1 e2 e3 ⊢
  have he' : T.2.i + 1 ≤ a + L := he
  have hT1 := hT.1
  have hF1 := hFo.1
  have k1 : fromL t (t.size + 2) ⟨#[]⟩ (mv a b p) = (F.1, mv a b F.2) := by
    rw [hF] at g1 g2 ⊢
    exact from_mv H.ag (s.size + 2) (t.size + 2) ⟨#[]⟩ p (by omega) hpi g1 g2 (by rw [← hF]; omega) (by omega) (by omega)
  have k2 : eatIf t 47 (mv a b F.2) = mv a b (eatIf s 47 F.2) := eatIf_mv H.ag 47 (by omega) (by omega)
  have k3 : toL t F.1.size (t.size + 2) ⟨#[]⟩ (mv a b (eatIf s 47 F.2)) = (T.1, mv a b T.2) := by
    rw [hTe] at e1 ⊢
    exact to_mv H.ag F.1.size (s.size + 2) (t.size + 2) ⟨#[]⟩ (eatIf s 47 F.2) (by omega) (by omega) e1 (by rw [← hTe]; omega) (by omega) (by omega)
  rw [q1, k1]
  dsimp only
  rw [k2, k3]
  dsimp only
  exact eatIf_mv H.ag 47 (by omega) (by omega)

theorem piece_mv (H : Ag s t a b L) (g : Nat) (h : a ≤ st.i) (hb : (pieceS s g st).bad = false) (he : (pieceS s g st).i ≤ a + L) : pieceS t g (mv a b st) = mv a b (pieceS s g st) := by
  unfold pieceS at hb he ⊢
  by_cases c1 : peekOk s st = false ∨ peekC s st = 10
  · rw [if_pos c1] at hb; cases hb
  · rw [if_neg c1] at hb he ⊢
    by_cases c2 : peekC s st ≠ 92
    · rw [if_pos c2] at hb he ⊢
      have h2 : st.i + 1 ≤ a + L := he
      rw [H.ok h (by omega), H.c h (by omega), if_neg c1, if_pos c2, mv_adv h]
    · rw [if_neg c2] at hb he ⊢
      by_cases c3 : peekOk s (adv st) = false ∨ hasL pieceL (peekC s (adv st)) = false ∨ (49 ≤ peekC s (adv st) ∧ peekC s (adv st) ≤ 57 ∧ (g : Int) < peekC s (adv st) - 48)
      · rw [if_pos c3] at hb; cases hb
      · rw [if_neg c3] at hb he ⊢
        have h2 : st.i + 1 + 1 ≤ a + L := he
        have e : (adv st).i = st.i + 1 := rfl
        rw [H.ok h (by omega), H.c h (by omega), if_neg c1, if_neg c2, ← mv_adv h, H.ok (by omega) (by omega), H.c (by omega) (by omega), if_neg c3, ← mv_adv (by omega)]
theorem repl_mv (H : Ag s t a b L) (g : Nat) : ∀ (n m : Nat) (st : St), a ≤ st.i → st.i ≤ s.size → (replL s g n st).bad = false → (replL s g n st).i < a + L → a + L < st.i + n → a + L < st.i + m → replL t g m (mv a b st) = mv a b (replL s g n st)
  | 0, m, st, h, hi, hb, he, hn, hm => by rw [replL] at he; omega
  | n + 1, 0, st, h, hi, hb, he, hn, hm => by have := (On.repl g (n + 1) st hi).1; omega
  | n + 1, m + 1, st, h, hi, hb, he, hn, hm => by
    have h2 : st.i < a + L := by have := (On.repl g (n + 1) st hi).1; omega
    rw [replL] at hb he ⊢
    rw [replL, H.is 47 h h2]
    by_cases c1 : st.bad = true ∨ isB s st 47 = true
    · rw [if_pos c1, if_pos (show (mv a b st).bad = true ∨ _ from c1)]
    · rw [if_neg c1] at hb he ⊢
      rw [if_neg (show ¬ ((mv a b st).bad = true ∨ _) from c1)]
      have hp := piece_le s g st hi
      have hpb : (pieceS s g st).bad = false := by
        cases hx : (pieceS s g st).bad
        · rfl
        · rw [repl_bad0 g hx, hx] at hb; cases hb
      have hgt : st.i < (pieceS s g st).i := by
        rcases hp.2.2 with h1 | h1
        · rw [hpb] at h1; cases h1
        · exact h1
      have hR := (On.repl g n (pieceS s g st) hp.2.1).1
      rw [piece_mv H g h hpb (by omega)]
      exact repl_mv H g n m _ (by omega) hp.2.1 hb he (by omega) (by omega)

theorem nl_list {l : List UInt8} (h : (l.all fun v => v != 10) = true) : ∀ v ∈ l, NL ((v.toNat : Nat) : Int) := fun v hv hc => by
  have := List.all_eq_true.1 h v hv
  have e : v = 10 := UInt8.toNat_inj.1 (by have : v.toNat = 10 := by omega
                                           rw [this]; rfl)
  subst e
  cases this

theorem flags_mv (H : Agx NL s t a b L) (n0 : Int) (t0 : ByteArray) (h : a ≤ st.i) (h2 : st.i ≤ a + L) : (flagsS t n0 t0 (mv a b st)).2 = mv a b (flagsS s n0 t0 st).2 := by
  obtain ⟨s5, h5⟩ : ∃ s5, s5 = (if amongB s st digits1L then digitS s 49 st else (n0, st)).2 := ⟨_, rfl⟩
  have k5 : mv a b s5 = (if amongB t (mv a b st) digits1L then digitS t 49 (mv a b st) else (n0, mv a b st)).2 ∧ st.i ≤ s5.i ∧ s5.i ≤ a + L := by
    rw [h5, H.among (nl_list (by decide)) h h2]
    cases hx : amongB s st digits1L
    · simp only [Bool.false_eq_true, if_false]; exact ⟨trivial, Nat.le_refl _, h2⟩
    · simp only [if_true]
      have h3 := H.inn (nl_list (by decide)) h2 hx
      obtain ⟨g1, g2, g3⟩ := among_digit1 hx
      rw [digit_mv H.ag 49 h h3, digit_of g1 g2 g3]
      exact ⟨rfl, by show st.i ≤ st.i + 1; omega, by show st.i + 1 ≤ a + L; omega⟩
  obtain ⟨k6, k6b, k6c⟩ := H.advIf (c := 103) (st := s5) (by decide) (by omega) k5.2.2
  obtain ⟨k7, k7b, k7c⟩ := H.advIf (c := 112) (st := advIf s 103 s5) (by decide) (by omega) k6c
  rw [flags_st (s := s) (n0 := n0) (t0 := t0) st s5 (advIf s 103 s5) (advIf s 112 (advIf s 103 s5)) _ h5 rfl rfl rfl]
  rw [flags_st (s := t) (n0 := n0) (t0 := t0) (mv a b st) (mv a b s5) (mv a b (advIf s 103 s5)) (mv a b (advIf s 112 (advIf s 103 s5))) _ k5.1 k6.symm k7.symm rfl]
  rw [H.is (by decide) (by omega) k7c]
  cases hx : isB s (advIf s 112 (advIf s 103 s5)) 119
  · simp only [Bool.false_eq_true, if_false]
  · simp only [if_true]
    have := H.in1 (by decide) k7c hx
    rw [← mv_adv (by omega), spaced_mv H (nl_list (by decide)) (by decide) (by show a ≤ _ + 1; omega) (by show _ + 1 ≤ a + L; omega)]

theorem subst_mv (H : Agx NL s t a b L) (h : a ≤ st.i) (h2 : st.i ≤ a + L) (hn : 2 * (s.size - st.i) + 2 ≤ n) (hm : 2 * (t.size - (mv a b st).i) + 2 ≤ m) (hb : (substS s n st).bad = false) (he : (substS s n st).i ≤ a + L) : substS t m (mv a b st) = mv a b (substS s n st) := by
  have hl := H.ag.l
  have hr := H.ag.r
  obtain ⟨q1, q2, q3⟩ := H.eat (c := 47) (by decide) h h2
  unfold substS at hb he ⊢
  rw [q1]
  by_cases c1 : (eatS s 47 st).bad = true
  · rw [if_pos c1, c1] at hb; cases hb
  · rw [if_neg c1] at hb he ⊢
    rw [if_neg (show ¬ (mv a b (eatS s 47 st)).bad = true from c1)]
    dsimp only at hb he ⊢
    have w := eat_not (s := s) (c := 47) (st := st) (by simpa using c1)
    have hlt := peekOk_lt (isB_ok w.1)
    obtain ⟨p, hp⟩ : ∃ p, p = eatS s 47 st := ⟨_, rfl⟩
    have hpi : p.i = st.i + 1 := by rw [hp, w.2]; rfl
    rw [← hp] at hb he q3 ⊢
    obtain ⟨P, hP⟩ : ∃ P, P = patternS s n p := ⟨_, rfl⟩
    have hPl := pattern_le s n p (by omega)
    rw [← hP] at hb he hPl ⊢
    obtain ⟨R, hR⟩ : ∃ R, R = replL s P.1.1 n P.2 := ⟨_, rfl⟩
    rw [← hR] at hb he ⊢
    have hRo := On.repl P.1.1 n P.2 hPl.2
    rw [← hR] at hRo
    by_cases c2 : R.bad = true
    · rw [if_pos c2, c2] at hb; cases hb
    · rw [if_neg c2] at hb he ⊢
      have hRb : R.bad = false := by simpa using c2
      have hPb : P.2.bad = false := by
        cases hx : P.2.bad
        · rfl
        · rw [hR, repl_bad0 _ hx, hx] at hRb; cases hRb
      have hP1 := hPl.1
      have hR1 := hRo.1
      have hR47 : isB s R 47 = true := by
        rcases repl_end P.1.1 n P.2 hPl.2 (by omega) with h1 | h1
        · rw [← hR, hRb] at h1; cases h1
        · rw [hR]; exact h1
      have hRl := peekOk_lt (isB_ok hR47)
      have hF := (On.flags 0 ⟨#[]⟩ (s := s) (a := adv R) (by show R.i + 1 ≤ s.size; omega)).1
      have e : (adv R).i = R.i + 1 := rfl
      have k1 : patternS t m (mv a b p) = (P.1, mv a b P.2) := by
        rw [hP] at hPb ⊢
        have e2 : (mv a b p).i = b + (p.i - a) := rfl
        have e3 : (mv a b st).i = b + (st.i - a) := rfl
        exact pattern_mv H.ag (by omega) (by omega) (by omega) (by omega) hPb (by rw [← hP]; omega)
      have k2 : replL t P.1.1 m (mv a b P.2) = mv a b R := by
        rw [hR] at hRb ⊢
        have e3 : (mv a b st).i = b + (st.i - a) := rfl
        exact repl_mv H.ag P.1.1 n m P.2 (by omega) hPl.2 hRb (by rw [← hR]; omega) (by omega) (by omega)
      rw [k1]
      dsimp only
      rw [k2, if_neg (show ¬ (mv a b R).bad = true from c2), ← mv_adv (by omega)]
      exact flags_mv H 0 ⟨#[]⟩ (by omega) (by omega)

theorem rest_mv (H : Agx NL s t a b L) (ht : b + L < t.size) (h10 : (t[b + L].toNat : Int) = 10) (op : Int) (h : a ≤ st.i) (hi : st.i ≤ s.size) (hn : 2 * (s.size - st.i) + 2 ≤ n) (hm : 2 * (t.size - (mv a b st).i) + 2 ≤ m) (hb : (restS s n op st).bad = false) (he : (restS s n op st).i = a + L) : restS t m op (mv a b st) = mv a b (restS s n op st) := by
  have hle := (On.rest (n := n) op hi hn).1
  have h2 : st.i ≤ a + L := by omega
  have hl := H.ag.l
  unfold restS at hb he ⊢
  by_cases c1 : op = 97 ∨ op = 105 ∨ op = 99
  · rw [if_pos c1] at hb he ⊢
    rw [if_pos c1]
    obtain ⟨q1, q2, q3⟩ := H.eat (c := 32) (by decide) h h2
    rw [q1]
    by_cases c : (eatS s 32 st).bad = true
    · rw [if_pos c, c] at hb; cases hb
    · rw [if_neg c] at hb he ⊢
      rw [if_neg (show ¬ (mv a b (eatS s 32 st)).bad = true from c)]
      dsimp only at he
      have := lineE_mv H.ag ht h10 (s.size + 1) (t.size + 1) (eatS s 32 st).i (by omega) q3 he (by omega)
      rw [mv_i, this]
      have e : b + L = b + (lineE s (s.size + 1) (eatS s 32 st).i - a) := by omega
      rw [e]
  · rw [if_neg c1] at hb he ⊢
    rw [if_neg c1]
    by_cases c2 : op = 58
    · rw [if_pos c2, if_pos c2, word_mv H (nl_list (by decide)) h h2]
    · rw [if_neg c2] at hb he ⊢
      rw [if_neg c2]
      by_cases c3 : op = 98 ∨ op = 116
      · rw [if_pos c3, if_pos c3, H.is (by decide) h h2, spaced_mv H (nl_list (by decide)) (by decide) h h2]
        split <;> rfl
      · rw [if_neg c3] at hb he ⊢
        rw [if_neg c3]
        by_cases c4 : op = 113 ∨ op = 81
        · rw [if_pos c4, if_pos c4, H.among (nl_list (by decide)) h h2]
          split
          · next hx => rw [digit_mv H.ag 48 h (H.inn (nl_list (by decide)) h2 hx)]
          · rfl
        · rw [if_neg c4] at hb he ⊢
          rw [if_neg c4]
          by_cases c5 : op = 115
          · rw [if_pos c5] at hb he ⊢
            rw [if_pos c5]
            exact subst_mv H h h2 hn hm hb (by omega)
          · rw [if_neg c5] at hb he ⊢
            rw [if_neg c5]
            by_cases c6 : op = 119
            · rw [if_pos c6, if_pos c6, spaced_mv H (nl_list (by decide)) (by decide) h h2]
            · rw [if_neg c6] at hb he ⊢
              rw [if_neg c6]
              by_cases c7 : op = 121
              · rw [if_pos c7] at hb he ⊢
                rw [if_pos c7]
                exact table_mv H h h2 hb (by omega)
              · rw [if_neg c7, if_neg c7]
theorem restT_mv (H : Agx NL s t a b L) (op : Int) (h : a ≤ st.i) (h2 : st.i ≤ a + L) : restT t op (mv a b st) = restT s op st := by
  unfold restT
  rw [word_mv H (nl_list (by decide)) h h2, spaced_mv H (nl_list (by decide)) (by decide) h h2, H.is (by decide) h h2]
end
end Go.Proofs.YtmjdaifalgpdnaaGreat
