import Derived.Test.YtmjdaifalgpdnaaGreatPlaB
namespace Go.Proofs.YtmjdaifalgpdnaaGreat

theorem partsS_bad (s : ByteArray) (inner : Bool) : ∀ (n : Nat) (st : St) (l : List Part), st.bad = true → partsS s inner n st l = (l, st)
  | 0, st, l, _ => by simp only [partsS]
  | n + 1, st, l, h => by rw [partsS, if_pos (.inl (.inl h))]

theorem count_bad0 {s : ByteArray} {r : Part × St} (h : r.2.bad = true) : countS s r = r := by unfold countS; rw [if_pos h]
theorem esc_one (s : ByteArray) (n : Nat) (st : St) (hb : (escS s n st).2.bad = false) : st.i + 1 ≤ (escS s n st).2.i := by
  cases n with
  | zero => simp only [escS] at hb; cases hb
  | succ n =>
    rw [escS] at hb ⊢
    split
    · next hc => rw [if_pos hc] at hb; cases hb
    · next hc =>
      have hlt : st.i < s.size := by
        simp only [not_or] at hc
        exact peekOk_lt (by simpa using hc.1)
      split
      · exact Nat.le_refl _
      · split
        · exact Nat.le_refl _
        · have h1 := (fwd_all s n).2.2 true (opened st) [] (by show st.i + 1 ≤ s.size; omega)
          have e1 := eatIf_ge s 92 (partsS s true n (opened st) []).2
          have e2 := eatIf_ge s 41 (eatIf s 92 (partsS s true n (opened st) []).2)
          have h2 : (opened st).i = st.i + 1 := rfl
          have := h1.1
          dsimp only
          omega
theorem part_two (s : ByteArray) (n : Nat) (st : St) (hb : (partS s n st).2.bad = false) (hc : peekC s st = 92) : st.i + 2 ≤ (partS s n st).2.i := by
  cases n with
  | zero => simp only [partS] at hb; cases hb
  | succ n =>
    rw [partS] at hb ⊢
    by_cases hx : peekOk s st = false ∨ hasL starL (peekC s st) = true
    · rw [if_pos hx] at hb; cases hb
    · rw [if_neg hx] at hb ⊢
      have hlt : st.i < s.size := by
        simp only [not_or] at hx
        exact peekOk_lt (by simpa using hx.1)
      have e0 : (if peekC s st = 46 then (Part.mk 0 [] false ⟨#[byteOf 0, byteOf 255]⟩ 1 1, adv st) else if peekC s st = 91 then (Part.mk 0 [] (setS s (s.size + 2) (adv st)).1.1 (setS s (s.size + 2) (adv st)).1.2 1 1, (setS s (s.size + 2) (adv st)).2) else if peekC s st = 92 then escS s n (adv st) else (singleP (peekC s st), adv st)) = escS s n (adv st) := by
        rw [if_neg (by rw [hc]; decide), if_neg (by rw [hc]; decide), if_pos hc]
      rw [e0] at hb ⊢
      have ha : (adv st).i = st.i + 1 := rfl
      have hle := ((fwd_all s n).2.1 (adv st) (by omega)).2.1
      have hg : (escS s n (adv st)).2.bad = false := by
        cases hx : (escS s n (adv st)).2.bad
        · rfl
        · rw [count_bad0 hx, hx] at hb; cases hb
      have h1 := esc_one s n (adv st) hg
      have h2 := (Fwd.count (s := s) (r := escS s n (adv st)) hle).1
      omega

/-- The reader of parts looks no further than they reach. -/
theorem parts_inn (s : ByteArray) (a L : Nat) (inner : Bool) (n : Nat) (st : St) (l : List Part) (h : a ≤ st.i) (hi : st.i ≤ s.size) (hb : (partsS s inner n st l).2.bad = false) (he : Inn s a L (partsS s inner n st l).2) : Inn s a L st := by
  cases n with
  | zero => simp only [partsS] at he; exact he
  | succ n =>
    by_cases hs : stopped s st ∨ (inner = true ∧ isEsc s st 41 = true)
    · rw [partsS, if_pos hs] at he; exact he
    · rw [partsS, if_neg hs] at hb he
      have hp := (fwd_all s n).1 st hi
      have hpb : (partS s n st).2.bad = false := by
        cases hx : (partS s n st).2.bad
        · rfl
        · rw [partsS_bad s inner n _ _ hx, hx] at hb; cases hb
      have hlt : st.i < (partS s n st).2.i := by
        rcases hp.2 with h1 | h1
        · rw [hpb] at h1; cases h1
        · exact h1
      have hq := ((fwd_all s n).2.2 inner (partS s n st).2 (l ++ [(partS s n st).1]) hp.1.2.1).1
      have hl := he.2.1
      refine ⟨h, by omega, ?_⟩
      by_cases hc : peekC s st = 92
      · have := part_two s n st hpb hc
        left; omega
      · right; exact hc

section
variable {s t : ByteArray} {a b L : Nat}
theorem stopped_mv (H : Ag s t a b L) {st : St} (h : a ≤ st.i) (h2 : st.i < a + L) : stopped t (mv a b st) ↔ stopped s st := by
  have h3 := H.l; have h4 := H.r
  unfold stopped
  rw [H.is 47 h h2, H.is 36 h h2]
  have e1 : ((mv a b st).i < t.size) ↔ (st.i < s.size) := by rw [mv_i]; omega
  rw [e1]

theorem all_mv (H : Ag s t a b L) (n : Nat) :
    (∀ m st, a ≤ st.i → st.i ≤ s.size → (partS s n st).2.bad = false → Inn s a L (partS s n st).2 → 2 * ((partS s n st).2.i - st.i) ≤ m → 2 * (s.size - st.i) + 1 ≤ n → partS t m (mv a b st) = ((partS s n st).1, mv a b (partS s n st).2)) ∧
    (∀ m st, a ≤ st.i → st.i ≤ s.size → (escS s n st).2.bad = false → (escS s n st).2.i ≤ a + L → 2 * ((escS s n st).2.i - st.i) + 1 ≤ m → 2 * (s.size - st.i) + 1 ≤ n → escS t m (mv a b st) = ((escS s n st).1, mv a b (escS s n st).2)) ∧
    (∀ inner m st l, a ≤ st.i → st.i ≤ s.size → (partsS s inner n st l).2.bad = false → Inn s a L (partsS s inner n st l).2 → 2 * ((partsS s inner n st l).2.i - st.i) + 1 ≤ m → 2 * (s.size - st.i) + 2 ≤ n → partsS t inner m (mv a b st) l = ((partsS s inner n st l).1, mv a b (partsS s inner n st l).2)) := by
  induction n with
  | zero =>
    refine ⟨fun m st h hi hb he hm hn => ?_, fun m st h hi hb he hm hn => ?_, fun inner m st l h hi hb he hm hn => ?_⟩
    · simp only [partS] at hb; cases hb
    · omega
    · omega
  | succ n ih =>
    obtain ⟨ihp, ihe, ihs⟩ := ih
    have hHl := H.l
    refine ⟨fun m st h hi hb he hm hn => ?_, fun m st h hi hb he hm hn => ?_, fun inner m st l h hi hb he hm hn => ?_⟩
    · have hF := ((fwd_all s (n + 1)).1 st hi)
      have hgt : st.i < (partS s (n + 1) st).2.i := by
        rcases hF.2 with h1 | h1
        · rw [hb] at h1; cases h1
        · exact h1
      have hlt : st.i < a + L := by have := he.2.1; omega
      obtain ⟨m', rfl⟩ : ∃ m', m = m' + 1 := ⟨m - 1, by omega⟩
      rw [partS] at hb he hm hgt ⊢
      rw [partS]
      by_cases h1 : peekOk s st = false ∨ hasL starL (peekC s st) = true
      · rw [if_pos h1] at hb; cases hb
      · rw [if_neg h1] at hb he hm hgt ⊢
        rw [H.ok h hlt, H.c h hlt, if_neg h1]
        have hls : st.i < s.size := by
          simp only [not_or] at h1
          exact peekOk_lt (by simpa using h1.1)
        have a1 : a ≤ (adv st).i := by show a ≤ st.i + 1; omega
        have i1 : (adv st).i ≤ s.size := by show st.i + 1 ≤ s.size; omega
        -- the atom, then its count
        have key : ∀ (r r' : Part × St), a ≤ r.2.i → r.2.i ≤ s.size → (r.2.bad = false → r.2.i ≤ a + L → 2 * (r.2.i - st.i) ≤ m' + 1 → r' = (r.1, mv a b r.2)) → (countS s r).2.bad = false → Inn s a L (countS s r).2 → 2 * ((countS s r).2.i - st.i) ≤ m' + 1 → countS t r' = ((countS s r).1, mv a b (countS s r).2) := fun r r' q1 q2 q3 q4 q5 q6 => by
          have hf := (Fwd.count (s := s) q2).1
          have hg : r.2.bad = false := by
            cases hx : r.2.bad
            · rfl
            · rw [count_bad0 hx, hx] at q4; cases q4
          have := q5.2.1
          rw [q3 hg (by omega) (by omega)]
          exact count_mv H r q1 q2 q4 q5
        by_cases c1 : peekC s st = 46
        · rw [if_pos c1] at hb he hm ⊢
          rw [if_pos c1]
          exact key _ _ a1 i1 (fun _ _ _ => by rw [mv_adv h]) hb he hm
        · rw [if_neg c1] at hb he hm ⊢
          rw [if_neg c1]
          by_cases c2 : peekC s st = 91
          · rw [if_pos c2] at hb he hm ⊢
            rw [if_pos c2]
            refine key _ _ (by have := (Fwd.set (s := s) (st := adv st) (s.size + 2) i1).1; dsimp only; omega) (Fwd.set (s := s) (s.size + 2) i1).2.1 (fun g1 g2 _ => ?_) hb he hm
            have hS := set_mv H a1 i1 g1 g2
            rw [← mv_adv h, hS]
          · rw [if_neg c2] at hb he hm ⊢
            rw [if_neg c2]
            by_cases c3 : peekC s st = 92
            · rw [if_pos c3] at hb he hm ⊢
              rw [if_pos c3]
              have hfe := (fwd_all s n).2.1 (adv st) i1
              have e1 : (adv st).i = st.i + 1 := rfl
              refine key _ _ (by have := hfe.1; omega) hfe.2.1 (fun g1 g2 g3 => ?_) hb he hm
              have hge := hfe.1
              rw [← mv_adv h]
              exact ihe m' (adv st) a1 i1 g1 g2 (by omega) (by omega)
            · rw [if_neg c3] at hb he hm ⊢
              rw [if_neg c3]
              exact key _ _ a1 i1 (fun _ _ _ => by rw [mv_adv h]) hb he hm
    · have hF := ((fwd_all s (n + 1)).2.1 st hi)
      have h1' := esc_one s (n + 1) st hb
      have hlt : st.i < a + L := by omega
      obtain ⟨m', rfl⟩ : ∃ m', m = m' + 1 := ⟨m - 1, by omega⟩
      rw [escS] at hb he hm h1' ⊢
      rw [escS]
      by_cases h1 : peekOk s st = false ∨ hasL escL (peekC s st) = false ∨ (peekC s st = 40 ∧ 9 ≤ st.g)
      · rw [if_pos h1] at hb; cases hb
      · rw [if_neg h1] at hb he hm h1' ⊢
        rw [H.ok h hlt, H.c h hlt, if_neg (show ¬ (_ ∨ _ ∨ (_ ∧ 9 ≤ (mv a b st).g)) from h1)]
        by_cases c1 : peekC s st = 110
        · rw [if_pos c1, if_pos c1, mv_adv h]
        · rw [if_neg c1] at hb he hm ⊢
          rw [if_neg c1]
          by_cases c2 : peekC s st ≠ 40
          · rw [if_pos c2, if_pos c2, mv_adv h]
          · rw [if_neg c2] at hb he hm ⊢
            rw [if_neg c2]
            have hls : st.i < s.size := by
              simp only [not_or] at h1
              exact peekOk_lt (by simpa using h1.1)
            have o1 : (opened st).i = st.i + 1 := rfl
            have hfp := (fwd_all s n).2.2 true (opened st) [] (by omega)
            dsimp only at hb he hm
            obtain ⟨e1, e2, e3⟩ := eatIf_was hb
            obtain ⟨f1, f2, f3⟩ := eatIf_was e1
            have he' := he
            rw [e3, f3] at he'
            have he2 : (partsS s true n (opened st) []).2.i + 1 + 1 ≤ a + L := he'
            have hge := hfp.1
            have hm' := hm
            rw [e3, f3] at hm'
            have hm2 : 2 * ((partsS s true n (opened st) []).2.i + 1 + 1 - st.i) + 1 ≤ m' + 1 := hm'
            have hP := ihs true m' (opened st) [] (by omega) (by omega) f1 ⟨by omega, by omega, .inl (by omega)⟩ (by omega) (by omega)
            rw [← mv_opened h, hP]
            dsimp only
            rw [eatIf_mv H 92 (by omega) (by omega), eatIf_mv H 41 (by rw [f3]; show a ≤ (partsS s true n (opened st) []).2.i + 1; omega) (by rw [f3]; show (partsS s true n (opened st) []).2.i + 1 < a + L; omega)]
    · have hin := parts_inn s a L inner (n + 1) st l h hi hb he
      obtain ⟨m', rfl⟩ : ∃ m', m = m' + 1 := ⟨m - 1, by omega⟩
      have hsm := stopped_mv H (st := st) h hin.2.1
      have hem := H.esc' 41 hin
      rw [partsS] at hb he hm ⊢
      rw [partsS, hem]
      by_cases hs : stopped s st ∨ (inner = true ∧ isEsc s st 41 = true)
      · rw [if_pos hs, if_pos (by rw [hsm]; exact hs)]
      · rw [if_neg hs] at hb he hm ⊢
        rw [if_neg (by rw [hsm]; exact hs)]
        have hp := (fwd_all s n).1 st hi
        have hpb : (partS s n st).2.bad = false := by
          cases hx : (partS s n st).2.bad
          · rfl
          · rw [partsS_bad s inner n _ _ hx, hx] at hb; cases hb
        have hlt : st.i < (partS s n st).2.i := by
          rcases hp.2 with h1 | h1
          · rw [hpb] at h1; cases h1
          · exact h1
        have hq := ((fwd_all s n).2.2 inner (partS s n st).2 (l ++ [(partS s n st).1]) hp.1.2.1).1
        have hin2 := parts_inn s a L inner n (partS s n st).2 (l ++ [(partS s n st).1]) (by omega) hp.1.2.1 hb he
        have hps := hp.1.2.1
        have hP := ihp m' st h hi hpb hin2 (by omega) (by omega)
        rw [hP]
        exact ihs inner m' (partS s n st).2 (l ++ [(partS s n st).1]) (by omega) hp.1.2.1 hb he (by omega) (by omega)
end
end Go.Proofs.YtmjdaifalgpdnaaGreat
