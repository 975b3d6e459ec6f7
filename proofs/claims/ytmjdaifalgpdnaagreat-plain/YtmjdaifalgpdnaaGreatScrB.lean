import Derived.Test.YtmjdaifalgpdnaaGreatScrA
namespace Go.Proofs.YtmjdaifalgpdnaaGreat
open Go.RowKit

/-- The cut text has come to its end, where the full one goes on. -/
def Ended (s : ByteArray) (c : Nat) (st : St) : Prop := st.bad = false ∧ st.i = c ∧ isB s st 47 = false ∧ isB s st 36 = false
def Pend (s : ByteArray) (c : Nat) (st : St) : Prop := Ended s c st ∨ (st.bad = false ∧ st.i + 1 = c ∧ peekC s st = 92)

theorem isB_of {s : ByteArray} {st : St} {b d : Int} (h : isB s st b = true) (hn : b ≠ d) : isB s st d = false := by
  simp only [isB, Bool.and_eq_true, beq_iff_eq] at h
  simp only [isB, h.2, Bool.and_eq_false_iff]
  right; simpa using hn

theorem isEsc_back {s : ByteArray} {st : St} {b : Int} (h : isEsc s st b = true) : isB s st 92 = true := by
  have hl := isEsc_lt h
  have hb := isEsc_bad h
  unfold isEsc at h
  rw [dif_pos hl] at h
  simp only [Bool.and_eq_true, beq_iff_eq] at h
  have hk : peekC s st = (s[st.i]'(by omega)).toNat := by unfold peekC; rw [dif_pos ⟨hb, by omega⟩]
  have ho : peekOk s st = true := by simp [peekOk, hb]; omega
  simp only [isB, ho, hk, Bool.true_and, beq_iff_eq]
  exact h.2.1

theorem count_bad' {s : ByteArray} {r : Part × St} (h : r.2.bad = true) : countS s r = r := by unfold countS; rw [if_pos h]

section
variable {s : ByteArray} {c : Nat}

theorem count_far (_hc : c < s.size) {r : Part × St} (h : Far c r.2) (hi : r.2.i ≤ s.size) : Far c (countS s r).2 := h.mono (Fwd.count hi).1 (fun hb => by rw [count_bad' hb])

theorem count_sim (hc : c < s.size) (r : Part × St) (hb : r.2.bad = false) (hi : r.2.i ≤ c) : Sim c (countS s r) (countS (s.extract 0 c) r) ∨ (Far c (countS s r).2 ∧ Pend s c (countS (s.extract 0 c) r).2) := by
  have hnb : ¬ r.2.bad = true := by rw [hb]; simp
  by_cases h0 : r.2.i < c
  · have hB := cut_is hc 42 h0
    cases hst : isB s r.2 42
    · by_cases h1 : r.2.i + 1 < c
      · have hE := cut_esc hc 123 h1
        cases hes : isEsc s r.2 123
        · refine .inl (.inl ⟨?_, ?_⟩)
          · unfold countS; rw [if_neg hnb, if_neg (by rw [hB, hst]; simp), if_neg (by rw [hE, hes]; simp), if_neg hnb, if_neg (by rw [hst]; simp), if_neg (by rw [hes]; simp)]
          · unfold countS; rw [if_neg hnb, if_neg (by rw [hst]; simp), if_neg (by rw [hes]; simp)]; exact hi
        · have hs := bounds_sim hc (st := adv (adv r.2)) hb (by simp [adv]; omega)
          refine .inl ?_
          unfold countS
          rw [if_neg hnb, if_neg (by rw [hst]; simp), if_pos hes, if_neg hnb, if_neg (by rw [hB, hst]; simp), if_pos (by rw [hE, hes])]
          rcases hs with ⟨e1, e2⟩ | h
          · exact .inl ⟨by rw [e1], e2⟩
          · exact .inr h
      · have hE := end_esc (st := r.2) hc 123 (by omega)
        have e' : countS (s.extract 0 c) r = r := by unfold countS; rw [if_neg hnb, if_neg (by rw [hB, hst]; simp), if_neg (by rw [hE]; simp)]
        cases hes : isEsc s r.2 123
        · have e : countS s r = r := by unfold countS; rw [if_neg hnb, if_neg (by rw [hst]; simp), if_neg (by rw [hes]; simp)]
          rw [e, e']; exact .inl (.inl ⟨rfl, hi⟩)
        · refine .inr ⟨?_, ?_⟩
          · unfold countS
            rw [if_neg hnb, if_neg (by rw [hst]; simp), if_pos hes]
            have hl := isEsc_lt hes
            exact bounds_far hc (.inl (by simp [adv]; omega)) (by simp [adv]; omega)
          · rw [e']
            have hk := isEsc_back hes
            simp only [isB, Bool.and_eq_true, beq_iff_eq] at hk
            exact .inr ⟨hb, by omega, hk.2⟩
    · refine .inl (.inl ⟨?_, ?_⟩)
      · unfold countS; rw [if_neg hnb, if_pos (by rw [hB, hst]), if_neg hnb, if_pos hst]
      · unfold countS; rw [if_neg hnb, if_pos hst]; simp [adv]; omega
  · have he : r.2.i = c := by omega
    have e' : countS (s.extract 0 c) r = r := by unfold countS; rw [if_neg hnb, if_neg (by rw [end_is hc 42 (by omega)]; simp), if_neg (by rw [end_esc hc 123 (by omega)]; simp)]
    rw [e']
    cases hst : isB s r.2 42
    · cases hes : isEsc s r.2 123
      · have e : countS s r = r := by unfold countS; rw [if_neg hnb, if_neg (by rw [hst]; simp), if_neg (by rw [hes]; simp)]
        rw [e]; exact .inl (.inl ⟨rfl, hi⟩)
      · refine .inr ⟨?_, .inl ⟨hb, he, isB_of (isEsc_back hes) (by decide), isB_of (isEsc_back hes) (by decide)⟩⟩
        unfold countS
        rw [if_neg hnb, if_neg (by rw [hst]; simp), if_pos hes]
        have hl := isEsc_lt hes
        exact bounds_far hc (.inl (by simp [adv]; omega)) (by simp [adv]; omega)
    · refine .inr ⟨?_, .inl ⟨hb, he, isB_of hst (by decide), isB_of hst (by decide)⟩⟩
      unfold countS
      rw [if_neg hnb, if_pos hst]
      left; simp [adv]; omega

theorem count_of_sim (hc : c < s.size) {r r' : Part × St} (h : Sim c r r') (hi : r.2.i ≤ s.size) : Sim c (countS s r) (countS (s.extract 0 c) r') ∨ (Far c (countS s r).2 ∧ Pend s c (countS (s.extract 0 c) r').2) := by
  rcases h with ⟨e, h1⟩ | ⟨h1, h2⟩
  · subst e
    cases hb : r'.2.bad
    · exact count_sim hc r' hb h1
    · rw [count_bad' hb, count_bad' hb]; exact .inl (.inl ⟨rfl, h1⟩)
  · refine .inl (.inr ⟨count_far hc h1 hi, ?_⟩)
    rw [count_bad' h2.1]; exact h2

theorem parts_far (_hc : c < s.size) (n : Nat) (inner : Bool) {st : St} (l : List Part) (h : Far c st) (hi : st.i ≤ s.size) : Far c (partsS s inner n st l).2 :=
  h.mono ((fwd_all s n).2.2 inner st l hi).1 (fun hb => by rw [partsS_stop (.inl (.inl hb))])

theorem part_at (hc : c < s.size) (n : Nat) {st : St} (hi : st.i = c) : Far c (partS s n st).2 := by
  have h := (fwd_all s n).1 st (by omega)
  rcases h.2 with hb | hl
  · by_cases he : (partS s n st).2.i = c
    · exact .inr ⟨hb, he⟩
    · left; have := h.1.1; omega
  · left; omega

theorem esc_end (hc : c < s.size) (n : Nat) {st : St} (hi : st.i = c) : escS (s.extract 0 c) n st = (emptyP, spoil st) := by
  cases n with
  | zero => rw [escS]
  | succ n => rw [escS, if_pos (.inl (end_ok hc (by omega)))]

/-- the cut text ends behind a backslash. -/
theorem part_back (hc : c < s.size) (n : Nat) {st : St} (hb : st.bad = false) (hi : st.i + 1 = c) (hk : peekC s st = 92) : Stuck c (partS (s.extract 0 c) (n + 1) st).2 := by
  have h0 : st.i < c := by omega
  have ho : peekOk (s.extract 0 c) st = true := by rw [cut_ok hc h0]; simp [peekOk, hb]; omega
  have hk' : peekC (s.extract 0 c) st = 92 := by rw [cut_c hc h0]; exact hk
  have hn : ¬ (peekOk (s.extract 0 c) st = false ∨ hasL starL (peekC (s.extract 0 c) st) = true) := by
    rw [ho, hk']; decide
  rw [partS, if_neg hn, if_neg (by rw [hk']; decide), if_neg (by rw [hk']; decide), if_pos hk', esc_end hc n (by simp [adv]; omega), count_bad' rfl]
  exact ⟨rfl, by simp [spoil, adv]; omega⟩

theorem stopped_same (hc : c < s.size) {st : St} (h0 : st.i < c) : stopped (s.extract 0 c) st ↔ stopped s st := by
  have hz := cut_size (s := s) (c := c) (by omega)
  unfold stopped
  rw [cut_is hc 47 h0, cut_is hc 36 h0, hz]
  constructor
  · rintro (h | h | h)
    · exact .inl h
    · omega
    · exact .inr (.inr h)
  · rintro (h | h | h)
    · exact .inl h
    · omega
    · exact .inr (.inr h)

theorem cut_all (hc : c < s.size) (n : Nat) :
    (∀ st, st.bad = false → st.i < c → 2 * (s.size - st.i) + 1 ≤ n → Sim c (partS s n st) (partS (s.extract 0 c) n st) ∨ (Far c (partS s n st).2 ∧ Pend s c (partS (s.extract 0 c) n st).2)) ∧
    (∀ st, st.bad = false → st.i ≤ c → 2 * (s.size - st.i) + 1 ≤ n → Sim c (escS s n st) (escS (s.extract 0 c) n st)) ∧
    (∀ inner st l, st.bad = false → st.i ≤ c → 2 * (s.size - st.i) + 2 ≤ n →
      (partsS (s.extract 0 c) inner n st l = partsS s inner n st l ∧ (partsS s inner n st l).2.i ≤ c) ∨
      (Far c (partsS s inner n st l).2 ∧ (Stuck c (partsS (s.extract 0 c) inner n st l).2 ∨ Ended s c (partsS (s.extract 0 c) inner n st l).2)) ∨
      (inner = true ∧ (partsS s inner n st l).2.bad = false ∧ (partsS s inner n st l).2.i + 1 = c ∧ isEsc s (partsS s inner n st l).2 41 = true ∧ Stuck c (partsS (s.extract 0 c) inner n st l).2)) := by
  have hz := cut_size (s := s) (c := c) (by omega)
  induction n with
  | zero => exact ⟨fun st _ _ h => by omega, fun st _ _ h => by omega, fun _ st _ _ _ h => by omega⟩
  | succ n ih =>
    obtain ⟨ihp, ihe, ihs⟩ := ih
    refine ⟨fun st hb h0 hn => ?_, fun st hb hi hn => ?_, fun inner st l hb hi hn => ?_⟩
    · have ho := cut_ok hc h0
      have hk := cut_c hc h0
      by_cases hcd : peekOk s st = false ∨ hasL starL (peekC s st) = true
      · refine .inl (.inl ⟨?_, ?_⟩)
        · rw [partS_bad hcd, partS_bad (by rw [ho, hk]; exact hcd)]
        · rw [partS_bad hcd]; simp [spoil]; omega
      · have hcd' : ¬ (peekOk (s.extract 0 c) st = false ∨ hasL starL (peekC (s.extract 0 c) st) = true) := by rw [ho, hk]; exact hcd
        have ha : (adv st).i ≤ c := by simp [adv]; omega
        by_cases c1 : peekC s st = 46
        · rw [partS_dot hcd c1, partS_dot hcd' (by rw [hk]; exact c1)]
          exact count_of_sim hc (.inl ⟨rfl, ha⟩) (by simp [adv]; omega)
        · by_cases c2 : peekC s st = 91
          · rw [partS_set hcd c1 c2, partS_set hcd' (by rw [hk]; exact c1) (by rw [hk]; exact c2)]
            refine count_of_sim hc ?_ (Fwd.set _ (by simp [adv]; omega)).2.1
            rcases set_sim hc (st := adv st) hb ha with ⟨e1, e2⟩ | h
            · exact .inl ⟨by rw [e1], e2⟩
            · exact .inr h
          · by_cases c3 : peekC s st = 92
            · rw [partS_esc hcd c1 c2 c3, partS_esc hcd' (by rw [hk]; exact c1) (by rw [hk]; exact c2) (by rw [hk]; exact c3)]
              exact count_of_sim hc (ihe (adv st) hb ha (by simp [adv]; omega)) ((fwd_all s n).2.1 (adv st) (by simp [adv]; omega)).2.1
            · rw [partS_one hcd c1 c2 c3, partS_one hcd' (by rw [hk]; exact c1) (by rw [hk]; exact c2) (by rw [hk]; exact c3), hk]
              exact count_of_sim hc (.inl ⟨rfl, ha⟩) (by simp [adv]; omega)
    · by_cases h0 : st.i < c
      · have ho := cut_ok hc h0
        have hk := cut_c hc h0
        by_cases hcd : peekOk s st = false ∨ hasL escL (peekC s st) = false ∨ (peekC s st = 40 ∧ 9 ≤ st.g)
        · refine .inl ⟨?_, ?_⟩
          · rw [escS_bad hcd, escS_bad (by rw [ho, hk]; exact hcd)]
          · rw [escS_bad hcd]; simp [spoil]; omega
        · have hcd' : ¬ (peekOk (s.extract 0 c) st = false ∨ hasL escL (peekC (s.extract 0 c) st) = false ∨ (peekC (s.extract 0 c) st = 40 ∧ 9 ≤ st.g)) := by rw [ho, hk]; exact hcd
          by_cases c1 : peekC s st = 110
          · rw [escS_n hcd c1, escS_n hcd' (by rw [hk]; exact c1)]
            exact .inl ⟨rfl, by simp [adv]; omega⟩
          · by_cases c2 : peekC s st ≠ 40
            · rw [escS_one hcd c1 c2, escS_one hcd' (by rw [hk]; exact c1) (by rw [hk]; exact c2), hk]
              exact .inl ⟨rfl, by simp [adv]; omega⟩
            · rw [escS_open hcd c1 c2, escS_open hcd' (by rw [hk]; exact c1) (by rw [hk]; exact c2)]
              rcases ihs true (opened st) [] hb (by simp [opened]; omega) (by simp [opened]; omega) with ⟨e1, e2⟩ | ⟨h1, h2⟩ | ⟨_, h1, h2, h3, h4⟩
              · rw [e1]
                rcases eatIf_sim hc e2 92 with ⟨k1, k2⟩ | ⟨k1, k2⟩
                · rw [k1]
                  rcases eatIf_sim hc k2 41 with ⟨m1, m2⟩ | ⟨m1, m2⟩
                  · exact .inl ⟨by rw [m1], m2⟩
                  · exact .inr ⟨m1, m2⟩
                · exact .inr ⟨eatIf_far hc k1 41, eatIf_stuck hc k2 41⟩
              · refine .inr ⟨eatIf_far hc (eatIf_far hc h1 92) 41, ?_⟩
                rcases h2 with h2 | h2
                · exact eatIf_stuck hc (eatIf_stuck hc h2 92) 41
                · exact eatIf_stuck hc (eatIf_end hc h2.1 h2.2.1 92) 41
              · refine .inr ⟨?_, eatIf_stuck hc (eatIf_stuck hc h4 92) 41⟩
                have hx := isEsc_back h3
                refine eatIf_at hc ?_ 41
                rw [eatIf_ok h1]; unfold eatS; rw [if_pos hx]; exact h2
      · have he : st.i = c := by omega
        refine .inr ⟨?_, ?_⟩
        · rw [escS]
          split
          · right; exact ⟨rfl, he⟩
          · split
            · left; simp [adv]; omega
            · split
              · left; simp [adv]; omega
              · have hf : Far c (partsS s true n (opened st) []).2 := parts_far hc n true [] (.inl (by simp [opened]; omega)) (by simp [opened]; omega)
                exact eatIf_far hc (eatIf_far hc hf 92) 41
        · rw [esc_end hc _ he]; exact ⟨rfl, he⟩
    · by_cases h0 : st.i < c
      · have hss := stopped_same (s := s) hc h0
        by_cases hs : stopped s st
        · rw [partsS_stop (.inl hs), partsS_stop (.inl (hss.2 hs))]
          exact .inl ⟨rfl, hi⟩
        · by_cases he : inner = true ∧ isEsc s st 41 = true
          · by_cases h1 : st.i + 1 < c
            · rw [partsS_stop (.inr he), partsS_stop (.inr ⟨he.1, by rw [cut_esc hc 41 h1]; exact he.2⟩)]
              exact .inl ⟨rfl, hi⟩
            · refine .inr (.inr ?_)
              rw [partsS_stop (s := s) (.inr he)]
              refine ⟨he.1, hb, by show st.i + 1 = c; omega, he.2, ?_⟩
              have hk := isEsc_back he.2
              simp only [isB, Bool.and_eq_true, beq_iff_eq] at hk
              obtain ⟨k, rfl⟩ : ∃ k, n = k + 1 := ⟨n - 1, by omega⟩
              rw [partsS_go (fun h => by
                rcases h with h | h
                · exact hs (hss.1 h)
                · rw [end_esc hc 41 (by omega)] at h; cases h.2)]
              have hp := part_back hc k hb (by omega) hk.2
              rw [partsS_stop (.inl (.inl hp.1))]
              exact hp
          · have hcut : ¬ (stopped (s.extract 0 c) st ∨ (inner = true ∧ isEsc (s.extract 0 c) st 41 = true)) := by
              rintro (h | ⟨h1, h2⟩)
              · exact hs (hss.1 h)
              · by_cases h3 : st.i + 1 < c
                · rw [cut_esc hc 41 h3] at h2; exact he ⟨h1, h2⟩
                · rw [end_esc hc 41 (by omega)] at h2; cases h2
            rw [partsS_go (s := s) (fun h => h.elim hs he), partsS_go hcut]
            have hfw := (fwd_all s n).1 st (by omega)
            rcases ihp st hb h0 (by omega) with (⟨e1, e2⟩ | ⟨h1, h2⟩) | ⟨h1, h2⟩
            · rw [e1]
              cases hbd : (partS s n st).2.bad
              · have hlt : st.i < (partS s n st).2.i := by
                  rcases hfw.2 with h | h
                  · rw [h] at hbd; cases hbd
                  · exact h
                exact ihs inner _ _ hbd e2 (by have := hfw.1.2.1; omega)
              · rw [partsS_stop (.inl (.inl hbd)), partsS_stop (.inl (.inl hbd))]
                exact .inl ⟨rfl, e2⟩
            · refine .inr (.inl ⟨parts_far hc n inner _ h1 hfw.1.2.1, .inl ?_⟩)
              rw [partsS_stop (.inl (.inl h2.1))]; exact h2
            · refine .inr (.inl ⟨parts_far hc n inner _ h1 hfw.1.2.1, ?_⟩)
              rcases h2 with h2 | ⟨k1, k2, k3⟩
              · rw [partsS_stop (.inl (.inr (.inl (by rw [hz]; have := h2.2.1; omega))))]
                exact .inr h2
              · obtain ⟨k, rfl⟩ : ∃ k, n = k + 2 := ⟨n - 2, by omega⟩
                generalize (partS (s.extract 0 c) (k + 2) st).2 = q at *
                have hq0 : q.i < c := by omega
                have hqb : ∀ d : Int, d ≠ 92 → isB (s.extract 0 c) q d = false := fun d hd => by
                  rw [cut_is hc d hq0]
                  simp only [isB, k3, Bool.and_eq_false_iff]
                  right; simp; omega
                rw [show k + 2 = (k + 1) + 1 from rfl, partsS_go (fun h => by
                  rcases h with (h | h | h | h) | h
                  · rw [k1] at h; cases h
                  · rw [hz] at h; omega
                  · rw [hqb 47 (by decide)] at h; cases h
                  · rw [hqb 36 (by decide)] at h; cases h
                  · rw [end_esc hc 41 (by omega)] at h; cases h.2)]
                have hp := part_back hc k k1 k2 k3
                rw [partsS_stop (.inl (.inl hp.1))]
                exact .inl hp
      · have he : st.i = c := by omega
        rw [partsS_stop (s := s.extract 0 c) (.inl (.inr (.inl (by rw [hz]; omega))))]
        by_cases hs : stopped s st ∨ (inner = true ∧ isEsc s st 41 = true)
        · rw [partsS_stop hs]; exact .inl ⟨rfl, hi⟩
        · rw [partsS_go hs]
          refine .inr (.inl ⟨parts_far hc n inner _ (part_at hc n he) ((fwd_all s n).1 st (by omega)).1.2.1, .inr ⟨hb, he, ?_, ?_⟩⟩)
          · cases hx : isB s st 47
            · rfl
            · exact absurd (.inl (.inr (.inr (.inl hx)))) hs
          · cases hx : isB s st 36
            · rfl
            · exact absurd (.inl (.inr (.inr (.inr hx)))) hs

/-- An expression, read out of a text and out of the text up to a place. -/
theorem expr_cut (hc : c < s.size) {st : St} (n : Nat) (hb : st.bad = false) (hi : st.i ≤ c) (hn : 2 * (s.size - st.i) + 2 ≤ n) :
    (exprS (s.extract 0 c) n st = exprS s n st ∧ (exprS s n st).2.i ≤ c) ∨
    (Far c (exprS s n st).2 ∧ (Stuck c (exprS (s.extract 0 c) n st).2 ∨ ((exprS (s.extract 0 c) n st).2.bad = false ∧ (exprS (s.extract 0 c) n st).2.i = c ∧ isB s (exprS (s.extract 0 c) n st).2 47 = false))) := by
  have hz := cut_size (s := s) (c := c) (by omega)
  have hfin : ∀ P P' : List Part × St, ((P' = P ∧ P.2.i ≤ c) ∨ (Far c P.2 ∧ (Stuck c P'.2 ∨ Ended s c P'.2))) → ∀ fi : Bool,
      (((⟨fi, isB (s.extract 0 c) P'.2 36, P'.1, P'.2.g⟩ : Ex), advIf (s.extract 0 c) 36 P'.2) = ((⟨fi, isB s P.2 36, P.1, P.2.g⟩ : Ex), advIf s 36 P.2) ∧ (advIf s 36 P.2).i ≤ c) ∨
      (Far c (advIf s 36 P.2) ∧ (Stuck c (advIf (s.extract 0 c) 36 P'.2) ∨ ((advIf (s.extract 0 c) 36 P'.2).bad = false ∧ (advIf (s.extract 0 c) 36 P'.2).i = c ∧ isB s (advIf (s.extract 0 c) 36 P'.2) 47 = false))) := by
    intro P P' h fi
    rcases h with ⟨e, h1⟩ | ⟨h1, h2⟩
    · subst e
      by_cases h3 : P'.2.i < c
      · left
        unfold advIf
        rw [cut_is hc 36 h3]
        refine ⟨rfl, ?_⟩
        split
        · simp [adv]; omega
        · omega
      · have he : P'.2.i = c := by omega
        have hx : isB (s.extract 0 c) P'.2 36 = false := end_is hc 36 (by omega)
        unfold advIf
        rw [hx]
        cases hy : isB s P'.2 36
        · left; exact ⟨rfl, h1⟩
        · right
          refine ⟨.inl (by simp [adv]; omega), .inr ⟨?_, he, isB_of hy (by decide)⟩⟩
          exact peekOk_bad (isB_ok hy)
    · right
      refine ⟨h1.mono ?_ (fun hb => by unfold advIf; rw [bad_is hb]; rfl), ?_⟩
      · unfold advIf; split <;> simp [adv]
      · rcases h2 with h2 | h2
        · left; unfold advIf; rw [bad_is h2.1]; exact h2
        · right; unfold advIf; rw [end_is hc 36 (by have := h2.2.1; omega)]
          exact ⟨h2.1, h2.2.1, h2.2.2.1⟩
  unfold exprS
  by_cases h0 : st.i < c
  · have h0' : (zeroed st).i < c := h0
    have e1 : isB (s.extract 0 c) (zeroed st) 94 = isB s (zeroed st) 94 := cut_is hc 94 h0'
    have e2 : advIf (s.extract 0 c) 94 (zeroed st) = advIf s 94 (zeroed st) := by unfold advIf; rw [e1]
    rw [e1, e2]
    have hb1 : (advIf s 94 (zeroed st)).bad = false := by unfold advIf; split <;> exact hb
    have hi1 : (advIf s 94 (zeroed st)).i ≤ c ∧ st.i ≤ (advIf s 94 (zeroed st)).i := by unfold advIf; split <;> simp [adv, zeroed] <;> omega
    have h := (cut_all hc n).2.2 false (advIf s 94 (zeroed st)) [] hb1 hi1.1 (by omega)
    refine hfin _ _ ?_ _
    rcases h with h | h | h
    · exact .inl h
    · exact .inr h
    · cases h.1
  · have he : st.i = c := by omega
    have e1 : isB (s.extract 0 c) (zeroed st) 94 = false := end_is hc 94 (by show c ≤ st.i; omega)
    have e2 : advIf (s.extract 0 c) 94 (zeroed st) = zeroed st := by unfold advIf; rw [e1]; rfl
    rw [e1, e2]
    have h := (cut_all hc n).2.2 false (zeroed st) [] hb hi (by show 2 * (s.size - st.i) + 2 ≤ n; omega)
    cases hx : isB s (zeroed st) 94
    · have e3 : advIf s 94 (zeroed st) = zeroed st := by unfold advIf; rw [hx]; rfl
      rw [e3]
      refine hfin _ _ ?_ _
      rcases h with h | h | h
      · exact .inl h
      · exact .inr h
      · cases h.1
    · have e3 : advIf s 94 (zeroed st) = adv (zeroed st) := by unfold advIf; rw [hx]; rfl
      rw [e3]
      have hst : partsS (s.extract 0 c) false n (zeroed st) [] = ([], zeroed st) := partsS_stop (.inl (.inr (.inl (by rw [hz]; show ¬ st.i < c; omega)))) n
      rw [hst]
      have hf : Far c (partsS s false n (adv (zeroed st)) []).2 := parts_far hc n false [] (.inl (by simp [adv, zeroed]; omega)) (by simp [adv, zeroed]; omega)
      right
      refine ⟨hf.mono ?_ (fun hb => by unfold advIf; rw [bad_is hb]; rfl), .inr ?_⟩
      · unfold advIf; split <;> simp [adv]
      · unfold advIf
        rw [end_is hc 36 (by show c ≤ st.i; omega)]
        exact ⟨hb, he, isB_of hx (by decide)⟩
end
end Go.Proofs.YtmjdaifalgpdnaaGreat
