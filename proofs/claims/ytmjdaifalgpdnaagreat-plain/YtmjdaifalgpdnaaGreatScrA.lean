import Derived.Test.YtmjdaifalgpdnaaGreatRefL
namespace Go.Proofs.YtmjdaifalgpdnaaGreat
open Go.RowKit

/-! ### An expression whose text is cut at a place -/

theorem cut_size {s : ByteArray} {c : Nat} (hc : c ≤ s.size) : (s.extract 0 c).size = c := by
  rw [ByteArray.size_extract]; omega
theorem cut_get {s : ByteArray} {c i : Nat} (hi : i < c) (hc : c ≤ s.size) (h : i < (s.extract 0 c).size) : (s.extract 0 c)[i] = s[i] := by
  rw [ByteArray.getElem_extract]; simp

/-- It has gone past the cut, or failed right at it. -/
def Far (c : Nat) (st : St) : Prop := c < st.i ∨ (st.bad = true ∧ st.i = c)
/-- It has failed right at the cut. -/
def Stuck (c : Nat) (st : St) : Prop := st.bad = true ∧ st.i = c

section
variable {s : ByteArray} {c : Nat} {st : St}
theorem cut_ok (hc : c < s.size) (h : st.i < c) : peekOk (s.extract 0 c) st = peekOk s st := by
  have := cut_size (s := s) (c := c) (by omega)
  simp only [peekOk, this]
  have h1 : decide (st.i < c) = decide (st.i < s.size) := by
    rw [decide_eq_decide]; omega
  rw [h1]
theorem cut_c (hc : c < s.size) (h : st.i < c) : peekC (s.extract 0 c) st = peekC s st := by
  have hz := cut_size (s := s) (c := c) (by omega)
  unfold peekC
  by_cases hb : st.bad = false
  · rw [dif_pos ⟨hb, by rw [hz]; exact h⟩, dif_pos ⟨hb, by omega⟩, cut_get h (by omega)]
  · rw [dif_neg (fun h => hb h.1), dif_neg (fun h => hb h.1)]
theorem cut_is (hc : c < s.size) (b : Int) (h : st.i < c) : isB (s.extract 0 c) st b = isB s st b := by
  unfold isB; rw [cut_ok hc h, cut_c hc h]
theorem end_ok (hc : c < s.size) (h : c ≤ st.i) : peekOk (s.extract 0 c) st = false := by
  have := cut_size (s := s) (c := c) (by omega)
  simp [peekOk, this]; omega
theorem end_is (hc : c < s.size) (b : Int) (h : c ≤ st.i) : isB (s.extract 0 c) st b = false := by
  unfold isB; rw [end_ok hc h]; rfl
theorem cut_esc (hc : c < s.size) (b : Int) (h : st.i + 1 < c) : isEsc (s.extract 0 c) st b = isEsc s st b := by
  have hz := cut_size (s := s) (c := c) (by omega)
  unfold isEsc
  rw [dif_pos (by rw [hz]; exact h), dif_pos (by omega), cut_get (by omega) (by omega), cut_get h (by omega)]
theorem end_esc (hc : c < s.size) (b : Int) (h : c ≤ st.i + 1) : isEsc (s.extract 0 c) st b = false := by
  have hz := cut_size (s := s) (c := c) (by omega)
  unfold isEsc
  rw [dif_neg (by rw [hz]; omega)]; simp
end

theorem Far.mono {c : Nat} {a b : St} (h : Far c a) (hi : a.i ≤ b.i) (hb : a.bad = true → b = a) : Far c b := by
  rcases h with h | ⟨h1, h2⟩
  · left; omega
  · rw [hb h1]; exact .inr ⟨h1, h2⟩
theorem spoil_bad {st : St} (h : st.bad = true) : spoil st = st := by
  obtain ⟨i, b, g⟩ := st
  cases h; rfl
theorem bad_ok {s : ByteArray} {st : St} (h : st.bad = true) : peekOk s st = false := by simp [peekOk, h]
theorem bad_is {s : ByteArray} {st : St} {b : Int} (h : st.bad = true) : isB s st b = false := by simp [isB, bad_ok h]

theorem item_bad {s : ByteArray} {st : St} (h : st.bad = true) : (itemS s st).2 = st := by
  unfold itemS; rw [if_pos (.inl (bad_ok h))]; exact spoil_bad h
theorem setLoop_bad {s : ByteArray} {st : St} (h : st.bad = true) (n : Nat) (ps : ByteArray) : setLoop s n ps st = (ps, st) := by
  cases n with
  | zero => rfl
  | succ n => rw [setLoop, if_neg (fun hh => by rw [h] at hh; cases hh.1)]
theorem digit_bad {s : ByteArray} {st : St} (lo : Int) (h : st.bad = true) : (digitS s lo st).2 = st := by
  unfold digitS; rw [if_neg (fun hh => by rw [bad_ok h] at hh; cases hh.1)]; exact spoil_bad h
theorem bounds_bad {s : ByteArray} {st : St} (h : st.bad = true) : (boundsS s st).2 = st := by
  unfold boundsS
  rw [digit_bad 48 h, if_neg (fun hh => by rw [h] at hh; cases hh.1)]
  simp only [eatIf_bad h]

/-- Full text (first) and cut text (second). -/
def Sim {α : Type} (c : Nat) (r r' : α × St) : Prop := (r' = r ∧ r.2.i ≤ c) ∨ (Far c r.2 ∧ Stuck c r'.2)

section
variable {s : ByteArray} {c : Nat} {st : St}
theorem item_sim (hc : c < s.size) (hb : st.bad = false) (hi : st.i ≤ c) : Sim c (itemS s st) (itemS (s.extract 0 c) st) ∨
    (Far c (itemS s st).2 ∧ (itemS (s.extract 0 c) st).2.bad = false ∧ (itemS (s.extract 0 c) st).2.i = c ∧ (itemS (s.extract 0 c) st).1.size = 2) := by
  by_cases h0 : st.i < c
  · have ho := cut_ok hc h0
    have hk := cut_c hc h0
    by_cases hn : peekOk s st = false ∨ hasL neverL (peekC s st) = true
    · refine .inl (.inl ⟨?_, ?_⟩)
      · unfold itemS; rw [if_pos (by rw [ho, hk]; exact hn), if_pos hn]
      · unfold itemS; rw [if_pos hn]; simp [spoil]; omega
    · by_cases h1 : st.i + 1 < c
      · have h1' : (adv st).i < c := h1
        have hd := cut_is hc 45 h1'
        by_cases hm : isB s (adv st) 45 = false
        · refine .inl (.inl ⟨?_, ?_⟩)
          · unfold itemS; rw [if_neg (by rw [ho, hk]; exact hn), if_neg hn, if_pos (by rw [hd]; exact hm), if_pos hm, hk]
          · unfold itemS; rw [if_neg hn, if_pos hm]; simp [adv]; omega
        · by_cases h2 : st.i + 2 < c
          · have h2' : (adv (adv st)).i < c := h2
            have ho2 := cut_ok hc h2'
            have hk2 := cut_c hc h2'
            refine .inl (.inl ⟨?_, ?_⟩)
            · unfold itemS; rw [if_neg (by rw [ho, hk]; exact hn), if_neg hn, if_neg (by rw [hd]; exact hm), if_neg hm, hk, ho2, hk2]
            · unfold itemS; rw [if_neg hn, if_neg hm]
              split <;> simp [adv, spoil] <;> omega
          · refine .inl (.inr ⟨?_, ?_⟩)
            · unfold itemS; rw [if_neg hn, if_neg hm]
              split
              · right; simp [adv, spoil]; omega
              · left; simp [adv]; omega
            · unfold itemS; rw [if_neg (by rw [ho, hk]; exact hn), if_neg (by rw [hd]; exact hm), if_pos (.inl (end_ok hc (by simp [adv]; omega)))]
              simp [Stuck, spoil, adv]; omega
      · have hd : isB (s.extract 0 c) (adv st) 45 = false := end_is hc 45 (by simp [adv]; omega)
        have e1 : itemS (s.extract 0 c) st = (⟨#[byteOf (peekC s st), byteOf (peekC s st)]⟩, adv st) := by
          unfold itemS; rw [if_neg (by rw [ho, hk]; exact hn), if_pos hd, hk]
        by_cases hm : isB s (adv st) 45 = false
        · refine .inl (.inl ⟨?_, ?_⟩)
          · rw [e1]; unfold itemS; rw [if_neg hn, if_pos hm]
          · unfold itemS; rw [if_neg hn, if_pos hm]; simp [adv]; omega
        · refine .inr ⟨?_, ?_⟩
          · unfold itemS; rw [if_neg hn, if_neg hm]
            split
            · left; simp [adv, spoil]; omega
            · left; simp [adv]; omega
          · rw [e1]
            refine ⟨hb, ?_, size_two _ _⟩
            simp [adv]; omega
  · refine .inl (.inr ⟨?_, ?_⟩)
    · unfold itemS
      split
      · right; simp [spoil]; omega
      · split
        · left; simp [adv]; omega
        · split
          · left; simp [adv, spoil]; omega
          · left; simp [adv]; omega
    · unfold itemS; rw [if_pos (.inl (end_ok hc (by omega)))]
      simp [Stuck, spoil]; omega
end

theorem item_far {s : ByteArray} {c : Nat} {st : St} (h : c ≤ st.i) : Far c (itemS s st).2 := by
  unfold itemS
  split
  · by_cases he : st.i = c
    · right; exact ⟨rfl, he⟩
    · left; simp [spoil]; omega
  · split
    · left; simp [adv]; omega
    · split
      · left; simp [adv, spoil]; omega
      · left; simp [adv]; omega

section
variable {s : ByteArray} {c : Nat}
theorem setLoop_end (hc : c < s.size) {st : St} (hb : st.bad = false) (hi : st.i = c) (n : Nat) (ps : ByteArray) : Stuck c (setLoop (s.extract 0 c) (n + 1) ps st).2 := by
  rw [setLoop_go ⟨hb, .inr (end_is hc 93 (by omega))⟩]
  have e : itemS (s.extract 0 c) st = (⟨#[]⟩, spoil st) := by unfold itemS; rw [if_pos (.inl (end_ok hc (by omega)))]
  rw [e, setLoop_bad rfl]
  exact ⟨rfl, hi⟩

theorem setLoop_far (_hc : c < s.size) {st : St} (h : Far c st) (hi : st.i ≤ s.size) (n : Nat) (ps : ByteArray) : Far c (setLoop s n ps st).2 :=
  h.mono (Fwd.setLoop n ps st hi).1 (fun hb => by rw [setLoop_bad hb])

theorem setLoop_sim (hc : c < s.size) : ∀ (n m : Nat) (ps : ByteArray) (st : St), st.bad = false → st.i ≤ c → c + 1 < st.i + n → s.size + 1 < st.i + m →
    (setLoop (s.extract 0 c) n ps st = setLoop s m ps st ∧ (((setLoop s m ps st).2.bad = true ∧ (setLoop s m ps st).2.i ≤ c) ∨ (setLoop s m ps st).2.i < c)) ∨
    ((Far c (setLoop s m ps st).2 ∨ ((setLoop s m ps st).2.bad = false ∧ (setLoop s m ps st).2.i = c ∧ isB s (setLoop s m ps st).2 93 = true)) ∧ Stuck c (setLoop (s.extract 0 c) n ps st).2)
  | 0, m, ps, st, hb, hi, hn, hm => by omega
  | n + 1, 0, ps, st, hb, hi, hn, hm => by omega
  | n + 1, m + 1, ps, st, hb, hi, hn, hm => by
    by_cases h0 : st.i < c
    · have hB := cut_is hc 93 h0
      by_cases hp : ps.size = 0 ∨ isB s st 93 = false
      · rw [setLoop_go ⟨hb, hp⟩, setLoop_go (s := s.extract 0 c) ⟨hb, by rw [hB]; exact hp⟩]
        have hle := item_le s st (by omega)
        rcases item_sim hc hb hi with (⟨he, hj⟩ | ⟨hf, hs⟩) | ⟨hf, hb2, hi2, _⟩
        · rw [he]
          cases hbd : (itemS s st).2.bad
          · have hlt : st.i < (itemS s st).2.i := by
              rcases item_cases s st with h | h
              · rw [h.2.1] at hbd; cases hbd
              · exact h.2.2.1
            exact setLoop_sim hc n m _ _ hbd hj (by omega) (by omega)
          · rw [setLoop_bad hbd, setLoop_bad hbd]
            exact .inl ⟨rfl, .inl ⟨hbd, hj⟩⟩
        · refine .inr ⟨.inl (setLoop_far hc hf hle _ _), ?_⟩
          rw [setLoop_bad hs.1]; exact hs
        · refine .inr ⟨.inl (setLoop_far hc hf hle _ _), ?_⟩
          obtain ⟨k, rfl⟩ : ∃ k, n = k + 1 := ⟨n - 1, by omega⟩
          exact setLoop_end hc hb2 hi2 _ _
      · rw [setLoop_stop (fun h => hp h.2), setLoop_stop (s := s.extract 0 c) (fun h => hp (by rw [hB] at h; exact h.2))]
        exact .inl ⟨rfl, .inr h0⟩
    · have he : st.i = c := by omega
      refine .inr ⟨?_, setLoop_end hc hb he _ _⟩
      by_cases hp : ps.size = 0 ∨ isB s st 93 = false
      · rw [setLoop_go ⟨hb, hp⟩]
        exact .inl (setLoop_far hc (item_far (by omega)) (item_le s st (by omega)) _ _)
      · rw [setLoop_stop (fun h => hp h.2)]
        refine .inr ⟨hb, he, ?_⟩
        cases hx : isB s st 93
        · exact absurd (.inr hx) hp
        · rfl

theorem eatIf_far (_hc : c < s.size) {st : St} (h : Far c st) (b : Int) : Far c (eatIf s b st) := h.mono (eatIf_ge s b st) (fun hb => eatIf_bad hb)
theorem eatIf_stuck (_hc : c < s.size) {st : St} (h : Stuck c st) (b : Int) : Stuck c (eatIf (s.extract 0 c) b st) := by rw [eatIf_bad h.1]; exact h
theorem eatIf_end (hc : c < s.size) {st : St} (hb : st.bad = false) (hi : st.i = c) (b : Int) : Stuck c (eatIf (s.extract 0 c) b st) := by
  rw [eatIf_ok hb]; unfold eatS; rw [end_is hc b (by omega)]
  exact ⟨rfl, hi⟩
theorem eatIf_at (_hc : c < s.size) {st : St} (hi : st.i = c) (b : Int) : Far c (eatIf s b st) := by
  cases hb : st.bad
  · rw [eatIf_ok hb]; unfold eatS; split
    · left; simp; omega
    · right; exact ⟨rfl, hi⟩
  · rw [eatIf_bad hb]; exact .inr ⟨hb, hi⟩
theorem eatIf_same (hc : c < s.size) {st : St} (hi : st.i < c) (b : Int) : eatIf (s.extract 0 c) b st = eatIf s b st ∧ (eatIf s b st).i ≤ c := by
  cases hb : st.bad
  · rw [eatIf_ok hb, eatIf_ok hb]
    unfold eatS
    rw [cut_is hc b hi]
    refine ⟨rfl, ?_⟩
    split <;> simp <;> omega
  · rw [eatIf_bad hb, eatIf_bad hb]; exact ⟨rfl, by omega⟩

/-- eatIf from the same state. -/
theorem eatIf_sim (hc : c < s.size) {st : St} (hi : st.i ≤ c) (b : Int) : (eatIf (s.extract 0 c) b st = eatIf s b st ∧ (eatIf s b st).i ≤ c) ∨ (Far c (eatIf s b st) ∧ Stuck c (eatIf (s.extract 0 c) b st)) := by
  by_cases h : st.i < c
  · exact .inl (eatIf_same hc h b)
  · have he : st.i = c := by omega
    cases hb : st.bad
    · exact .inr ⟨eatIf_at hc he b, eatIf_end hc hb he b⟩
    · rw [eatIf_bad hb, eatIf_bad hb]; exact .inl ⟨rfl, hi⟩

theorem set_sim (hc : c < s.size) {st : St} (hb : st.bad = false) (hi : st.i ≤ c) : Sim c (setS s (s.size + 2) st) (setS (s.extract 0 c) ((s.extract 0 c).size + 2) st) := by
  have hz := cut_size (s := s) (c := c) (by omega)
  rw [hz]
  unfold setS
  simp only []
  have main : ∀ st1 : St, st1.bad = false → st1.i ≤ c → ∀ neg : Bool, Sim c ((neg, (setLoop s (s.size + 2) ⟨#[]⟩ st1).1), eatIf s 93 (setLoop s (s.size + 2) ⟨#[]⟩ st1).2) ((neg, (setLoop (s.extract 0 c) (c + 2) ⟨#[]⟩ st1).1), eatIf (s.extract 0 c) 93 (setLoop (s.extract 0 c) (c + 2) ⟨#[]⟩ st1).2) := by
    intro st1 hb1 hi1 neg
    rcases setLoop_sim hc (c + 2) (s.size + 2) ⟨#[]⟩ st1 hb1 hi1 (by omega) (by omega) with ⟨he, h⟩ | ⟨h, hs⟩
    · rw [he]
      rcases h with ⟨h1, h2⟩ | h
      · rw [eatIf_bad h1, eatIf_bad h1]; exact .inl ⟨rfl, h2⟩
      · have := eatIf_same hc h 93
        exact .inl ⟨by rw [this.1], this.2⟩
    · refine .inr ⟨?_, eatIf_stuck hc hs 93⟩
      rcases h with h | ⟨h1, h2, h3⟩
      · exact eatIf_far hc h 93
      · exact eatIf_at hc h2 93
  by_cases h0 : st.i < c
  · rw [cut_is hc 94 h0]
    cases hn : isB s st 94
    · exact main st hb hi false
    · exact main (adv st) hb (by simp [adv]; omega) true
  · have he : st.i = c := by omega
    rw [end_is hc 94 (by omega)]
    have h2 : Stuck c (eatIf (s.extract 0 c) 93 (setLoop (s.extract 0 c) (c + 2) ⟨#[]⟩ st).2) := eatIf_stuck hc (setLoop_end hc hb he _ _) 93
    cases hn : isB s st 94
    · rcases main st hb hi false with h | h
      · exact .inl h
      · exact .inr h
    · refine .inr ⟨?_, h2⟩
      refine eatIf_far hc (setLoop_far hc (.inl ?_) ?_ _ _) 93
      · simp [adv]; omega
      · simp [adv]; omega

theorem digit_sim (hc : c < s.size) (lo : Int) {st : St} (_hb : st.bad = false) (hi : st.i ≤ c) : Sim c (digitS s lo st) (digitS (s.extract 0 c) lo st) := by
  by_cases h0 : st.i < c
  · refine .inl ⟨?_, ?_⟩
    · unfold digitS; rw [cut_ok hc h0, cut_c hc h0]
    · unfold digitS; split <;> simp <;> omega
  · refine .inr ⟨?_, ?_⟩
    · unfold digitS; split
      · left; simp; omega
      · right; exact ⟨rfl, by simp; omega⟩
    · unfold digitS; rw [if_neg (fun h => by rw [end_ok hc (by omega)] at h; cases h.1)]
      exact ⟨rfl, by simp; omega⟩

theorem digit_at (_hc : c < s.size) (lo : Int) {st : St} (hi : st.i = c) : Far c (digitS s lo st).2 := by
  unfold digitS; split
  · left; simp; omega
  · right; exact ⟨rfl, hi⟩
theorem digit_end (hc : c < s.size) (lo : Int) {st : St} (hi : st.i = c) : Stuck c (digitS (s.extract 0 c) lo st).2 := by
  unfold digitS; rw [if_neg (fun h => by rw [end_ok hc (by omega)] at h; cases h.1)]
  exact ⟨rfl, hi⟩
theorem digit_far (_hc : c < s.size) (lo : Int) {st : St} (h : Far c st) : Far c (digitS s lo st).2 := h.mono (digit_ge s lo st) (fun hb => digit_bad lo hb)

/-- what ends a count, from the same state. -/
theorem tail_sim (hc : c < s.size) {st : St} (hi : st.i ≤ c) : (eatIf (s.extract 0 c) 125 (eatIf (s.extract 0 c) 92 st) = eatIf s 125 (eatIf s 92 st) ∧ (eatIf s 125 (eatIf s 92 st)).i ≤ c) ∨ (Far c (eatIf s 125 (eatIf s 92 st)) ∧ Stuck c (eatIf (s.extract 0 c) 125 (eatIf (s.extract 0 c) 92 st))) := by
  rcases eatIf_sim hc hi 92 with ⟨he, hj⟩ | ⟨hf, hs⟩
  · rw [he]; exact eatIf_sim hc hj 125
  · exact .inr ⟨eatIf_far hc hf 125, eatIf_stuck hc hs 125⟩

theorem bounds_far (_hc : c < s.size) {st : St} (h : Far c st) (hi : st.i ≤ s.size) : Far c (boundsS s st).2 := h.mono (Fwd.bounds hi).1 (fun hb => bounds_bad hb)

theorem bounds_sim (hc : c < s.size) {st : St} (hb : st.bad = false) (hi : st.i ≤ c) : Sim c (boundsS s st) (boundsS (s.extract 0 c) st) := by
  have hd := digit_sim hc 48 hb hi
  have hle := digit_le s 48 st (by omega)
  rcases hd with ⟨he, hj⟩ | ⟨hf, hs⟩
  · cases hbd : (digitS s 48 st).2.bad
    · by_cases h1 : (digitS s 48 st).2.i < c
      · have hB := cut_is hc 44 h1
        cases hcm : isB s (digitS s 48 st).2 44
        · unfold boundsS
          rw [he, if_neg (by rw [hcm]; simp), if_neg (by rw [hB, hcm]; simp)]
          rcases tail_sim hc hj with ⟨e1, e2⟩ | h
          · exact .inl ⟨by rw [e1], e2⟩
          · exact .inr h
        · have h2 : (adv (digitS s 48 st).2).i ≤ c := by simp [adv]; omega
          by_cases h3 : (adv (digitS s 48 st).2).i < c
          · have hB2 := cut_is hc 92 h3
            cases hes : isB s (adv (digitS s 48 st).2) 92
            · unfold boundsS
              rw [he, if_pos ⟨hbd, hcm⟩, if_neg (by rw [hes]; simp), if_pos ⟨hbd, by rw [hB, hcm]⟩, if_neg (by rw [hB2, hes]; simp)]
              rcases digit_sim hc (48 + (digitS s 48 st).1) (st := adv (digitS s 48 st).2) hbd h2 with ⟨k1, k2⟩ | ⟨k1, k2⟩
              · rw [k1]
                rcases tail_sim hc k2 with ⟨e1, e2⟩ | h
                · exact .inl ⟨by rw [e1], e2⟩
                · exact .inr h
              · exact .inr ⟨eatIf_far hc (eatIf_far hc k1 92) 125, eatIf_stuck hc (eatIf_stuck hc k2 92) 125⟩
            · unfold boundsS
              rw [he, if_pos ⟨hbd, hcm⟩, if_pos hes, if_pos ⟨hbd, by rw [hB, hcm]⟩, if_pos (by rw [hB2, hes])]
              rcases tail_sim hc h2 with ⟨e1, e2⟩ | h
              · exact .inl ⟨by rw [e1], e2⟩
              · exact .inr h
          · have h4 : (adv (digitS s 48 st).2).i = c := by omega
            have hst : Stuck c (boundsS (s.extract 0 c) st).2 := by
              unfold boundsS
              rw [he, if_pos ⟨hbd, by rw [hB, hcm]⟩, if_neg (by rw [end_is hc 92 (by omega)]; simp)]
              exact eatIf_stuck hc (eatIf_stuck hc (digit_end hc _ h4) 92) 125
            refine .inr ⟨?_, hst⟩
            unfold boundsS
            rw [if_pos ⟨hbd, hcm⟩]
            split
            · exact eatIf_far hc (eatIf_at hc h4 92) 125
            · exact eatIf_far hc (eatIf_far hc (digit_at hc _ h4) 92) 125
      · have h4 : (digitS s 48 st).2.i = c := by omega
        refine .inr ⟨?_, ?_⟩
        · unfold boundsS
          split
          · have hA : Far c (adv (digitS s 48 st).2) := .inl (by simp [adv]; omega)
            split
            · exact eatIf_far hc (eatIf_far hc hA 92) 125
            · exact eatIf_far hc (eatIf_far hc (digit_far hc _ hA) 92) 125
          · exact eatIf_far hc (eatIf_at hc h4 92) 125
        · unfold boundsS
          rw [he, if_neg (by rw [end_is hc 44 (by omega)]; simp)]
          exact eatIf_stuck hc (eatIf_end hc hbd h4 92) 125
    · refine .inl ⟨?_, ?_⟩
      · unfold boundsS
        rw [he, if_neg (by rw [hbd]; simp), if_neg (by rw [hbd]; simp)]
        simp only [eatIf_bad hbd]
      · unfold boundsS
        rw [if_neg (by rw [hbd]; simp)]
        simp only [eatIf_bad hbd]
        exact hj
  · refine .inr ⟨?_, ?_⟩
    · unfold boundsS
      split
      · have hA : Far c (adv (digitS s 48 st).2) := hf.mono (by simp [adv]) (fun hb => by
          next h => rw [hb] at h; cases h.1)
        split
        · exact eatIf_far hc (eatIf_far hc hA 92) 125
        · exact eatIf_far hc (eatIf_far hc (digit_far hc _ hA) 92) 125
      · exact eatIf_far hc (eatIf_far hc hf 92) 125
    · unfold boundsS
      rw [if_neg (by rw [hs.1]; simp)]
      exact eatIf_stuck hc (eatIf_stuck hc hs 92) 125
end
end Go.Proofs.YtmjdaifalgpdnaaGreat
