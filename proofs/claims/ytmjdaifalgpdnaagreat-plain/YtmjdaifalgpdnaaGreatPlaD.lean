import Derived.Test.YtmjdaifalgpdnaaGreatPlaC
import Derived.Test.YtmjdaifalgpdnaaGreatScrK
namespace Go.Proofs.YtmjdaifalgpdnaaGreat

section
variable {s t : ByteArray} {a b L n m : Nat} {st : St}

theorem Ag.ext (H : Ag s t a b L) {i j : Nat} (h1 : a ≤ i) (h2 : i ≤ j) (h3 : j ≤ a + L) : t.extract (b + (i - a)) (b + (j - a)) = s.extract i j := by
  have hl := H.l; have hr := H.r
  refine ByteArray.ext_getElem (by rw [ByteArray.size_extract, ByteArray.size_extract]; omega) fun k hk1 hk2 => ?_
  rw [ByteArray.getElem_extract, ByteArray.getElem_extract]
  rw [ByteArray.size_extract] at hk2
  have := H.get (i := i + k) (by omega) (by omega) (by omega) (by omega)
  have e : b + (i + k - a) = b + (i - a) + k := by omega
  simp only [e] at this
  exact this

theorem advIf_mv (H : Ag s t a b L) (c : Int) (h : a ≤ st.i) (h2 : st.i < a + L) : advIf t c (mv a b st) = mv a b (advIf s c st) := by
  unfold advIf
  rw [H.is c h h2]
  split
  · exact (mv_adv h).symm
  · rfl
theorem advIf_bad (c : Int) : (advIf s c st).bad = st.bad := by unfold advIf; split <;> rfl
theorem advIf_g (c : Int) : (advIf s c st).g = st.g := by unfold advIf; split <;> rfl

theorem expr_mv (H : Ag s t a b L) (h : a ≤ st.i) (hi : st.i ≤ s.size) (hn : 2 * (s.size - st.i) + 2 ≤ n) (hm : 2 * (t.size - (mv a b st).i) + 2 ≤ m) (hb : (exprS s n st).2.bad = false) (he : (exprS s n st).2.i < a + L) (h47 : isB s (exprS s n st).2 47 = true) : exprS t m (mv a b st) = ((exprS s n st).1, mv a b (exprS s n st).2) := by
  have hr := H.r
  unfold exprS at hb he h47 ⊢
  dsimp only at hb he h47
  obtain ⟨z, hz⟩ : ∃ z, z = zeroed st := ⟨_, rfl⟩
  have hzt : zeroed (mv a b st) = mv a b z := by rw [hz]; rfl
  have hzi : z.i = st.i := by rw [hz]; rfl
  rw [hzt]
  rw [← hz] at hb he h47 ⊢
  obtain ⟨p, hp⟩ : ∃ p, p = advIf s 94 z := ⟨_, rfl⟩
  have hpo := Fwd.advIf (s := s) (st := z) 94 (by omega)
  rw [← hp] at hb he h47 hpo ⊢
  have hP := (fwd_all s n).2.2 false p [] hpo.2.1
  have hP1 := hP.1
  have hp1 := hpo.1
  obtain ⟨P, hPe⟩ : ∃ P, P = partsS s false n p [] := ⟨_, rfl⟩
  rw [← hPe] at hb he h47 hP1 ⊢
  have hq := (Fwd.advIf (s := s) (st := P.2) 36 (by rw [hPe]; exact hP.2.1)).1
  have hb2 : P.2.bad = false := by rw [← advIf_bad (s := s) (st := P.2) 36]; exact hb
  have hin : Inn s a L P.2 := by
    refine ⟨by omega, by omega, .inr ?_⟩
    cases h36 : isB s P.2 36
    · unfold advIf at h47
      rw [h36] at h47
      simp only [Bool.false_eq_true, if_false] at h47
      rw [(is_peek h47).2]; decide
    · rw [(is_peek h36).2]; decide
  have e0 : advIf t 94 (mv a b z) = mv a b p := by rw [hp]; exact advIf_mv H 94 (by omega) (by omega)
  have hmi : (mv a b st).i = b + (st.i - a) := rfl
  have e1 : partsS t false m (mv a b p) [] = (P.1, mv a b P.2) := by
    rw [hPe] at hb2 hin ⊢
    exact (all_mv H n).2.2 false m p [] (by omega) hpo.2.1 hb2 hin (by have := hin.2.1; omega) (by omega)
  rw [e0, e1, H.is 94 (by omega) (by omega)]
  dsimp only
  rw [H.is 36 hin.1 hin.2.1, advIf_mv H 36 hin.1 hin.2.1]

theorem pattern_mv (H : Ag s t a b L) (h : a ≤ st.i) (hi : st.i ≤ s.size) (hn : 2 * (s.size - st.i) + 2 ≤ n) (hm : 2 * (t.size - (mv a b st).i) + 2 ≤ m) (hb : (patternS s n st).2.bad = false) (he : (patternS s n st).2.i ≤ a + L) : patternS t m (mv a b st) = ((patternS s n st).1, mv a b (patternS s n st).2) := by
  unfold patternS at hb he ⊢
  by_cases h60 : 60 < (exprS s n st).2.i - st.i
  · rw [if_pos h60] at hb; cases hb
  · rw [if_neg h60] at hb he ⊢
    obtain ⟨e1, e2, e3⟩ := eatIf_was hb
    dsimp only at he
    rw [e3] at he
    have he' : (exprS s n st).2.i + 1 ≤ a + L := he
    have hle := (expr_le s n st hi).1
    rw [expr_mv H h hi hn hm e1 (by omega) e2]
    dsimp only
    rw [if_neg (by omega), H.ext h hle (by omega), eatIf_mv H 47 (by omega) (by omega)]

/-- Two texts that agree along a stretch, and behind it have none of some bytes. -/
structure Agx (X : Int → Prop) (s t : ByteArray) (a b L : Nat) : Prop where
  ag : Ag s t a b L
  ns : ∀ h : a + L < s.size, ¬ X (s[a + L].toNat : Int)
  nt : ∀ h : b + L < t.size, ¬ X (t[b + L].toNat : Int)

theorem peek_get (h : peekOk s st = true) : ∃ hl : st.i < s.size, peekC s st = (s[st.i].toNat : Int) := by
  have hl := peekOk_lt h
  refine ⟨hl, ?_⟩
  unfold peekC
  rw [dif_pos ⟨by simp only [peekOk, Bool.and_eq_true, Bool.not_eq_true'] at h; exact h.1, hl⟩]
theorem end_peek {X : Int → Prop} {p : Nat} (hx : ∀ h : p < s.size, ¬ X (s[p].toNat : Int)) (hp : st.i = p) (h : peekOk s st = true) : ¬ X (peekC s st) := by
  subst hp
  obtain ⟨hl, e⟩ := peek_get h
  rw [e]; exact hx hl
theorem end_isB {X : Int → Prop} {p : Nat} (hx : ∀ h : p < s.size, ¬ X (s[p].toNat : Int)) (hp : st.i = p) {c : Int} (hc : X c) : isB s st c = false := by
  cases h : isB s st c
  · rfl
  · have h2 := is_peek h
    exact absurd (h2.2 ▸ hc) (end_peek hx hp h2.1)
theorem among_mem {l : List UInt8} (h : amongB s st l = true) : peekOk s st = true ∧ ∃ v ∈ l, ((v.toNat : Nat) : Int) = peekC s st := by
  simp only [amongB, hasL, Bool.and_eq_true, List.any_eq_true, beq_iff_eq] at h
  exact h
theorem end_among {X : Int → Prop} {p : Nat} (hx : ∀ h : p < s.size, ¬ X (s[p].toNat : Int)) (hp : st.i = p) {l : List UInt8} (hc : ∀ v ∈ l, X ((v.toNat : Nat) : Int)) : amongB s st l = false := by
  cases h : amongB s st l
  · rfl
  · obtain ⟨h1, v, h2, h3⟩ := among_mem h
    exact absurd (h3 ▸ hc v h2) (end_peek hx hp h1)

variable {X : Int → Prop}
theorem Agx.is (H : Agx X s t a b L) {c : Int} (hc : X c) (h : a ≤ st.i) (h2 : st.i ≤ a + L) : isB t (mv a b st) c = isB s st c := by
  by_cases h3 : st.i < a + L
  · exact H.ag.is c h h3
  · have e : st.i = a + L := by omega
    rw [end_isB H.ns e hc, end_isB H.nt (by rw [mv_i, e]; omega) hc]
theorem Agx.among (H : Agx X s t a b L) {l : List UInt8} (hc : ∀ v ∈ l, X ((v.toNat : Nat) : Int)) (h : a ≤ st.i) (h2 : st.i ≤ a + L) : amongB t (mv a b st) l = amongB s st l := by
  by_cases h3 : st.i < a + L
  · unfold amongB; rw [H.ag.ok h h3, H.ag.c h h3]
  · have e : st.i = a + L := by omega
    rw [end_among H.ns e hc, end_among H.nt (by rw [mv_i, e]; omega) hc]
theorem Agx.inn (H : Agx X s t a b L) {l : List UInt8} (hc : ∀ v ∈ l, X ((v.toNat : Nat) : Int)) (h2 : st.i ≤ a + L) (h : amongB s st l = true) : st.i < a + L := by
  by_cases h3 : st.i < a + L
  · exact h3
  · rw [end_among H.ns (by omega) hc] at h; cases h
theorem Agx.in1 (H : Agx X s t a b L) {c : Int} (hc : X c) (h2 : st.i ≤ a + L) (h : isB s st c = true) : st.i < a + L := by
  by_cases h3 : st.i < a + L
  · exact h3
  · rw [end_isB H.ns (by omega) hc] at h; cases h
theorem Agx.advIf (H : Agx X s t a b L) {c : Int} (hc : X c) (h : a ≤ st.i) (h2 : st.i ≤ a + L) : Go.Proofs.YtmjdaifalgpdnaaGreat.advIf t c (mv a b st) = mv a b (Go.Proofs.YtmjdaifalgpdnaaGreat.advIf s c st) ∧ st.i ≤ (Go.Proofs.YtmjdaifalgpdnaaGreat.advIf s c st).i ∧ (Go.Proofs.YtmjdaifalgpdnaaGreat.advIf s c st).i ≤ a + L := by
  unfold Go.Proofs.YtmjdaifalgpdnaaGreat.advIf
  rw [H.is hc h h2]
  cases hx : isB s st c
  · simp only [Bool.false_eq_true, if_false]; exact ⟨trivial, Nat.le_refl _, h2⟩
  · have := H.in1 hc h2 hx
    simp only [if_true]
    exact ⟨(mv_adv h).symm, by show st.i ≤ st.i + 1; omega, by show st.i + 1 ≤ a + L; omega⟩
theorem Agx.eat (H : Agx X s t a b L) {c : Int} (hc : X c) (h : a ≤ st.i) (h2 : st.i ≤ a + L) : eatS t c (mv a b st) = mv a b (eatS s c st) ∧ st.i ≤ (eatS s c st).i ∧ (eatS s c st).i ≤ a + L := by
  unfold eatS
  rw [H.is hc h h2]
  cases hx : isB s st c
  · simp only [Bool.false_eq_true, if_false]; exact ⟨by trivial, Nat.le_refl _, h2⟩
  · have := H.in1 hc h2 hx
    simp only [if_true]
    exact ⟨(mv_adv h).symm, by show st.i ≤ st.i + 1; omega, by show st.i + 1 ≤ a + L; omega⟩

theorem numL_mv (H : Agx X s t a b L) (hX : ∀ v ∈ digitsL, X ((v.toNat : Nat) : Int)) : ∀ (k : Nat) (x : Int) (st : St), a ≤ st.i → st.i ≤ a + L → numL t k x (mv a b st) = ((numL s k x st).1, mv a b (numL s k x st).2)
  | 0, x, st, h, h2 => rfl
  | k + 1, x, st, h, h2 => by
    rw [numL, numL, H.among hX h h2]
    split
    · next hc =>
      have h3 := H.inn hX h2 hc
      obtain ⟨g1, g2, g3⟩ := among_dig0 hc
      rw [digit_mv H.ag 48 h h3, digit_of g1 g2 g3]
      exact numL_mv H hX k _ (adv st) (by show a ≤ st.i + 1; omega) (by show st.i + 1 ≤ a + L; omega)
    · rfl
theorem wordL_mv (H : Agx X s t a b L) (hX : ∀ v ∈ lettersL, X ((v.toNat : Nat) : Int)) : ∀ (k : Nat) (st : St), a ≤ st.i → st.i ≤ a + L → wordL t k (mv a b st) = mv a b (wordL s k st) ∧ st.i ≤ (wordL s k st).i ∧ (wordL s k st).i ≤ a + L
  | 0, st, h, h2 => ⟨rfl, Nat.le_refl _, h2⟩
  | k + 1, st, h, h2 => by
    rw [wordL, wordL, H.among hX h h2]
    split
    · next hc =>
      have h3 := H.inn hX h2 hc
      have ih := wordL_mv H hX k (adv st) (by show a ≤ st.i + 1; omega) (by show st.i + 1 ≤ a + L; omega)
      rw [← mv_adv h]
      exact ⟨ih.1, by have := ih.2.1; have e : (adv st).i = st.i + 1 := rfl; omega, ih.2.2⟩
    · exact ⟨rfl, Nat.le_refl _, h2⟩
theorem word_mv (H : Agx X s t a b L) (hX : ∀ v ∈ lettersL, X ((v.toNat : Nat) : Int)) (h : a ≤ st.i) (h2 : st.i ≤ a + L) : wordS t (mv a b st) = ((wordS s st).1, mv a b (wordS s st).2) := by
  obtain ⟨w1, w2, w3⟩ := wordL_mv H hX 8 st h h2
  unfold wordS
  rw [w1]
  by_cases hc : (wordL s 8 st).i = st.i
  · rw [if_pos hc, if_pos (by rw [mv_i, mv_i, hc])]; rfl
  · rw [if_neg hc, if_neg (by rw [mv_i, mv_i]; omega)]
    rw [mv_i, mv_i, H.ag.ext h w2 w3]
theorem spaced_mv (H : Agx X s t a b L) (hX : ∀ v ∈ lettersL, X ((v.toNat : Nat) : Int)) (h32 : X 32) (h : a ≤ st.i) (h2 : st.i ≤ a + L) : spacedS t (mv a b st) = ((spacedS s st).1, mv a b (spacedS s st).2) := by
  obtain ⟨w1, w2, w3⟩ := H.eat h32 h h2
  unfold spacedS
  rw [w1]
  by_cases hc : (eatS s 32 st).bad = true
  · rw [if_pos hc, if_pos (show (mv a b (eatS s 32 st)).bad = true from hc)]
  · rw [if_neg hc, if_neg (show ¬ (mv a b (eatS s 32 st)).bad = true from hc)]
    exact word_mv H hX (by omega) w3

theorem addr_mv (H : Agx X s t a b L) (h36 : X 36) (h47 : X 47) (hX : ∀ v ∈ digitsL, X ((v.toNat : Nat) : Int)) (h : a ≤ st.i) (hi : st.i ≤ s.size) (hn : 2 * (s.size - st.i) + 2 ≤ n) (hm : 2 * (t.size - (mv a b st).i) + 2 ≤ m) (hb : (addrS s n st).2.bad = false) (he : (addrS s n st).2.i ≤ a + L) : addrS t m (mv a b st) = ((addrS s n st).1, mv a b (addrS s n st).2) := by
  have hle := (addr_le s n st hi).1
  have h2 : st.i ≤ a + L := by omega
  have hr := H.ag.r
  have hX1 : ∀ v ∈ digits1L, X ((v.toNat : Nat) : Int) := fun v hv => hX v (by
    unfold digits1L at hv
    unfold digitsL
    exact List.mem_cons_of_mem _ hv)
  unfold addrS at hb he ⊢
  rw [H.is h36 h h2, H.is h47 h h2, H.among hX1 h h2]
  by_cases c1 : isB s st 36 = true
  · rw [if_pos c1, if_pos c1, mv_adv h]
  · rw [if_neg c1] at hb he ⊢
    rw [if_neg c1]
    by_cases c2 : isB s st 47 = true
    · rw [if_pos c2] at hb he ⊢
      rw [if_pos c2]
      have h3 := peekOk_lt (isB_ok c2)
      have h4 := H.in1 h47 h2 c2
      have e1 : (adv st).i = st.i + 1 := rfl
      have e2 : (mv a b (adv st)).i = b + (st.i + 1 - a) := rfl
      have e3 : (mv a b st).i = b + (st.i - a) := rfl
      rw [← mv_adv h, pattern_mv (n := n) (m := m) H.ag (by omega) (by omega) (by omega) (by omega) hb he]
    · rw [if_neg c2] at hb he ⊢
      rw [if_neg c2]
      by_cases c3 : amongB s st digits1L = false
      · rw [if_pos c3, if_pos c3]
      · rw [if_neg c3, if_neg c3, numL_mv H hX 4 0 st h h2]

theorem addrs_mv (H : Agx X s t a b L) (h36 : X 36) (h47 : X 47) (h44 : X 44) (hX : ∀ v ∈ digitsL, X ((v.toNat : Nat) : Int)) (h : a ≤ st.i) (hi : st.i ≤ s.size) (hn : 2 * (s.size - st.i) + 2 ≤ n) (hm : 2 * (t.size - (mv a b st).i) + 2 ≤ m) (hb : (addrsS s n st).2.bad = false) (he : (addrsS s n st).2.i ≤ a + L) : addrsS t m (mv a b st) = ((addrsS s n st).1, mv a b (addrsS s n st).2) := by
  have hA := addr_le s n st hi
  have hr := H.ag.r
  unfold addrsS at hb he ⊢
  by_cases c1 : (addrS s n st).2.bad = false ∧ (addrS s n st).1.kind ≠ 0 ∧ isB s (addrS s n st).2 44 = true
  · rw [if_pos c1] at hb he ⊢
    dsimp only at hb he
    have h3 := peekOk_lt (isB_ok c1.2.2)
    have e1 : (adv (addrS s n st).2).i = (addrS s n st).2.i + 1 := rfl
    have hB := addr_le s n (adv (addrS s n st).2) (by omega)
    by_cases c2 : (addrS s n (adv (addrS s n st).2)).1.kind = 0
    · rw [if_pos c2] at hb; cases hb
    · rw [if_neg c2] at hb he ⊢
      have hA1 := hA.1
      have hB1 := hB.1
      have e3 : (mv a b st).i = b + (st.i - a) := rfl
      have e2 : (mv a b (adv (addrS s n st).2)).i = b + ((addrS s n st).2.i + 1 - a) := rfl
      have q1 := addr_mv (n := n) (m := m) H h36 h47 hX h hi hn hm c1.1 (by omega)
      have q2 := addr_mv (n := n) (m := m) (st := adv (addrS s n st).2) H h36 h47 hX (by omega) (by omega) (by omega) (by omega) hb he
      rw [q1]
      dsimp only
      rw [H.is h44 (by omega) (by omega), if_pos (show (mv a b (addrS s n st).2).bad = false ∧ _ from c1), ← mv_adv (by omega), q2]
      dsimp only
      rw [if_neg c2]
  · rw [if_neg c1] at hb he ⊢
    have q1 := addr_mv (n := n) (m := m) H h36 h47 hX h hi hn hm hb he
    rw [q1]
    dsimp only
    dsimp only at he
    have hA1 := hA.1
    rw [H.is h44 (by omega) he, if_neg (show ¬ ((mv a b (addrS s n st).2).bad = false ∧ _) from c1)]
end
end Go.Proofs.YtmjdaifalgpdnaaGreat
