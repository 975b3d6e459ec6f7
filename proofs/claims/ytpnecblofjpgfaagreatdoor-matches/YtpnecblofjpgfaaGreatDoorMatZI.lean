import Derived.Test.YtpnecblofjpgfaaGreatDoorMatZU
namespace Go.Proofs.YtpnecblofjpgfaaGreatDoor
open Go.RowKit Go.Shelf

theorem Best.unique {R : Nat → Prop} {a b : Nat} (ha : Best R a) (hb : Best R b) : a = b := Nat.le_antisymm (hb.2 a ha.1) (ha.2 b hb.1)

theorem LoopR.unique {s : ByteArray} {x : Part} {e n p l n' l' : Nat} (h : LoopR s x e n p l n' l') : ∀ {n2 l2 : Nat}, LoopR s x e n p l n2 l2 → n2 = n' ∧ l2 = l' := by
  induction h with
  | stop h1 =>
    intro n2 l2 k
    cases k with
    | stop _ => exact ⟨rfl, rfl⟩
    | more h2 _ _ => omega
  | more h1 h2 _ ih =>
    intro n2 l2 k
    cases k with
    | stop h3 => omega
    | more k1 k2 k3 =>
      have := h2.unique k2
      subst this
      exact ih k3

mutual
theorem SpanR.unique (s : ByteArray) : ∀ (ps : List Part) (p e : Nat) (ss a b : List Int), SpanR s ps p e ss a → SpanR s ps p e ss b → a = b
  | [], p, e, ss, a, b, ha, hb => by
    simp only [SpanR] at ha hb
    rw [ha, hb]
  | x :: xs, p, e, ss, a, b, ha, hb => by
    simp only [SpanR] at ha hb
    obtain ⟨m, s1, h1, h2, h3⟩ := ha
    obtain ⟨m', s1', k1, k2, k3⟩ := hb
    have hm := h1.unique k1
    subst hm
    have := SpanC.unique s x p m ss s1 s1' h2 k2
    subst this
    exact SpanR.unique s xs m e s1 a b h3 k3
theorem SpanC.unique (s : ByteArray) : ∀ (x : Part) (p e : Nat) (ss a b : List Int), SpanC s x p e ss a → SpanC s x p e ss b → a = b
  | .mk g kids neg ps mn mx, p, e, ss, a, b, ha, hb => by
    simp only [SpanC] at ha hb
    split at ha
    · next hg => rw [if_pos hg] at hb; rw [ha, hb]
    · next hg =>
      rw [if_neg hg] at hb
      obtain ⟨n, l, h1, h2⟩ := ha
      obtain ⟨n', l', k1, k2⟩ := hb
      obtain ⟨rfl, rfl⟩ := h1.unique k1
      split at h2
      · next hn => rw [if_pos hn] at k2; rw [h2, k2]
      · next hn =>
        rw [if_neg hn] at k2
        exact SpanR.unique s kids _ e _ a b h2 k2
end
end Go.Proofs.YtpnecblofjpgfaaGreatDoor

namespace Go.Proofs.YtpnecblofjpgfaaGreatDoor
open Go.RowKit Go.Shelf

mutual
/-- The groups' numbers within parts. -/
def grpsL : List Part → List Nat
  | [] => []
  | x :: xs => grpsP x ++ grpsL xs
def grpsP : Part → List Nat
  | .mk g kids _ _ _ _ => if g = 0 then [] else g :: grpsL kids
end

mutual
/-- What clear leaves: no span for each group within the parts. -/
def clearS : List Part → List Int → List Int
  | [], ss => ss
  | x :: xs, ss => clearS xs (clearP x ss)
def clearP : Part → List Int → List Int
  | .mk g kids _ _ _ _, ss => if g = 0 then ss else clearS kids ((ss.set (2 * g) (-1)).set (2 * g + 1) (-1))
end

/-- Copies, one behind the other, each with what it does to the spans. -/
inductive RLoop (s : ByteArray) (x : Part) (e : Nat) (body : Nat → Nat → List Int → List Int → Prop) : Nat → Nat → List Int → List Int → Prop
  | stop {n : Nat} {ss : List Int} : x.mn ≤ n → RLoop s x e body n e ss ss
  | more {n p r : Nat} {ss s1 s2 : List Int} : ((n : Int) < x.mn ∨ p < e) → Best (fun m => NextR s x n p m ∧ Copies (AtomR s x) x.mn x.mx (n + 1) m e) r → body p r ss s1 → RLoop s x e body (n + 1) r s1 s2 → RLoop s x e body n p ss s2

mutual
/-- The spans as the document's answer picks them: every copy anew. -/
def RSeq (s : ByteArray) : List Part → Nat → Nat → List Int → List Int → Prop
  | [], _, _, ss, ss' => ss' = ss
  | x :: xs, p, e, ss, ss' => ∃ m ss1, Best (fun m => Copies (AtomR s x) x.mn x.mx 0 p m ∧ SeqR s xs m e) m ∧ RCop s x p m ss ss1 ∧ RSeq s xs m e ss1 ss'
def RCop (s : ByteArray) : Part → Nat → Nat → List Int → List Int → Prop
  | .mk g kids neg ps mn mx, p, e, ss, ss' => RLoop s (.mk g kids neg ps mn mx) e (fun l q a b => if g = 0 then b = a else RSeq s kids l q (((clearS kids a).set (2 * g) l).set (2 * g + 1) q) b) 0 p ss ss'
end

/-- Only spans of these groups differ. -/
def Off (gs : List Nat) (a b : List Int) : Prop := b.length = a.length ∧ ∀ k, k / 2 ∉ gs → b.getD k 0 = a.getD k 0

theorem Off.refl (gs : List Nat) (a : List Int) : Off gs a a := ⟨rfl, fun _ _ => rfl⟩
theorem Off.trans {gs : List Nat} {a b c : List Int} (h : Off gs a b) (k : Off gs b c) : Off gs a c := ⟨k.1.trans h.1, fun i hi => (k.2 i hi).trans (h.2 i hi)⟩
theorem Off.mono {gs hs : List Nat} {a b : List Int} (h : Off gs a b) (hk : ∀ g, g ∈ gs → g ∈ hs) : Off hs a b := ⟨h.1, fun i hi => h.2 i (fun hc => hi (hk _ hc))⟩
theorem Off.set2 (a : List Int) (g : Nat) (u v : Int) : Off [g] a ((a.set (2 * g) u).set (2 * g + 1) v) := by
  refine ⟨by simp, fun k hk => ?_⟩
  simp only [List.mem_singleton] at hk
  rw [getD_set, getD_set, if_neg (by omega), if_neg (by omega)]

mutual
theorem clearS_off : ∀ (ps : List Part) (a : List Int), Off (grpsL ps) a (clearS ps a)
  | [], a => by simp only [clearS]; exact Off.refl _ _
  | x :: xs, a => by
    simp only [clearS, grpsL]
    exact ((clearP_off x a).mono (fun g h => List.mem_append_left _ h)).trans ((clearS_off xs _).mono (fun g h => List.mem_append_right _ h))
theorem clearP_off : ∀ (x : Part) (a : List Int), Off (grpsP x) a (clearP x a)
  | .mk g kids neg ps mn mx, a => by
    simp only [clearP, grpsP]
    split
    · exact Off.refl _ _
    · exact ((Off.set2 a g (-1) (-1)).mono (fun g h => by simp only [List.mem_singleton] at h; subst h; exact List.mem_cons_self)).trans ((clearS_off kids _).mono (fun g h => List.mem_cons_of_mem _ h))
end

/-- These groups have no span. -/
def Bare (gs : List Nat) (a : List Int) : Prop := ∀ k, k / 2 ∈ gs → k < a.length → a.getD k 0 = -1

theorem Bare.off {gs hs : List Nat} {a b : List Int} (h : Bare gs a) (ho : Off hs a b) (hd : ∀ g, g ∈ gs → g ∉ hs) : Bare gs b := fun k hk hl => by
  rw [ho.2 k (hd _ hk)]; exact h k hk (by rw [← ho.1]; exact hl)

/-- Setting to none keeps none. -/
theorem neg_keeps (a : List Int) (g k : Nat) (h : a.getD k 0 = -1) : ((a.set (2 * g) (-1)).set (2 * g + 1) (-1)).getD k 0 = -1 := by
  rw [getD_set, getD_set]
  split
  · rfl
  · split
    · rfl
    · exact h

mutual
theorem clearS_keeps : ∀ (ps : List Part) (a : List Int) (k : Nat), a.getD k 0 = -1 → (clearS ps a).getD k 0 = -1
  | [], a, k, h => by simp only [clearS]; exact h
  | x :: xs, a, k, h => by simp only [clearS]; exact clearS_keeps xs _ k (clearP_keeps x a k h)
theorem clearP_keeps : ∀ (x : Part) (a : List Int) (k : Nat), a.getD k 0 = -1 → (clearP x a).getD k 0 = -1
  | .mk g kids neg ps mn mx, a, k, h => by
    simp only [clearP]
    split
    · exact h
    · exact clearS_keeps kids _ k (neg_keeps a g k h)
end

mutual
theorem clearS_bare : ∀ (ps : List Part) (a : List Int), Bare (grpsL ps) (clearS ps a)
  | [], a => by intro k hk; simp [grpsL] at hk
  | x :: xs, a => by
    intro k hk hl
    simp only [clearS] at hl ⊢
    simp only [grpsL, List.mem_append] at hk
    rcases hk with hk | hk
    · exact clearS_keeps xs _ k (clearP_bare x a k hk (by rw [← (clearS_off xs _).1]; exact hl))
    · exact clearS_bare xs _ k hk hl
theorem clearP_bare : ∀ (x : Part) (a : List Int), Bare (grpsP x) (clearP x a)
  | .mk g kids neg ps mn mx, a => by
    intro k hk hl
    simp only [clearP] at hl ⊢
    simp only [grpsP] at hk
    split at hk
    · simp at hk
    · next hg =>
      rw [if_neg hg] at hl ⊢
      rcases List.mem_cons.1 hk with hk | hk
      · refine clearS_keeps kids _ k ?_
        have hl' := (clearS_off kids ((a.set (2 * g) (-1)).set (2 * g + 1) (-1))).1
        rw [hl', List.length_set, List.length_set] at hl
        rw [getD_set, getD_set, List.length_set]
        by_cases h1 : 2 * g + 1 = k
        · rw [if_pos ⟨h1, hl⟩]
        · rw [if_neg (by omega), if_pos ⟨by omega, hl⟩]
      · exact clearS_bare kids _ k hk hl
end

theorem ext_getD {a b : List Int} (hl : a.length = b.length) (h : ∀ k, k < a.length → a.getD k 0 = b.getD k 0) : a = b := by
  apply List.ext_getElem hl
  intro i h1 h2
  have := h i h1
  rw [List.getD_eq_getElem?_getD, List.getD_eq_getElem?_getD, List.getElem?_eq_getElem h1, List.getElem?_eq_getElem h2] at this
  exact this

/-- Whatever copies before did within a group: cleared, and the group's span set anew, it is as if they had done nothing. -/
theorem reset {kids : List Part} {g : Nat} {ss s1 : List Int} (hB : Bare (grpsL kids) ss) (ho : Off (g :: grpsL kids) ss s1) (l q : Int) :
    ((clearS kids s1).set (2 * g) l).set (2 * g + 1) q = (ss.set (2 * g) l).set (2 * g + 1) q := by
  have hc := clearS_off kids s1
  have hlen : (clearS kids s1).length = ss.length := hc.1.trans ho.1
  refine ext_getD (by simp [hlen]) fun k hk => ?_
  simp only [List.length_set] at hk
  rw [getD_set, getD_set, getD_set, getD_set, List.length_set, List.length_set, hlen]
  rw [hlen] at hk
  by_cases h1 : 2 * g + 1 = k
  · rw [if_pos ⟨h1, hk⟩, if_pos ⟨h1, hk⟩]
  · simp only [h1, false_and, if_false]
    by_cases h2 : 2 * g = k
    · rw [if_pos ⟨h2, hk⟩, if_pos ⟨h2, hk⟩]
    · simp only [h2, false_and, if_false]
      by_cases hm : k / 2 ∈ grpsL kids
      · rw [clearS_bare kids s1 k hm (by rw [hlen]; exact hk), hB k hm hk]
      · rw [hc.2 k hm, ho.2 k (fun h => by
          rcases List.mem_cons.1 h with h | h
          · omega
          · exact hm h)]

theorem rloop_last {s : ByteArray} {x : Part} {e : Nat} {body : Nat → Nat → List Int → List Int → Prop} {gs : List Nat} (hb : ∀ l q a b, body l q a b → Off gs a b) {n p : Nat} {ss s2 : List Int} (h : RLoop s x e body n p ss s2) :
    ∀ l, ∃ n' l', LoopR s x e n p l n' l' ∧ Off gs ss s2 ∧ ((n' = n ∧ s2 = ss) ∨ (n < n' ∧ ∃ s1, Off gs ss s1 ∧ body l' e s1 s2)) := by
  induction h with
  | stop h1 => intro l; exact ⟨_, l, .stop h1, Off.refl _ _, .inl ⟨rfl, rfl⟩⟩
  | @more n p r ss s1 s2 h1 h2 h3 _ ih =>
    intro l
    obtain ⟨n', l', k1, k2, k3⟩ := ih p
    refine ⟨n', l', .more h1 h2 k1, (hb _ _ _ _ h3).trans k2, .inr ?_⟩
    rcases k3 with ⟨k4, k5⟩ | ⟨k4, s3, k5, k6⟩
    · rcases k1.last with ⟨_, k7, k8⟩ | ⟨k7, _⟩
      · refine ⟨by omega, ss, Off.refl _ _, ?_⟩
        rw [k7, ← k8, k5]; exact h3
      · omega
    · exact ⟨by omega, s3, (hb _ _ _ _ h3).trans k5, k6⟩

mutual
theorem rseq_off (s : ByteArray) : ∀ (ps : List Part) (p e : Nat) (ss a : List Int), RSeq s ps p e ss a → Off (grpsL ps) ss a
  | [], p, e, ss, a, h => by
    simp only [RSeq] at h
    subst h; exact Off.refl _ _
  | x :: xs, p, e, ss, a, h => by
    simp only [RSeq] at h
    obtain ⟨m, s1, _, h2, h3⟩ := h
    simp only [grpsL]
    exact ((rcop_off s x p m ss s1 h2).mono (fun g h => List.mem_append_left _ h)).trans ((rseq_off s xs m e s1 a h3).mono (fun g h => List.mem_append_right _ h))
theorem rcop_off (s : ByteArray) : ∀ (x : Part) (p e : Nat) (ss a : List Int), RCop s x p e ss a → Off (grpsP x) ss a
  | .mk g kids neg ps mn mx, p, e, ss, a, h => by
    simp only [RCop] at h
    obtain ⟨n', l', _, h2, _⟩ := rloop_last (gs := grpsP (.mk g kids neg ps mn mx)) (fun l q a b hb => by
      simp only [grpsP]
      split at hb
      · next hg => rw [hb]; exact Off.refl _ _
      · next hg =>
        rw [if_neg hg]
        exact (((clearS_off kids a).mono (fun g h => List.mem_cons_of_mem _ h)).trans ((Off.set2 _ g l q).mono (fun g h => by simp only [List.mem_singleton] at h; subst h; exact List.mem_cons_self))).trans ((rseq_off s kids l q _ b hb).mono (fun g h => List.mem_cons_of_mem _ h))) h p
    exact h2
end

mutual
/-- The document's spans are the program's: the last copy alone counts. -/
theorem rseq_span (s : ByteArray) : ∀ (ps : List Part) (p e : Nat) (ss a : List Int), (grpsL ps).Nodup → Bare (grpsL ps) ss → RSeq s ps p e ss a → SpanR s ps p e ss a
  | [], p, e, ss, a, _, _, h => by
    simp only [RSeq] at h
    simp only [SpanR]
    exact h
  | x :: xs, p, e, ss, a, hn, hB, h => by
    simp only [RSeq] at h
    simp only [SpanR]
    simp only [grpsL] at hn hB
    obtain ⟨m, s1, h1, h2, h3⟩ := h
    have hd := List.nodup_append.1 hn
    have ho := rcop_off s x p m ss s1 h2
    refine ⟨m, s1, h1, rcop_span s x p m ss s1 hd.1 (fun k hk hl => hB k (List.mem_append_left _ hk) hl) h2, rseq_span s xs m e s1 a hd.2.1 ?_ h3⟩
    exact Bare.off (fun k hk hl => hB k (List.mem_append_right _ hk) hl) ho (fun g h1 h2 => hd.2.2 g h2 g h1 rfl)
theorem rcop_span (s : ByteArray) : ∀ (x : Part) (p e : Nat) (ss a : List Int), (grpsP x).Nodup → Bare (grpsP x) ss → RCop s x p e ss a → SpanC s x p e ss a
  | .mk g kids neg ps mn mx, p, e, ss, a, hn, hB, h => by
    have ho := rcop_off s _ p e ss a h
    simp only [RCop] at h
    simp only [SpanC]
    simp only [grpsP] at hn hB ho
    split
    · next hg =>
      rw [if_pos hg] at ho
      exact ext_getD ho.1 (fun k _ => ho.2 k (by simp))
    · next hg =>
      rw [if_neg hg] at hn hB ho
      obtain ⟨hn1, hn2⟩ := List.nodup_cons.1 hn
      obtain ⟨n', l', k1, _, k3⟩ := rloop_last (gs := g :: grpsL kids) (fun l q a b hb => by
        rw [if_neg hg] at hb
        exact (((clearS_off kids a).mono (fun g h => List.mem_cons_of_mem _ h)).trans ((Off.set2 _ g l q).mono (fun g h => by simp only [List.mem_singleton] at h; subst h; exact List.mem_cons_self))).trans ((rseq_off s kids l q _ b hb).mono (fun g h => List.mem_cons_of_mem _ h))) h p
      refine ⟨n', l', k1, ?_⟩
      rcases k3 with ⟨k4, k5⟩ | ⟨k4, s3, k5, k6⟩
      · rw [if_pos k4]; exact k5
      · rw [if_neg (by omega)]
        rw [if_neg hg, reset (fun k hk hl => hB k (List.mem_cons_of_mem _ hk) hl) k5] at k6
        refine rseq_span s kids l' e _ a hn2 ?_ k6
        exact Bare.off (fun k hk hl => hB k (List.mem_cons_of_mem _ hk) hl) (Off.set2 ss g l' e) (fun g' h1 h2 => by simp only [List.mem_singleton] at h2; subst h2; exact hn1 h1)
end
end Go.Proofs.YtpnecblofjpgfaaGreatDoor

namespace Go.Proofs.YtpnecblofjpgfaaGreatDoor
open Go.RowKit Go.Shelf

theorem count_g (s : ByteArray) (r : Part × St) : (countS s r).2.g = r.2.g := by
  unfold countS
  split
  · rfl
  · split
    · rfl
    · split
      · simp only [bounds_g]; rfl
      · rfl
theorem grps_upd (x : Part) (a b : Int) : grpsP (upd x a b) = grpsP x := by
  obtain ⟨g, kids, neg, ps, mn, mx⟩ := x
  simp only [upd, grpsP]
theorem grps_count (s : ByteArray) (r : Part × St) : grpsP (countS s r).1 = grpsP r.1 := by
  unfold countS
  split
  · rfl
  · split
    · exact grps_upd _ _ _
    · split
      · exact grps_upd _ _ _
      · rfl

/-- Numbers above lo, at most hi, all different. -/
def Num (lo hi : Nat) (gs : List Nat) : Prop := lo ≤ hi ∧ gs.Nodup ∧ ∀ g, g ∈ gs → lo < g ∧ g ≤ hi

theorem Num.nil {lo hi : Nat} (h : lo ≤ hi) : Num lo hi [] := ⟨h, List.nodup_nil, fun _ h => by cases h⟩
theorem Num.app {lo mid hi : Nat} {a b : List Nat} (h : Num lo mid a) (k : Num mid hi b) : Num lo hi (a ++ b) := by
  refine ⟨Nat.le_trans h.1 k.1, List.nodup_append.2 ⟨h.2.1, k.2.1, fun x hx y hy e => ?_⟩, fun g hg => ?_⟩
  · have := h.2.2 x hx
    have := k.2.2 y hy
    omega
  · have := h.1
    have := k.1
    rcases List.mem_append.1 hg with hg | hg
    · have := h.2.2 g hg; omega
    · have := k.2.2 g hg; omega
theorem Num.cons {lo hi : Nat} {a : List Nat} (h : Num (lo + 1) hi a) : Num lo hi ((lo + 1) :: a) := by
  refine ⟨by have := h.1; omega, List.nodup_cons.2 ⟨fun hm => ?_, h.2.1⟩, fun g hg => ?_⟩
  · have := h.2.2 _ hm; omega
  · have := h.1
    rcases List.mem_cons.1 hg with hg | hg
    · omega
    · have := h.2.2 g hg; omega

theorem grpsL_app : ∀ (a b : List Part), grpsL (a ++ b) = grpsL a ++ grpsL b
  | [], b => rfl
  | x :: a, b => by simp only [List.cons_append, grpsL, grpsL_app a b, List.append_assoc]

theorem num_all (s : ByteArray) (n : Nat) :
    (∀ st, Num st.g (partS s n st).2.g (grpsP (partS s n st).1)) ∧ (∀ st, Num st.g (escS s n st).2.g (grpsP (escS s n st).1)) ∧ (∀ inner st l lo, Num lo st.g (grpsL l) → Num lo (partsS s inner n st l).2.g (grpsL (partsS s inner n st l).1)) := by
  have he : ∀ st : St, Num st.g (spoil st).g (grpsP emptyP) := fun st => by
    simp only [emptyP, grpsP, if_pos]; exact Num.nil (Nat.le_refl _)
  have hs : ∀ (st : St) (c : Int), Num st.g (adv st).g (grpsP (singleP c)) := fun st c => by
    simp only [singleP, grpsP, if_pos]; exact Num.nil (Nat.le_refl _)
  induction n with
  | zero =>
    refine ⟨fun st => ?_, fun st => ?_, fun inner st l lo h => ?_⟩
    · simp only [partS]; exact he st
    · simp only [escS]; exact he st
    · simp only [partsS]; exact h
  | succ n ih =>
    obtain ⟨ihp, ihe, ihs⟩ := ih
    refine ⟨fun st => ?_, fun st => ?_, fun inner st l lo h => ?_⟩
    · rw [partS]
      split
      · exact he st
      · rw [count_g, grps_count]
        split
        · simp only [grpsP, if_pos]; exact Num.nil (Nat.le_refl _)
        · split
          · simp only [grpsP, if_pos, set_g]; exact Num.nil (Nat.le_refl _)
          · split
            · exact ihe (adv st)
            · exact hs st _
    · rw [escS]
      split
      · exact he st
      · split
        · exact hs st _
        · split
          · exact hs st _
          · simp only [grpsP, eatIf_g]
            rw [if_neg (by omega)]
            exact Num.cons (ihs true (opened st) [] (st.g + 1) (by simp only [grpsL]; exact Num.nil (Nat.le_refl _)))
    · rw [partsS]
      split
      · exact h
      · refine ihs inner _ _ lo ?_
        rw [grpsL_app]
        simp only [grpsL, List.append_nil]
        exact h.app (ihp st)

/-- The groups of an expression are all different, from 1 on. -/
theorem ex_num (s : ByteArray) : ∃ hi, Num 0 hi (grpsL (exS s).1.parts) := by
  have h := (num_all s (2 * s.size + 2)).2.2 false (advIf s 94 (zeroed ⟨0, false, 0⟩)) [] (advIf s 94 (zeroed ⟨0, false, 0⟩)).g (by simp only [grpsL]; exact Num.nil (Nat.le_refl _))
  have hg : (advIf s 94 (zeroed ⟨0, false, 0⟩)).g = 0 := by unfold advIf; split <;> rfl
  rw [hg] at h
  exact ⟨_, h⟩
end Go.Proofs.YtpnecblofjpgfaaGreatDoor

namespace Go.Proofs.YtpnecblofjpgfaaGreatDoor
open Go.RowKit Go.Shelf

/-- The reference's Pick: its block, and the row of spans (full: with the two places ahead that the program's list has). -/
structure PkC (w : World) (kb sb : Nat) (s : ByteArray) (n : Nat) (full : List Int) : Prop where
  blk : Blk w kb #[.string s, .slice (some ⟨sb, 0, none⟩) n n] 94
  row : Blk w sb ((full.drop 2).map fun x => Value.int .i64 x).toArray 3
  len : full.length = n + 2
  ne : kb ≠ sb

theorem PkC.set {w : World} {kb sb : Nat} {s : ByteArray} {n : Nat} {full : List Int} (h : PkC w kb sb s n full) (i : Nat) (hi : 2 ≤ i) (v : Int) : PkC (w.setCell ⟨sb, i - 2, none⟩ (.int .i64 v)) kb sb s n (full.set i v) := by
  refine ⟨h.blk.other (by intro e; exact h.ne e.symm) _, h.row.set (i - 2) _ ?_, by rw [List.length_set]; exact h.len, h.ne⟩
  rw [List.drop_set, if_neg (by omega)]
  simp

theorem PkC.cell {w : World} {kb sb : Nat} {s : ByteArray} {n : Nat} {full : List Int} (h : PkC w kb sb s n full) {i : Nat} (hi : i < n) : ∃ y, w.cell? ⟨sb, i, none⟩ = some (.int .i64 y) := by
  have hl := h.len
  have h1 : i < (full.drop 2).length := by rw [List.length_drop]; omega
  exact ⟨(full.drop 2)[i], h.row.cell i (by simp)⟩

theorem PkC.kp {w w' : World} {kb sb : Nat} {s : ByteArray} {n : Nat} {full : List Int} (h : PkC w kb sb s n full) (hk : Below w.heap.size w w') : PkC w' kb sb s n full := ⟨h.blk.below hk, h.row.below hk, h.len, h.ne⟩

theorem parts_ok {ok : Nat → Prop} {w : World} {l : List Part} {xs : List Value} {ka : Option Addr} {kl kc : Nat} (hr : Row ok w (.slice ka kl kc) l.length xs) (hk : KRep ok w l xs) (k : Nat) (h : k < l.length) :
    ∃ g cap, ka = some ⟨g, 0, none⟩ ∧ kl = l.length ∧ kc = cap ∧ l.length ≤ cap ∧ ok g ∧ g < w.heap.size ∧ ∃ gg ka2 kl2 kc2 neg ps mn mx, PartV ok w l[k] (.agg #[.int .i64 gg, .slice ka2 kl2 kc2, .bool neg, .string ps, .int .i64 mn, .int .i64 mx]) ∧
      w.cell? ⟨g, k * 6, none⟩ = some (.int .i64 gg) ∧ w.cell? ⟨g, k * 6 + 1, none⟩ = some (.slice ka2 kl2 kc2) ∧ w.cell? ⟨g, k * 6 + 2, none⟩ = some (.bool neg) ∧ w.cell? ⟨g, k * 6 + 3, none⟩ = some (.string ps) ∧ w.cell? ⟨g, k * 6 + 4, none⟩ = some (.int .i64 mn) ∧ w.cell? ⟨g, k * 6 + 5, none⟩ = some (.int .i64 mx) := by
  obtain ⟨c, hp, hc⟩ := KRep.at l xs k h hk
  have hok := hr.2
  rcases hr.1.2 with ⟨h1, h2⟩ | ⟨g, cap, cur, h1, _, hg, hle, _, hsz, htake⟩
  · omega
  · rw [h1] at hok
    simp only [Value.slice.injEq] at h1
    obtain ⟨rfl, rfl, rfl⟩ := h1
    have hcell : ∀ o, o < 6 → w.cell? ⟨g, k * 6 + o, none⟩ = c[o]? := by
      intro o ho
      rw [cell_of_row w g (k * 6 + o) cur 76 (0, 0) hg, ← hc o ho, ← htake, List.getElem?_take, if_pos (by omega)]
      simp
    generalize l[k] = x at *
    obtain ⟨gg, kids, neg, ps, mn, mx⟩ := x
    simp only [PRep] at hp
    obtain ⟨ka2, kl2, kc2, ys, rfl, h3, h4⟩ := hp
    exact ⟨g, _, rfl, rfl, rfl, hle, hok g rfl, (Array.getElem?_eq_some_iff.1 hg).1, gg, ka2, kl2, kc2, neg, ps, mn, mx, ⟨ka2, kl2, kc2, ys, rfl, h3, h4⟩, hcell 0 (by omega), hcell 1 (by omega), hcell 2 (by omega), hcell 3 (by omega), hcell 4 (by omega), hcell 5 (by omega)⟩

theorem WFs.at {G : Nat} : ∀ (l : List Part) (k : Nat) (h : k < l.length), WFs G l → WF G l[k]
  | [], k, h, _ => by simp at h
  | x :: xs, 0, _, hw => by simp only [WFs] at hw; exact hw.1
  | x :: xs, k + 1, h, hw => by simp only [WFs] at hw; exact WFs.at xs k (by simpa using h) hw.2

theorem i64w (n : Int) (h : -9223372036854775808 ≤ n ∧ n ≤ 9223372036854775807) : IntKind.i64.wrap n = n := by
  simp [IntKind.wrap, IntKind.signed, IntKind.bits]; omega

def ClearC (ps : List Part) : Prop := ∀ (G B kb sb : Nat) (s : ByteArray) (n : Nat) (full : List Int) (ka : Option Addr) (kl kc : Nat) (xs : List Value) (w : World), WFs G ps → 2 * G + 2 ≤ full.length → G ≤ 9 → ps.length ≤ 4000000 → B ≤ kb → B ≤ sb → PkC w kb sb s n full → Row (fun k => k < B) w (.slice ka kl kc) ps.length xs → KRep (fun k => k < B) w ps xs →
  Calls Tryz.prog 45 #[.pointer (some ⟨kb, 0, none⟩), .slice ka kl kc] w fun e w' => e = .returned (.tuple #[]) ∧ PkC w' kb sb s n (clearS ps full) ∧ Kp sb w w'

set_option maxRecDepth 100000 in
set_option maxHeartbeats 1000000 in
theorem clear_list (ps : List Part) (IH : ∀ k (h : k < ps.length), ClearC ps[k].kids) : ClearC ps := by
  intro G B kb sb s n full ka kl kc xs w hWF hlen hG hps hkb hsb hP hR hK
  go_enter Tryz.func45, Tryz.ntmps45
  go_wp2_with fail
  have hkl := hR.slen
  subst hkl
  go_loopg [4] ps.length (fun c iv w' => ∃ (j : Nat) (cur : List Int), iv = .int .i64 j ∧ j + c = ps.length ∧ PkC w' kb sb s n cur ∧ Kp sb w w' ∧ cur.length = full.length ∧ Hid (clearS (ps.drop j) cur = clearS ps full))
  case atStart => exact ⟨0, full, rfl, by omega, hP, Kp.refl _ _, rfl, by rw [List.drop_zero]; exact rfl⟩
  case round =>
    obtain ⟨j, cur, rfl, hjc, hPj, hkj, hcl, HQ⟩ := hrel
    by_cases hlt : j < ps.length
    · have hd : (j : Int) < ps.length := by omega
      have hag : Agree (fun k => k < B) w wr := ⟨hkj.size, fun k hk hl => hkj.block k hl (by omega)⟩
      obtain ⟨g, cap, rfl, -, rfl, hcap, hgB, hglt, gg, ka2, kl2, kc2, neg, pps, mn, mx, hPV, c0, c1, c2, c3, c4, c5⟩ := parts_ok (hR.agree hag) (KRep.agree hag _ _ hK) j hlt
      have hW := WFs.at ps j hlt hWF
      have hIH := IH j hlt
      have hdr : ps.drop j = ps[j] :: ps.drop (j + 1) := List.drop_eq_getElem_cons hlt
      have HD := hide hdr
      clear hdr
      generalize ps[j] = x at *
      obtain ⟨gn, kids, ng, pp, m1, m2⟩ := x
      simp only [PartV] at hPV
      obtain ⟨ka3, kl3, kc3, ys, he, hRk, hKk⟩ := hPV
      simp only [Value.agg.injEq, Array.mk.injEq, List.cons.injEq, Value.int.injEq, Value.slice.injEq, true_and, and_true] at he
      obtain ⟨rfl, ⟨rfl, rfl, rfl⟩, -⟩ := he
      simp only [WF] at hW
      obtain ⟨hg1, -, -, -, -, -, hkl, hWk⟩ := hW
      have b0 := hPj.blk.cell 0 rfl
      have b1 := hPj.blk.cell 1 rfl
      have bf := hPj.blk.fz 0
      have hPl := hPj.len
      by_cases hg0 : gn = 0
      · subst hg0
        have HX := hide (And.intro hPj (And.intro hkj (And.intro hcl hIH)))
        clear hPj hkj hIH hRk hKk hWk hag
        go_wp2_with fail
        go_roundg (gk - 1)
        case measure => omega
        case rel =>
          refine ⟨j + 1, cur, by go_num, by omega, HX.out.1, HX.out.2.1, HX.out.2.2.1, ?_⟩
          have := HQ.out
          rw [HD.out] at this
          simp only [clearS, clearP, if_pos] at this
          exact this
      · have hgp : (0 : Int) < gn := by omega
        have HX := hide (And.intro hPj (And.intro hkj (And.intro hcl (And.intro hIH (And.intro hRk (And.intro hKk hWk))))))
        clear hPj hkj hIH hRk hKk hWk hag
        obtain ⟨i0, hi0⟩ : ∃ i0 : Nat, i0 = 2 * gn - 2 := ⟨_, rfl⟩
        have hin : (i0 : Int) < n := by omega
        have hin1 : (i0 : Int) + 1 < n := by omega
        have hin2 : i0 < n := by omega
        have hin3 : i0 + 1 < n := by omega
        have rf := HX.out.1.row.fz
        obtain ⟨y0, r0⟩ := HX.out.1.cell hin2
        obtain ⟨y1, r1⟩ := HX.out.1.cell hin3
        have hne : kb ≠ sb := HX.out.1.ne
        have v1 : IntKind.i64.wrap (2 * (gn : Int)) = 2 * (gn : Int) := i64w _ (by omega)
        have v2 : IntKind.i64.wrap (2 * (gn : Int) - 2) = (i0 : Int) := (i64w _ (by omega)).trans (by omega)
        have v3 : IntKind.i64.wrap (2 * (gn : Int) - 1) = (i0 : Int) + 1 := (i64w _ (by omega)).trans (by omega)
        have HI := hide hi0
        clear hi0
        go_wp2_with fail
        go_region
        go_wp2_with fail
        go_region
        go_wp2_with fail
        obtain ⟨hPj, hkj, hcl, hIH, hRk, hKk, hWk⟩ := HX.out
        have e0 : 2 * gn - 2 = i0 := HI.out.symm
        have e1 : 2 * gn + 1 - 2 = i0 + 1 := by omega
        have hP2 := (hPj.set (2 * gn) (by omega) (-1)).set (2 * gn + 1) (by omega) (-1)
        rw [e0, e1] at hP2
        have hk2 : Kp sb wr ((wr.setCell ⟨sb, i0, none⟩ (.int .i64 (-1))).setCell ⟨sb, i0 + 1, none⟩ (.int .i64 (-1))).drew.drew := ((((Kp.refl sb wr).set i0 (.int .i64 (-1))).set (i0 + 1) (.int .i64 (-1))).drew).drew
        have hP3 : PkC ((wr.setCell ⟨sb, i0, none⟩ (.int .i64 (-1))).setCell ⟨sb, i0 + 1, none⟩ (.int .i64 (-1))).drew.drew kb sb s n ((cur.set (2 * gn) (-1)).set (2 * gn + 1) (-1)) := ⟨hP2.blk, hP2.row, hP2.len, hP2.ne⟩
        have hag2 : Agree (fun k => k < B) wr ((wr.setCell ⟨sb, i0, none⟩ (.int .i64 (-1))).setCell ⟨sb, i0 + 1, none⟩ (.int .i64 (-1))).drew.drew := ⟨hk2.size, fun k hk hl => hk2.block k hl (by omega)⟩
        have hcall := hIH G B kb sb s n ((cur.set (2 * gn) (-1)).set (2 * gn + 1) (-1)) ka2 kl2 kc2 ys _ hWk (by simp only [List.length_set]; omega) hG hkl hkb hsb hP3 (hRk.agree hag2) (KRep.agree hag2 _ _ hKk)
        have HC := hide (And.intro hcall hk2)
        clear hcall hk2 hP2 hP3 hag2 hPj hkj hIH hRk hKk hWk e0 e1
        refine HC.out.1.mono ?_
        rintro e w5 ⟨rfl, hP5, hk5⟩
        have HY := hide (And.intro hP5 (HC.out.2.trans hk5))
        clear hP5 hk5
        go_wp2_with fail
        go_roundg (gk - 1)
        case measure => omega
        case rel =>
          refine ⟨j + 1, _, by go_num, by omega, HY.out.1, HX.out.2.1.trans HY.out.2, ?_, ?_⟩
          · show (clearS kids ((cur.set (2 * gn) (-1)).set (2 * gn + 1) (-1))).length = full.length
            rw [(clearS_off kids _).1]; simp only [List.length_set]; exact hcl
          · have := HQ.out
            rw [HD.out] at this
            simp only [clearS, clearP] at this
            rw [if_neg hg0] at this
            exact this
    · have hd : ¬ (j : Int) < ps.length := by omega
      have HX := hide (And.intro hPj hkj)
      clear hPj hkj
      go_wp2_with fail
      go_end0
      refine ⟨rfl, ?_, HX.out.2⟩
      have := HQ.out
      rw [List.drop_eq_nil_of_le (by omega)] at this
      simp only [clearS] at this
      rw [← this]; exact HX.out.1

mutual
theorem clear_kids : ∀ x : Part, ClearC x.kids
  | .mk _ kids _ _ _ _ => clear_list kids (clear_at kids)
theorem clear_at : ∀ (l : List Part) (k : Nat) (h : k < l.length), ClearC l[k].kids
  | [], k, h => by simp at h
  | x :: _, 0, _ => clear_kids x
  | _ :: xs, k + 1, h => clear_at xs k (by simpa using h)
end

/-- clear, whole. -/
theorem clear_any (ps : List Part) : ClearC ps := clear_list ps (clear_at ps)
end Go.Proofs.YtpnecblofjpgfaaGreatDoor

namespace Go.Proofs.YtpnecblofjpgfaaGreatDoor
open Go.RowKit Go.Shelf

theorem best_down {R : Nat → Prop} {q : Nat} (h : R q) (hn : ∀ m, q < m → ¬ R m) : Best R q := by
  refine ⟨h, fun m hm => ?_⟩
  by_cases hc : q < m
  · exact absurd hm (hn m hc)
  · omega

theorem PartV.toT {ok : Nat → Prop} {w : World} {x : Part} {v : Value} (h : PartV ok w x v) : PartV T w x v := by
  obtain ⟨g, kids, neg, ps, mn, mx⟩ := x
  obtain ⟨ka, kl, kc, xs, h1, h2, h3⟩ := h
  exact ⟨ka, kl, kc, xs, h1, h2.mono (fun _ _ _ => trivial), KRep.mono (fun _ _ _ => trivial) _ _ h3⟩

theorem PartV.agree {ok : Nat → Prop} {w w' : World} {x : Part} {v : Value} (h : PartV ok w x v) (ha : Agree ok w w') : PartV ok w' x v := by
  obtain ⟨g, kids, neg, ps, mn, mx⟩ := x
  obtain ⟨ka, kl, kc, xs, h1, h2, h3⟩ := h
  exact ⟨ka, kl, kc, xs, h1, h2.agree ha, KRep.agree ha _ _ h3⟩

theorem Kp.fence {B sb : Nat} {w w' : World} (h : Kp sb w w') (hb : B ≤ sb) : Agree (fun k => k < B) w w' := ⟨h.size, fun k hk hl => h.block k hl (by omega)⟩

/-- What one copy does to the spans. -/
def copB (s : ByteArray) (g : Nat) (kids : List Part) : Nat → Nat → List Int → List Int → Prop :=
  fun l q a b => if g = 0 then b = a else RSeq s kids l q (((clearS kids a).set (2 * g) l).set (2 * g + 1) q) b

/-- seq, from part i on. -/
def PickS (ps : List Part) (i : Nat) : Prop := ∀ (G B kb sb : Nat) (s : ByteArray) (n : Nat) (full : List Int) (p e : Nat) (ka : Option Addr) (kl kc : Nat) (xs : List Value) (w : World), s.size ≤ 1048576 → WFs G ps → 2 * G + 2 ≤ full.length → G ≤ 9 → ps.length ≤ 4000000 → B ≤ kb → B ≤ sb → PkC w kb sb s n full → Row (fun k => k < B) w (.slice ka kl kc) ps.length xs → KRep (fun k => k < B) w ps xs → p ≤ s.size → SeqR s (ps.drop i) p e →
  Calls Tryz.prog 46 #[.pointer (some ⟨kb, 0, none⟩), .slice ka kl kc, .int .i64 i, .int .i64 p, .int .i64 e] w fun r w' => r = .returned (.tuple #[]) ∧ ∃ ss, RSeq s (ps.drop i) p e full ss ∧ PkC w' kb sb s n ss ∧ Kp sb w w'

/-- copies, from number c on. -/
def PickC (x : Part) : Prop := ∀ (G B kb sb : Nat) (s : ByteArray) (n : Nat) (full : List Int) (c p e : Nat) (v : Value) (w : World), s.size ≤ 1048576 → WF G x → 2 * G + 2 ≤ full.length → G ≤ 9 → B ≤ kb → B ≤ sb → PkC w kb sb s n full → PartV (fun k => k < B) w x v → p ≤ s.size → c ≤ 10 + p → Copies (AtomR s x) x.mn x.mx c p e →
  Calls Tryz.prog 62 #[.pointer (some ⟨kb, 0, none⟩), v, .int .i64 c, .int .i64 p, .int .i64 e] w fun r w' => r = .returned (.tuple #[]) ∧ ∃ ss, RLoop s x e (copB s x.g x.kids) c p full ss ∧ PkC w' kb sb s n ss ∧ Kp sb w w'

set_option maxHeartbeats 400000 in
theorem pickS_end (ps : List Part) : PickS ps ps.length := by
  intro G B kb sb s n full p e ka kl kc xs w hs hWF hlen hG hps hkb hsb hP hR hK hp hSR
  have hkl := hR.slen
  subst hkl
  have HX := hide (And.intro hP hSR)
  clear hP hSR hR hK hWF
  go_enter Tryz.func46, Tryz.ntmps46
  go_wp2_with fail
  refine bodyPost_ret (results_none rfl _ _ _) rfl ?_
  refine ⟨rfl, full, ?_, HX.out.1, Kp.refl _ _⟩
  rw [List.drop_eq_nil_of_le (Nat.le_refl _)]
  simp only [RSeq]

set_option maxRecDepth 100000 in
set_option maxHeartbeats 3200000 in
theorem pickS_step (ps : List Part) (i : Nat) (hi : i < ps.length) (IHp : PickC ps[i]) (IHs : PickS ps (i + 1)) : PickS ps i := by
  intro G B kb sb s n full p e ka kl kc xs w hs hWF hlen hG hps hkb hsb hP hR hK hp hSR
  have hbnd := SeqR.bound s _ p e hp hSR
  have hkl := hR.slen
  subst hkl
  have hd : (i : Int) < ps.length := by omega
  obtain ⟨g, cap, rfl, -, rfl, hcap, hgB, hglt, gg, ka2, kl2, kc2, neg, pps, mn, mx, hPV, c0, c1, c2, c3, c4, c5⟩ := parts_ok hR hK i hi
  have b0 := hP.blk.cell 0 rfl
  have b1 := hP.blk.cell 1 rfl
  have bf := hP.blk.fz 0
  have hkblt := hP.blk.lt
  have hsblt := hP.row.lt
  obtain ⟨R, hRd⟩ : ∃ R : Nat → Prop, R = fun m => Copies (AtomR s ps[i]) ps[i].mn ps[i].mx 0 p m ∧ SeqR s (ps.drop (i + 1)) m e := ⟨_, rfl⟩
  have HRd := hide hRd
  have hRb : Hid (∀ m, R m → p ≤ m ∧ m ≤ e) := by
    intro m hm
    rw [hRd] at hm
    have h1 := Copies.bound (N := s.size) (fun p q hp ha => AtomR.bound s ps[i] p q hp ha) hm.1 hp
    have h2 := SeqR.bound s _ m e h1.2 hm.2
    omega
  have hEx : Hid (∃ m, R m) := by
    rw [List.drop_eq_getElem_cons hi] at hSR
    simp only [SeqR] at hSR
    rw [hRd]
    exact hSR
  have HX := hide (And.intro hP (And.intro hR (And.intro hK (And.intro hWF (And.intro hPV (And.intro IHp (And.intro IHs (And.intro (partEs_all s hs G ps hWF i hi) (And.intro (seqC_all s hs G ps hWF hps) (And.intro hSR (WFs.at ps i hi hWF)))))))))))
  clear hP hR hK hWF hPV IHp IHs hRd hSR
  go_enter Tryz.func46, Tryz.ntmps46
  go_wp2_with fail
  go_region_held3 (fun w' => w'.cell? ⟨kb, 0, none⟩ = some (.string s) ∧ w'.cell? ⟨g, i * 6, none⟩ = some (.int .i64 gg) ∧ w'.cell? ⟨g, i * 6 + 1, none⟩ = some (.slice ka2 kl2 kc2) ∧ w'.cell? ⟨g, i * 6 + 2, none⟩ = some (.bool neg) ∧ w'.cell? ⟨g, i * 6 + 3, none⟩ = some (.string pps) ∧ w'.cell? ⟨g, i * 6 + 4, none⟩ = some (.int .i64 mn) ∧ w'.cell? ⟨g, i * 6 + 5, none⟩ = some (.int .i64 mx)) (go_keep)
    (first | (go_at_call 30; refine (HX.out.2.2.2.2.2.2.2.1 _ _ 0 p (HX.out.2.2.2.2.1.toT.below ((Below.refl _ _).drew)) hp (by omega)).mono ?_; rintro e1 w1 ⟨gc, C, rfl, hBc, hgc, hC, hb1⟩; have a0 := (hb1.cell (p := ⟨kb, 0, none⟩) hkblt).trans b0; have a1 := (hb1.cell (p := ⟨g, i * 6, none⟩) hglt).trans c0; have a2 := (hb1.cell (p := ⟨g, i * 6 + 1, none⟩) hglt).trans c1; have a3 := (hb1.cell (p := ⟨g, i * 6 + 2, none⟩) hglt).trans c2; have a4 := (hb1.cell (p := ⟨g, i * 6 + 3, none⟩) hglt).trans c3; have a5 := (hb1.cell (p := ⟨g, i * 6 + 4, none⟩) hglt).trans c4; have a6 := (hb1.cell (p := ⟨g, i * 6 + 5, none⟩) hglt).trans c5))
  replace hb1 : Below w.heap.size w w1 := ((Below.refl w.heap.size w).drew).trans hb1
  clear a0 a1 a2 a3 a4 a5 a6
  have HC := hide hC
  clear hC
  go_wp2_with fail
  go_loopg [11, 12] (e + 1) (fun k qq rr w' => ∃ q : Nat, qq = .int .i64 q ∧ p ≤ q ∧ q ≤ e ∧ q < k ∧ Blk w' gc (bcells (s.size + 1) C) 4 ∧ Below w.heap.size w w' ∧ Hid (∀ m, q < m → ¬ R m))
  case atStart =>
    exact ⟨e, rfl, hbnd.1, Nat.le_refl _, by omega, hBc, hb1, fun m hm hR => by have := hRb.out m hR; omega⟩
  case round =>
    obtain ⟨q, rfl, hpq, hqe, hqk, hBc2, hBel, HN⟩ := hrel
    clear hBc hb1
    have hql1 : q < s.size + 1 := by omega
    have y1 := hBc2.cell q (bcells_get hql1)
    have hdown : Hid (¬ R q → p + 1 ≤ q ∧ ∀ m, q - 1 < m → ¬ R m) := by
      intro hnq
      have hall : ∀ m, q ≤ m → ¬ R m := fun m hm => by
        by_cases he : m = q
        · subst he; exact hnq
        · exact HN.out m (by omega)
      obtain ⟨m, hm⟩ := hEx.out
      have := hRb.out m hm
      refine ⟨?_, fun m' h => hall m' (by omega)⟩
      by_cases hc : q ≤ m
      · exact absurd hm (hall m hc)
      · omega
    cases hCq : C q
    · rw [hCq] at y1
      have hnR : ¬ R q := by
        intro h
        rw [HRd.out] at h
        have := (HC.out q (by omega)).2 h.1
        rw [hCq] at this
        cases this
      have hq1 := (hdown.out hnR).1
      have HD := hide (hdown.out hnR).2
      clear hCq hnR
      go_wp2_with fail
      go_roundg (gk - 1)
      case measure => omega
      case rel => exact ⟨q - 1, by simp only [Value.int.injEq, true_and]; omega, by omega, by omega, by omega, hBc2, hBel, HD.out⟩
    · rw [hCq] at y1
      have HCq := hide hCq
      clear hCq
      have hbS : Below w.heap.size w wr := hBel
      have d0 := (hBel.cell (p := ⟨g, i * 6, none⟩) hglt).trans c0
      have k0 := (hBel.cell (p := ⟨kb, 0, none⟩) hkblt).trans b0
      have kf := (hBel.frozen (p := ⟨kb, 0, none⟩) hkblt).trans bf
      go_wp2_with fail
      refine (HX.out.2.2.2.2.2.2.2.2.1 _ _ _ _ xs (i + 1) q ((HX.out.2.1.mono (fun _ _ _ => trivial)).below hBel) (KRep.below (KRep.mono (fun _ _ _ => trivial) _ _ HX.out.2.2.1) hBel) (by omega) (by omega)).mono ?_
      rintro e2 w2 ⟨gr, F, rfl, hBr, hgr, hF, hb2⟩
      have hel1 : e < s.size + 1 := by omega
      have y2 := hBr.cell e (bcells_get hel1)
      have hsz := hBel.size
      have hBel2 : Below w.heap.size w w2 := hBel.trans (hb2.mono hBel.size)
      have hBc3 := hBc2.below hb2
      cases hFe : F e
      · rw [hFe] at y2
        have hnR : ¬ R q := by
          intro h
          rw [HRd.out] at h
          have := (hF e (by omega)).2 h.2
          rw [hFe] at this
          cases this
        have hq1 := (hdown.out hnR).1
        have HD := hide (hdown.out hnR).2
        clear hFe hnR hF
        go_wp2_with fail
        go_roundg (gk - 1)
        case measure => omega
        case rel => exact ⟨q - 1, by simp only [Value.int.injEq, true_and]; omega, by omega, by omega, by omega, hBc3, hBel2, HD.out⟩
      · rw [hFe] at y2
        have hRq : R q := by
          rw [HRd.out]
          exact ⟨(HC.out q (by omega)).1 HCq.out, (hF e (by omega)).1 hFe⟩
        have HB : Hid (Best R q) := best_down hRq HN.out
        clear hFe hF hRq
        have d0 := (hBel2.cell (p := ⟨g, i * 6, none⟩) hglt).trans c0
        have d1 := (hBel2.cell (p := ⟨g, i * 6 + 1, none⟩) hglt).trans c1
        have d2 := (hBel2.cell (p := ⟨g, i * 6 + 2, none⟩) hglt).trans c2
        have d3 := (hBel2.cell (p := ⟨g, i * 6 + 3, none⟩) hglt).trans c3
        have d4 := (hBel2.cell (p := ⟨g, i * 6 + 4, none⟩) hglt).trans c4
        have d5 := (hBel2.cell (p := ⟨g, i * 6 + 5, none⟩) hglt).trans c5
        clear c0 c1 c2 c3 c4 c5 b0 b1 bf k0 kf y1 hBr hBc2 hBc3 hdown
        go_wp2_with fail
        have hkp2 : Kp sb w w2 := Kp.below hBel2
        have hag2 := hkp2.fence hsb
        obtain ⟨hP, hR, hK, hWF, hPV, IHp, IHs, -, -, -, hW⟩ := HX.out
        refine (IHp G B kb sb s n full 0 p q _ _ hs hW hlen hG hkb hsb (hP.kp hBel2) (hPV.agree hag2) hp (by omega) (by have := HB.out.1; rw [HRd.out] at this; exact this.1)).mono ?_
        rintro e3 w3 ⟨rfl, ss1, hL, hP3, hk3⟩
        have HY := hide (And.intro hL (And.intro hP3 hk3))
        have hl3 := hP3.len
        have hl0 := hP.len
        have hkp3 := hkp2.trans hk3
        have hag3 := hkp3.fence hsb
        have hcall := IHs G B kb sb s n ss1 q e _ _ _ xs w3 hs hWF (by omega) hG hps hkb hsb hP3 (hR.agree hag3) (KRep.agree hag3 _ _ hK) (by omega) (by have := HB.out.1; rw [HRd.out] at this; exact this.2)
        rw [show ((i + 1 : Nat) : Int) = (i : Int) + 1 from rfl] at hcall
        have HC2 := hide (And.intro hcall hkp3)
        clear hcall hL hP3 hk3 hkp3 hag3 hP hR hK hWF hPV IHp IHs hW hag2 hkp2 d0 d1 d2 d3 d4 d5 y2 hBel hBel2 hb2 hbS hl3 hl0
        go_wp2_with fail
        refine HC2.out.1.mono ?_
        rintro e4 w4 ⟨rfl, ss, hS4, hP4, hk4⟩
        have HZ := hide (And.intro hS4 (And.intro hP4 hk4))
        clear hS4 hP4 hk4
        go_wp2_with fail
        refine bodyPost_ret (results_none rfl _ _ _) rfl ?_
        refine ⟨rfl, ss, ?_, HZ.out.2.1, HC2.out.2.trans HZ.out.2.2⟩
        rw [List.drop_eq_getElem_cons hi]
        simp only [RSeq]
        have hb := HB.out
        rw [HRd.out] at hb
        refine ⟨q, ss1, hb, ?_, HZ.out.1⟩
        have hL := HY.out.1
        revert hL
        generalize ps[i] = x
        obtain ⟨g', kids, ng, pp, m1, m2⟩ := x
        intro hL
        simp only [RCop]
        exact hL
end Go.Proofs.YtpnecblofjpgfaaGreatDoor

namespace Go.Proofs.YtpnecblofjpgfaaGreatDoor
open Go.RowKit Go.Shelf

set_option maxRecDepth 100000 in
set_option maxHeartbeats 6400000 in
theorem pickC_all (x : Part) (IHk : PickS x.kids 0) : PickC x := by
  intro G B kb sb s n full c p e v w hs hWF hlen hG hkb hsb hP hPV hp hc hCo
  obtain ⟨N, hN⟩ : ∃ N, (x.mn - c).toNat + (e - p) < N := ⟨_, Nat.lt_succ_self _⟩
  induction N generalizing full c p w with
  | zero => omega
  | succ N ih =>
  have hbnd := hCo.bound (N := s.size) (fun p q hp ha => AtomR.bound s x p q hp ha) hp
  have hAC := atomC_all s hs G x hWF
  have hPC := partEnds_any s hs G x hWF (step_any s hs x hAC)
  have hCL := clear_any x.kids
  obtain ⟨g, kids, neg, ps, mn, mx⟩ := x
  have hPV0 := hPV
  obtain ⟨ka, kl, kc, xs, rfl, hRow, hKR⟩ := hPV
  have hWF0 := hWF
  simp only [WF] at hWF
  obtain ⟨hg1, -, m0, m9, x1, x9, hkl, hWk⟩ := hWF
  simp only [Part.mn, Part.mx, Part.g, Part.kids] at *
  obtain ⟨R, hRd⟩ : ∃ R : Nat → Prop, R = fun m => NextR s (.mk g kids neg ps mn mx) c p m ∧ Copies (AtomR s (.mk g kids neg ps mn mx)) mn mx (c + 1) m e := ⟨_, rfl⟩
  have HRd := hide hRd
  have hRb : Hid (∀ m, R m → p ≤ m ∧ m ≤ e) := by
    intro m hm
    rw [hRd] at hm
    have h1 := AtomR.bound s _ p m hp hm.1.2.1
    have h2 := hm.2.bound (N := s.size) (fun p q hp ha => AtomR.bound s _ p q hp ha) h1.2
    omega
  have b0 := hP.blk.cell 0 rfl
  have b1 := hP.blk.cell 1 rfl
  have bf := hP.blk.fz 0
  have hkblt := hP.blk.lt
  have hsblt := hP.row.lt
  have hBx := Blk.new w #[.int .i64 g, .slice ka kl kc, .bool neg, .string ps, .int .i64 mn, .int .i64 mx] 76
  obtain ⟨c0, c1, c2, c3, c4, c5, cf⟩ := hBx.six
  have hb0 : Below w.heap.size w (w.alloc (.cells #[.int .i64 g, .slice ka kl kc, .bool neg, .string ps, .int .i64 mn, .int .i64 mx] 76)) := (Below.refl _ _).alloc (Nat.le_refl _) _
  by_cases hst : mn ≤ c ∧ p = e
  · obtain ⟨hst, rfl⟩ := hst
    have HX := hide (And.intro hP hb0)
    clear hP hPV0 hRow hKR hWF0 hWk ih hAC hPC hCL IHk hCo hb0
    go_enter Tryz.func62, Tryz.ntmps62
    go_wp2_with fail
    refine bodyPost_ret (results_none rfl _ _ _) rfl ?_
    exact ⟨rfl, full, .stop hst, HX.out.1.kp HX.out.2, Kp.below HX.out.2⟩
  · have hmore : ((c : Int) < mn ∨ mx < 0 ∨ (c : Int) < mx) ∧ ∃ m, R m := by
      rw [hRd]
      cases hCo with
      | stop h => exact absurd ⟨h, rfl⟩ hst
      | more h1 h2 h3 h4 => exact ⟨h1, _, ⟨h1, h2, h3⟩, h4⟩
    have hEx := hide hmore.2
    have hcm := hide hmore.1
    have hgo : Hid ((c : Int) < mn ∨ p < e) := by
      by_cases h : (c : Int) < mn
      · exact .inl h
      · exact .inr (by omega)
    have key : decide (mn ≤ (c : Int)) = false ∨ (decide (mn ≤ (c : Int)) = true ∧ (p : Int) ≠ e) := by
      by_cases h : mn ≤ (c : Int)
      · right; exact ⟨by simp [h], by omega⟩
      · left; simp [h]
    have HX := hide (And.intro hP (And.intro hPV0 (And.intro hWk (And.intro hRow (And.intro hKR (And.intro hWF0 (And.intro ih (And.intro hAC (And.intro hPC (And.intro hCL (And.intro IHk hCo)))))))))))
    have HB0 := hide hb0
    clear hP hPV0 hRow hKR hWF0 hWk ih hAC hPC hCL IHk hCo hRd hmore hb0
    go_enter Tryz.func62, Tryz.ntmps62
    go_upto_region 1 with fail
    go_cut [21] (fun b wc => b = .bool false ∧ wc = w.alloc (.cells #[.int .i64 g, .slice ka kl kc, .bool neg, .string ps, .int .i64 mn, .int .i64 mx] 76))
    case first =>
      rcases key with h1 | ⟨h1, h2⟩
      · go_wp2_with fail
        go_meet
        case rel => exact ⟨by simp, rfl⟩
      · have h3 : decide ((p : Int) = e) = false := by simp; omega
        go_wp2_with fail
        go_meet
        case rel => exact ⟨by simp [h2], rfl⟩
    case rest =>
      obtain ⟨rfl, rfl⟩ := hcut
      clear key
      have k0 := (HB0.out.cell (p := ⟨kb, 0, none⟩) hkblt).trans b0
      have kf := (HB0.out.frozen (p := ⟨kb, 0, none⟩) hkblt).trans bf
      have hxlt := hBx.lt
      go_wp2_with fail
      generalize w.alloc (.cells #[.int .i64 g, .slice ka kl kc, .bool neg, .string ps, .int .i64 mn, .int .i64 mx] 76) = w0 at *
      have hkb0 : kb < w0.heap.size := by omega
      go_region_held3 (fun w' => w'.cell? ⟨kb, 0, none⟩ = some (.string s) ∧ w'.cell? ⟨w.heap.size, 0, none⟩ = some (.int .i64 g) ∧ w'.cell? ⟨w.heap.size, 1, none⟩ = some (.slice ka kl kc) ∧ w'.cell? ⟨w.heap.size, 2, none⟩ = some (.bool neg) ∧ w'.cell? ⟨w.heap.size, 3, none⟩ = some (.string ps) ∧ w'.cell? ⟨w.heap.size, 4, none⟩ = some (.int .i64 mn) ∧ w'.cell? ⟨w.heap.size, 5, none⟩ = some (.int .i64 mx)) (go_keep)
        (first | (go_at_call 69; refine (HX.out.2.2.2.2.2.2.2.1 _ _ p (HX.out.2.1.toT.below (HB0.out.drew)) hp).mono ?_; rintro e1 w1 ⟨gc, C, rfl, hBc, hgc, hC, hb1⟩; have a0 := (hb1.cell (p := ⟨kb, 0, none⟩) hkb0).trans k0; have a1 := (hb1.cell (p := ⟨w.heap.size, 0, none⟩) hxlt).trans c0; have a2 := (hb1.cell (p := ⟨w.heap.size, 1, none⟩) hxlt).trans c1; have a3 := (hb1.cell (p := ⟨w.heap.size, 2, none⟩) hxlt).trans c2; have a4 := (hb1.cell (p := ⟨w.heap.size, 3, none⟩) hxlt).trans c3; have a5 := (hb1.cell (p := ⟨w.heap.size, 4, none⟩) hxlt).trans c4; have a6 := (hb1.cell (p := ⟨w.heap.size, 5, none⟩) hxlt).trans c5))
      replace hb1 : Below w0.heap.size w0 w1 := ((Below.refl w0.heap.size w0).drew).trans hb1
      have hBx1 := hBx.below hb1
      have hbw : Below w.heap.size w w1 := HB0.out.trans (hb1.mono HB0.out.size)
      have HC := hide hC
      clear hC a0 a1 a2 a3 a4 a5 a6 c0 c1 c2 c3 c4 c5 cf k0 kf hBx
      go_wp2_with fail
      go_loopg [11, 12] (e + 1) (fun k qq rr w' => ∃ q : Nat, qq = .int .i64 q ∧ p ≤ q ∧ q ≤ e ∧ q < k ∧ Blk w' gc (bcells (s.size + 1) C) 4 ∧ Blk w' w.heap.size #[.int .i64 g, .slice ka kl kc, .bool neg, .string ps, .int .i64 mn, .int .i64 mx] 76 ∧ Below w.heap.size w w' ∧ Hid (∀ m, q < m → ¬ R m))
      case atStart =>
        exact ⟨e, rfl, hbnd.1, Nat.le_refl _, by omega, hBc, hBx1, hbw, fun m hm hR => by have := hRb.out m hR; omega⟩
      case round =>
        obtain ⟨q, rfl, hpq, hqe, hqk, hBc2, hBx2, hBel, HN⟩ := hrel
        clear hBc hb1 hBx1 hbw
        obtain ⟨c0, c1, c2, c3, c4, c5, cf⟩ := hBx2.six
        have k0 := (hBel.cell (p := ⟨kb, 0, none⟩) hkblt).trans b0
        have k1 := (hBel.cell (p := ⟨kb, 1, none⟩) hkblt).trans b1
        have hql1 : q < s.size + 1 := by omega
        have y1 := hBc2.cell q (bcells_get hql1)
        have hdown : Hid (¬ R q → p + 1 ≤ q ∧ ∀ m, q - 1 < m → ¬ R m) := by
          intro hnq
          have hall : ∀ m, q ≤ m → ¬ R m := fun m hm => by
            by_cases he : m = q
            · subst he; exact hnq
            · exact HN.out m (by omega)
          obtain ⟨m, hm⟩ := hEx.out
          have := hRb.out m hm
          refine ⟨?_, fun m' h => hall m' (by omega)⟩
          by_cases hc : q ≤ m
          · exact absurd hm (hall m hc)
          · omega
        go_upto_region 6 with fail
        go_cut [49] (fun b wc => b = .bool (C q && (decide (p < q) || decide ((c : Int) < mn))) ∧ wc = wr)
        case first =>
          cases hCq : C q
          · rw [hCq] at y1
            go_wp2_with fail
            go_meet
            case rel => exact ⟨by simp [hCq], rfl⟩
          · rw [hCq] at y1
            by_cases h1 : (p : Int) < q
            · have h1' : p < q := by omega
              go_wp2_with fail
              go_meet
              case rel => exact ⟨by simp [hCq, h1'], rfl⟩
            · have h1' : ¬ p < q := by omega
              have h1d : decide ((p : Int) < q) = false := by simp; omega
              go_wp2_with fail
              go_meet
              case rel => exact ⟨by simp [hCq, h1'], rfl⟩
        case rest =>
          obtain ⟨rfl, rfl⟩ := hcut
          cases ht : (C q && (decide (p < q) || decide ((c : Int) < mn)))
          · have hnR : ¬ R q := by
              intro h
              rw [HRd.out] at h
              obtain ⟨⟨_, h2, h3⟩, _⟩ := h
              have hc := (HC.out q (by omega)).2 h2
              rw [hc] at ht
              simp only [Part.mn] at h3
              simp at ht
              omega
            have hq1 := (hdown.out hnR).1
            have HD := hide (hdown.out hnR).2
            clear ht hnR
            go_wp2_with fail
            go_roundg (gk - 1)
            case measure => omega
            case rel => exact ⟨q - 1, by simp only [Value.int.injEq, true_and]; omega, by omega, by omega, by omega, hBc2, hBx2, hBel, HD.out⟩
          · have hnx : Hid (AtomR s (.mk g kids neg ps mn mx) p q ∧ (p < q ∨ (c : Int) < mn)) := by
              simp at ht
              exact ⟨(HC.out q (by omega)).1 ht.1, ht.2⟩
            clear ht y1
            have hsz := hBel.size
            have hkb2 : kb < wc.heap.size := by omega
            have hxl2 := hBx2.lt
            have hcall := HX.out.2.2.2.2.2.2.2.2.1 wc.drew _ (c + 1) q (HX.out.2.1.toT.below (hBel.drew)) (by omega) (by omega)
            rw [show ((c + 1 : Nat) : Int) = (c : Int) + 1 from rfl] at hcall
            simp only [Part.mn, Part.mx] at hcall
            have HCa := hide hcall
            have v1 : IntKind.i64.wrap ((c : Int) + 1) = (c : Int) + 1 := i64w _ (by omega)
            have HBB := hide (And.intro hBc2 (And.intro hBx2 hBel))
            clear hcall hBc2 hBx2 hBel
            go_wp2_with fail
            go_region_held3 (fun w' => w'.cell? ⟨kb, 0, none⟩ = some (.string s) ∧ w'.cell? ⟨w.heap.size, 0, none⟩ = some (.int .i64 g) ∧ w'.cell? ⟨w.heap.size, 1, none⟩ = some (.slice ka kl kc) ∧ w'.cell? ⟨w.heap.size, 2, none⟩ = some (.bool neg) ∧ w'.cell? ⟨w.heap.size, 3, none⟩ = some (.string ps) ∧ w'.cell? ⟨w.heap.size, 4, none⟩ = some (.int .i64 mn) ∧ w'.cell? ⟨w.heap.size, 5, none⟩ = some (.int .i64 mx)) (go_keep)
              (first | (go_at_call 30; refine HCa.out.mono ?_; rintro e2 w2 ⟨gr, F, rfl, hBr, hgr, hF, hb2⟩; have a0 := (hb2.cell (p := ⟨kb, 0, none⟩) hkb2).trans k0; have a1 := (hb2.cell (p := ⟨w.heap.size, 0, none⟩) hxl2).trans c0; have a2 := (hb2.cell (p := ⟨w.heap.size, 1, none⟩) hxl2).trans c1; have a3 := (hb2.cell (p := ⟨w.heap.size, 2, none⟩) hxl2).trans c2; have a4 := (hb2.cell (p := ⟨w.heap.size, 3, none⟩) hxl2).trans c3; have a5 := (hb2.cell (p := ⟨w.heap.size, 4, none⟩) hxl2).trans c4; have a6 := (hb2.cell (p := ⟨w.heap.size, 5, none⟩) hxl2).trans c5))
            replace hb2 : Below wc.heap.size wc w2 := ((Below.refl wc.heap.size wc).drew).trans hb2
            obtain ⟨hBc2, hBx2, hBel⟩ := HBB.out
            have hBel2 : Below w.heap.size w w2 := hBel.trans (hb2.mono hBel.size)
            have hBx3 := hBx2.below hb2
            have hBc3 := hBc2.below hb2
            have hel1 : e < s.size + 1 := by omega
            have y2 := hBr.cell e (bcells_get hel1)
            clear a0 a1 a2 a3 a4 a5 a6 c0 c1 c2 c3 c4 c5 cf k0 k1 hBc2 hBx2 hBel hb2 hBr HBB HCa
            cases hFe : F e
            · rw [hFe] at y2
              have hnR : ¬ R q := by
                intro h
                rw [HRd.out] at h
                have := (hF e (by omega)).2 h.2
                rw [hFe] at this
                cases this
              have hq1 := (hdown.out hnR).1
              have HD := hide (hdown.out hnR).2
              clear hFe hnR hF
              go_wp2_with fail
              go_roundg (gk - 1)
              case measure => omega
              case rel => exact ⟨q - 1, by simp only [Value.int.injEq, true_and]; omega, by omega, by omega, by omega, hBc3, hBx3, hBel2, HD.out⟩
            · rw [hFe] at y2
              have hRq : R q := by
                rw [HRd.out]
                exact ⟨⟨hcm.out, hnx.out⟩, (hF e (by omega)).1 hFe⟩
              have HB : Hid (Best R q) := best_down hRq HN.out
              have HF : Hid (Copies (AtomR s (.mk g kids neg ps mn mx)) mn mx (c + 1) q e) := (hF e (by omega)).1 hFe
              have hcq : c + 1 ≤ 10 + q := by rcases hnx.out.2 with h | h <;> omega
              have hms : (mn - ((c + 1 : Nat) : Int)).toNat + (e - q) < N := by rcases hnx.out.2 with h | h <;> omega
              clear hFe hF hRq hdown hBc3
              obtain ⟨c0, c1, c2, c3, c4, c5, cf⟩ := hBx3.six
              have hxl3 := hBx3.lt
              obtain ⟨hP, hPV, hWk, hRow, hKR, hWF0, ih, -, -, hCL, IHk, -⟩ := HX.out
              have hkp2 : Kp sb w w2 := Kp.below hBel2
              have hag2 := hkp2.fence hsb
              have hP2 := hP.kp hBel2
              have hxs : w.heap.size ≠ sb := by omega
              by_cases hg0 : g = 0
              · subst hg0
                have hcall := ih full (c + 1) q w2 hlen hP2 (hPV.agree hag2) (by omega) hcq HF.out hms
                rw [show ((c + 1 : Nat) : Int) = (c : Int) + 1 from rfl] at hcall
                have HCa := hide (And.intro hcall hkp2)
                clear hcall hP hPV hWk hRow hKR hWF0 ih hCL IHk hkp2 hag2 hP2 hBx3 hBel2
                go_wp2_with fail
                refine HCa.out.1.mono ?_
                rintro e4 w4 ⟨rfl, ss, hS4, hP4, hk4⟩
                have HZ := hide (And.intro hS4 (And.intro hP4 hk4))
                clear hS4 hP4 hk4
                go_wp2_with fail
                refine bodyPost_ret (results_none rfl _ _ _) rfl ?_
                refine ⟨rfl, ss, ?_, HZ.out.2.1, HCa.out.2.trans HZ.out.2.2⟩
                have hb := HB.out
                rw [HRd.out] at hb
                exact .more hgo.out hb (by simp only [copB, if_pos]) HZ.out.1
              · have hgp : (0 : Int) < g := by omega
                have hcall := hCL G B kb sb s n full ka kl kc xs w2 hWk hlen hG hkl hkb hsb hP2 (hRow.agree hag2) (KRep.agree hag2 _ _ hKR)
                have HCa := hide (And.intro hcall (And.intro hkp2 hBx3))
                clear hcall hP hPV hWk hRow hKR hWF0 ih hCL IHk hkp2 hag2 hP2 hBx3 hBel2
                go_wp2_with fail
                refine HCa.out.1.mono ?_
                rintro e3 w3 ⟨rfl, hP3, hk3⟩
                have hcl : (clearS kids full).length = full.length := (clearS_off kids full).1
                have hBx4 := HCa.out.2.2.kp hk3 hxs
                have hkp3 := HCa.out.2.1.trans hk3
                clear c0 c1 c2 c3 c4 c5 cf y2
                obtain ⟨c0, c1, c2, c3, c4, c5, cf⟩ := hBx4.six
                have d0 := hP3.blk.cell 0 rfl
                have d1 := hP3.blk.cell 1 rfl
                have df := hP3.blk.fz 0
                have hPl := hP3.len
                obtain ⟨i0, hi0⟩ : ∃ i0 : Nat, i0 = 2 * g - 2 := ⟨_, rfl⟩
                have hin : (i0 : Int) < n := by omega
                have hin1 : (i0 : Int) + 1 < n := by omega
                have hin2 : i0 < n := by omega
                have hin3 : i0 + 1 < n := by omega
                have rf := hP3.row.fz
                obtain ⟨y0, r0⟩ := hP3.cell hin2
                obtain ⟨y1, r1⟩ := hP3.cell hin3
                have hne : kb ≠ sb := hP3.ne
                have u1 : IntKind.i64.wrap (2 * (g : Int)) = 2 * (g : Int) := i64w _ (by omega)
                have u2 : IntKind.i64.wrap (2 * (g : Int) - 2) = (i0 : Int) := (i64w _ (by omega)).trans (by omega)
                have u3 : IntKind.i64.wrap (2 * (g : Int) - 1) = (i0 : Int) + 1 := (i64w _ (by omega)).trans (by omega)
                have HI := hide hi0
                have HY := hide (And.intro hP3 (And.intro hk3 (And.intro hkp3 hBx4)))
                clear hi0 hP3 hk3 hkp3 hBx4
                go_wp2_with fail
                go_region
                go_wp2_with fail
                go_region
                go_wp2_with fail
                obtain ⟨hP3, hk3, hkp3, hBx4⟩ := HY.out
                obtain ⟨hP, hPV, hWk, hRow, hKR, hWF0, ih, -, -, hCL, IHk, -⟩ := HX.out
                have e0 : 2 * g - 2 = i0 := HI.out.symm
                have e1 : 2 * g + 1 - 2 = i0 + 1 := by omega
                have hP4 := (hP3.set (2 * g) (by omega) (p : Int)).set (2 * g + 1) (by omega) (q : Int)
                rw [e0, e1] at hP4
                have hk4 : Kp sb w3 ((w3.setCell ⟨sb, i0, none⟩ (.int .i64 p)).setCell ⟨sb, i0 + 1, none⟩ (.int .i64 q)).drew.drew := ((((Kp.refl sb w3).set i0 (.int .i64 p)).set (i0 + 1) (.int .i64 q)).drew).drew
                have hP5 : PkC ((w3.setCell ⟨sb, i0, none⟩ (.int .i64 p)).setCell ⟨sb, i0 + 1, none⟩ (.int .i64 q)).drew.drew kb sb s n (((clearS kids full).set (2 * g) p).set (2 * g + 1) q) := ⟨hP4.blk, hP4.row, hP4.len, hP4.ne⟩
                have hkp4 := hkp3.trans hk4
                have hag4 := hkp4.fence hsb
                have hSq : SeqR s (kids.drop 0) p q := by
                  have := hnx.out.1
                  simp only [AtomR] at this
                  rw [if_neg hg0] at this
                  exact this
                have hcall := IHk G B kb sb s n _ p q ka kl kc xs _ hs hWk (by simp only [List.length_set]; omega) hG hkl hkb hsb hP5 (hRow.agree hag4) (KRep.agree hag4 _ _ hKR) hp hSq
                have HCb := hide (And.intro hcall (And.intro hkp4 (hBx4.kp hk4 hxs)))
                clear hcall hP hPV hWk hRow hKR hWF0 ih hCL IHk hP3 hk3 hkp3 hBx4 hP4 hk4 hP5 hkp4 hag4 e0 e1
                refine HCb.out.1.mono ?_
                rintro e5 w5 ⟨rfl, ss1, hS5, hP5, hk5⟩
                have hkp5 := HCb.out.2.1.trans hk5
                have hBx5 := HCb.out.2.2.kp hk5 hxs
                clear c0 c1 c2 c3 c4 c5 cf d0 d1 df rf r0 r1
                obtain ⟨c0, c1, c2, c3, c4, c5, cf⟩ := hBx5.six
                obtain ⟨hP, hPV, hWk, hRow, hKR, hWF0, ih, -, -, hCL, IHk, -⟩ := HX.out
                have hl5 := hP5.len
                have hcall := ih ss1 (c + 1) q w5 (by omega) hP5 (hPV.agree (hkp5.fence hsb)) (by omega) hcq HF.out hms
                rw [show ((c + 1 : Nat) : Int) = (c : Int) + 1 from rfl] at hcall
                have HCc := hide (And.intro hcall (And.intro hkp5 hS5))
                clear hcall hP hPV hWk hRow hKR hWF0 ih hCL IHk hS5 hP5 hk5 hkp5 hBx5
                go_wp2_with fail
                refine HCc.out.1.mono ?_
                rintro e6 w6 ⟨rfl, ss, hS6, hP6, hk6⟩
                have HZ := hide (And.intro hS6 (And.intro hP6 hk6))
                clear hS6 hP6 hk6
                go_wp2_with fail
                refine bodyPost_ret (results_none rfl _ _ _) rfl ?_
                refine ⟨rfl, ss, ?_, HZ.out.2.1, HCc.out.2.1.trans HZ.out.2.2⟩
                have hb := HB.out
                rw [HRd.out] at hb
                refine .more hgo.out hb ?_ HZ.out.1
                simp only [copB]
                rw [if_neg hg0]
                exact HCc.out.2.2

theorem pickS_from (ps : List Part) (IH : ∀ k (h : k < ps.length), PickC ps[k]) : ∀ d i, i + d = ps.length → PickS ps i
  | 0, i, h => by
    have : i = ps.length := by omega
    subst this; exact pickS_end ps
  | d + 1, i, h => pickS_step ps i (by omega) (IH i (by omega)) (pickS_from ps IH d (i + 1) (by omega))

mutual
theorem pickC_any : ∀ x : Part, PickC x
  | .mk g kids neg ps mn mx => pickC_all (.mk g kids neg ps mn mx) (pickS_from kids (pick_at kids) kids.length 0 (by omega))
theorem pick_at : ∀ (l : List Part) (k : Nat) (h : k < l.length), PickC l[k]
  | [], k, h => by simp at h
  | x :: _, 0, _ => pickC_any x
  | _ :: xs, k + 1, h => pick_at xs k (by simpa using h)
end

/-- seq, whole. -/
theorem seq_any (ps : List Part) : PickS ps 0 := pickS_from ps (pick_at ps) ps.length 0 (by omega)
end Go.Proofs.YtpnecblofjpgfaaGreatDoor

namespace Go.Proofs.YtpnecblofjpgfaaGreatDoor
open Go.RowKit Go.Shelf

/-- All numbers above lo, up to hi, are there. -/
def Cov (lo hi : Nat) (gs : List Nat) : Prop := ∀ g, lo < g → g ≤ hi → g ∈ gs

theorem Cov.nil (lo : Nat) (gs : List Nat) : Cov lo lo gs := fun g h1 h2 => by omega
theorem Cov.app {lo mid hi : Nat} {a b : List Nat} (h : Cov lo mid a) (k : Cov mid hi b) : Cov lo hi (a ++ b) := fun g h1 h2 => by
  by_cases hc : g ≤ mid
  · exact List.mem_append_left _ (h g h1 hc)
  · exact List.mem_append_right _ (k g (by omega) h2)
theorem Cov.cons {lo hi : Nat} {a : List Nat} (h : Cov (lo + 1) hi a) : Cov lo hi ((lo + 1) :: a) := fun g h1 h2 => by
  by_cases hc : g = lo + 1
  · subst hc; exact List.mem_cons_self
  · exact List.mem_cons_of_mem _ (h g (by omega) h2)

theorem cov_all (s : ByteArray) (n : Nat) :
    (∀ st, Cov st.g (partS s n st).2.g (grpsP (partS s n st).1)) ∧ (∀ st, Cov st.g (escS s n st).2.g (grpsP (escS s n st).1)) ∧ (∀ inner st l lo, Cov lo st.g (grpsL l) → Cov lo (partsS s inner n st l).2.g (grpsL (partsS s inner n st l).1)) := by
  have he : ∀ st : St, Cov st.g (spoil st).g (grpsP emptyP) := fun st => Cov.nil _ _
  have hs : ∀ (st : St) (c : Int), Cov st.g (adv st).g (grpsP (singleP c)) := fun st c => Cov.nil _ _
  induction n with
  | zero =>
    refine ⟨fun st => ?_, fun st => ?_, fun inner st l lo h => ?_⟩
    · simp only [partS]; exact he st
    · simp only [escS]; exact he st
    · simp only [partsS]; exact h
  | succ n ih =>
    obtain ⟨ihp, ihe, ihs⟩ := ih
    refine ⟨fun st => ?_, fun st => ?_, fun inner st l lo h => ?_⟩
    · rw [partS]
      split
      · exact he st
      · rw [count_g, grps_count]
        split
        · exact Cov.nil _ _
        · split
          · simp only [set_g]; exact Cov.nil _ _
          · split
            · exact ihe (adv st)
            · exact hs st _
    · rw [escS]
      split
      · exact he st
      · split
        · exact hs st _
        · split
          · exact hs st _
          · simp only [grpsP, eatIf_g]
            rw [if_neg (by omega)]
            exact Cov.cons (ihs true (opened st) [] (st.g + 1) (Cov.nil _ _))
    · rw [partsS]
      split
      · exact h
      · refine ihs inner _ _ lo ?_
        rw [grpsL_app]
        simp only [grpsL, List.append_nil]
        exact h.app (ihp st)

/-- Every group of an expression is there. -/
theorem ex_cov (s : ByteArray) : Cov 0 (exS s).1.groups (grpsL (exS s).1.parts) := by
  have h := (cov_all s (2 * s.size + 2)).2.2 false (advIf s 94 (zeroed ⟨0, false, 0⟩)) [] (advIf s 94 (zeroed ⟨0, false, 0⟩)).g (Cov.nil _ _)
  have hg : (advIf s 94 (zeroed ⟨0, false, 0⟩)).g = 0 := by unfold advIf; split <;> rfl
  rw [hg] at h
  have hg2 : (exS s).1.groups = (partsS s false (2 * s.size + 2) (advIf s 94 (zeroed ⟨0, false, 0⟩)) []).2.g := rfl
  rw [hg2]
  exact h

/-- What clear makes of the new spans. -/
theorem clear_span0 {ps : List Part} {G p q : Nat} (h1 : ∀ g, g ∈ grpsL ps → 0 < g) (h2 : Cov 0 G (grpsL ps)) : clearS ps ((p : Int) :: (q : Int) :: List.replicate (2 * G) 0) = span0 p q G := by
  have ho := clearS_off ps ((p : Int) :: (q : Int) :: List.replicate (2 * G) 0)
  have hb := clearS_bare ps ((p : Int) :: (q : Int) :: List.replicate (2 * G) 0)
  have hl : (clearS ps ((p : Int) :: (q : Int) :: List.replicate (2 * G) 0)).length = 2 * G + 2 := by rw [ho.1]; simp
  refine ext_getD (by rw [hl]; simp [span0]) fun k hk => ?_
  rw [hl] at hk
  rcases k with _ | _ | k
  · rw [ho.2 0 (fun h => by have := h1 _ h; omega)]; rfl
  · rw [ho.2 1 (fun h => by have := h1 _ h; omega)]; rfl
  · have hm : (k + 2) / 2 ∈ grpsL ps := h2 _ (by omega) (by omega)
    rw [hb (k + 2) hm (by rw [hl]; exact hk)]
    have : k < 2 * G := by omega
    simp [span0, this]
end Go.Proofs.YtpnecblofjpgfaaGreatDoor

namespace Go.Proofs.YtpnecblofjpgfaaGreatDoor
open Go.RowKit Go.Shelf

theorem icells_made (n : Nat) : madeCells #[.int .i64 0] n = ((List.replicate n (0 : Int)).map fun x => Value.int .i64 x).toArray := by
  apply Array.ext
  · simp [madeCells]
  · intro i h1 h2
    simp [madeCells, Nat.mod_one]

theorem make_ints (n : Nat) (h : n ≤ 1000) (w : World) : (Instr.makeSlice 22 (.int .i64 (n : Int)) (.int .i64 (n : Int))).run Tryz.prog w = .ok (.slice (some ⟨w.heap.size, 0, none⟩) n n) (w.alloc (.cells ((List.replicate n (0 : Int)).map fun x => Value.int .i64 x).toArray 3)) := by
  have := run_make_row' (P := Tryz.prog) 22 3 (.int .i64 0) 8 Tryz.underlying22 info3 rfl .i64 .i64 n (by omega) (by omega) w
  rw [icells_made] at this
  exact this

/-- What the reference's best answers. -/
def BestC (x : Ex) (s : ByteArray) (w : World) (p : Nat) (r : Ending) (w' : World) : Prop :=
  Below w.heap.size w w' ∧ ((r = .returned (.tuple #[.int .i64 0, .slice none 0 0, .bool false]) ∧ ∀ q, ¬ CanR x s p q) ∨
    ∃ (q sb : Nat) (ss : List Int), r = .returned (.tuple #[.int .i64 q, .slice (some ⟨sb, 0, none⟩) (2 * x.groups) (2 * x.groups), .bool true]) ∧ CanR x s p q ∧ (∀ q' : Nat, CanR x s p q' → q' ≤ q) ∧
      RSeq s x.parts p q (clearS x.parts ((p : Int) :: (q : Int) :: List.replicate (2 * x.groups) 0)) ss ∧ Blk w' sb ((ss.drop 2).map fun x => Value.int .i64 x).toArray 3 ∧ ss.length = 2 * x.groups + 2 ∧ w.heap.size ≤ sb)

set_option maxRecDepth 100000 in
set_option maxHeartbeats 3200000 in
theorem rbest_any (s : ByteArray) (hs : s.size ≤ 1048576) (x : Ex) (hx : ExWF x) (v : Value) (p : Nat) (hp : p ≤ s.size) (w : World) (hv : ExV w x v) :
    Calls Tryz.prog 27 #[v, .string s, .int .i64 p] w (BestC x s w p) := by
  have IH := hide (seqC_all s hs x.groups x.parts hx.wf hx.len)
  have hG9 := hx.nine
  obtain ⟨fi, la, parts, gr⟩ := x
  obtain ⟨ka, kl, kc, xs, rfl, hRow, hKR⟩ := hv
  dsimp only at hRow hKR IH hG9
  have hB := Blk.new w #[.bool fi, .bool la, .slice ka kl kc, .int .i64 gr] 33
  obtain ⟨c0, c1, c2, c3, cf⟩ := hB.four
  have hb0 : Below w.heap.size w (w.alloc (.cells #[.bool fi, .bool la, .slice ka kl kc, .int .i64 gr] 33)) := (Below.refl _ _).alloc (Nat.le_refl _) _
  have HK := hide (And.intro hRow (And.intro hKR (And.intro hb0 (And.intro hB hx))))
  clear hRow hKR hx hb0 hB
  by_cases hf : fi = true ∧ 0 < p
  · obtain ⟨rfl, hp0⟩ := hf
    have hp1 : (0 : Int) < p := by omega
    go_enter Tryz.func27, Tryz.ntmps27
    go_wp2_with fail
    refine bodyPost_ret (results_tmp3 rfl _ _ _) rfl ?_
    exact ⟨HK.out.2.2.1, .inl ⟨rfl, fun q h => by have := h.2.2.2.1 rfl; omega⟩⟩
  · have key : fi = false ∨ (fi = true ∧ p = 0) := by
      cases fi
      · exact .inl rfl
      · exact .inr ⟨rfl, by have : ¬ 0 < p := fun h => hf ⟨rfl, h⟩; omega⟩
    have HF : Hid (fi = true → (p : Int) ≤ 0) := by
      rcases key with h | ⟨_, h⟩
      · intro h2; rw [h] at h2; cases h2
      · intro _; omega
    clear hf
    go_enter Tryz.func27, Tryz.ntmps27
    go_upto_region 1 with fail
    go_cut [17] (fun b wc => b = .bool false ∧ wc = w.alloc (.cells #[.bool fi, .bool la, .slice ka kl kc, .int .i64 gr] 33))
    case first =>
      rcases key with rfl | ⟨rfl, rfl⟩
      · go_wp2_with fail
        go_meet
        case rel => exact ⟨by simp, rfl⟩
      · go_wp2_with fail
        go_meet
        case rel => exact ⟨by simp, rfl⟩
    case rest =>
      obtain ⟨rfl, rfl⟩ := hcut
      clear key
      go_wp2_with fail
      refine (IH.out _ ka kl kc xs 0 p (HK.out.1.below HK.out.2.2.1) (HK.out.2.1.below HK.out.2.2.1) (Nat.zero_le _) hp).mono ?_
      rintro e1 w1 ⟨gc, C, rfl, hBc, hgc, hC, hb1⟩
      rw [List.drop_zero] at hC
      have HC := hide hC
      have hBx1 := HK.out.2.2.2.1.below hb1
      have hbw : Below w.heap.size w w1 := HK.out.2.2.1.trans (hb1.mono (by simp))
      clear hC c0 c1 c2 c3 cf hb1
      have hgc2 : w.heap.size < gc := by simp at hgc; omega
      go_wp2_with fail
      go_loopg [10, 11] (s.size + 1) (fun k qq kk w' => ∃ q : Int, qq = .int .i64 q ∧ (p : Int) - 1 ≤ q ∧ q ≤ s.size ∧ q + 1 ≤ k ∧ Blk w' gc (bcells (s.size + 1) C) 4 ∧ Blk w' w.heap.size #[.bool fi, .bool la, .slice ka kl kc, .int .i64 gr] 33 ∧ Below w.heap.size w w' ∧ Hid (∀ m : Nat, q < m → ¬ CanR ⟨fi, la, parts, gr⟩ s p m))
      case atStart =>
        exact ⟨s.size, rfl, by omega, by omega, by omega, hBc, hBx1, hbw, fun m hm hR => by have := hR.2.2.1; omega⟩
      case round =>
        obtain ⟨q, rfl, hpq, hqs, hqk, hBc2, hBx2, hBel, HN⟩ := hrel
        clear hBc hBx1 hbw
        obtain ⟨c0, c1, c2, c3, cf⟩ := hBx2.four
        by_cases hqp : (p : Int) ≤ q
        · obtain ⟨qn, rfl⟩ := Int.eq_ofNat_of_zero_le (show 0 ≤ q by omega)
          have hql1 : qn < s.size + 1 := by omega
          have y1 := hBc2.cell qn (bcells_get hql1)
          go_upto_region 7 with fail
          go_cut [44] (fun b wc => b = .bool (C qn && (!la || decide (qn = s.size))) ∧ wc = wr)
          case first =>
            cases hCq : C qn
            · rw [hCq] at y1
              go_wp2_with fail
              go_meet
              case rel => exact ⟨by simp [hCq], rfl⟩
            · rw [hCq] at y1
              cases la
              · go_wp2_with fail
                go_meet
                case rel => exact ⟨by simp [hCq], rfl⟩
              · go_wp2_with fail
                go_meet
                case rel =>
                  refine ⟨?_, rfl⟩
                  rw [hCq]
                  simp only [Bool.true_and, Bool.not_true, Bool.false_or, Value.bool.injEq]
                  rw [Bool.eq_iff_iff]
                  simp
                  omega
          case rest =>
            obtain ⟨rfl, rfl⟩ := hcut
            cases ht : (C qn && (!la || decide (qn = s.size)))
            · have hnR : ¬ CanR ⟨fi, la, parts, gr⟩ s p qn := by
                rintro ⟨_, _, _, _, h5, h6⟩
                have hc := (HC.out qn (by omega)).2 h6
                rw [hc] at ht
                simp at ht
                have := h5 ht.1
                omega
              have HD : Hid (∀ m : Nat, (qn : Int) - 1 < m → ¬ CanR ⟨fi, la, parts, gr⟩ s p m) := fun m hm => by
                by_cases he : m = qn
                · subst he; exact hnR
                · exact HN.out m (by omega)
              clear ht hnR y1
              go_wp2_with fail
              go_roundg (gk - 1)
              case measure => omega
              case rel => exact ⟨(qn : Int) - 1, rfl, by omega, by omega, by omega, hBc2, hBx2, hBel, HD.out⟩
            · have HCan : Hid (CanR ⟨fi, la, parts, gr⟩ s p qn) := by
                simp at ht
                refine ⟨by omega, hqp, by omega, HF.out, fun h => ?_, (HC.out qn (by omega)).1 ht.1⟩
                rcases ht.2 with h2 | h2
                · dsimp only at h; rw [h2] at h; cases h
                · omega
              clear ht y1
              obtain ⟨n, hn⟩ : ∃ n : Nat, n = 2 * gr := ⟨_, rfl⟩
              have v1 : IntKind.i64.wrap (2 * (gr : Int)) = (n : Int) := (i64w _ (by omega)).trans (by omega)
              have hmk := make_ints n (by omega)
              have HBB := hide (And.intro hBx2 hBel)
              have hxl := hBx2.lt
              clear hBx2 hBel hBc2
              have hn0 := hide hn
              clear hn
              obtain ⟨W2, hW2⟩ : ∃ W2, W2 = (wc.alloc (.cells (Array.replicate n (.int .i64 0)) 3)).alloc (.cells #[.string s, .slice (some ⟨wc.heap.size, 0, none⟩) n n] 94) := ⟨_, rfl⟩
              obtain ⟨hBx2, hBel⟩ := HBB.out
              have hsz := hBel.size
              have hPk : PkC W2 (wc.heap.size + 1) wc.heap.size s n ((p : Int) :: (qn : Int) :: List.replicate n 0) := by
                rw [hW2]
                refine ⟨Blk.newAt (by simp), ?_, by simp, by omega⟩
                have := (Blk.new wc (Array.replicate n (.int .i64 0)) 3).alloc (.cells #[.string s, .slice (some ⟨wc.heap.size, 0, none⟩) n n] 94)
                simpa using this
              have hBel2 : Below w.heap.size w W2 := by
                rw [hW2]
                exact (hBel.alloc hsz _).alloc (by simp; omega) _
              have hBx3 : Blk W2 w.heap.size #[.bool fi, .bool la, .slice ka kl kc, .int .i64 gr] 33 := by
                rw [hW2]
                exact (hBx2.alloc _).alloc _
              obtain ⟨hRow, hKR, -, -, hx⟩ := HK.out
              have hRowB : Row (fun k => k < w.heap.size) w (.slice ka kl kc) parts.length xs := hRow.mono (fun _ _ h => h)
              have hKRB : KRep (fun k => k < w.heap.size) w parts xs := KRep.mono (fun _ _ h => h) _ _ hKR
              have hag2 : Agree (fun k => k < w.heap.size) w W2 := ⟨hBel2.size, fun k hk _ => hBel2.block k hk⟩
              have hcall := clear_any parts gr w.heap.size (wc.heap.size + 1) wc.heap.size s n _ ka kl kc xs W2 hx.wf (by simp; have := hn0.out; omega) hG9 hx.len (by omega) (by omega) hPk (hRowB.agree hag2) (KRep.agree hag2 _ _ hKRB)
              have HCa := hide (And.intro hcall (And.intro hBel2 (And.intro hBx3 (And.intro hRowB hKRB))))
              rw [hW2] at HCa
              clear hcall hBel2 hBx3 hRowB hKRB hag2 hRow hKR hPk hBx2 hBel hx
              go_wp2_with fail
              refine HCa.out.1.mono ?_
              rintro e3 w3 ⟨rfl, hP3, hk3⟩
              rw [← hW2] at HCa hk3
              have hxs : w.heap.size ≠ wc.heap.size := by omega
              have hBx4 := HCa.out.2.2.1.kp hk3 hxs
              clear c0 c1 c2 c3 cf
              obtain ⟨c0, c1, c2, c3, cf⟩ := hBx4.four
              have hsz3 := hk3.size
              have hag3 : Agree (fun k => k < w.heap.size) w w3 := ⟨by have := HCa.out.2.1.size; omega, fun k hk hl => (hk3.block k (by have := HCa.out.2.1.size; omega) (by omega)).trans (HCa.out.2.1.block k hk)⟩
              have hl3 := hP3.len
              have hcall := seq_any parts gr w.heap.size (wc.heap.size + 1) wc.heap.size s n _ p qn ka kl kc xs w3 hs HK.out.2.2.2.2.wf (by have := hn0.out; omega) hG9 HK.out.2.2.2.2.len (by omega) (by omega) hP3 (HCa.out.2.2.2.1.agree hag3) (KRep.agree hag3 _ _ HCa.out.2.2.2.2) hp (by have := HCan.out.2.2.2.2.2; simpa using this)
              have HCb := hide (And.intro hcall hk3)
              clear hcall hk3 hP3 hag3 hBx4
              go_wp2_with fail
              refine HCb.out.1.mono ?_
              rintro e4 w4 ⟨rfl, ss, hS4, hP4, hk4⟩
              have d1 := hP4.blk.cell 1 rfl
              have HZ := hide (And.intro hS4 (And.intro hP4 hk4))
              clear hS4 hP4 hk4 c0 c1 c2 c3 cf
              go_wp2_with fail
              go_quiet (fail)
              go_wp2_with fail
              refine bodyPost_ret (results_tmp3 rfl _ _ _) rfl ?_
              obtain ⟨hS4, hP4, hk4⟩ := HZ.out
              have hkw := HCb.out.2.trans hk4
              have hn := hn0.out
              subst hn
              have hl4 := hP4.len
              refine ⟨?_, .inr ⟨qn, wc.heap.size, ss, rfl, HCan.out, fun q' h => ?_, hS4, hP4.row.drewN _, hl4, by omega⟩⟩
              · have hfin : Below w.heap.size w w4 := HCa.out.2.1.trans ⟨hkw.os, hkw.tape, hkw.output, hkw.size, fun k hk => hkw.block k (by have := HCa.out.2.1.size; omega) (by omega)⟩
                exact ⟨hfin.os, hfin.tape, hfin.output, hfin.size, hfin.block⟩
              · by_cases hc : qn < q'
                · exact absurd h (HN.out q' (by omega))
                · omega
        · go_wp2_with fail
          refine bodyPost_ret (results_tmp3 rfl _ _ _) rfl ?_
          refine ⟨hBel, .inl ⟨rfl, fun q' h => ?_⟩⟩
          have h1 := h.2.1
          obtain ⟨m, rfl⟩ := Int.eq_ofNat_of_zero_le (show 0 ≤ q' by omega)
          exact HN.out m (by omega) h
end Go.Proofs.YtpnecblofjpgfaaGreatDoor

namespace Go.Proofs.YtpnecblofjpgfaaGreatDoor
open Go.RowKit Go.Shelf

/-- What Find answers. -/
def FindC (x : Ex) (s : ByteArray) (w : World) (at_ : Nat) (r : Ending) (w' : World) : Prop :=
  Below w.heap.size w w' ∧ ∃ v, r = .returned v ∧ ((v = .slice none 0 0 ∧ ∀ p : Nat, at_ ≤ p → ∀ q, ¬ CanR x s p q) ∨
    ∃ (p q : Nat) (ss : List Int), at_ ≤ p ∧ (∀ p' : Nat, at_ ≤ p' → p' < p → ∀ q', ¬ CanR x s p' q') ∧ CanR x s p q ∧ (∀ q' : Nat, CanR x s p q' → q' ≤ q) ∧
      RSeq s x.parts p q (clearS x.parts ((p : Int) :: (q : Int) :: List.replicate (2 * x.groups) 0)) ss ∧ Ints w' v ((p : Int) :: (q : Int) :: ss.drop 2) ∧ ss.length = 2 * x.groups + 2 ∧ ∀ k, v.ownBlock = some k → w.heap.size ≤ k)

set_option maxRecDepth 100000 in
set_option maxHeartbeats 3200000 in
theorem find_any (s : ByteArray) (hs : s.size ≤ 1048576) (x : Ex) (hx : ExWF x) (v : Value) (at_ : Nat) (hat : at_ ≤ s.size) (w : World) (hv : ExV w x v) :
    Calls Tryz.prog 17 #[v, .string s, .int .i64 at_, .bool false] w (FindC x s w at_) := by
  have HV := hide (And.intro hx hv)
  have hG9 := hx.nine
  obtain ⟨fi, la, parts, gr⟩ := x
  dsimp only at hG9
  obtain ⟨ka, kl, kc, xs, rfl, -, -⟩ := hv
  clear hx
  have hB := Blk.new w #[.bool fi, .bool la, .slice ka kl kc, .int .i64 gr] 33
  have hb0 : Below w.heap.size w (w.alloc (.cells #[.bool fi, .bool la, .slice ka kl kc, .int .i64 gr] 33)) := (Below.refl _ _).alloc (Nat.le_refl _) _
  go_enter Tryz.func17, Tryz.ntmps17
  go_wp2_with fail
  generalize w.alloc (.cells #[.bool fi, .bool la, .slice ka kl kc, .int .i64 gr] 33) = w0 at *
  go_loopg [9, 10, 11, 12] (s.size + 1) (fun k pp qq sp okk w' => ∃ p : Nat, pp = .int .i64 p ∧ at_ ≤ p ∧ p ≤ s.size + 1 ∧ s.size + 1 ≤ p + k ∧ Blk w' w.heap.size #[.bool fi, .bool la, .slice ka kl kc, .int .i64 gr] 33 ∧ Hid (Below w.heap.size w w' ∧ ∀ p' : Nat, at_ ≤ p' → p' < p → ∀ q', ¬ CanR ⟨fi, la, parts, gr⟩ s p' q'))
  case atStart => exact ⟨at_, rfl, Nat.le_refl _, by omega, by omega, hB, hb0, fun p' h1 h2 => by omega⟩
  case round =>
    obtain ⟨p, rfl, hap, hps, hpk, hBx, HR⟩ := hrel
    clear hB hb0
    obtain ⟨c0, c1, c2, c3, cf⟩ := hBx.four
    by_cases hpl : p ≤ s.size
    · go_wp2_with fail
      refine (rbest_any s hs ⟨fi, la, parts, gr⟩ HV.out.1 _ p hpl _ (HV.out.2.below HR.out.1)).mono ?_
      rintro e1 w1 ⟨hb1, h1⟩
      have hBel : Below w.heap.size w w1 := HR.out.1.trans (hb1.mono HR.out.1.size)
      rcases h1 with ⟨rfl, hno⟩ | ⟨q, sb, ss, rfl, hcan, hmax, hS, hB, hl, hsb⟩
      · have HN : Hid (Below w.heap.size w w1 ∧ ∀ p' : Nat, at_ ≤ p' → p' < p + 1 → ∀ q', ¬ CanR ⟨fi, la, parts, gr⟩ s p' q') := ⟨hBel, fun p' h1 h2 => by
          by_cases he : p' = p
          · subst he; exact hno
          · exact HR.out.2 p' h1 (by omega)⟩
        clear hno hBel
        go_wp2_with fail
        go_roundg (gk - 1)
        case measure => omega
        case rel => exact ⟨p + 1, by go_num, by omega, by omega, by omega, hBx.below hb1, HN.out⟩
      · have hsl := hB.lt
        have hwsz := HR.out.1.size
        have HZ := hide (And.intro hcan (And.intro hmax (And.intro hS (And.intro hB (And.intro hl (And.intro hsb hBel))))))
        clear hcan hmax hS hB hBel hb1
        obtain ⟨i0, hi, hz0, hz1, hz2⟩ := info_parts info3
        have HI := hide (And.intro hi (And.intro hz0 (And.intro hz1 hz2)))
        clear hi hz0 hz1 hz2
        have hnil : (w1.alloc (.cells #[.int .i64 p, .int .i64 q] 3)).ownsRow 0 3 1 (.slice none 0 0) 0 [] := World.ownsRow_nil _ _ _ _
        have hml : 0 + 2 ≤ maxLen := by unfold maxLen; omega
        go_upto_region 8 with (at_builtin; refine wpList_append_lies _ rfl _ _ 22 rfl 0 3 i0 (.int .i64 0) 1 8 Tryz.underlying22 HI.out.1 HI.out.2.1 HI.out.2.2.1 HI.out.2.2.2 rfl (by decide) (.slice none 0 0) 0 [] rfl hnil ⟨w1.heap.size, 0, none⟩ 2 2 [.int .i64 p, .int .i64 q] rfl rfl (blk_news (Blk.newAt rfl)) (by intro u hu; simp at hu; rcases hu with rfl | rfl <;> rfl) (by decide) hml (by omega) (Nat.zero_le _) (w1.heap.size + 1) (by simp) ?_; intro g1 cap1 w4 hown1 hgrow1 hat1 hlt1)
        have hown1' : w4.ownsRow 0 3 1 (.slice (some ⟨g1, 0, none⟩) 2 cap1) 2 [.int .i64 p, .int .i64 q] := hown1
        obtain ⟨hcan, hmax, hS, hB, hl, hsb, hBel⟩ := HZ.out
        have hb4 : Below w1.heap.size w1 w4 := ((Below.refl _ w1).alloc (Nat.le_refl _) (.cells #[.int .i64 p, .int .i64 q] 3)).grown hgrow1 (by simp) (fun k e => by cases e)
        have hB4 := hB.below hb4
        have hBel4 : Below w.heap.size w w4 := hBel.trans (hb4.mono hBel.size)
        have hsz1 := hBel.size
        have hg1 : g1 = w1.heap.size + 1 := by
          rcases hat1 with e | e
          · cases e
          · exact e
        subst hg1
        by_cases hg0 : gr = 0
        · subst hg0
          have hcap : 2 ≤ cap1 := by
            rcases hown1'.2 with ⟨h, _⟩ | ⟨g, cap, cur, h, _, _, hle, _⟩
            · cases h
            · cases h; exact hle
          have HY := hide (And.intro hcan (And.intro hmax (And.intro hS (And.intro hB4 (And.intro hl (And.intro hBel4 hown1'))))))
          clear hcan hmax hS hB hB4 hl hBel4 hown1' hown1 hgrow1 hat1 hb4 hBel hnil hml HZ
          go_wp2_with fail
          go_ret
          obtain ⟨hcan, hmax, hS, hB4, hl, hBel4, hown⟩ := HY.out
          refine ⟨hBel4, _, rfl, .inr ⟨p, q, ss, hap, HR.out.2, hcan, hmax, hS, ?_, hl, fun k e => ?_⟩⟩
          · have hd : ss.drop 2 = [] := List.drop_eq_nil_of_le (by omega)
            rw [hd]
            exact hown
          · cases e
            show w.heap.size ≤ w1.heap.size + 1
            omega
        · have hlen : (ss.drop 2).length = 2 * gr := by rw [List.length_drop]; omega
          have hml2 : 2 + 2 * gr ≤ maxLen := by unfold maxLen; omega
          have HY := hide (And.intro hcan (And.intro hmax (And.intro hS (And.intro hl (And.intro hBel4 hb4)))))
          clear hcan hmax hS hB hl hBel4 hown1 hgrow1 hat1 hb4 hBel hnil hml HZ
          go_wp2_with (at_builtin; refine wpList_append_lies _ rfl _ _ 22 rfl 0 3 i0 (.int .i64 0) 1 8 Tryz.underlying22 HI.out.1 HI.out.2.1 HI.out.2.2.1 HI.out.2.2.2 rfl (by decide) (.slice (some ⟨w1.heap.size + 1, 0, none⟩) 2 cap1) 2 [.int .i64 p, .int .i64 q] rfl hown1' ⟨sb, 0, none⟩ (2 * gr) (2 * gr) ((ss.drop 2).map fun x => Value.int .i64 x) rfl (by rw [List.length_map, hlen, Nat.mul_one]) (blk_news hB4) (by intro u hu; obtain ⟨y, _, rfl⟩ := List.mem_map.1 hu; rfl) (by omega) hml2 (by omega) (Nat.zero_le _) w4.heap.size rfl ?_; intro g2 cap2 w5 hown2 hgrow2 hat2 hlt2)
          go_ret
          obtain ⟨hcan, hmax, hS, hl, hBel4, hb4⟩ := HY.out
          refine ⟨hBel4.grown hgrow2 (by have := hBel4.size; omega) (fun k e => by cases e; show w.heap.size ≤ w1.heap.size + 1; omega), _, rfl, .inr ⟨p, q, ss, hap, HR.out.2, hcan, hmax, hS, ?_, hl, fun k e => ?_⟩⟩
          · have hle : ((p : Int) :: (q : Int) :: ss.drop 2).length = 2 + 2 * gr := by simp only [List.length_cons, hlen]; omega
            unfold Ints
            rw [hle]
            exact hown2
          · cases e
            have := hBel4.size
            show w.heap.size ≤ g2
            rcases hat2 with e | e
            · cases e
              show w.heap.size ≤ w1.heap.size + 1
              omega
            · omega
    · go_wp2_with fail
      go_ret
      exact ⟨HR.out.1, _, rfl, .inl ⟨rfl, fun p' h1 q' hc => by
        have := hc.2.1
        have := hc.2.2.1
        exact HR.out.2 p' h1 (by omega) q' hc⟩⟩
end Go.Proofs.YtpnecblofjpgfaaGreatDoor

namespace Go.Proofs.YtpnecblofjpgfaaGreatDoor
open Go.RowKit Go.Shelf

/-- What the reference's Match has found. -/
def FoundR (x : Ex) (s : ByteArray) (w : World) (at_ : Nat) (v : Value) (w' : World) : Prop :=
  (v = .slice none 0 0 ∧ ∀ p : Nat, at_ ≤ p → ∀ q, ¬ CanR x s p q) ∨
    ∃ (p q : Nat) (ss : List Int), at_ ≤ p ∧ (∀ p' : Nat, at_ ≤ p' → p' < p → ∀ q', ¬ CanR x s p' q') ∧ CanR x s p q ∧ (∀ q' : Nat, CanR x s p q' → q' ≤ q) ∧
      RSeq s x.parts p q (clearS x.parts ((p : Int) :: (q : Int) :: List.replicate (2 * x.groups) 0)) ss ∧ Ints w' v ((p : Int) :: (q : Int) :: ss.drop 2) ∧ ss.length = 2 * x.groups + 2 ∧ ∀ k, v.ownBlock = some k → w.heap.size ≤ k

def RMatchPost (e s : ByteArray) (at_ : Int) (w : World) (r : Ending) (w' : World) : Prop :=
  Below w.heap.size w w' ∧ ∃ v en pl, r = .returned (.tuple #[v, .int .i64 en, .int .i64 pl]) ∧
    ((¬ Good e ∧ v = .slice none 0 0 ∧ en = 2 ∧ pl = (exS e).2.i) ∨
     (Good e ∧ (at_ < 0 ∨ (s.size : Int) < at_) ∧ v = .slice none 0 0 ∧ en = 5 ∧ pl = 0) ∨
     (Good e ∧ 0 ≤ at_ ∧ at_ ≤ s.size ∧ en = 0 ∧ pl = 0 ∧ FoundR (exS e).1 s w at_.toNat v w'))

set_option maxRecDepth 100000 in
/-- A text too long: at once. -/
theorem rmatch_long (e s : ByteArray) (at_ : Int) (w : World) (hl : 60 < e.size ∨ 200 < s.size) :
    Calls Tryz.prog 7 #[.string e, .string s, .int .i64 at_] w fun r w' => r = .returned (.tuple #[.slice none 0 0, .int .i64 1, .int .i64 0]) ∧ Below w.heap.size w w' := by
  have key : decide ((60 : Int) < (e.size : Nat)) = true ∨ (decide ((60 : Int) < (e.size : Nat)) = false ∧ decide ((200 : Int) < (s.size : Nat)) = true) := by
    by_cases h : 60 < e.size
    · left; simp; omega
    · right; constructor <;> simp <;> omega
  clear hl
  rcases key with l1 | ⟨l1, l2⟩
  all_goals
    go_enter Tryz.func7, Tryz.ntmps7
    go_wp2_with fail
    refine bodyPost_ret (results_tmp3 rfl _ _ _) rfl ?_
    exact ⟨rfl, Below.refl _ _⟩

set_option maxRecDepth 100000 in
theorem match_long (e s : ByteArray) (at_ : Int) (w : World) (hl : 60 < e.size ∨ 200 < s.size) :
    Calls Tryz.prog 6 #[.string e, .string s, .int .i64 at_] w fun r w' => r = .returned (.tuple #[.slice none 0 0, .int .i64 1, .int .i64 0]) ∧ Below w.heap.size w w' := by
  have key : decide ((60 : Int) < (e.size : Nat)) = true ∨ (decide ((60 : Int) < (e.size : Nat)) = false ∧ decide ((200 : Int) < (s.size : Nat)) = true) := by
    by_cases h : 60 < e.size
    · left; simp; omega
    · right; constructor <;> simp <;> omega
  clear hl
  rcases key with l1 | ⟨l1, l2⟩
  all_goals
    go_enter Tryz.func6, Tryz.ntmps6
    go_wp2_with fail
    refine bodyPost_ret (results_tmp3 rfl _ _ _) rfl ?_
    exact ⟨rfl, (Below.refl _ w).alloc (Nat.le_refl _) _⟩

set_option maxRecDepth 100000 in
set_option maxHeartbeats 1000000 in
theorem rmatch_any (e s : ByteArray) (at_ : Int) (w : World) (he : e.size ≤ 60) (hs : s.size ≤ 200) :
    Calls Tryz.prog 7 #[.string e, .string s, .int .i64 at_] w (RMatchPost e s at_ w) := by
  have l1 : decide ((60 : Int) < (e.size : Nat)) = false := by simp; omega
  have l2 : decide ((200 : Int) < (s.size : Nat)) = false := by simp; omega
  go_enter Tryz.func7, Tryz.ntmps7
  go_wp2_with fail
  refine (readEx_any e w (by omega)).mono ?_
  rintro r w1 ⟨ka, kl, kc, xs, rfl, hR, hK, hb1⟩
  by_cases hg : Good e
  · have hgd : decide (Good e) = true := by simp [hg]
    have hWX := ex_wf e (by omega) hg
    have HG := hide (And.intro hg (And.intro hb1 (And.intro hR (And.intro hK hWX))))
    clear hg hb1 hR hK hWX
    by_cases ha : at_ < 0 ∨ (s.size : Int) < at_
    · have HA := hide ha
      have key : decide (at_ < 0) = true ∨ (decide (at_ < 0) = false ∧ decide ((s.size : Int) < at_) = true) := by
        by_cases h : at_ < 0
        · left; simp [h]
        · right; constructor <;> simp <;> omega
      clear ha
      rcases key with l3 | ⟨l3, l4⟩
      all_goals
        go_wp2_with fail
        refine bodyPost_ret (results_tmp3 rfl _ _ _) rfl ?_
        refine ⟨?_, _, _, _, rfl, .inr (.inl ⟨HG.out.1, HA.out, rfl, rfl, rfl⟩)⟩
        exact HG.out.2.1.alloc HG.out.2.1.size _
    · have l3 : decide (at_ < 0) = false := by simp; omega
      have l4 : decide ((s.size : Int) < at_) = false := by simp; omega
      obtain ⟨an, rfl⟩ := Int.eq_ofNat_of_zero_le (show 0 ≤ at_ by omega)
      go_wp2_with fail
      have hb2 : Below w1.heap.size w1 (w1.alloc (.cells #[.bool (exS e).1.first, .bool (exS e).1.last, .slice ka kl kc, .int .i64 (exS e).1.groups] 33)) := (Below.refl _ _).alloc (Nat.le_refl _) _
      have hb3 := HG.out.2.1.trans (hb2.mono HG.out.2.1.size)
      refine (find_any s (by omega) (exS e).1 HG.out.2.2.2.2 _ an (by omega) _ ⟨ka, kl, kc, xs, rfl, HG.out.2.2.1.below hb2, KRep.below HG.out.2.2.2.1 hb2⟩).mono ?_
      rintro r w3 ⟨hb4, v, rfl, hF⟩
      have HF := hide (And.intro hF (hb3.trans (hb4.mono hb3.size)))
      have hsz := hb3.size
      clear hF hb2 hb3 hb4
      go_wp2_with fail
      refine bodyPost_ret (results_tmp3 rfl _ _ _) rfl ?_
      refine ⟨HF.out.2, _, _, _, rfl, .inr (.inr ⟨HG.out.1, by omega, by omega, rfl, rfl, ?_⟩)⟩
      rw [Int.toNat_natCast]
      show FoundR (exS e).1 s w an v w3
      rcases HF.out.1 with h | ⟨p, q, ss, h1, h2, h3, h4, h5, h6, h7, h8⟩
      · exact .inl h
      · exact .inr ⟨p, q, ss, h1, h2, h3, h4, h5, h6, h7, fun k e => Nat.le_trans hsz (h8 k e)⟩
  · have hgd : decide (Good e) = false := by simp [hg]
    have HG := hide (And.intro hg hb1)
    clear hg hb1 hR hK
    go_wp2_with fail
    refine bodyPost_ret (results_tmp3 rfl _ _ _) rfl ?_
    refine ⟨?_, _, _, _, rfl, .inl ⟨HG.out.1, rfl, rfl, rfl⟩⟩
    exact HG.out.2.alloc HG.out.2.size _
end Go.Proofs.YtpnecblofjpgfaaGreatDoor

namespace Go.Proofs.YtpnecblofjpgfaaGreatDoor
open Go.RowKit Go.Shelf

set_option maxRecDepth 100000 in
set_option maxHeartbeats 1000000 in
theorem sameInts_any (u v : Value) (xs : List Int) (w : World) (hu : Ints w u xs) (hv : Ints w v xs) (hn : 0 < xs.length) (hm : xs.length ≤ 1000) :
    Calls Tryz.prog 9 #[u, v] w fun r w' => r = .returned (.bool true) ∧ Below w.heap.size w w' := by
  obtain ⟨g, cap, rfl, hg, hc⟩ := hu.lay hn
  obtain ⟨g2, cap2, rfl, hg2, hc2⟩ := hv.lay hn
  obtain ⟨n, hnn⟩ : ∃ n, n = xs.length := ⟨_, rfl⟩
  have HU := hide (And.intro hu (And.intro hv hnn))
  rw [← hnn] at hc hc2 hn hm ⊢
  clear hu hv hnn
  go_enter Tryz.func9, Tryz.ntmps9
  go_wp2_with fail
  go_loopg [5] n (fun k iv w' => ∃ i : Nat, iv = .int .i64 i ∧ i + k = n ∧ Hid (Below w.heap.size w w'))
  case atStart => exact ⟨0, rfl, by omega, Below.refl _ _⟩
  case round =>
    obtain ⟨i, rfl, hik, HB⟩ := hrel
    by_cases hi : i < n
    · have hd : (i : Int) < n := by omega
      have y1 := (HB.out.cell (p := ⟨g, i, none⟩) hg).trans (HU.out.1.cell (by have := HU.out.2.2; omega))
      have y2 := (HB.out.cell (p := ⟨g2, i, none⟩) hg2).trans (HU.out.2.1.cell (by have := HU.out.2.2; omega))
      go_wp2_with fail
      go_quiet (fail)
      go_wp2_with fail
      go_roundg (gk - 1)
      case measure => omega
      case rel => exact ⟨i + 1, by go_num, by omega, ⟨HB.out.os, HB.out.tape, HB.out.output, HB.out.size, HB.out.block⟩⟩
    · have hd : ¬ (i : Int) < n := by omega
      go_wp2_with fail
      go_ret
      exact ⟨rfl, HB.out⟩

/-- What both find is the same. -/
theorem found_eq {x : Ex} {s : ByteArray} {p q : Nat} {ss ss' : List Int} (hN : ∃ hi, Num 0 hi (grpsL x.parts)) (hC : Cov 0 x.groups (grpsL x.parts)) (h : SpanR s x.parts p q (span0 p q x.groups) ss)
    (h' : RSeq s x.parts p q (clearS x.parts ((p : Int) :: (q : Int) :: List.replicate (2 * x.groups) 0)) ss') (hl : ss'.length = 2 * x.groups + 2) : (p : Int) :: (q : Int) :: ss'.drop 2 = ss := by
  obtain ⟨hi, -, hnd, hpos⟩ := hN
  have hbare := clearS_bare x.parts ((p : Int) :: (q : Int) :: List.replicate (2 * x.groups) 0)
  rw [clear_span0 (fun g hg => (hpos g hg).1) hC] at h' hbare
  have ho := rseq_off s _ _ _ _ _ h'
  have he := SpanR.unique s _ _ _ _ _ _ h (rseq_span s _ _ _ _ _ hnd hbare h')
  rw [he]
  have h0 : ss'.getD 0 0 = p := ho.2 0 (fun hm => by have := (hpos _ hm).1; omega)
  have h1 : ss'.getD 1 0 = q := ho.2 1 (fun hm => by have := (hpos _ hm).1; omega)
  match ss', hl, h0, h1 with
  | a :: b :: r, _, h0, h1 =>
    simp only [List.getD_cons_zero, List.getD_cons_succ] at h0 h1
    rw [h0, h1]; rfl
  | [_], hl, _, _ => simp at hl
  | [], hl, _, _ => simp at hl

set_option maxRecDepth 100000 in
set_option maxHeartbeats 1000000 in
theorem Matches_any (e s : ByteArray) (at_ : Int) (w : World) (hT : TabOk w) :
    Calls Tryz.prog 3 #[.string e, .string s, .int .i64 at_] w fun r w' => r = .returned (.bool true) ∧ Below w.heap.size w w' := by
  have heq : ∀ (w : World) (a : Option Addr) (n c : Nat), (binOp .eql 22 (.slice a n c) (.slice none 0 0)).run Tryz.prog w = .ok (.bool a.isNone) w := fun w a n c => Lib.run_eql_slice_nil w 22 3 a n c 0 0 Tryz.underlying22
  by_cases hlong : 60 < e.size ∨ 200 < s.size
  · go_enter Tryz.func3, Tryz.ntmps3
    go_wp2_with fail
    refine (match_long e s at_ w hlong).mono ?_
    rintro r w1 ⟨rfl, hb1⟩
    go_wp2_with fail
    refine (rmatch_long e s at_ w1 hlong).mono ?_
    rintro r w2 ⟨rfl, hb2⟩
    have HZ := hide (hb1.trans (hb2.mono hb1.size))
    clear hb1 hb2
    go_wp2_with (go_at_call 8; refine (num_any _ _).mono ?_; rintro e w' ⟨rfl, rfl⟩)
    go_ret
    exact ⟨rfl, HZ.out⟩
  · have he : e.size ≤ 60 := by omega
    have hs : s.size ≤ 200 := by omega
    have HN := hide (ex_num e)
    have HC := hide (ex_cov e)
    clear hlong
    go_enter Tryz.func3, Tryz.ntmps3
    go_wp2_with fail
    refine (Match_any e s at_ w (by omega) (by omega) hT).mono ?_
    rintro r w1 ⟨hb1, v, en, pl, rfl, hM⟩
    go_wp2_with fail
    refine (rmatch_any e s at_ w1 he hs).mono ?_
    rintro r w2 ⟨hb2, v2, en2, pl2, rfl, hR⟩
    have hb3 := hb1.trans (hb2.mono hb1.size)
    rcases hM with ⟨hc, -⟩ | ⟨-, hg, rfl, rfl, rfl⟩ | ⟨-, hg, ha, rfl, rfl, rfl⟩ | ⟨-, hg, h0, h1, rfl, rfl, hF⟩
    · exfalso; omega
    · rcases hR with ⟨-, rfl, rfl, rfl⟩ | ⟨hg2, -⟩ | ⟨hg2, -⟩
      · have HZ := hide hb3
        clear hb1 hb2 hb3 hg
        go_wp2_with (go_at_call 8; refine (num_any _ _).mono ?_; rintro e w' ⟨rfl, rfl⟩)
        go_ret
        exact ⟨rfl, HZ.out⟩
      · exact absurd hg2 hg
      · exact absurd hg2 hg
    · rcases hR with ⟨hg2, -⟩ | ⟨-, -, rfl, rfl, rfl⟩ | ⟨-, h0, h1, -⟩
      · exact absurd hg hg2
      · have HZ := hide hb3
        clear hb1 hb2 hb3 hg ha
        go_wp2_with (go_at_call 8; refine (num_any _ _).mono ?_; rintro e w' ⟨rfl, rfl⟩)
        go_ret
        exact ⟨rfl, HZ.out⟩
      · exfalso; omega
    · rcases hR with ⟨hg2, -⟩ | ⟨-, ha, -⟩ | ⟨-, -, -, rfl, rfl, hF2⟩
      · exact absurd hg hg2
      · exfalso; omega
      · rcases hF with ⟨rfl, hno⟩ | ⟨p0, q0, ss, f1, f2, f3, f4, f5, f6, f7, f8⟩
        · rcases hF2 with ⟨rfl, -⟩ | ⟨p1, q1, s1, k1, k2, k3, k4, k5, k6, k7, k8⟩
          · have HZ := hide hb3
            clear hb1 hb2 hb3 hg hno
            go_wp2_with (go_at_call 8; refine (num_any _ _).mono ?_; rintro e w' ⟨rfl, rfl⟩)
            go_ret
            exact ⟨rfl, HZ.out⟩
          · exact absurd k3 (hno p1 k1 q1)
        · rcases hF2 with ⟨rfl, hno⟩ | ⟨p1, q1, s1, k1, k2, k3, k4, k5, k6, k7, k8⟩
          · exact absurd f3 (hno p0 f1 q0)
          · obtain rfl : p0 = p1 := by
              by_cases h : p0 < p1
              · exact absurd f3 (k2 p0 f1 h q0)
              · by_cases h' : p1 < p0
                · exact absurd k3 (f2 p1 k1 h' q1)
                · omega
            obtain rfl : q0 = q1 := by
              have := f4 q1 k3
              have := k4 q0 f3
              omega
            rw [found_eq HN.out HC.out f5 k5 k7] at k6
            have f6' : Ints w2 v ss := f6.agree (fun k e => hb2.block k (by
              obtain ⟨g, cap, hv, hg', _⟩ := f6.lay (by rw [f7]; omega)
              rw [hv] at e
              cases e
              exact hg'))
            have hgr := (ex_facts e (by omega) hg.1).2.1
            have hcall := sameInts_any v v2 ss w2 f6' k6 (by omega) (by omega)
            obtain ⟨g, cap, rfl, -, -⟩ := f6'.lay (by omega)
            obtain ⟨g2, cap2, rfl, -, -⟩ := k6.lay (by omega)
            have HZ := hide (And.intro hcall hb3)
            clear hcall hb1 hb2 hb3 hg f1 f2 f3 f4 f5 f6 f7 f8 k1 k2 k3 k4 k5 k6 k7 k8 f6' HN HC
            go_wp2_with (first | (go_at_call 8; refine (num_any _ _).mono ?_; rintro e w' ⟨rfl, rfl⟩) | (go_at_call 9; refine HZ.out.1.mono ?_; rintro e w3 ⟨rfl, hb9⟩))
            go_ret
            exact ⟨rfl, HZ.out.2.trans (hb9.mono HZ.out.2.size)⟩
end Go.Proofs.YtpnecblofjpgfaaGreatDoor
