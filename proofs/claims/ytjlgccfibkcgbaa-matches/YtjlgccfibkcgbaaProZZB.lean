import Derived.Test.YtjlgccfibkcgbaaProZU
namespace Go.Proofs.Ytjlgccfibkcgbaa
open Go.RowKit Go.Shelf

theorem Best.unique {R : Nat → Prop} {a b : Nat} (ha : Best R a) (hb : Best R b) : a = b := Nat.le_antisymm (hb.2 a ha.1) (ha.2 b hb.1)

theorem LoopR.unique {s : ByteArray} {x : Part} {e n p l n' l' : Nat} (h : LoopR s x e n p l n' l') : ∀ {n2 l2 : Nat}, LoopR s x e n p l n2 l2 → n2 = n' ∧ l2 = l' := by
  induction h with
  | stop h1 =>
    intro n2 l2 k
    cases k with
    | stop _ => exact ⟨rfl, rfl⟩
    | more h2 _ _ => omega
  | more h1 h2 _ ih =>
    intro n2 l2 k
    cases k with
    | stop h3 => omega
    | more k1 k2 k3 =>
      have := h2.unique k2
      subst this
      exact ih k3

mutual
theorem SpanR.unique (s : ByteArray) : ∀ (ps : List Part) (p e : Nat) (ss a b : List Int), SpanR s ps p e ss a → SpanR s ps p e ss b → a = b
  | [], p, e, ss, a, b, ha, hb => by
    simp only [SpanR] at ha hb
    rw [ha, hb]
  | x :: xs, p, e, ss, a, b, ha, hb => by
    simp only [SpanR] at ha hb
    obtain ⟨m, s1, h1, h2, h3⟩ := ha
    obtain ⟨m', s1', k1, k2, k3⟩ := hb
    have hm := h1.unique k1
    subst hm
    have := SpanC.unique s x p m ss s1 s1' h2 k2
    subst this
    exact SpanR.unique s xs m e s1 a b h3 k3
theorem SpanC.unique (s : ByteArray) : ∀ (x : Part) (p e : Nat) (ss a b : List Int), SpanC s x p e ss a → SpanC s x p e ss b → a = b
  | .mk g kids neg ps mn mx, p, e, ss, a, b, ha, hb => by
    simp only [SpanC] at ha hb
    split at ha
    · next hg => rw [if_pos hg] at hb; rw [ha, hb]
    · next hg =>
      rw [if_neg hg] at hb
      obtain ⟨n, l, h1, h2⟩ := ha
      obtain ⟨n', l', k1, k2⟩ := hb
      obtain ⟨rfl, rfl⟩ := h1.unique k1
      split at h2
      · next hn => rw [if_pos hn] at k2; rw [h2, k2]
      · next hn =>
        rw [if_neg hn] at k2
        exact SpanR.unique s kids _ e _ a b h2 k2
end
end Go.Proofs.Ytjlgccfibkcgbaa

namespace Go.Proofs.Ytjlgccfibkcgbaa
open Go.RowKit Go.Shelf

mutual
/-- The groups' numbers within parts. -/
def grpsL : List Part → List Nat
  | [] => []
  | x :: xs => grpsP x ++ grpsL xs
def grpsP : Part → List Nat
  | .mk g kids _ _ _ _ => if g = 0 then [] else g :: grpsL kids
end

mutual
/-- What clear leaves: no span for each group within the parts. -/
def clearS : List Part → List Int → List Int
  | [], ss => ss
  | x :: xs, ss => clearS xs (clearP x ss)
def clearP : Part → List Int → List Int
  | .mk g kids _ _ _ _, ss => if g = 0 then ss else clearS kids ((ss.set (2 * g) (-1)).set (2 * g + 1) (-1))
end

/-- Copies, one behind the other, each with what it does to the spans. -/
inductive RLoop (s : ByteArray) (x : Part) (e : Nat) (body : Nat → Nat → List Int → List Int → Prop) : Nat → Nat → List Int → List Int → Prop
  | stop {n : Nat} {ss : List Int} : x.mn ≤ n → RLoop s x e body n e ss ss
  | more {n p r : Nat} {ss s1 s2 : List Int} : ((n : Int) < x.mn ∨ p < e) → Best (fun m => NextR s x n p m ∧ Copies (AtomR s x) x.mn x.mx (n + 1) m e) r → body p r ss s1 → RLoop s x e body (n + 1) r s1 s2 → RLoop s x e body n p ss s2

mutual
/-- The spans as the document's answer picks them: every copy anew. -/
def RSeq (s : ByteArray) : List Part → Nat → Nat → List Int → List Int → Prop
  | [], _, _, ss, ss' => ss' = ss
  | x :: xs, p, e, ss, ss' => ∃ m ss1, Best (fun m => Copies (AtomR s x) x.mn x.mx 0 p m ∧ SeqR s xs m e) m ∧ RCop s x p m ss ss1 ∧ RSeq s xs m e ss1 ss'
def RCop (s : ByteArray) : Part → Nat → Nat → List Int → List Int → Prop
  | .mk g kids neg ps mn mx, p, e, ss, ss' => RLoop s (.mk g kids neg ps mn mx) e (fun l q a b => if g = 0 then b = a else RSeq s kids l q (((clearS kids a).set (2 * g) l).set (2 * g + 1) q) b) 0 p ss ss'
end

/-- Only spans of these groups differ. -/
def Off (gs : List Nat) (a b : List Int) : Prop := b.length = a.length ∧ ∀ k, k / 2 ∉ gs → b.getD k 0 = a.getD k 0

theorem Off.refl (gs : List Nat) (a : List Int) : Off gs a a := ⟨rfl, fun _ _ => rfl⟩
theorem Off.trans {gs : List Nat} {a b c : List Int} (h : Off gs a b) (k : Off gs b c) : Off gs a c := ⟨k.1.trans h.1, fun i hi => (k.2 i hi).trans (h.2 i hi)⟩
theorem Off.mono {gs hs : List Nat} {a b : List Int} (h : Off gs a b) (hk : ∀ g, g ∈ gs → g ∈ hs) : Off hs a b := ⟨h.1, fun i hi => h.2 i (fun hc => hi (hk _ hc))⟩
theorem Off.set2 (a : List Int) (g : Nat) (u v : Int) : Off [g] a ((a.set (2 * g) u).set (2 * g + 1) v) := by
  refine ⟨by simp, fun k hk => ?_⟩
  simp only [List.mem_singleton] at hk
  rw [getD_set, getD_set, if_neg (by omega), if_neg (by omega)]

mutual
theorem clearS_off : ∀ (ps : List Part) (a : List Int), Off (grpsL ps) a (clearS ps a)
  | [], a => by simp only [clearS]; exact Off.refl _ _
  | x :: xs, a => by
    simp only [clearS, grpsL]
    exact ((clearP_off x a).mono (fun g h => List.mem_append_left _ h)).trans ((clearS_off xs _).mono (fun g h => List.mem_append_right _ h))
theorem clearP_off : ∀ (x : Part) (a : List Int), Off (grpsP x) a (clearP x a)
  | .mk g kids neg ps mn mx, a => by
    simp only [clearP, grpsP]
    split
    · exact Off.refl _ _
    · exact ((Off.set2 a g (-1) (-1)).mono (fun g h => by simp only [List.mem_singleton] at h; subst h; exact List.mem_cons_self)).trans ((clearS_off kids _).mono (fun g h => List.mem_cons_of_mem _ h))
end

/-- These groups have no span. -/
def Bare (gs : List Nat) (a : List Int) : Prop := ∀ k, k / 2 ∈ gs → k < a.length → a.getD k 0 = -1

theorem Bare.off {gs hs : List Nat} {a b : List Int} (h : Bare gs a) (ho : Off hs a b) (hd : ∀ g, g ∈ gs → g ∉ hs) : Bare gs b := fun k hk hl => by
  rw [ho.2 k (hd _ hk)]; exact h k hk (by rw [← ho.1]; exact hl)

/-- Setting to none keeps none. -/
theorem neg_keeps (a : List Int) (g k : Nat) (h : a.getD k 0 = -1) : ((a.set (2 * g) (-1)).set (2 * g + 1) (-1)).getD k 0 = -1 := by
  rw [getD_set, getD_set]
  split
  · rfl
  · split
    · rfl
    · exact h

mutual
theorem clearS_keeps : ∀ (ps : List Part) (a : List Int) (k : Nat), a.getD k 0 = -1 → (clearS ps a).getD k 0 = -1
  | [], a, k, h => by simp only [clearS]; exact h
  | x :: xs, a, k, h => by simp only [clearS]; exact clearS_keeps xs _ k (clearP_keeps x a k h)
theorem clearP_keeps : ∀ (x : Part) (a : List Int) (k : Nat), a.getD k 0 = -1 → (clearP x a).getD k 0 = -1
  | .mk g kids neg ps mn mx, a, k, h => by
    simp only [clearP]
    split
    · exact h
    · exact clearS_keeps kids _ k (neg_keeps a g k h)
end

mutual
theorem clearS_bare : ∀ (ps : List Part) (a : List Int), Bare (grpsL ps) (clearS ps a)
  | [], a => by intro k hk; simp [grpsL] at hk
  | x :: xs, a => by
    intro k hk hl
    simp only [clearS] at hl ⊢
    simp only [grpsL, List.mem_append] at hk
    rcases hk with hk | hk
    · exact clearS_keeps xs _ k (clearP_bare x a k hk (by rw [← (clearS_off xs _).1]; exact hl))
    · exact clearS_bare xs _ k hk hl
theorem clearP_bare : ∀ (x : Part) (a : List Int), Bare (grpsP x) (clearP x a)
  | .mk g kids neg ps mn mx, a => by
    intro k hk hl
    simp only [clearP] at hl ⊢
    simp only [grpsP] at hk
    split at hk
    · simp at hk
    · next hg =>
      rw [if_neg hg] at hl ⊢
      rcases List.mem_cons.1 hk with hk | hk
      · refine clearS_keeps kids _ k ?_
        have hl' := (clearS_off kids ((a.set (2 * g) (-1)).set (2 * g + 1) (-1))).1
        rw [hl', List.length_set, List.length_set] at hl
        rw [getD_set, getD_set, List.length_set]
        by_cases h1 : 2 * g + 1 = k
        · rw [if_pos ⟨h1, hl⟩]
        · rw [if_neg (by omega), if_pos ⟨by omega, hl⟩]
      · exact clearS_bare kids _ k hk hl
end

theorem ext_getD {a b : List Int} (hl : a.length = b.length) (h : ∀ k, k < a.length → a.getD k 0 = b.getD k 0) : a = b := by
  apply List.ext_getElem hl
  intro i h1 h2
  have := h i h1
  rw [List.getD_eq_getElem?_getD, List.getD_eq_getElem?_getD, List.getElem?_eq_getElem h1, List.getElem?_eq_getElem h2] at this
  exact this

/-- Whatever copies before did within a group: cleared, and the group's span set anew, it is as if they had done nothing. -/
theorem reset {kids : List Part} {g : Nat} {ss s1 : List Int} (hB : Bare (grpsL kids) ss) (ho : Off (g :: grpsL kids) ss s1) (l q : Int) :
    ((clearS kids s1).set (2 * g) l).set (2 * g + 1) q = (ss.set (2 * g) l).set (2 * g + 1) q := by
  have hc := clearS_off kids s1
  have hlen : (clearS kids s1).length = ss.length := hc.1.trans ho.1
  refine ext_getD (by simp [hlen]) fun k hk => ?_
  simp only [List.length_set] at hk
  rw [getD_set, getD_set, getD_set, getD_set, List.length_set, List.length_set, hlen]
  rw [hlen] at hk
  by_cases h1 : 2 * g + 1 = k
  · rw [if_pos ⟨h1, hk⟩, if_pos ⟨h1, hk⟩]
  · simp only [h1, false_and, if_false]
    by_cases h2 : 2 * g = k
    · rw [if_pos ⟨h2, hk⟩, if_pos ⟨h2, hk⟩]
    · simp only [h2, false_and, if_false]
      by_cases hm : k / 2 ∈ grpsL kids
      · rw [clearS_bare kids s1 k hm (by rw [hlen]; exact hk), hB k hm hk]
      · rw [hc.2 k hm, ho.2 k (fun h => by
          rcases List.mem_cons.1 h with h | h
          · omega
          · exact hm h)]

theorem rloop_last {s : ByteArray} {x : Part} {e : Nat} {body : Nat → Nat → List Int → List Int → Prop} {gs : List Nat} (hb : ∀ l q a b, body l q a b → Off gs a b) {n p : Nat} {ss s2 : List Int} (h : RLoop s x e body n p ss s2) :
    ∀ l, ∃ n' l', LoopR s x e n p l n' l' ∧ Off gs ss s2 ∧ ((n' = n ∧ s2 = ss) ∨ (n < n' ∧ ∃ s1, Off gs ss s1 ∧ body l' e s1 s2)) := by
  induction h with
  | stop h1 => intro l; exact ⟨_, l, .stop h1, Off.refl _ _, .inl ⟨rfl, rfl⟩⟩
  | @more n p r ss s1 s2 h1 h2 h3 _ ih =>
    intro l
    obtain ⟨n', l', k1, k2, k3⟩ := ih p
    refine ⟨n', l', .more h1 h2 k1, (hb _ _ _ _ h3).trans k2, .inr ?_⟩
    rcases k3 with ⟨k4, k5⟩ | ⟨k4, s3, k5, k6⟩
    · rcases k1.last with ⟨_, k7, k8⟩ | ⟨k7, _⟩
      · refine ⟨by omega, ss, Off.refl _ _, ?_⟩
        rw [k7, ← k8, k5]; exact h3
      · omega
    · exact ⟨by omega, s3, (hb _ _ _ _ h3).trans k5, k6⟩

mutual
theorem rseq_off (s : ByteArray) : ∀ (ps : List Part) (p e : Nat) (ss a : List Int), RSeq s ps p e ss a → Off (grpsL ps) ss a
  | [], p, e, ss, a, h => by
    simp only [RSeq] at h
    subst h; exact Off.refl _ _
  | x :: xs, p, e, ss, a, h => by
    simp only [RSeq] at h
    obtain ⟨m, s1, _, h2, h3⟩ := h
    simp only [grpsL]
    exact ((rcop_off s x p m ss s1 h2).mono (fun g h => List.mem_append_left _ h)).trans ((rseq_off s xs m e s1 a h3).mono (fun g h => List.mem_append_right _ h))
theorem rcop_off (s : ByteArray) : ∀ (x : Part) (p e : Nat) (ss a : List Int), RCop s x p e ss a → Off (grpsP x) ss a
  | .mk g kids neg ps mn mx, p, e, ss, a, h => by
    simp only [RCop] at h
    obtain ⟨n', l', _, h2, _⟩ := rloop_last (gs := grpsP (.mk g kids neg ps mn mx)) (fun l q a b hb => by
      simp only [grpsP]
      split at hb
      · next hg => rw [hb]; exact Off.refl _ _
      · next hg =>
        rw [if_neg hg]
        exact (((clearS_off kids a).mono (fun g h => List.mem_cons_of_mem _ h)).trans ((Off.set2 _ g l q).mono (fun g h => by simp only [List.mem_singleton] at h; subst h; exact List.mem_cons_self))).trans ((rseq_off s kids l q _ b hb).mono (fun g h => List.mem_cons_of_mem _ h))) h p
    exact h2
end

mutual
/-- The document's spans are the program's: the last copy alone counts. -/
theorem rseq_span (s : ByteArray) : ∀ (ps : List Part) (p e : Nat) (ss a : List Int), (grpsL ps).Nodup → Bare (grpsL ps) ss → RSeq s ps p e ss a → SpanR s ps p e ss a
  | [], p, e, ss, a, _, _, h => by
    simp only [RSeq] at h
    simp only [SpanR]
    exact h
  | x :: xs, p, e, ss, a, hn, hB, h => by
    simp only [RSeq] at h
    simp only [SpanR]
    simp only [grpsL] at hn hB
    obtain ⟨m, s1, h1, h2, h3⟩ := h
    have hd := List.nodup_append.1 hn
    have ho := rcop_off s x p m ss s1 h2
    refine ⟨m, s1, h1, rcop_span s x p m ss s1 hd.1 (fun k hk hl => hB k (List.mem_append_left _ hk) hl) h2, rseq_span s xs m e s1 a hd.2.1 ?_ h3⟩
    exact Bare.off (fun k hk hl => hB k (List.mem_append_right _ hk) hl) ho (fun g h1 h2 => hd.2.2 g h2 g h1 rfl)
theorem rcop_span (s : ByteArray) : ∀ (x : Part) (p e : Nat) (ss a : List Int), (grpsP x).Nodup → Bare (grpsP x) ss → RCop s x p e ss a → SpanC s x p e ss a
  | .mk g kids neg ps mn mx, p, e, ss, a, hn, hB, h => by
    have ho := rcop_off s _ p e ss a h
    simp only [RCop] at h
    simp only [SpanC]
    simp only [grpsP] at hn hB ho
    split
    · next hg =>
      rw [if_pos hg] at ho
      exact ext_getD ho.1 (fun k _ => ho.2 k (by simp))
    · next hg =>
      rw [if_neg hg] at hn hB ho
      obtain ⟨hn1, hn2⟩ := List.nodup_cons.1 hn
      obtain ⟨n', l', k1, _, k3⟩ := rloop_last (gs := g :: grpsL kids) (fun l q a b hb => by
        rw [if_neg hg] at hb
        exact (((clearS_off kids a).mono (fun g h => List.mem_cons_of_mem _ h)).trans ((Off.set2 _ g l q).mono (fun g h => by simp only [List.mem_singleton] at h; subst h; exact List.mem_cons_self))).trans ((rseq_off s kids l q _ b hb).mono (fun g h => List.mem_cons_of_mem _ h))) h p
      refine ⟨n', l', k1, ?_⟩
      rcases k3 with ⟨k4, k5⟩ | ⟨k4, s3, k5, k6⟩
      · rw [if_pos k4]; exact k5
      · rw [if_neg (by omega)]
        rw [if_neg hg, reset (fun k hk hl => hB k (List.mem_cons_of_mem _ hk) hl) k5] at k6
        refine rseq_span s kids l' e _ a hn2 ?_ k6
        exact Bare.off (fun k hk hl => hB k (List.mem_cons_of_mem _ hk) hl) (Off.set2 ss g l' e) (fun g' h1 h2 => by simp only [List.mem_singleton] at h2; subst h2; exact hn1 h1)
end
end Go.Proofs.Ytjlgccfibkcgbaa

namespace Go.Proofs.Ytjlgccfibkcgbaa
open Go.RowKit Go.Shelf

theorem count_g (s : ByteArray) (r : Part × St) : (countS s r).2.g = r.2.g := by
  unfold countS
  split
  · rfl
  · split
    · rfl
    · split
      · simp only [bounds_g]; rfl
      · rfl
theorem grps_upd (x : Part) (a b : Int) : grpsP (upd x a b) = grpsP x := by
  obtain ⟨g, kids, neg, ps, mn, mx⟩ := x
  simp only [upd, grpsP]
theorem grps_count (s : ByteArray) (r : Part × St) : grpsP (countS s r).1 = grpsP r.1 := by
  unfold countS
  split
  · rfl
  · split
    · exact grps_upd _ _ _
    · split
      · exact grps_upd _ _ _
      · rfl

/-- Numbers above lo, at most hi, all different. -/
def Num (lo hi : Nat) (gs : List Nat) : Prop := lo ≤ hi ∧ gs.Nodup ∧ ∀ g, g ∈ gs → lo < g ∧ g ≤ hi

theorem Num.nil {lo hi : Nat} (h : lo ≤ hi) : Num lo hi [] := ⟨h, List.nodup_nil, fun _ h => by cases h⟩
theorem Num.app {lo mid hi : Nat} {a b : List Nat} (h : Num lo mid a) (k : Num mid hi b) : Num lo hi (a ++ b) := by
  refine ⟨Nat.le_trans h.1 k.1, List.nodup_append.2 ⟨h.2.1, k.2.1, fun x hx y hy e => ?_⟩, fun g hg => ?_⟩
  · have := h.2.2 x hx
    have := k.2.2 y hy
    omega
  · have := h.1
    have := k.1
    rcases List.mem_append.1 hg with hg | hg
    · have := h.2.2 g hg; omega
    · have := k.2.2 g hg; omega
theorem Num.cons {lo hi : Nat} {a : List Nat} (h : Num (lo + 1) hi a) : Num lo hi ((lo + 1) :: a) := by
  refine ⟨by have := h.1; omega, List.nodup_cons.2 ⟨fun hm => ?_, h.2.1⟩, fun g hg => ?_⟩
  · have := h.2.2 _ hm; omega
  · have := h.1
    rcases List.mem_cons.1 hg with hg | hg
    · omega
    · have := h.2.2 g hg; omega

theorem grpsL_app : ∀ (a b : List Part), grpsL (a ++ b) = grpsL a ++ grpsL b
  | [], b => rfl
  | x :: a, b => by simp only [List.cons_append, grpsL, grpsL_app a b, List.append_assoc]

theorem num_all (s : ByteArray) (n : Nat) :
    (∀ st, Num st.g (partS s n st).2.g (grpsP (partS s n st).1)) ∧ (∀ st, Num st.g (escS s n st).2.g (grpsP (escS s n st).1)) ∧ (∀ inner st l lo, Num lo st.g (grpsL l) → Num lo (partsS s inner n st l).2.g (grpsL (partsS s inner n st l).1)) := by
  have he : ∀ st : St, Num st.g (spoil st).g (grpsP emptyP) := fun st => by
    simp only [emptyP, grpsP, if_pos]; exact Num.nil (Nat.le_refl _)
  have hs : ∀ (st : St) (c : Int), Num st.g (adv st).g (grpsP (singleP c)) := fun st c => by
    simp only [singleP, grpsP, if_pos]; exact Num.nil (Nat.le_refl _)
  induction n with
  | zero =>
    refine ⟨fun st => ?_, fun st => ?_, fun inner st l lo h => ?_⟩
    · simp only [partS]; exact he st
    · simp only [escS]; exact he st
    · simp only [partsS]; exact h
  | succ n ih =>
    obtain ⟨ihp, ihe, ihs⟩ := ih
    refine ⟨fun st => ?_, fun st => ?_, fun inner st l lo h => ?_⟩
    · rw [partS]
      split
      · exact he st
      · rw [count_g, grps_count]
        split
        · simp only [grpsP, if_pos]; exact Num.nil (Nat.le_refl _)
        · split
          · simp only [grpsP, if_pos, set_g]; exact Num.nil (Nat.le_refl _)
          · split
            · exact ihe (adv st)
            · exact hs st _
    · rw [escS]
      split
      · exact he st
      · split
        · exact hs st _
        · split
          · exact hs st _
          · simp only [grpsP, eatIf_g]
            rw [if_neg (by omega)]
            exact Num.cons (ihs true (opened st) [] (st.g + 1) (by simp only [grpsL]; exact Num.nil (Nat.le_refl _)))
    · rw [partsS]
      split
      · exact h
      · refine ihs inner _ _ lo ?_
        rw [grpsL_app]
        simp only [grpsL, List.append_nil]
        exact h.app (ihp st)

/-- The groups of an expression are all different, from 1 on. -/
theorem ex_num (s : ByteArray) : ∃ hi, Num 0 hi (grpsL (exS s).1.parts) := by
  have h := (num_all s (2 * s.size + 2)).2.2 false (advIf s 94 (zeroed ⟨0, false, 0⟩)) [] (advIf s 94 (zeroed ⟨0, false, 0⟩)).g (by simp only [grpsL]; exact Num.nil (Nat.le_refl _))
  have hg : (advIf s 94 (zeroed ⟨0, false, 0⟩)).g = 0 := by unfold advIf; split <;> rfl
  rw [hg] at h
  exact ⟨_, h⟩
end Go.Proofs.Ytjlgccfibkcgbaa

namespace Go.Proofs.Ytjlgccfibkcgbaa
open Go.RowKit Go.Shelf

/-- The reference's Pick: its block, and the row of spans (full: with the two places ahead that the program's list has). -/
structure PkC (w : World) (kb sb : Nat) (s : ByteArray) (n : Nat) (full : List Int) : Prop where
  blk : Blk w kb #[.string s, .slice (some ⟨sb, 0, none⟩) n n] 87
  row : Blk w sb ((full.drop 2).map fun x => Value.int .i64 x).toArray 3
  len : full.length = n + 2
  ne : kb ≠ sb

theorem PkC.set {w : World} {kb sb : Nat} {s : ByteArray} {n : Nat} {full : List Int} (h : PkC w kb sb s n full) (i : Nat) (hi : 2 ≤ i) (v : Int) : PkC (w.setCell ⟨sb, i - 2, none⟩ (.int .i64 v)) kb sb s n (full.set i v) := by
  refine ⟨h.blk.other (by intro e; exact h.ne e.symm) _, h.row.set (i - 2) _ ?_, by rw [List.length_set]; exact h.len, h.ne⟩
  rw [List.drop_set, if_neg (by omega)]
  simp

theorem PkC.cell {w : World} {kb sb : Nat} {s : ByteArray} {n : Nat} {full : List Int} (h : PkC w kb sb s n full) {i : Nat} (hi : i < n) : ∃ y, w.cell? ⟨sb, i, none⟩ = some (.int .i64 y) := by
  have hl := h.len
  have h1 : i < (full.drop 2).length := by rw [List.length_drop]; omega
  exact ⟨(full.drop 2)[i], h.row.cell i (by simp)⟩

theorem PkC.kp {w w' : World} {kb sb : Nat} {s : ByteArray} {n : Nat} {full : List Int} (h : PkC w kb sb s n full) (hk : Below w.heap.size w w') : PkC w' kb sb s n full := ⟨h.blk.below hk, h.row.below hk, h.len, h.ne⟩

theorem parts_ok {ok : Nat → Prop} {w : World} {l : List Part} {xs : List Value} {ka : Option Addr} {kl kc : Nat} (hr : Row ok w (.slice ka kl kc) l.length xs) (hk : KRep ok w l xs) (k : Nat) (h : k < l.length) :
    ∃ g cap, ka = some ⟨g, 0, none⟩ ∧ kl = l.length ∧ kc = cap ∧ l.length ≤ cap ∧ ok g ∧ g < w.heap.size ∧ ∃ gg ka2 kl2 kc2 neg ps mn mx, PartV ok w l[k] (.agg #[.int .i64 gg, .slice ka2 kl2 kc2, .bool neg, .string ps, .int .i64 mn, .int .i64 mx]) ∧
      w.cell? ⟨g, k * 6, none⟩ = some (.int .i64 gg) ∧ w.cell? ⟨g, k * 6 + 1, none⟩ = some (.slice ka2 kl2 kc2) ∧ w.cell? ⟨g, k * 6 + 2, none⟩ = some (.bool neg) ∧ w.cell? ⟨g, k * 6 + 3, none⟩ = some (.string ps) ∧ w.cell? ⟨g, k * 6 + 4, none⟩ = some (.int .i64 mn) ∧ w.cell? ⟨g, k * 6 + 5, none⟩ = some (.int .i64 mx) := by
  obtain ⟨c, hp, hc⟩ := KRep.at l xs k h hk
  have hok := hr.2
  rcases hr.1.2 with ⟨h1, h2⟩ | ⟨g, cap, cur, h1, _, hg, hle, _, hsz, htake⟩
  · omega
  · rw [h1] at hok
    simp only [Value.slice.injEq] at h1
    obtain ⟨rfl, rfl, rfl⟩ := h1
    have hcell : ∀ o, o < 6 → w.cell? ⟨g, k * 6 + o, none⟩ = c[o]? := by
      intro o ho
      rw [cell_of_row w g (k * 6 + o) cur 72 (0, 0) hg, ← hc o ho, ← htake, List.getElem?_take, if_pos (by omega)]
      simp
    generalize l[k] = x at *
    obtain ⟨gg, kids, neg, ps, mn, mx⟩ := x
    simp only [PRep] at hp
    obtain ⟨ka2, kl2, kc2, ys, rfl, h3, h4⟩ := hp
    exact ⟨g, _, rfl, rfl, rfl, hle, hok g rfl, (Array.getElem?_eq_some_iff.1 hg).1, gg, ka2, kl2, kc2, neg, ps, mn, mx, ⟨ka2, kl2, kc2, ys, rfl, h3, h4⟩, hcell 0 (by omega), hcell 1 (by omega), hcell 2 (by omega), hcell 3 (by omega), hcell 4 (by omega), hcell 5 (by omega)⟩

theorem WFs.at {G : Nat} : ∀ (l : List Part) (k : Nat) (h : k < l.length), WFs G l → WF G l[k]
  | [], k, h, _ => by simp at h
  | x :: xs, 0, _, hw => by simp only [WFs] at hw; exact hw.1
  | x :: xs, k + 1, h, hw => by simp only [WFs] at hw; exact WFs.at xs k (by simpa using h) hw.2

theorem i64w (n : Int) (h : -9223372036854775808 ≤ n ∧ n ≤ 9223372036854775807) : IntKind.i64.wrap n = n := by
  simp [IntKind.wrap, IntKind.signed, IntKind.bits]; omega

def ClearC (ps : List Part) : Prop := ∀ (G B kb sb : Nat) (s : ByteArray) (n : Nat) (full : List Int) (ka : Option Addr) (kl kc : Nat) (xs : List Value) (w : World), WFs G ps → 2 * G + 2 ≤ full.length → G ≤ 9 → ps.length ≤ 4000000 → B ≤ kb → B ≤ sb → PkC w kb sb s n full → Row (fun k => k < B) w (.slice ka kl kc) ps.length xs → KRep (fun k => k < B) w ps xs →
  Calls Try.prog 36 #[.pointer (some ⟨kb, 0, none⟩), .slice ka kl kc] w fun e w' => e = .returned (.tuple #[]) ∧ PkC w' kb sb s n (clearS ps full) ∧ Kp sb w w'

set_option maxRecDepth 100000 in
set_option maxHeartbeats 1000000 in
theorem clear_list (ps : List Part) (IH : ∀ k (h : k < ps.length), ClearC ps[k].kids) : ClearC ps := by
  intro G B kb sb s n full ka kl kc xs w hWF hlen hG hps hkb hsb hP hR hK
  go_enter Try.func36, Try.ntmps36
  go_wp2_with fail
  have hkl := hR.slen
  subst hkl
  go_loopg [4] ps.length (fun c iv w' => ∃ (j : Nat) (cur : List Int), iv = .int .i64 j ∧ j + c = ps.length ∧ PkC w' kb sb s n cur ∧ Kp sb w w' ∧ cur.length = full.length ∧ Hid (clearS (ps.drop j) cur = clearS ps full))
  case atStart => exact ⟨0, full, rfl, by omega, hP, Kp.refl _ _, rfl, by rw [List.drop_zero]; exact rfl⟩
  case round =>
    obtain ⟨j, cur, rfl, hjc, hPj, hkj, hcl, HQ⟩ := hrel
    by_cases hlt : j < ps.length
    · have hd : (j : Int) < ps.length := by omega
      have hag : Agree (fun k => k < B) w wr := ⟨hkj.size, fun k hk hl => hkj.block k hl (by omega)⟩
      obtain ⟨g, cap, rfl, -, rfl, hcap, hgB, hglt, gg, ka2, kl2, kc2, neg, pps, mn, mx, hPV, c0, c1, c2, c3, c4, c5⟩ := parts_ok (hR.agree hag) (KRep.agree hag _ _ hK) j hlt
      have hW := WFs.at ps j hlt hWF
      have hIH := IH j hlt
      have hdr : ps.drop j = ps[j] :: ps.drop (j + 1) := List.drop_eq_getElem_cons hlt
      have HD := hide hdr
      clear hdr
      generalize ps[j] = x at *
      obtain ⟨gn, kids, ng, pp, m1, m2⟩ := x
      simp only [PartV] at hPV
      obtain ⟨ka3, kl3, kc3, ys, he, hRk, hKk⟩ := hPV
      simp only [Value.agg.injEq, Array.mk.injEq, List.cons.injEq, Value.int.injEq, Value.slice.injEq, true_and, and_true] at he
      obtain ⟨rfl, ⟨rfl, rfl, rfl⟩, -⟩ := he
      simp only [WF] at hW
      obtain ⟨hg1, -, -, -, -, -, hkl, hWk⟩ := hW
      have b0 := hPj.blk.cell 0 rfl
      have b1 := hPj.blk.cell 1 rfl
      have bf := hPj.blk.fz 0
      have hPl := hPj.len
      by_cases hg0 : gn = 0
      · subst hg0
        have HX := hide (And.intro hPj (And.intro hkj (And.intro hcl hIH)))
        clear hPj hkj hIH hRk hKk hWk hag
        go_wp2_with fail
        go_roundg (gk - 1)
        case measure => omega
        case rel =>
          refine ⟨j + 1, cur, by go_num, by omega, HX.out.1, HX.out.2.1, HX.out.2.2.1, ?_⟩
          have := HQ.out
          rw [HD.out] at this
          simp only [clearS, clearP, if_pos] at this
          exact this
      · have hgp : (0 : Int) < gn := by omega
        have HX := hide (And.intro hPj (And.intro hkj (And.intro hcl (And.intro hIH (And.intro hRk (And.intro hKk hWk))))))
        clear hPj hkj hIH hRk hKk hWk hag
        obtain ⟨i0, hi0⟩ : ∃ i0 : Nat, i0 = 2 * gn - 2 := ⟨_, rfl⟩
        have hin : (i0 : Int) < n := by omega
        have hin1 : (i0 : Int) + 1 < n := by omega
        have hin2 : i0 < n := by omega
        have hin3 : i0 + 1 < n := by omega
        have rf := HX.out.1.row.fz
        obtain ⟨y0, r0⟩ := HX.out.1.cell hin2
        obtain ⟨y1, r1⟩ := HX.out.1.cell hin3
        have hne : kb ≠ sb := HX.out.1.ne
        have v1 : IntKind.i64.wrap (2 * (gn : Int)) = 2 * (gn : Int) := i64w _ (by omega)
        have v2 : IntKind.i64.wrap (2 * (gn : Int) - 2) = (i0 : Int) := (i64w _ (by omega)).trans (by omega)
        have v3 : IntKind.i64.wrap (2 * (gn : Int) - 1) = (i0 : Int) + 1 := (i64w _ (by omega)).trans (by omega)
        have HI := hide hi0
        clear hi0
        go_wp2_with fail
        go_region
        go_wp2_with fail
        go_region
        go_wp2_with fail
        obtain ⟨hPj, hkj, hcl, hIH, hRk, hKk, hWk⟩ := HX.out
        have e0 : 2 * gn - 2 = i0 := HI.out.symm
        have e1 : 2 * gn + 1 - 2 = i0 + 1 := by omega
        have hP2 := (hPj.set (2 * gn) (by omega) (-1)).set (2 * gn + 1) (by omega) (-1)
        rw [e0, e1] at hP2
        have hk2 : Kp sb wr ((wr.setCell ⟨sb, i0, none⟩ (.int .i64 (-1))).setCell ⟨sb, i0 + 1, none⟩ (.int .i64 (-1))).drew.drew := ((((Kp.refl sb wr).set i0 (.int .i64 (-1))).set (i0 + 1) (.int .i64 (-1))).drew).drew
        have hP3 : PkC ((wr.setCell ⟨sb, i0, none⟩ (.int .i64 (-1))).setCell ⟨sb, i0 + 1, none⟩ (.int .i64 (-1))).drew.drew kb sb s n ((cur.set (2 * gn) (-1)).set (2 * gn + 1) (-1)) := ⟨hP2.blk, hP2.row, hP2.len, hP2.ne⟩
        have hag2 : Agree (fun k => k < B) wr ((wr.setCell ⟨sb, i0, none⟩ (.int .i64 (-1))).setCell ⟨sb, i0 + 1, none⟩ (.int .i64 (-1))).drew.drew := ⟨hk2.size, fun k hk hl => hk2.block k hl (by omega)⟩
        have hcall := hIH G B kb sb s n ((cur.set (2 * gn) (-1)).set (2 * gn + 1) (-1)) ka2 kl2 kc2 ys _ hWk (by simp only [List.length_set]; omega) hG hkl hkb hsb hP3 (hRk.agree hag2) (KRep.agree hag2 _ _ hKk)
        have HC := hide (And.intro hcall hk2)
        clear hcall hk2 hP2 hP3 hag2 hPj hkj hIH hRk hKk hWk e0 e1
        refine HC.out.1.mono ?_
        rintro e w5 ⟨rfl, hP5, hk5⟩
        have HY := hide (And.intro hP5 (HC.out.2.trans hk5))
        clear hP5 hk5
        go_wp2_with fail
        go_roundg (gk - 1)
        case measure => omega
        case rel =>
          refine ⟨j + 1, _, by go_num, by omega, HY.out.1, HX.out.2.1.trans HY.out.2, ?_, ?_⟩
          · show (clearS kids ((cur.set (2 * gn) (-1)).set (2 * gn + 1) (-1))).length = full.length
            rw [(clearS_off kids _).1]; simp only [List.length_set]; exact hcl
          · have := HQ.out
            rw [HD.out] at this
            simp only [clearS, clearP] at this
            rw [if_neg hg0] at this
            exact this
    · have hd : ¬ (j : Int) < ps.length := by omega
      have HX := hide (And.intro hPj hkj)
      clear hPj hkj
      go_wp2_with fail
      go_end0
      refine ⟨rfl, ?_, HX.out.2⟩
      have := HQ.out
      rw [List.drop_eq_nil_of_le (by omega)] at this
      simp only [clearS] at this
      rw [← this]; exact HX.out.1

mutual
theorem clear_kids : ∀ x : Part, ClearC x.kids
  | .mk _ kids _ _ _ _ => clear_list kids (clear_at kids)
theorem clear_at : ∀ (l : List Part) (k : Nat) (h : k < l.length), ClearC l[k].kids
  | [], k, h => by simp at h
  | x :: _, 0, _ => clear_kids x
  | _ :: xs, k + 1, h => clear_at xs k (by simpa using h)
end

/-- clear, whole. -/
theorem clear_any (ps : List Part) : ClearC ps := clear_list ps (clear_at ps)
end Go.Proofs.Ytjlgccfibkcgbaa
