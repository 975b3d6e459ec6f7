import Derived.Test.YtmjdaifalgpdnaaGreatRefL
import Derived.RegionTactic
import Derived.BigRegion
import Derived.Deep.OwnRows
import Derived.Deep.RegionWith
import Derived.Deep.DeepCutAuto
namespace Go.Proofs.YtmjdaifalgpdnaaGreat
open Go.RowKit

theorem ret3 {a b c d e f : Value} (h : a = b) (k : c = d) (l : e = f) : Ending.returned (.tuple #[a, c, e]) = .returned (.tuple #[b, d, f]) := by rw [h, k, l]
theorem beq_dec (a b : Nat) : ((a : Int) == (b : Int)) = (!false && decide (a = b)) := by
  rw [Bool.eq_iff_iff]; simp; omega

/-- is c within one of the pairs? -/
def inPairs : List UInt8 → Int → Bool
  | a :: b :: r, c => (decide ((a.toNat : Int) ≤ c) && decide (c ≤ (b.toNat : Int))) || inPairs r c
  | _, _ => false

def oneB (neg : Bool) (ps : ByteArray) (c : Int) : Bool := if inPairs ps.data.toList c then !neg else neg

/-- The copies of an atom from number n on, from one place to another. -/
inductive Copies (A : Nat → Nat → Prop) (mn mx : Int) : Nat → Nat → Nat → Prop
  | stop {n p : Nat} : mn ≤ n → Copies A mn mx n p p
  | more {n p r q : Nat} : (n < mn ∨ mx < 0 ∨ n < mx) → A p r → (p < r ∨ n < mn) → Copies A mn mx (n + 1) r q → Copies A mn mx n p q

def Part.mn : Part → Int | .mk _ _ _ _ mn _ => mn
def Part.mx : Part → Int | .mk _ _ _ _ _ mx => mx
def Part.g : Part → Nat | .mk g _ _ _ _ _ => g
def Part.kids : Part → List Part | .mk _ k _ _ _ _ => k

mutual
/-- one copy of the part's atom, from one place to another. -/
def AtomR (s : ByteArray) : Part → Nat → Nat → Prop
  | .mk g kids neg ps _ _, p, q => if g = 0 then q = p + 1 ∧ ∃ h : p < s.size, oneB neg ps (s[p]'h).toNat = true else SeqR s kids p q
/-- the parts, one behind the other. -/
def SeqR (s : ByteArray) : List Part → Nat → Nat → Prop
  | [], p, q => p = q
  | x :: xs, p, q => ∃ r, Copies (AtomR s x) x.mn x.mx 0 p r ∧ SeqR s xs r q
end

theorem Copies.bound {A : Nat → Nat → Prop} {mn mx : Int} {N : Nat} (hA : ∀ p q, p ≤ N → A p q → p ≤ q ∧ q ≤ N) {n p q : Nat} (h : Copies A mn mx n p q) : p ≤ N → p ≤ q ∧ q ≤ N := by
  induction h with
  | stop _ => intro h; exact ⟨Nat.le_refl _, h⟩
  | more _ ha _ _ ih =>
    intro hp
    have h1 := hA _ _ hp ha
    have h2 := ih h1.2
    omega

mutual
theorem AtomR.bound (s : ByteArray) : ∀ (x : Part) (p q : Nat), p ≤ s.size → AtomR s x p q → p ≤ q ∧ q ≤ s.size
  | .mk g kids neg ps mn mx, p, q, hp, h => by
    simp only [AtomR] at h
    split at h
    · obtain ⟨h1, h2, _⟩ := h; omega
    · exact SeqR.bound s kids p q hp h
theorem SeqR.bound (s : ByteArray) : ∀ (l : List Part) (p q : Nat), p ≤ s.size → SeqR s l p q → p ≤ q ∧ q ≤ s.size
  | [], p, q, hp, h => by simp only [SeqR] at h; omega
  | x :: xs, p, q, hp, h => by
    simp only [SeqR] at h
    obtain ⟨r, h1, h2⟩ := h
    have h3 := h1.bound (N := s.size) (fun p q hp ha => AtomR.bound s x p q hp ha) hp
    have h4 := SeqR.bound s xs r q h3.2 h2
    omega
end

end Go.Proofs.YtmjdaifalgpdnaaGreat

namespace Go.Proofs.YtmjdaifalgpdnaaGreat
open Go.RowKit

mutual
/-- What the reader of expressions makes. -/
def WF (G : Nat) : Part → Prop
  | .mk g kids _ ps mn mx => g ≤ G ∧ ps.size ≤ 2097152 ∧ 0 ≤ mn ∧ mn ≤ 9 ∧ -1 ≤ mx ∧ mx ≤ 9 ∧ kids.length ≤ 4000000 ∧ WFs G kids
def WFs (G : Nat) : List Part → Prop
  | [] => True
  | x :: xs => WF G x ∧ WFs G xs
end

mutual
theorem WF.mono {G H : Nat} (h : G ≤ H) : ∀ x, WF G x → WF H x
  | .mk g kids neg ps mn mx, hw => by
    simp only [WF] at hw ⊢
    obtain ⟨h1, h2, h3, h4, h5, h6, h7, h8⟩ := hw
    exact ⟨by omega, h2, h3, h4, h5, h6, h7, WFs.mono h kids h8⟩
theorem WFs.mono {G H : Nat} (h : G ≤ H) : ∀ l, WFs G l → WFs H l
  | [], _ => trivial
  | x :: xs, hw => by
    simp only [WFs] at hw ⊢
    exact ⟨WF.mono h x hw.1, WFs.mono h xs hw.2⟩
end

theorem WFs.snoc {G : Nat} : ∀ (l : List Part) (x : Part), WFs G l → WF G x → WFs G (l ++ [x])
  | [], x, _, h => by simp only [List.nil_append, WFs]; exact ⟨h, trivial⟩
  | y :: l, x, hl, h => by
    simp only [WFs] at hl
    simp only [List.cons_append, WFs]
    exact ⟨hl.1, WFs.snoc l x hl.2 h⟩

theorem WF.upd {G : Nat} {x : Part} {mn mx : Int} (h : WF G x) (h1 : 0 ≤ mn) (h2 : mn ≤ 9) (h3 : -1 ≤ mx) (h4 : mx ≤ 9) : WF G (upd x mn mx) := by
  obtain ⟨g, kids, neg, ps, a, b⟩ := x
  simp only [WF, Go.Proofs.YtmjdaifalgpdnaaGreat.upd] at h ⊢
  exact ⟨h.1, h.2.1, h1, h2, h3, h4, h.2.2.2.2.2.2⟩

theorem setLoop_small (s : ByteArray) (hs : s.size ≤ 1048576) : ∀ (n : Nat) (ps : ByteArray) (st : St), st.i ≤ s.size → ps.size ≤ 2 * st.i → (setLoop s n ps st).1.size ≤ 2097152
  | 0, ps, st, h, hp => by simp only [setLoop]; omega
  | n + 1, ps, st, h, hp => by
    rw [setLoop]
    split
    · refine setLoop_small s hs n _ _ (item_le s st h) ?_
      rw [bsize_append]
      rcases item_cases s st with hc | hc
      · rw [hc.1]; show ps.size + 0 ≤ _; omega
      · omega
    · show ps.size ≤ _; omega

theorem set_small (s : ByteArray) (hs : s.size ≤ 1048576) (n : Nat) (st : St) (h : st.i ≤ s.size) : (setS s n st).1.2.size ≤ 2097152 := by
  unfold setS
  simp only []
  cases hn : isB s st 94
  · simp only [Bool.false_eq_true, if_false]
    exact setLoop_small s hs n _ _ h (Nat.zero_le _)
  · simp only [if_true]
    exact setLoop_small s hs n _ _ (Fwd.adv (peekOk_lt (isB_ok hn))).2.1 (Nat.zero_le _)

theorem set_g (s : ByteArray) (n : Nat) (st : St) : (setS s n st).2.g = st.g := by
  have hl : ∀ (n : Nat) (ps : ByteArray) (st : St), (setLoop s n ps st).2.g = st.g := by
    intro n
    induction n with
    | zero => intro ps st; rfl
    | succ n ih => intro ps st; rw [setLoop]; split; rw [ih, item_g]; rfl
  unfold setS
  simp only []
  rw [eatIf_g, hl]
  split <;> rfl

theorem digit_lo2 (s : ByteArray) (m : Int) (hm : 0 ≤ m) (st : St) : 0 ≤ (digitS s (48 + m) st).1 := by unfold digitS; split <;> simp; omega

theorem bounds_ok (s : ByteArray) (st : St) : 0 ≤ (boundsS s st).1.1 ∧ (boundsS s st).1.1 ≤ 9 ∧ -1 ≤ (boundsS s st).1.2 ∧ (boundsS s st).1.2 ≤ 9 := by
  have d1 := digit_lo s st
  have d2 := digit_hi s 48 st
  unfold boundsS
  split
  · split
    · exact ⟨d1, d2, by simp, by simp⟩
    · have e1 := digit_lo2 s (digitS s 48 st).1 d1 (adv (digitS s 48 st).2)
      have e2 := digit_hi s (48 + (digitS s 48 st).1) (adv (digitS s 48 st).2)
      exact ⟨d1, d2, by simp only []; omega, by simp only []; omega⟩
  · exact ⟨d1, d2, by simp only []; omega, by simp only []; omega⟩

theorem bounds_g (s : ByteArray) (st : St) : (boundsS s st).2.g = st.g := by
  unfold boundsS
  split
  · split
    · simp only [eatIf_g]; exact digit_g s 48 st
    · simp only [eatIf_g, digit_g]; exact digit_g s 48 st
  · simp only [eatIf_g, digit_g]

theorem count_wf {s : ByteArray} {G : Nat} {r : Part × St} (h : WF G r.1) : WF G (countS s r).1 ∧ (countS s r).2.g = r.2.g := by
  unfold countS
  split
  · exact ⟨h, rfl⟩
  · split
    · exact ⟨h.upd (by omega) (by omega) (by omega) (by omega), rfl⟩
    · split
      · have hb := bounds_ok s (adv (adv r.2))
        exact ⟨h.upd hb.1 hb.2.1 hb.2.2.1 hb.2.2.2, bounds_g s _⟩
      · exact ⟨h, rfl⟩

theorem wf_plain (G : Nat) (neg : Bool) (ps : ByteArray) (h : ps.size ≤ 2097152) : WF G (.mk 0 [] neg ps 1 1) := by
  simp only [WF, WFs, List.length_nil]; exact ⟨by omega, h, by omega, by omega, by omega, by omega, by omega, trivial⟩
theorem wf_empty (G : Nat) : WF G emptyP := by
  simp only [emptyP, WF, WFs, List.length_nil]; exact ⟨by omega, by decide, by omega, by omega, by omega, by omega, by omega, trivial⟩

theorem wf_all (s : ByteArray) (hs : s.size ≤ 1048576) (n : Nat) (hn : n ≤ 4000000) :
    (∀ st, st.i ≤ s.size → st.g ≤ (partS s n st).2.g ∧ WF (partS s n st).2.g (partS s n st).1) ∧
    (∀ st, st.i ≤ s.size → st.g ≤ (escS s n st).2.g ∧ WF (escS s n st).2.g (escS s n st).1) ∧
    (∀ inner st l, st.i ≤ s.size → WFs st.g l → l.length + n ≤ 4000000 → st.g ≤ (partsS s inner n st l).2.g ∧ WFs (partsS s inner n st l).2.g (partsS s inner n st l).1 ∧ (partsS s inner n st l).1.length ≤ 4000000) := by
  induction n with
  | zero =>
    refine ⟨fun st h => ?_, fun st h => ?_, fun inner st l h hl hln => ?_⟩
    · simp only [partS]; exact ⟨Nat.le_refl _, wf_empty _⟩
    · simp only [escS]; exact ⟨Nat.le_refl _, wf_empty _⟩
    · simp only [partsS]; exact ⟨Nat.le_refl _, hl, by omega⟩
  | succ n ih =>
    obtain ⟨ihp, ihe, ihs⟩ := ih (by omega)
    refine ⟨fun st h => ?_, fun st h => ?_, fun inner st l h hl hln => ?_⟩
    · rw [partS]
      split
      · exact ⟨Nat.le_refl _, wf_empty _⟩
      · next hc =>
        have hlt : st.i < s.size := by
          simp only [not_or] at hc
          exact peekOk_lt (by simpa using hc.1)
        have h1 := Fwd.adv hlt
        have key : ∀ r : Part × St, st.g ≤ r.2.g → WF r.2.g r.1 → st.g ≤ (countS s r).2.g ∧ WF (countS s r).2.g (countS s r).1 := fun r hr hw => by
          have h2 := count_wf (s := s) hw
          rw [h2.2]; exact ⟨hr, h2.1⟩
        split
        · exact key _ (Nat.le_refl _) (wf_plain _ _ _ (by decide +kernel))
        · split
          · refine key _ ?_ (wf_plain _ _ _ (set_small s hs _ _ h1.2.1))
            simp only [set_g]; exact Nat.le_refl _
          · split
            · have := ihe (adv st) h1.2.1
              exact key _ this.1 this.2
            · exact key _ (Nat.le_refl _) (wf_plain _ _ _ (by show 2 ≤ _; omega))
    · rw [escS]
      split
      · exact ⟨Nat.le_refl _, wf_empty _⟩
      · next hc =>
        have hlt : st.i < s.size := by
          simp only [not_or] at hc
          exact peekOk_lt (by simpa using hc.1)
        split
        · exact ⟨Nat.le_refl _, wf_plain _ _ _ (by show 2 ≤ _; omega)⟩
        · split
          · exact ⟨Nat.le_refl _, wf_plain _ _ _ (by show 2 ≤ _; omega)⟩
          · have h3 := ihs true (opened st) [] (by simp [opened]; omega) trivial (by simp; omega)
            have hop : (opened st).g = st.g + 1 := rfl
            rw [hop] at h3
            simp only [eatIf_g, WF]
            exact ⟨by omega, by omega, by decide, by omega, by omega, by omega, by omega, h3.2.2, h3.2.1⟩
    · rw [partsS]
      split
      · exact ⟨Nat.le_refl _, hl, by show l.length ≤ _; omega⟩
      · have h1 := ihp st h
        have h2 := ((fwd_all s n).1 st h).1.2.1
        have h3 := ihs inner (partS s n st).2 (l ++ [(partS s n st).1]) h2 (WFs.snoc _ _ (WFs.mono h1.1 _ hl) h1.2) (by simp; omega)
        exact ⟨by omega, h3.2⟩

end Go.Proofs.YtmjdaifalgpdnaaGreat

namespace Go.Proofs.YtmjdaifalgpdnaaGreat
open Go.RowKit

theorem inPairs_drop (ps : ByteArray) (k : Nat) (c : Int) (h : k + 1 < ps.size) :
    inPairs (ps.data.toList.drop k) c = ((decide ((ps[k].toNat : Int) ≤ c) && decide (c ≤ (ps[k + 1].toNat : Int))) || inPairs (ps.data.toList.drop (k + 2)) c) := by
  have h1 : ps.data.toList.drop k = ps[k] :: ps[k + 1] :: ps.data.toList.drop (k + 2) := by
    rw [List.drop_eq_getElem_cons (by simpa using (show k < ps.size by omega)), List.drop_eq_getElem_cons (i := k + 1) (by simpa using h)]
    rfl
  rw [h1, inPairs]
theorem inPairs_end (ps : ByteArray) (k : Nat) (c : Int) (h : ¬ k + 1 < ps.size) : inPairs (ps.data.toList.drop k) c = false := by
  have : (ps.data.toList.drop k).length ≤ 1 := by simp; omega
  match hl : ps.data.toList.drop k, this with
  | [], _ => rfl
  | [a], _ => rfl

end Go.Proofs.YtmjdaifalgpdnaaGreat

namespace Go.Proofs.YtmjdaifalgpdnaaGreat

/-- Two texts that agree along a stretch. -/
structure Ag (s t : ByteArray) (a b L : Nat) : Prop where
  l : a + L ≤ s.size
  r : b + L ≤ t.size
  e : ∀ k, k < L → ∀ (h1 : a + k < s.size) (h2 : b + k < t.size), s[a + k] = t[b + k]

/-- A reader's state, carried from the one text to the other. -/
abbrev mv (a b : Nat) (st : St) : St := { st with i := b + (st.i - a) }

section
variable {s t : ByteArray} {a b L : Nat} {st : St}

theorem mv_adv (h : a ≤ st.i) : mv a b (adv st) = adv (mv a b st) := by
  have e : st.i + 1 - a = st.i - a + 1 := by omega
  simp only [mv, adv, e]; rfl
theorem mv_spoil : mv a b (spoil st) = spoil (mv a b st) := rfl
theorem mv_opened (h : a ≤ st.i) : mv a b (opened st) = opened (mv a b st) := by
  have e : st.i + 1 - a = st.i - a + 1 := by omega
  simp only [mv, opened, e]; rfl

theorem Ag.ok (H : Ag s t a b L) (h : a ≤ st.i) (h2 : st.i < a + L) : peekOk t (mv a b st) = peekOk s st := by
  have h3 := H.l; have h4 := H.r
  simp only [peekOk]
  congr 1
  rw [decide_eq_decide]; omega
theorem Ag.get (H : Ag s t a b L) {i : Nat} (h : a ≤ i) (h2 : i < a + L) (h3 : i < s.size) (h4 : b + (i - a) < t.size) : t[b + (i - a)] = s[i] := by
  have := H.e (i - a) (by omega) (by omega) h4
  rw [← this]
  congr 1
  omega
theorem Ag.c (H : Ag s t a b L) (h : a ≤ st.i) (h2 : st.i < a + L) : peekC t (mv a b st) = peekC s st := by
  have h3 := H.l; have h4 := H.r
  obtain ⟨i, bd, g⟩ := st
  dsimp only at h h2
  have q1 : i < s.size := by omega
  have q2 : b + (i - a) < t.size := by omega
  unfold peekC
  by_cases hb : bd = false
  · have e1 : (if h : bd = false ∧ i < s.size then ((s[i]'h.2).toNat : Int) else 0) = (s[i]'q1).toNat := dif_pos ⟨hb, q1⟩
    have e2 : (if h : bd = false ∧ b + (i - a) < t.size then ((t[b + (i - a)]'h.2).toNat : Int) else 0) = (t[b + (i - a)]'q2).toNat := dif_pos ⟨hb, q2⟩
    refine e2.trans (Eq.trans ?_ e1.symm)
    rw [H.get h h2 q1 q2]
  · have e1 : (if h : bd = false ∧ i < s.size then ((s[i]'h.2).toNat : Int) else 0) = 0 := dif_neg (fun h => hb h.1)
    have e2 : (if h : bd = false ∧ b + (i - a) < t.size then ((t[b + (i - a)]'h.2).toNat : Int) else 0) = 0 := dif_neg (fun h => hb h.1)
    exact e2.trans e1.symm
theorem Ag.is (H : Ag s t a b L) (c : Int) (h : a ≤ st.i) (h2 : st.i < a + L) : isB t (mv a b st) c = isB s st c := by unfold isB; rw [H.ok h h2, H.c h h2]
theorem Ag.esc (H : Ag s t a b L) (c : Int) (h : a ≤ st.i) (h2 : st.i + 1 < a + L) : isEsc t (mv a b st) c = isEsc s st c := by
  have h3 := H.l; have h4 := H.r
  obtain ⟨i, bd, g⟩ := st
  dsimp only at h h2
  have q1 : i + 1 < s.size := by omega
  have q2 : b + (i - a) + 1 < t.size := by omega
  have e1 := H.get h (by omega) (show i < s.size by omega) (show b + (i - a) < t.size by omega)
  have e2 := H.get (i := i + 1) (by omega) h2 q1 (by omega)
  have e3 : b + (i + 1 - a) = b + (i - a) + 1 := by omega
  simp only [e3] at e2
  unfold isEsc
  have f1 : (if h : i + 1 < s.size then ((((s[i]'(by omega)).toNat : Int) == 92) && ((s[i + 1].toNat : Int) == c)) else false) = ((((s[i]'(by omega)).toNat : Int) == 92) && ((s[i + 1].toNat : Int) == c)) := dif_pos q1
  have f2 : (if h : b + (i - a) + 1 < t.size then ((((t[b + (i - a)]'(by omega)).toNat : Int) == 92) && ((t[b + (i - a) + 1].toNat : Int) == c)) else false) = ((((t[b + (i - a)]'(by omega)).toNat : Int) == 92) && ((t[b + (i - a) + 1].toNat : Int) == c)) := dif_pos q2
  refine congrArg (fun x => !bd && x) (f2.trans (Eq.trans ?_ f1.symm))
  rw [e1, e2]
theorem esc_first {c : Int} (h : isEsc s st c = true) : peekC s st = 92 := by
  have hl := isEsc_lt h
  have hb := isEsc_bad h
  unfold isEsc at h
  rw [dif_pos hl, hb] at h
  simp only [Bool.not_false, Bool.true_and, Bool.and_eq_true, beq_iff_eq] at h
  unfold peekC
  rw [dif_pos ⟨hb, by omega⟩]
  exact h.1

/-- The reader looks at no more than the stretch. -/
def Inn (s : ByteArray) (a L : Nat) (st : St) : Prop := a ≤ st.i ∧ st.i < a + L ∧ (st.i + 1 < a + L ∨ peekC s st ≠ 92)
theorem Ag.esc' (H : Ag s t a b L) (c : Int) (h : Inn s a L st) : isEsc t (mv a b st) c = isEsc s st c := by
  rcases h.2.2 with h2 | h2
  · exact H.esc c h.1 h2
  · have e1 : isEsc s st c = false := by
      cases he : isEsc s st c
      · rfl
      · exact absurd (esc_first he) h2
    rw [e1]
    cases he : isEsc t (mv a b st) c
    · rfl
    · have := esc_first he
      rw [H.c h.1 h.2.1] at this
      exact absurd this h2

theorem item_mv (H : Ag s t a b L) (h : a ≤ st.i) (hb : (itemS s st).2.bad = false) (he : (itemS s st).2.i < a + L) : itemS t (mv a b st) = ((itemS s st).1, mv a b (itemS s st).2) := by
  unfold itemS at hb he ⊢
  by_cases h1 : peekOk s st = false ∨ hasL neverL (peekC s st) = true
  · rw [if_pos h1] at hb; cases hb
  · rw [if_neg h1] at hb he ⊢
    have a1 : a ≤ (adv st).i := by show a ≤ st.i + 1; omega
    have a2 : a ≤ (adv (adv st)).i := by show a ≤ st.i + 1 + 1; omega
    by_cases h2 : isB s (adv st) 45 = false
    · rw [if_pos h2] at hb he ⊢
      have hl : st.i + 1 < a + L := he
      rw [H.ok h (by omega), H.c h (by omega), if_neg h1, ← mv_adv h, H.is 45 a1 hl, if_pos h2]
    · rw [if_neg h2] at hb he ⊢
      by_cases h3 : peekOk s (adv (adv st)) = false ∨ hasL neverL (peekC s (adv (adv st))) = true ∨ peekC s (adv (adv st)) < peekC s st
      · rw [if_pos h3] at hb; cases hb
      · rw [if_neg h3] at hb he ⊢
        have hl : st.i + 1 + 1 + 1 < a + L := he
        have l1 : (adv st).i < a + L := by show st.i + 1 < a + L; omega
        have l2 : (adv (adv st)).i < a + L := by show st.i + 1 + 1 < a + L; omega
        rw [H.ok h (by omega), H.c h (by omega), if_neg h1, ← mv_adv h, H.is 45 a1 l1, if_neg h2, ← mv_adv a1, H.ok a2 l2, H.c a2 l2, if_neg h3, ← mv_adv a2]

theorem digit_mv (H : Ag s t a b L) (lo : Int) (h : a ≤ st.i) (h2 : st.i < a + L) : digitS t lo (mv a b st) = ((digitS s lo st).1, mv a b (digitS s lo st).2) := by
  unfold digitS
  rw [H.ok h h2, H.c h h2]
  split
  · show (_, adv (mv a b st)) = (_, mv a b (adv st))
    rw [mv_adv h]
  · rfl
theorem eat_mv (H : Ag s t a b L) (c : Int) (h : a ≤ st.i) (h2 : st.i < a + L) : eatS t c (mv a b st) = mv a b (eatS s c st) := by
  unfold eatS
  rw [H.is c h h2]
  split
  · show adv (mv a b st) = mv a b (adv st)
    rw [mv_adv h]
  · rfl
theorem eatIf_mv (H : Ag s t a b L) (c : Int) (h : a ≤ st.i) (h2 : st.i < a + L) : eatIf t c (mv a b st) = mv a b (eatIf s c st) := by
  unfold eatIf
  have : (mv a b st).bad = st.bad := rfl
  rw [this]
  split
  · rfl
  · exact eat_mv H c h h2
/-- What was eaten stood there. -/
theorem eatIf_was {c : Int} (h : (eatIf s c st).bad = false) : st.bad = false ∧ isB s st c = true ∧ (eatIf s c st) = adv st := by
  unfold eatIf at h ⊢
  cases hb : st.bad
  · rw [hb] at h
    simp only [Bool.false_eq_true, if_false] at h ⊢
    unfold eatS at h ⊢
    split at h
    · next hc => rw [if_pos hc]; exact ⟨by trivial, hc, rfl⟩
    · cases h
  · rw [hb] at h
    simp only [if_true] at h
    rw [hb] at h; cases h
end
theorem setLoop_mv {s t : ByteArray} {a b L : Nat} (H : Ag s t a b L) : ∀ (n m : Nat) (ps : ByteArray) (st : St), a ≤ st.i → s.size + 1 < st.i + n → t.size + 1 < (mv a b st).i + m → (setLoop s n ps st).2.bad = false → (setLoop s n ps st).2.i < a + L → setLoop t m ps (mv a b st) = ((setLoop s n ps st).1, mv a b (setLoop s n ps st).2)
  | 0, m, ps, st, h, hn, hm, hb, he => by
    have := H.l
    rw [setLoop] at he
    dsimp only at he
    omega
  | n + 1, m, ps, st, h, hn, hm, hb, he => by
    have hF := (Fwd.setLoop (s := s) (n + 1) ps st (by
      by_cases hh : st.i ≤ s.size
      · exact hh
      · exfalso
        have hbb := hb
        rw [setLoop] at hbb he
        have hl := H.l
        split at he
        · next hc =>
          have e : (itemS s st).2 = spoil st := by
            unfold itemS
            rw [if_pos (.inl (by unfold peekOk; rw [hc.1]; simp; omega))]
          rw [if_pos hc, e] at hbb
          have : ∀ (k : Nat) (q : ByteArray), (setLoop s k q (spoil st)).2 = spoil st := fun k q => by rw [setLoop_stop (by intro hh; cases hh.1)]
          rw [this] at hbb
          cases hbb
        · dsimp only at he; omega)).1
    have hlt : st.i < a + L := by omega
    by_cases hc : st.bad = false ∧ (ps.size = 0 ∨ isB s st 93 = false)
    · rw [setLoop_go hc] at hb he ⊢
      have hib : (itemS s st).2.bad = false := by
        cases hx : (itemS s st).2.bad
        · rfl
        · rw [setLoop_stop (by intro hh; rw [hx] at hh; cases hh.1)] at hb
          exact hb.symm.trans hx ▸ rfl
      have hig : st.i < (itemS s st).2.i := by
        rcases item_cases s st with h1 | h1
        · rw [h1.2.1] at hib; cases hib
        · exact h1.2.2.1
      have hls : (itemS s st).2.i ≤ (setLoop s n (ps ++ (itemS s st).1) (itemS s st).2).2.i := by
        by_cases hh : (itemS s st).2.i ≤ s.size
        · exact (Fwd.setLoop n _ _ hh).1
        · exfalso
          have := item_le s st (by have := H.l; omega)
          omega
      have hI := item_mv H h hib (by omega)
      have hct : (mv a b st).bad = false ∧ (ps.size = 0 ∨ isB t (mv a b st) 93 = false) := by rw [H.is 93 h hlt]; exact hc
      obtain ⟨m', rfl⟩ : ∃ m', m = m' + 1 := ⟨m - 1, by have := H.r; have : (mv a b st).i = b + (st.i - a) := rfl; omega⟩
      rw [setLoop_go hct, hI]
      have e1 : (mv a b (itemS s st).2).i = b + ((itemS s st).2.i - a) := rfl
      have e2 : (mv a b st).i = b + (st.i - a) := rfl
      exact setLoop_mv H n m' _ _ (by omega) (by omega) (by omega) hb he
    · rw [setLoop_stop hc] at hb he ⊢
      rw [setLoop_stop (by rw [H.is 93 h hlt]; exact hc)]
end Go.Proofs.YtmjdaifalgpdnaaGreat

namespace Go.Proofs.YtmjdaifalgpdnaaGreat

section
variable {s t : ByteArray} {a b L : Nat} {st : St}

theorem mv_i (a b : Nat) (st : St) : (mv a b st).i = b + (st.i - a) := rfl
theorem mv_if (p : Prop) [Decidable p] (x y : St) : mv a b (if p then x else y) = if p then mv a b x else mv a b y := by split <;> rfl

theorem set_mv (H : Ag s t a b L) (h : a ≤ st.i) (hl : st.i ≤ s.size) (hb : (setS s (s.size + 2) st).2.bad = false) (he : (setS s (s.size + 2) st).2.i ≤ a + L) : setS t (t.size + 2) (mv a b st) = ((setS s (s.size + 2) st).1, mv a b (setS s (s.size + 2) st).2) := by
  unfold setS at hb he ⊢
  dsimp only at hb he ⊢
  obtain ⟨e1, e2, e3⟩ := eatIf_was hb
  rw [e3] at he
  obtain ⟨q, hq⟩ : ∃ q, q = (if isB s st 94 = true then adv st else st) := ⟨_, rfl⟩
  rw [← hq] at e1 e2 e3 he ⊢
  have hqa : a ≤ q.i ∧ st.i ≤ q.i ∧ q.i ≤ s.size := by
    rw [hq]; split
    · next hc => have := peekOk_lt (isB_ok hc); exact ⟨by show a ≤ st.i + 1; omega, by show st.i ≤ st.i + 1; omega, by show st.i + 1 ≤ s.size; omega⟩
    · exact ⟨h, Nat.le_refl _, hl⟩
  have hel : (setLoop s (s.size + 2) ⟨#[]⟩ q).2.i + 1 ≤ a + L := he
  have hf := (Fwd.setLoop (s := s) (s.size + 2) ⟨#[]⟩ q hqa.2.2).1
  have hlt : st.i < a + L := by omega
  have h94 := H.is 94 h hlt
  have hq2 : (if isB t (mv a b st) 94 = true then adv (mv a b st) else mv a b st) = mv a b q := by
    rw [h94, hq, mv_if, mv_adv h]
  have hS := setLoop_mv H (s.size + 2) (t.size + 2) ⟨#[]⟩ q hqa.1 (by omega) (by rw [mv_i]; omega) e1 (by omega)
  rw [h94]
  rw [h94] at hq2
  rw [hq2, hS]
  dsimp only
  rw [eatIf_mv H 93 (by omega) (by omega)]

theorem bounds_mv (H : Ag s t a b L) (h : a ≤ st.i) (hl : st.i ≤ s.size) (hb : (boundsS s st).2.bad = false) (he : (boundsS s st).2.i ≤ a + L) : boundsS t (mv a b st) = ((boundsS s st).1, mv a b (boundsS s st).2) := by
  have hf := (Fwd.bounds (s := s) hl).1
  have tail : ∀ (p : St), a ≤ p.i → (eatIf s 125 (eatIf s 92 p)).bad = false → (eatIf s 125 (eatIf s 92 p)).i ≤ a + L → p.bad = false ∧ p.i + 2 ≤ a + L ∧ eatIf t 125 (eatIf t 92 (mv a b p)) = mv a b (eatIf s 125 (eatIf s 92 p)) := fun p hp h1 h2 => by
    obtain ⟨e1, e2, e3⟩ := eatIf_was h1
    obtain ⟨f1, f2, f3⟩ := eatIf_was e1
    rw [e3, f3] at h2
    have h2' : p.i + 1 + 1 ≤ a + L := h2
    refine ⟨f1, by omega, ?_⟩
    rw [eatIf_mv H 92 hp (by omega), eatIf_mv H 125 (by rw [f3]; show a ≤ p.i + 1; omega) (by rw [f3]; show p.i + 1 < a + L; omega)]
  unfold boundsS at hb he ⊢
  have hd := digit_ge s 48 st
  by_cases h1 : (digitS s 48 st).2.bad = false ∧ isB s (digitS s 48 st).2 44 = true
  · rw [if_pos h1] at hb he ⊢
    have ha1 : a ≤ (adv (digitS s 48 st).2).i := by show a ≤ (digitS s 48 st).2.i + 1; omega
    by_cases h2 : isB s (adv (digitS s 48 st).2) 92 = true
    · rw [if_pos h2] at hb he ⊢
      obtain ⟨t1, t2, t3⟩ := tail _ ha1 hb he
      have t2' : (digitS s 48 st).2.i + 1 + 2 ≤ a + L := t2
      rw [digit_mv H 48 h (by omega)]
      dsimp only
      rw [H.is 44 (by omega) (by omega), if_pos (show (mv a b (digitS s 48 st).2).bad = false ∧ _ from h1), ← mv_adv (by omega), H.is 92 ha1 (by show (digitS s 48 st).2.i + 1 < a + L; omega), if_pos h2, t3]
    · rw [if_neg h2] at hb he ⊢
      have hd2 := digit_ge s (48 + (digitS s 48 st).1) (adv (digitS s 48 st).2)
      obtain ⟨t1, t2, t3⟩ := tail _ (by omega) hb he
      have hd3 : (adv (digitS s 48 st).2).i = (digitS s 48 st).2.i + 1 := rfl
      rw [digit_mv H 48 h (by omega)]
      dsimp only
      rw [H.is 44 (by omega) (by omega), if_pos (show (mv a b (digitS s 48 st).2).bad = false ∧ _ from h1), ← mv_adv (by omega), H.is 92 ha1 (by omega), if_neg h2, digit_mv H _ ha1 (by omega)]
      dsimp only
      rw [t3]
  · rw [if_neg h1] at hb he ⊢
    obtain ⟨t1, t2, t3⟩ := tail _ (by omega) hb he
    rw [digit_mv H 48 h (by omega)]
    dsimp only
    rw [H.is 44 (by omega) (by omega), if_neg (show ¬ ((mv a b (digitS s 48 st).2).bad = false ∧ _) from h1), t3]

theorem count_mv (H : Ag s t a b L) (r : Part × St) (h : a ≤ r.2.i) (hl : r.2.i ≤ s.size) (hb : (countS s r).2.bad = false) (he : Inn s a L (countS s r).2) : countS t (r.1, mv a b r.2) = ((countS s r).1, mv a b (countS s r).2) := by
  have hf := (Fwd.count (s := s) hl).1
  have hlt : r.2.i < a + L := by have := he.2.1; omega
  unfold countS at hb he ⊢
  dsimp only
  by_cases h0 : r.2.bad = true
  · rw [if_pos h0] at hb
    rw [h0] at hb; cases hb
  · rw [if_neg h0] at hb he ⊢
    rw [if_neg (show ¬ (mv a b r.2).bad = true from h0), H.is 42 h hlt]
    by_cases h1 : isB s r.2 42 = true
    · rw [if_pos h1, if_pos h1, mv_adv h]
    · rw [if_neg h1] at hb he ⊢
      rw [if_neg h1]
      by_cases h2 : isEsc s r.2 123 = true
      · rw [if_pos h2] at hb he ⊢
        have e2 : (adv (adv r.2)).i = r.2.i + 2 := rfl
        have hls := isEsc_lt h2
        have hg := (Fwd.bounds (s := s) (st := adv (adv r.2)) (by omega)).1
        have hin := he.2.1
        dsimp only at hin
        have hB := bounds_mv H (st := adv (adv r.2)) (by omega) (by omega) hb (by omega)
        rw [H.esc 123 h (by omega), if_pos h2, ← mv_adv h, ← mv_adv (by show a ≤ r.2.i + 1; omega), hB]
      · rw [if_neg h2] at hb he ⊢
        rw [H.esc' 123 he, if_neg h2]
end
end Go.Proofs.YtmjdaifalgpdnaaGreat
