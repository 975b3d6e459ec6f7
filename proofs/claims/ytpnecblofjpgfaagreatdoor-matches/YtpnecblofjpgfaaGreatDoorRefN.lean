import Derived.Test.YtpnecblofjpgfaaGreatDoorRefL
import Derived.RegionTactic
import Derived.BigRegion
import Derived.Deep.OwnRows
import Derived.Deep.RegionWith
import Derived.Deep.DeepCutAuto
namespace Go.Proofs.YtpnecblofjpgfaaGreatDoor
open Go.RowKit

theorem ret3 {a b c d e f : Value} (h : a = b) (k : c = d) (l : e = f) : Ending.returned (.tuple #[a, c, e]) = .returned (.tuple #[b, d, f]) := by rw [h, k, l]
theorem beq_dec (a b : Nat) : ((a : Int) == (b : Int)) = (!false && decide (a = b)) := by
  rw [Bool.eq_iff_iff]; simp; omega

/-- is c within one of the pairs? -/
def inPairs : List UInt8 → Int → Bool
  | a :: b :: r, c => (decide ((a.toNat : Int) ≤ c) && decide (c ≤ (b.toNat : Int))) || inPairs r c
  | _, _ => false

def oneB (neg : Bool) (ps : ByteArray) (c : Int) : Bool := if inPairs ps.data.toList c then !neg else neg

/-- The copies of an atom from number n on, from one place to another. -/
inductive Copies (A : Nat → Nat → Prop) (mn mx : Int) : Nat → Nat → Nat → Prop
  | stop {n p : Nat} : mn ≤ n → Copies A mn mx n p p
  | more {n p r q : Nat} : (n < mn ∨ mx < 0 ∨ n < mx) → A p r → (p < r ∨ n < mn) → Copies A mn mx (n + 1) r q → Copies A mn mx n p q

def Part.mn : Part → Int | .mk _ _ _ _ mn _ => mn
def Part.mx : Part → Int | .mk _ _ _ _ _ mx => mx
def Part.g : Part → Nat | .mk g _ _ _ _ _ => g
def Part.kids : Part → List Part | .mk _ k _ _ _ _ => k

mutual
/-- one copy of the part's atom, from one place to another. -/
def AtomR (s : ByteArray) : Part → Nat → Nat → Prop
  | .mk g kids neg ps _ _, p, q => if g = 0 then q = p + 1 ∧ ∃ h : p < s.size, oneB neg ps (s[p]'h).toNat = true else SeqR s kids p q
/-- the parts, one behind the other. -/
def SeqR (s : ByteArray) : List Part → Nat → Nat → Prop
  | [], p, q => p = q
  | x :: xs, p, q => ∃ r, Copies (AtomR s x) x.mn x.mx 0 p r ∧ SeqR s xs r q
end

theorem Copies.bound {A : Nat → Nat → Prop} {mn mx : Int} {N : Nat} (hA : ∀ p q, p ≤ N → A p q → p ≤ q ∧ q ≤ N) {n p q : Nat} (h : Copies A mn mx n p q) : p ≤ N → p ≤ q ∧ q ≤ N := by
  induction h with
  | stop _ => intro h; exact ⟨Nat.le_refl _, h⟩
  | more _ ha _ _ ih =>
    intro hp
    have h1 := hA _ _ hp ha
    have h2 := ih h1.2
    omega

mutual
theorem AtomR.bound (s : ByteArray) : ∀ (x : Part) (p q : Nat), p ≤ s.size → AtomR s x p q → p ≤ q ∧ q ≤ s.size
  | .mk g kids neg ps mn mx, p, q, hp, h => by
    simp only [AtomR] at h
    split at h
    · obtain ⟨h1, h2, _⟩ := h; omega
    · exact SeqR.bound s kids p q hp h
theorem SeqR.bound (s : ByteArray) : ∀ (l : List Part) (p q : Nat), p ≤ s.size → SeqR s l p q → p ≤ q ∧ q ≤ s.size
  | [], p, q, hp, h => by simp only [SeqR] at h; omega
  | x :: xs, p, q, hp, h => by
    simp only [SeqR] at h
    obtain ⟨r, h1, h2⟩ := h
    have h3 := h1.bound (N := s.size) (fun p q hp ha => AtomR.bound s x p q hp ha) hp
    have h4 := SeqR.bound s xs r q h3.2 h2
    omega
end

end Go.Proofs.YtpnecblofjpgfaaGreatDoor

namespace Go.Proofs.YtpnecblofjpgfaaGreatDoor
open Go.RowKit

mutual
/-- What the reader of expressions makes. -/
def WF (G : Nat) : Part → Prop
  | .mk g kids _ ps mn mx => g ≤ G ∧ ps.size ≤ 2097152 ∧ 0 ≤ mn ∧ mn ≤ 9 ∧ -1 ≤ mx ∧ mx ≤ 9 ∧ kids.length ≤ 4000000 ∧ WFs G kids
def WFs (G : Nat) : List Part → Prop
  | [] => True
  | x :: xs => WF G x ∧ WFs G xs
end

mutual
theorem WF.mono {G H : Nat} (h : G ≤ H) : ∀ x, WF G x → WF H x
  | .mk g kids neg ps mn mx, hw => by
    simp only [WF] at hw ⊢
    obtain ⟨h1, h2, h3, h4, h5, h6, h7, h8⟩ := hw
    exact ⟨by omega, h2, h3, h4, h5, h6, h7, WFs.mono h kids h8⟩
theorem WFs.mono {G H : Nat} (h : G ≤ H) : ∀ l, WFs G l → WFs H l
  | [], _ => trivial
  | x :: xs, hw => by
    simp only [WFs] at hw ⊢
    exact ⟨WF.mono h x hw.1, WFs.mono h xs hw.2⟩
end

theorem WFs.snoc {G : Nat} : ∀ (l : List Part) (x : Part), WFs G l → WF G x → WFs G (l ++ [x])
  | [], x, _, h => by simp only [List.nil_append, WFs]; exact ⟨h, trivial⟩
  | y :: l, x, hl, h => by
    simp only [WFs] at hl
    simp only [List.cons_append, WFs]
    exact ⟨hl.1, WFs.snoc l x hl.2 h⟩

theorem WF.upd {G : Nat} {x : Part} {mn mx : Int} (h : WF G x) (h1 : 0 ≤ mn) (h2 : mn ≤ 9) (h3 : -1 ≤ mx) (h4 : mx ≤ 9) : WF G (upd x mn mx) := by
  obtain ⟨g, kids, neg, ps, a, b⟩ := x
  simp only [WF, Go.Proofs.YtpnecblofjpgfaaGreatDoor.upd] at h ⊢
  exact ⟨h.1, h.2.1, h1, h2, h3, h4, h.2.2.2.2.2.2⟩

theorem setLoop_small (s : ByteArray) (hs : s.size ≤ 1048576) : ∀ (n : Nat) (ps : ByteArray) (st : St), st.i ≤ s.size → ps.size ≤ 2 * st.i → (setLoop s n ps st).1.size ≤ 2097152
  | 0, ps, st, h, hp => by simp only [setLoop]; omega
  | n + 1, ps, st, h, hp => by
    rw [setLoop]
    split
    · refine setLoop_small s hs n _ _ (item_le s st h) ?_
      rw [bsize_append]
      rcases item_cases s st with hc | hc
      · rw [hc.1]; show ps.size + 0 ≤ _; omega
      · omega
    · show ps.size ≤ _; omega

theorem set_small (s : ByteArray) (hs : s.size ≤ 1048576) (n : Nat) (st : St) (h : st.i ≤ s.size) : (setS s n st).1.2.size ≤ 2097152 := by
  unfold setS
  simp only []
  cases hn : isB s st 94
  · simp only [Bool.false_eq_true, if_false]
    exact setLoop_small s hs n _ _ h (Nat.zero_le _)
  · simp only [if_true]
    exact setLoop_small s hs n _ _ (Fwd.adv (peekOk_lt (isB_ok hn))).2.1 (Nat.zero_le _)

theorem set_g (s : ByteArray) (n : Nat) (st : St) : (setS s n st).2.g = st.g := by
  have hl : ∀ (n : Nat) (ps : ByteArray) (st : St), (setLoop s n ps st).2.g = st.g := by
    intro n
    induction n with
    | zero => intro ps st; rfl
    | succ n ih => intro ps st; rw [setLoop]; split; rw [ih, item_g]; rfl
  unfold setS
  simp only []
  rw [eatIf_g, hl]
  split <;> rfl

theorem digit_lo2 (s : ByteArray) (m : Int) (hm : 0 ≤ m) (st : St) : 0 ≤ (digitS s (48 + m) st).1 := by unfold digitS; split <;> simp; omega

theorem bounds_ok (s : ByteArray) (st : St) : 0 ≤ (boundsS s st).1.1 ∧ (boundsS s st).1.1 ≤ 9 ∧ -1 ≤ (boundsS s st).1.2 ∧ (boundsS s st).1.2 ≤ 9 := by
  have d1 := digit_lo s st
  have d2 := digit_hi s 48 st
  unfold boundsS
  split
  · split
    · exact ⟨d1, d2, by simp, by simp⟩
    · have e1 := digit_lo2 s (digitS s 48 st).1 d1 (adv (digitS s 48 st).2)
      have e2 := digit_hi s (48 + (digitS s 48 st).1) (adv (digitS s 48 st).2)
      exact ⟨d1, d2, by simp only []; omega, by simp only []; omega⟩
  · exact ⟨d1, d2, by simp only []; omega, by simp only []; omega⟩

theorem bounds_g (s : ByteArray) (st : St) : (boundsS s st).2.g = st.g := by
  unfold boundsS
  split
  · split
    · simp only [eatIf_g]; exact digit_g s 48 st
    · simp only [eatIf_g, digit_g]; exact digit_g s 48 st
  · simp only [eatIf_g, digit_g]

theorem count_wf {s : ByteArray} {G : Nat} {r : Part × St} (h : WF G r.1) : WF G (countS s r).1 ∧ (countS s r).2.g = r.2.g := by
  unfold countS
  split
  · exact ⟨h, rfl⟩
  · split
    · exact ⟨h.upd (by omega) (by omega) (by omega) (by omega), rfl⟩
    · split
      · have hb := bounds_ok s (adv (adv r.2))
        exact ⟨h.upd hb.1 hb.2.1 hb.2.2.1 hb.2.2.2, bounds_g s _⟩
      · exact ⟨h, rfl⟩

theorem wf_plain (G : Nat) (neg : Bool) (ps : ByteArray) (h : ps.size ≤ 2097152) : WF G (.mk 0 [] neg ps 1 1) := by
  simp only [WF, WFs, List.length_nil]; exact ⟨by omega, h, by omega, by omega, by omega, by omega, by omega, trivial⟩
theorem wf_empty (G : Nat) : WF G emptyP := by
  simp only [emptyP, WF, WFs, List.length_nil]; exact ⟨by omega, by decide, by omega, by omega, by omega, by omega, by omega, trivial⟩

theorem wf_all (s : ByteArray) (hs : s.size ≤ 1048576) (n : Nat) (hn : n ≤ 4000000) :
    (∀ st, st.i ≤ s.size → st.g ≤ (partS s n st).2.g ∧ WF (partS s n st).2.g (partS s n st).1) ∧
    (∀ st, st.i ≤ s.size → st.g ≤ (escS s n st).2.g ∧ WF (escS s n st).2.g (escS s n st).1) ∧
    (∀ inner st l, st.i ≤ s.size → WFs st.g l → l.length + n ≤ 4000000 → st.g ≤ (partsS s inner n st l).2.g ∧ WFs (partsS s inner n st l).2.g (partsS s inner n st l).1 ∧ (partsS s inner n st l).1.length ≤ 4000000) := by
  induction n with
  | zero =>
    refine ⟨fun st h => ?_, fun st h => ?_, fun inner st l h hl hln => ?_⟩
    · simp only [partS]; exact ⟨Nat.le_refl _, wf_empty _⟩
    · simp only [escS]; exact ⟨Nat.le_refl _, wf_empty _⟩
    · simp only [partsS]; exact ⟨Nat.le_refl _, hl, by omega⟩
  | succ n ih =>
    obtain ⟨ihp, ihe, ihs⟩ := ih (by omega)
    refine ⟨fun st h => ?_, fun st h => ?_, fun inner st l h hl hln => ?_⟩
    · rw [partS]
      split
      · exact ⟨Nat.le_refl _, wf_empty _⟩
      · next hc =>
        have hlt : st.i < s.size := by
          simp only [not_or] at hc
          exact peekOk_lt (by simpa using hc.1)
        have h1 := Fwd.adv hlt
        have key : ∀ r : Part × St, st.g ≤ r.2.g → WF r.2.g r.1 → st.g ≤ (countS s r).2.g ∧ WF (countS s r).2.g (countS s r).1 := fun r hr hw => by
          have h2 := count_wf (s := s) hw
          rw [h2.2]; exact ⟨hr, h2.1⟩
        split
        · exact key _ (Nat.le_refl _) (wf_plain _ _ _ (by decide +kernel))
        · split
          · refine key _ ?_ (wf_plain _ _ _ (set_small s hs _ _ h1.2.1))
            simp only [set_g]; exact Nat.le_refl _
          · split
            · have := ihe (adv st) h1.2.1
              exact key _ this.1 this.2
            · exact key _ (Nat.le_refl _) (wf_plain _ _ _ (by show 2 ≤ _; omega))
    · rw [escS]
      split
      · exact ⟨Nat.le_refl _, wf_empty _⟩
      · next hc =>
        have hlt : st.i < s.size := by
          simp only [not_or] at hc
          exact peekOk_lt (by simpa using hc.1)
        split
        · exact ⟨Nat.le_refl _, wf_plain _ _ _ (by show 2 ≤ _; omega)⟩
        · split
          · exact ⟨Nat.le_refl _, wf_plain _ _ _ (by show 2 ≤ _; omega)⟩
          · have h3 := ihs true (opened st) [] (by simp [opened]; omega) trivial (by simp; omega)
            have hop : (opened st).g = st.g + 1 := rfl
            rw [hop] at h3
            simp only [eatIf_g, WF]
            exact ⟨by omega, by omega, by decide, by omega, by omega, by omega, by omega, h3.2.2, h3.2.1⟩
    · rw [partsS]
      split
      · exact ⟨Nat.le_refl _, hl, by show l.length ≤ _; omega⟩
      · have h1 := ihp st h
        have h2 := ((fwd_all s n).1 st h).1.2.1
        have h3 := ihs inner (partS s n st).2 (l ++ [(partS s n st).1]) h2 (WFs.snoc _ _ (WFs.mono h1.1 _ hl) h1.2) (by simp; omega)
        exact ⟨by omega, h3.2⟩

end Go.Proofs.YtpnecblofjpgfaaGreatDoor

namespace Go.Proofs.YtpnecblofjpgfaaGreatDoor
open Go.RowKit

theorem inPairs_drop (ps : ByteArray) (k : Nat) (c : Int) (h : k + 1 < ps.size) :
    inPairs (ps.data.toList.drop k) c = ((decide ((ps[k].toNat : Int) ≤ c) && decide (c ≤ (ps[k + 1].toNat : Int))) || inPairs (ps.data.toList.drop (k + 2)) c) := by
  have h1 : ps.data.toList.drop k = ps[k] :: ps[k + 1] :: ps.data.toList.drop (k + 2) := by
    rw [List.drop_eq_getElem_cons (by simpa using (show k < ps.size by omega)), List.drop_eq_getElem_cons (i := k + 1) (by simpa using h)]
    rfl
  rw [h1, inPairs]
theorem inPairs_end (ps : ByteArray) (k : Nat) (c : Int) (h : ¬ k + 1 < ps.size) : inPairs (ps.data.toList.drop k) c = false := by
  have : (ps.data.toList.drop k).length ≤ 1 := by simp; omega
  match hl : ps.data.toList.drop k, this with
  | [], _ => rfl
  | [a], _ => rfl

end Go.Proofs.YtpnecblofjpgfaaGreatDoor
