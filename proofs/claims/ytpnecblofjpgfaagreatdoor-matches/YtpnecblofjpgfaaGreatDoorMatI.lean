import Derived.Test.YtpnecblofjpgfaaGreatDoorMatA
import Derived.Test.YtpnecblofjpgfaaGreatDoorSetB
namespace Go.Proofs.YtpnecblofjpgfaaGreatDoor
open Go.RowKit

mutual
/-- The greatest number of copies is not below the least. -/
def MM : Part → Prop
  | .mk _ kids _ _ mn mx => (mx < 0 ∨ mn ≤ mx) ∧ MMs kids
def MMs : List Part → Prop
  | [] => True
  | x :: xs => MM x ∧ MMs xs
end
theorem MMs.snoc : ∀ (l : List Part) (x : Part), MMs l → MM x → MMs (l ++ [x])
  | [], x, _, h => by simp only [List.nil_append, MMs]; exact ⟨h, trivial⟩
  | y :: l, x, hl, h => by
    simp only [MMs] at hl
    simp only [List.cons_append, MMs]
    exact ⟨hl.1, MMs.snoc l x hl.2 h⟩
theorem mm_upd {x : Part} {mn mx : Int} (h : MM x) (h1 : mx < 0 ∨ mn ≤ mx) : MM (upd x mn mx) := by
  obtain ⟨g, kids, neg, ps, a, b⟩ := x
  simp only [MM, Go.Proofs.YtpnecblofjpgfaaGreatDoor.upd] at h ⊢
  exact ⟨h1, h.2⟩
theorem mm_plain (neg : Bool) (ps : ByteArray) : MM (.mk 0 [] neg ps 1 1) := by
  simp only [MM, MMs]; exact ⟨.inr (by omega), trivial⟩
theorem mm_empty : MM emptyP := by
  simp only [emptyP, MM, MMs]; exact ⟨.inr (by omega), trivial⟩

theorem eatIf_good {s : ByteArray} {c : Int} {st : St} (h : (eatIf s c st).bad = false) : st.bad = false := by
  cases hb : st.bad
  · rfl
  · rw [eatIf_bad hb, hb] at h; cases h
theorem digit_good {s : ByteArray} {lo : Int} {st : St} (h : (digitS s lo st).2.bad = false) : lo ≤ (digitS s lo st).1 + 48 := by
  unfold digitS at h ⊢
  split at h
  · next hc => rw [if_pos hc]; show lo ≤ peekC s st - 48 + 48; omega
  · cases h
theorem bounds_mm {s : ByteArray} {st : St} (h : (boundsS s st).2.bad = false) : (boundsS s st).1.2 < 0 ∨ (boundsS s st).1.1 ≤ (boundsS s st).1.2 := by
  unfold boundsS at h ⊢
  split
  · next hc =>
    rw [if_pos hc] at h
    split
    · left; simp
    · next hd =>
      rw [if_neg hd] at h
      right
      have := digit_good (eatIf_good (eatIf_good h))
      simp only []
      omega
  · right; exact Int.le_refl _
theorem count_mm {s : ByteArray} {r : Part × St} (hm : r.2.bad = false → MM r.1) (h : (countS s r).2.bad = false) : MM (countS s r).1 := by
  unfold countS at h ⊢
  split
  · next hc => rw [if_pos hc] at h; exact hm h
  · next hc =>
    rw [if_neg hc] at h
    have hb : r.2.bad = false := by simpa using hc
    split
    · exact mm_upd (hm hb) (.inl (by omega))
    · next h1 =>
      rw [if_neg h1] at h
      split
      · next h2 => rw [if_pos h2] at h; exact mm_upd (hm hb) (bounds_mm h)
      · exact hm hb
theorem parts_bad (s : ByteArray) (inner : Bool) : ∀ (n : Nat) (st : St) (l : List Part), st.bad = true → partsS s inner n st l = (l, st)
  | 0, st, l, _ => by simp only [partsS]
  | n + 1, st, l, h => by rw [partsS, if_pos (.inl (.inl h))]

theorem mm_all (s : ByteArray) (n : Nat) :
    (∀ st, (partS s n st).2.bad = false → MM (partS s n st).1) ∧ (∀ st, (escS s n st).2.bad = false → MM (escS s n st).1) ∧ (∀ inner st l, MMs l → (partsS s inner n st l).2.bad = false → MMs (partsS s inner n st l).1) := by
  induction n with
  | zero =>
    refine ⟨fun st h => ?_, fun st h => ?_, fun inner st l hl _ => ?_⟩
    · simp only [partS]; exact mm_empty
    · simp only [escS]; exact mm_empty
    · simp only [partsS]; exact hl
  | succ n ih =>
    obtain ⟨ihp, ihe, ihs⟩ := ih
    refine ⟨fun st h => ?_, fun st h => ?_, fun inner st l hl h => ?_⟩
    · rw [partS] at h ⊢
      split
      · exact mm_empty
      · next hc =>
        rw [if_neg hc] at h
        refine count_mm ?_ h
        split
        · exact fun _ => mm_plain _ _
        · split
          · exact fun _ => mm_plain _ _
          · split
            · exact fun hb => ihe _ hb
            · exact fun _ => mm_plain _ _
    · rw [escS] at h ⊢
      split
      · exact mm_empty
      · next hc =>
        rw [if_neg hc] at h
        split
        · exact mm_plain _ _
        · next hd =>
          rw [if_neg hd] at h
          split
          · exact mm_plain _ _
          · next he =>
            rw [if_neg he] at h
            simp only [MM]
            exact ⟨.inr (by omega), ihs true _ _ trivial (eatIf_good (eatIf_good h))⟩
    · rw [partsS] at h ⊢
      split
      · exact hl
      · next hc =>
        rw [if_neg hc] at h
        cases hb : (partS s n st).2.bad
        · exact ihs inner _ _ (MMs.snoc _ _ hl (ihp st hb)) h
        · rw [parts_bad s inner n _ _ hb, hb] at h; cases h

/-- The parts that the program has laid from number i on. -/
def AtL (all : List PP) (i : Int) (ps : List Part) : Prop := ∃ lo qs more, i = firstIx lo ps ∧ all.drop lo = qs ++ more ∧ LayL lo ps qs

theorem AtL.nil {all : List PP} {i : Int} (h : AtL all i []) : i = -1 := by
  obtain ⟨lo, qs, more, rfl, _, _⟩ := h; rfl
theorem AtL.none (all : List PP) : AtL all (-1) [] := ⟨0, [], all.drop 0, rfl, rfl, by simp only [LayL]⟩

def Part.neg : Part → Bool | .mk _ _ neg _ _ _ => neg
def Part.ps : Part → ByteArray | .mk _ _ _ ps _ _ => ps

/-- A part at its number. -/
structure AtP (all : List PP) (j : Nat) (P : PP) (x : Part) (xs : List Part) : Prop where
  get : all[j]? = some P
  least : P.least = x.mn
  most : P.most = mxV x.mx
  next : AtL all P.next xs
  plain : x.g = 0 → P.group = 0 ∧ Holds4 P.W (fun c => oneB x.neg x.ps c)
  group : x.g ≠ 0 → P.group = x.g ∧ AtL all P.inner x.kids

theorem AtL.cons {all : List PP} {i : Int} {x : Part} {xs : List Part} (h : AtL all i (x :: xs)) : ∃ (j : Nat) (P : PP), i = (j : Int) ∧ AtP all j P x xs := by
  obtain ⟨lo, qs, more, rfl, hd, hl⟩ := h
  simp only [LayL] at hl
  obtain ⟨p, ks, rest, rfl, ha, h1, h2, h3, hr⟩ := hl
  have hd1 : all.drop (lo + 1) = ks ++ (rest ++ more) := by
    rw [← List.drop_drop, hd]; simp
  have hd2 : all.drop (lo + 1 + ks.length) = rest ++ more := by
    rw [← List.drop_drop, hd1]; simp
  refine ⟨lo, p, by simp [firstIx], ?_, h1, h2, ⟨_, rest, more, h3, hd2, hr⟩, ?_, ?_⟩
  · have := congrArg (fun l => l[0]?) hd
    simpa using this
  · obtain ⟨g, kids, neg, ps, mn, mx⟩ := x
    intro hg
    simp only [Part.g] at hg
    simp only [LayA, hg, if_true] at ha
    exact ⟨ha.1, ha.2.2⟩
  · obtain ⟨g, kids, neg, ps, mn, mx⟩ := x
    intro hg
    simp only [Part.g] at hg
    simp only [LayA, hg, if_false] at ha
    exact ⟨ha.1, _, ks, rest ++ more, ha.2.1, hd1, ha.2.2⟩

theorem AtL.ne {all : List PP} {i : Int} {x : Part} {xs : List Part} (h : AtL all i (x :: xs)) : i ≠ -1 := by
  obtain ⟨j, P, rfl, _⟩ := h.cons; omega

theorem mxV_inj {a b : Int} (ha : a ≤ 9) (hb : b ≤ 9) (h : mxV a = mxV b) : (a < 0 ∧ b < 0) ∨ a = b := by
  unfold mxV at h
  split at h <;> split at h <;> omega

theorem copies_mx {A : Nat → Nat → Prop} {mn a b : Int} (h : (a < 0 ∧ b < 0) ∨ a = b) {n p q : Nat} (hc : Copies A mn a n p q) : Copies A mn b n p q := by
  rcases h with h | rfl
  · induction hc with
    | stop h1 => exact .stop h1
    | more h1 h2 h3 _ ih => exact .more (by omega) h2 h3 ih
  · exact hc

theorem copies_mono {A B : Nat → Nat → Prop} {mn mx : Int} (h : ∀ p q, A p q → B p q) {n p q : Nat} (hc : Copies A mn mx n p q) : Copies B mn mx n p q := by
  induction hc with
  | stop h1 => exact .stop h1
  | more h1 h2 h3 _ ih => exact .more h1 (h _ _ h2) h3 ih

mutual
theorem atomR_same (s : ByteArray) (all : List PP) (G : Nat) : ∀ (x x' : Part) (j : Nat) (P : PP) (xs xs' : List Part), WF G x → WF G x' → AtP all j P x xs → AtP all j P x' xs' → ∀ p q, AtomR s x p q → AtomR s x' p q
  | .mk g kids neg ps mn mx, .mk g' kids' neg' ps' mn' mx', j, P, xs, xs', hw, hw', h, h', p, q, ha => by
    simp only [WF] at hw hw'
    simp only [AtomR] at ha ⊢
    by_cases hg : g = 0
    · have hp := h.plain hg
      have hg' : g' = 0 := by
        by_cases hg' : g' = 0
        · exact hg'
        · have := h'.group hg'; have e := hp.1; rw [this.1] at e; simp only [Part.g] at e; omega
      have hp' := h'.plain hg'
      rw [if_pos hg] at ha
      rw [if_pos hg']
      obtain ⟨rfl, hlt, ho⟩ := ha
      refine ⟨rfl, hlt, ?_⟩
      have e1 := hp.2.2 _ (show (s[p]'hlt).toNat < 256 from UInt8.toNat_lt _)
      have e2 := hp'.2.2 _ (show (s[p]'hlt).toNat < 256 from UInt8.toNat_lt _)
      rw [e1] at e2
      exact e2.symm.trans ho
    · have hp := h.group hg
      have hg' : g' ≠ 0 := by
        intro hg'
        have := h'.plain hg'; have e := hp.1; rw [this.1] at e; simp only [Part.g] at e; omega
      have hp' := h'.group hg'
      rw [if_neg hg] at ha
      rw [if_neg hg']
      exact seqR_same s all G kids kids' P.inner hw.2.2.2.2.2.2.2 hw'.2.2.2.2.2.2.2 hp.2 hp'.2 p q ha
theorem seqR_same (s : ByteArray) (all : List PP) (G : Nat) : ∀ (ps ps' : List Part) (i : Int), WFs G ps → WFs G ps' → AtL all i ps → AtL all i ps' → ∀ p q, SeqR s ps p q → SeqR s ps' p q
  | [], ps', i, _, _, h, h', p, q, hs => by
    cases ps' with
    | nil => exact hs
    | cons x xs => exact absurd h.nil h'.ne
  | x :: xs, ps', i, hw, hw', h, h', p, q, hs => by
    cases ps' with
    | nil => exact absurd h'.nil h.ne
    | cons x' xs' =>
      obtain ⟨j, P, rfl, hP⟩ := h.cons
      obtain ⟨j', P', hj, hP'⟩ := h'.cons
      obtain rfl : j = j' := by omega
      obtain rfl : P = P' := by have := hP.get; rw [hP'.get] at this; exact (Option.some.inj this).symm
      simp only [WFs] at hw hw'
      simp only [SeqR] at hs ⊢
      obtain ⟨r, hc, hr⟩ := hs
      refine ⟨r, ?_, seqR_same s all G xs xs' P.next hw.2 hw'.2 hP.next hP'.next r q hr⟩
      have e1 : x.mn = x'.mn := hP.least.symm.trans hP'.least
      have b1 : x.mx ≤ 9 := by obtain ⟨g, kids, neg, ps, mn, mx⟩ := x; simp only [WF] at hw; exact hw.1.2.2.2.2.2.1
      have b2 : x'.mx ≤ 9 := by obtain ⟨g, kids, neg, ps, mn, mx⟩ := x'; simp only [WF] at hw'; exact hw'.1.2.2.2.2.2.1
      rw [← e1]
      refine copies_mx (mxV_inj b1 b2 (hP.most.symm.trans hP'.most)) ?_
      have key := fun p q => atomR_same s all G x x' j P xs xs' hw.1 hw'.1 hP hP' p q
      exact copies_mono key hc
end

end Go.Proofs.YtpnecblofjpgfaaGreatDoor
