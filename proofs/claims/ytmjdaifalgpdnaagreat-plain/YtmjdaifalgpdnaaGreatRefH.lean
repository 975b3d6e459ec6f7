import Derived.Test.YtmjdaifalgpdnaaGreatRefF
import Derived.Deep.AppendLies
namespace Go.Proofs.YtmjdaifalgpdnaaGreat
open Go.RowKit

/-- A part of an expression, as the document's reader has it. -/
inductive Part where
  | mk (g : Nat) (kids : List Part) (neg : Bool) (pairs : ByteArray) (mn mx : Int)

/-- A slice of parts in memory: its blocks are among those that 'ok' lets in. -/
def Row (ok : Nat → Prop) (w : World) (v : Value) (n : Nat) (xs : List Value) : Prop := w.ownsRow 0 151 6 v n xs ∧ ∀ k, v.ownBlock = some k → ok k

mutual
def PRep (ok : Nat → Prop) (w : World) : Part → List Value → Prop
  | .mk g kids neg pairs mn mx, cs => ∃ ka kl kc xs, cs = [.int .i64 g, .slice ka kl kc, .bool neg, .string pairs, .int .i64 mn, .int .i64 mx] ∧ Row ok w (.slice ka kl kc) kids.length xs ∧ KRep ok w kids xs
def KRep (ok : Nat → Prop) (w : World) : List Part → List Value → Prop
  | [], xs => xs = []
  | p :: ps, xs => ∃ c rest, xs = c ++ rest ∧ PRep ok w p c ∧ KRep ok w ps rest
end

def Agree (ok : Nat → Prop) (w w' : World) : Prop := w.heap.size ≤ w'.heap.size ∧ ∀ k, ok k → k < w.heap.size → w'.heap[k]? = w.heap[k]?

theorem Row.agree {ok : Nat → Prop} {w w' : World} {v : Value} {n : Nat} {xs : List Value} (h : Row ok w v n xs) (ha : Agree ok w w') : Row ok w' v n xs := by
  refine ⟨⟨h.1.1, ?_⟩, h.2⟩
  rcases h.1.2 with hn | ⟨g, cap, cur, rfl, hb, hg, rest⟩
  · exact .inl hn
  · exact .inr ⟨g, cap, cur, rfl, hb, by rw [ha.2 g (h.2 g rfl) (Array.getElem?_eq_some_iff.1 hg).1]; exact hg, rest⟩

theorem Row.mono {ok ok' : Nat → Prop} {w : World} {v : Value} {n : Nat} {xs : List Value} (h : Row ok w v n xs) (hm : ∀ k, ok k → k < w.heap.size → ok' k) : Row ok' w v n xs :=
  ⟨h.1, fun k hk => hm k (h.2 k hk) (h.1.lt k hk).2⟩

mutual
theorem PRep.agree {ok : Nat → Prop} {w w' : World} (ha : Agree ok w w') : ∀ (p : Part) (cs : List Value), PRep ok w p cs → PRep ok w' p cs
  | .mk g kids neg pairs mn mx, cs, h => by
    simp only [PRep] at h ⊢
    obtain ⟨ka, kl, kc, xs, h1, h2, h3⟩ := h
    exact ⟨ka, kl, kc, xs, h1, h2.agree ha, KRep.agree ha kids xs h3⟩
theorem KRep.agree {ok : Nat → Prop} {w w' : World} (ha : Agree ok w w') : ∀ (l : List Part) (xs : List Value), KRep ok w l xs → KRep ok w' l xs
  | [], xs, h => by simp only [KRep] at h ⊢; exact h
  | p :: ps, xs, h => by
    simp only [KRep] at h ⊢
    obtain ⟨c, rest, h1, h2, h3⟩ := h
    exact ⟨c, rest, h1, PRep.agree ha p c h2, KRep.agree ha ps rest h3⟩
end

mutual
theorem PRep.mono {ok ok' : Nat → Prop} {w : World} (hm : ∀ k, ok k → k < w.heap.size → ok' k) : ∀ (p : Part) (cs : List Value), PRep ok w p cs → PRep ok' w p cs
  | .mk g kids neg pairs mn mx, cs, h => by
    simp only [PRep] at h ⊢
    obtain ⟨ka, kl, kc, xs, h1, h2, h3⟩ := h
    exact ⟨ka, kl, kc, xs, h1, h2.mono hm, KRep.mono hm kids xs h3⟩
theorem KRep.mono {ok ok' : Nat → Prop} {w : World} (hm : ∀ k, ok k → k < w.heap.size → ok' k) : ∀ (l : List Part) (xs : List Value), KRep ok w l xs → KRep ok' w l xs
  | [], xs, h => by simp only [KRep] at h ⊢; exact h
  | p :: ps, xs, h => by
    simp only [KRep] at h ⊢
    obtain ⟨c, rest, h1, h2, h3⟩ := h
    exact ⟨c, rest, h1, PRep.mono hm p c h2, KRep.mono hm ps rest h3⟩
end

theorem KRep.snoc {ok : Nat → Prop} {w : World} : ∀ (l : List Part) (xs : List Value) (p : Part) (c : List Value), KRep ok w l xs → PRep ok w p c → KRep ok w (l ++ [p]) (xs ++ c)
  | [], xs, p, c, h, hp => by
    simp only [KRep] at h; subst h
    simp only [List.nil_append, KRep]
    exact ⟨c, [], by simp, hp, rfl⟩
  | q :: l, xs, p, c, h, hp => by
    simp only [KRep] at h
    obtain ⟨d, rest, h1, h2, h3⟩ := h
    simp only [List.cons_append, KRep]
    exact ⟨d, rest ++ c, by rw [h1, List.append_assoc], h2, KRep.snoc l rest p c h3 hp⟩

theorem Kp.agree {b : Nat} {w w' : World} (h : Kp b w w') {ok : Nat → Prop} (hb : ¬ ok b) : Agree ok w w' := ⟨h.size, fun k hk hl => h.block k hl (fun e => hb (e ▸ hk))⟩
section
variable {ok : Nat → Prop} {w w1 w2 : World}
theorem Agree.refl (ok : Nat → Prop) (w : World) : Agree ok w w := ⟨Nat.le_refl _, fun _ _ _ => rfl⟩
theorem Agree.trans (h : Agree ok w w1) (k : Agree ok w1 w2) : Agree ok w w2 := ⟨Nat.le_trans h.1 k.1, fun i hi hl => (k.2 i hi (Nat.lt_of_lt_of_le hl h.1)).trans (h.2 i hi hl)⟩
theorem Agree.set (h : Agree ok w w1) {p : Addr} (hp : ¬ ok p.block) (u : Value) : Agree ok w (w1.setCell p u) :=
  ⟨by simpa [World.setCell] using h.1, fun k hk hl => (Below.heap_setCell _ _ _ _ (fun e => hp (e ▸ hk))).trans (h.2 k hk hl)⟩
theorem Agree.kp (h : Agree ok w w1) {b : Nat} (k : Kp b w1 w2) (hb : ¬ ok b) : Agree ok w w2 := h.trans (k.agree hb)
theorem Agree.drewN (h : Agree ok w w1) (n : Nat) : Agree ok w (w1.drewN n) := h
theorem Agree.alloc (h : Agree ok w w1) (o : Obj) : Agree ok w (w1.alloc o) :=
  h.trans ⟨by simp, fun k _ hl => Below.heap_alloc _ _ _ hl⟩
theorem Agree.put6 (h : Agree ok w w1) {k : Nat} (hk : ¬ ok k) (b0 b1 b2 b3 b4 b5 : Value) :
    Agree ok w ((((((w1.setCell ⟨k, 0, none⟩ b0).setCell ⟨k, 1, none⟩ b1).setCell ⟨k, 2, none⟩ b2).setCell ⟨k, 3, none⟩ b3).setCell ⟨k, 4, none⟩ b4).setCell ⟨k, 5, none⟩ b5) :=
  (((((h.set hk _).set hk _).set hk _).set hk _).set hk _).set hk _
end

/-- What 'part' and 'escaped' hand back. -/
def PartV (ok : Nat → Prop) (w : World) : Part → Value → Prop
  | .mk g kids neg pairs mn mx, v => ∃ ka kl kc xs, v = .agg #[.int .i64 g, .slice ka kl kc, .bool neg, .string pairs, .int .i64 mn, .int .i64 mx] ∧ Row ok w (.slice ka kl kc) kids.length xs ∧ KRep ok w kids xs

def emptyP : Part := .mk 0 [] false ⟨#[]⟩ 0 0
def singleP (c : Int) : Part := .mk 0 [] false ⟨#[byteOf c, byteOf c]⟩ 1 1
def upd : Part → Int → Int → Part | .mk g k neg ps _ _, mn, mx => .mk g k neg ps mn mx
def starL : List UInt8 := [42, 47, 94, 36, 10]
def escL : List UInt8 := [46, 91, 93, 42, 94, 36, 92, 47, 110, 40]

def countS (s : ByteArray) (r : Part × St) : Part × St :=
  if r.2.bad = true then r else
  if isB s r.2 42 = true then (upd r.1 0 (-1), adv r.2) else
  if isEsc s r.2 123 = true then (upd r.1 (boundsS s (adv (adv r.2))).1.1 (boundsS s (adv (adv r.2))).1.2, (boundsS s (adv (adv r.2))).2) else r

def opened (st : St) : St := { st with i := st.i + 1, g := st.g + 1 }

def stopped (s : ByteArray) (st : St) : Prop := st.bad = true ∨ ¬ st.i < s.size ∨ isB s st 47 = true ∨ isB s st 36 = true
instance (s : ByteArray) (st : St) : Decidable (stopped s st) := by unfold stopped; infer_instance

mutual
def partS (s : ByteArray) : Nat → St → Part × St
  | 0, st => (emptyP, spoil st)
  | n + 1, st =>
    if peekOk s st = false ∨ hasL starL (peekC s st) = true then (emptyP, spoil st) else
    countS s (
      if peekC s st = 46 then (.mk 0 [] false ⟨#[byteOf 0, byteOf 255]⟩ 1 1, adv st) else
      if peekC s st = 91 then (.mk 0 [] (setS s (s.size + 2) (adv st)).1.1 (setS s (s.size + 2) (adv st)).1.2 1 1, (setS s (s.size + 2) (adv st)).2) else
      if peekC s st = 92 then escS s n (adv st) else (singleP (peekC s st), adv st))
def escS (s : ByteArray) : Nat → St → Part × St
  | 0, st => (emptyP, spoil st)
  | n + 1, st =>
    if peekOk s st = false ∨ hasL escL (peekC s st) = false ∨ (peekC s st = 40 ∧ 9 ≤ st.g) then (emptyP, spoil st) else
    if peekC s st = 110 then (singleP 10, adv st) else
    if peekC s st ≠ 40 then (singleP (peekC s st), adv st) else
    (.mk (st.g + 1) (partsS s true n (opened st) []).1 false ⟨#[]⟩ 1 1, eatIf s 41 (eatIf s 92 (partsS s true n (opened st) []).2))
def partsS (s : ByteArray) (inner : Bool) : Nat → St → List Part → List Part × St
  | 0, st, l => (l, st)
  | n + 1, st, l =>
    if stopped s st ∨ (inner = true ∧ isEsc s st 41 = true) then (l, st) else
    partsS s inner n (partS s n st).2 (l ++ [(partS s n st).1])
end

section
variable {s : ByteArray} {n : Nat} {st : St}
theorem escS_bad (h : peekOk s st = false ∨ hasL escL (peekC s st) = false ∨ (peekC s st = 40 ∧ 9 ≤ st.g)) : escS s (n + 1) st = (emptyP, spoil st) := by rw [escS, if_pos h]
theorem escS_n (h : ¬ (peekOk s st = false ∨ hasL escL (peekC s st) = false ∨ (peekC s st = 40 ∧ 9 ≤ st.g))) (h1 : peekC s st = 110) : escS s (n + 1) st = (singleP 10, adv st) := by rw [escS, if_neg h, if_pos h1]
theorem escS_one (h : ¬ (peekOk s st = false ∨ hasL escL (peekC s st) = false ∨ (peekC s st = 40 ∧ 9 ≤ st.g))) (h1 : ¬ peekC s st = 110) (h2 : peekC s st ≠ 40) : escS s (n + 1) st = (singleP (peekC s st), adv st) := by rw [escS, if_neg h, if_neg h1, if_pos h2]
theorem escS_open (h : ¬ (peekOk s st = false ∨ hasL escL (peekC s st) = false ∨ (peekC s st = 40 ∧ 9 ≤ st.g))) (h1 : ¬ peekC s st = 110) (h2 : ¬ peekC s st ≠ 40) :
    escS s (n + 1) st = (.mk (st.g + 1) (partsS s true n (opened st) []).1 false ⟨#[]⟩ 1 1, eatIf s 41 (eatIf s 92 (partsS s true n (opened st) []).2)) := by rw [escS, if_neg h, if_neg h1, if_neg h2]
end

end Go.Proofs.YtmjdaifalgpdnaaGreat

namespace Go.Proofs.YtmjdaifalgpdnaaGreat
open Go.RowKit

/-- A reader goes forward, within its text; the groups are at most nine. -/
def Fwd (s : ByteArray) (st st' : St) : Prop := st.i ≤ st'.i ∧ st'.i ≤ s.size ∧ (st.g ≤ 9 → st'.g ≤ 9)

theorem Fwd.refl {s : ByteArray} {st : St} (h : st.i ≤ s.size) : Fwd s st st := ⟨Nat.le_refl _, h, id⟩
theorem Fwd.trans {s : ByteArray} {a b c : St} (h : Fwd s a b) (k : Fwd s b c) : Fwd s a c := ⟨Nat.le_trans h.1 k.1, k.2.1, fun x => k.2.2 (h.2.2 x)⟩
theorem Fwd.adv {s : ByteArray} {st : St} (h : st.i < s.size) : Fwd s st (adv st) := ⟨by simp [Go.Proofs.YtmjdaifalgpdnaaGreat.adv], by simp [Go.Proofs.YtmjdaifalgpdnaaGreat.adv]; omega, id⟩
theorem Fwd.spoil {s : ByteArray} {st : St} (h : st.i ≤ s.size) : Fwd s st (spoil st) := ⟨Nat.le_refl _, h, id⟩
theorem Fwd.eatIf {s : ByteArray} {st : St} (c : Int) (h : st.i ≤ s.size) : Fwd s st (eatIf s c st) := ⟨eatIf_ge s c st, eatIf_le s c st h, fun x => by rw [eatIf_g]; exact x⟩
theorem Fwd.digit {s : ByteArray} {st : St} (lo : Int) (h : st.i ≤ s.size) : Fwd s st (digitS s lo st).2 := ⟨digit_ge s lo st, digit_le s lo st h, fun x => by rw [digit_g]; exact x⟩
theorem item_ge (s : ByteArray) (st : St) : st.i ≤ (itemS s st).2.i := by rcases item_cases s st with h | h <;> omega
theorem Fwd.item {s : ByteArray} {st : St} (h : st.i ≤ s.size) : Fwd s st (itemS s st).2 := ⟨item_ge s st, item_le s st h, fun x => by rw [item_g]; exact x⟩

theorem Fwd.setLoop {s : ByteArray} : ∀ (n : Nat) (ps : ByteArray) (st : St), st.i ≤ s.size → Fwd s st (setLoop s n ps st).2
  | 0, _, _, h => Fwd.refl h
  | n + 1, ps, st, h => by
    rw [Go.Proofs.YtmjdaifalgpdnaaGreat.setLoop]
    split
    · exact (Fwd.item h).trans (Fwd.setLoop n _ _ (item_le s st h))
    · exact Fwd.refl h

theorem Fwd.set {s : ByteArray} {st : St} (n : Nat) (h : st.i ≤ s.size) : Fwd s st (setS s n st).2 := by
  unfold setS
  simp only []
  cases hn : isB s st 94
  · simp only [Bool.false_eq_true, if_false]
    exact (Fwd.setLoop n _ _ h).trans (Fwd.eatIf _ (Fwd.setLoop n _ _ h).2.1)
  · simp only [if_true]
    have h1 := Fwd.adv (peekOk_lt (isB_ok hn))
    have h2 := Fwd.setLoop n ⟨#[]⟩ (Go.Proofs.YtmjdaifalgpdnaaGreat.adv st) h1.2.1
    exact (h1.trans h2).trans (Fwd.eatIf _ h2.2.1)

theorem Fwd.bounds {s : ByteArray} {st : St} (h : st.i ≤ s.size) : Fwd s st (boundsS s st).2 := by
  have h1 := Fwd.digit (st := st) 48 h
  unfold boundsS
  split
  · next hc =>
    have h2 := Fwd.adv (peekOk_lt (isB_ok hc.2))
    split
    · have h3 := Fwd.eatIf 92 h2.2.1
      exact ((h1.trans h2).trans h3).trans (Fwd.eatIf 125 h3.2.1)
    · have h4 := Fwd.digit (48 + (digitS s 48 st).1) h2.2.1
      have h3 := Fwd.eatIf 92 h4.2.1
      exact (((h1.trans h2).trans h4).trans h3).trans (Fwd.eatIf 125 h3.2.1)
  · have h3 := Fwd.eatIf 92 h1.2.1
    exact (h1.trans h3).trans (Fwd.eatIf 125 h3.2.1)

theorem isEsc_lt {s : ByteArray} {st : St} {c : Int} (h : isEsc s st c = true) : st.i + 1 < s.size := by
  unfold isEsc at h
  by_cases hl : st.i + 1 < s.size
  · exact hl
  · simp [hl] at h

theorem isEsc_bad {s : ByteArray} {st : St} {c : Int} (h : isEsc s st c = true) : st.bad = false := by
  unfold isEsc at h
  cases hb : st.bad
  · rfl
  · simp [hb] at h

theorem Fwd.adv2 {s : ByteArray} {st : St} (h : st.i + 1 < s.size) : Fwd s st (Go.Proofs.YtmjdaifalgpdnaaGreat.adv (Go.Proofs.YtmjdaifalgpdnaaGreat.adv st)) :=
  (Fwd.adv (by omega)).trans (Fwd.adv (by simp [Go.Proofs.YtmjdaifalgpdnaaGreat.adv]; omega))

theorem Fwd.count {s : ByteArray} {r : Part × St} (h : r.2.i ≤ s.size) : Fwd s r.2 (countS s r).2 := by
  unfold countS
  split
  · exact Fwd.refl h
  · split
    · next hc => exact Fwd.adv (peekOk_lt (isB_ok hc))
    · split
      · next hc => exact (Fwd.adv2 (isEsc_lt hc)).trans (Fwd.bounds (Fwd.adv2 (isEsc_lt hc)).2.1)
      · exact Fwd.refl h

theorem fwd_all (s : ByteArray) (n : Nat) :
    (∀ st, st.i ≤ s.size → Fwd s st (partS s n st).2 ∧ ((partS s n st).2.bad = true ∨ st.i < (partS s n st).2.i)) ∧
    (∀ st, st.i ≤ s.size → Fwd s st (escS s n st).2) ∧
    (∀ inner st l, st.i ≤ s.size → Fwd s st (partsS s inner n st l).2) := by
  induction n with
  | zero =>
    refine ⟨fun st h => ?_, fun st h => ?_, fun inner st l h => ?_⟩
    · simp only [partS]; exact ⟨Fwd.spoil h, .inl rfl⟩
    · simp only [escS]; exact Fwd.spoil h
    · simp only [partsS]; exact Fwd.refl h
  | succ n ih =>
    obtain ⟨ihp, ihe, ihs⟩ := ih
    refine ⟨fun st h => ?_, fun st h => ?_, fun inner st l h => ?_⟩
    · rw [partS]
      split
      · exact ⟨Fwd.spoil h, .inl rfl⟩
      · next hc =>
        have hlt : st.i < s.size := by
          simp only [not_or] at hc
          exact peekOk_lt (by simpa using hc.1)
        have h1 := Fwd.adv hlt
        have key : ∀ r : Part × St, Fwd s (adv st) r.2 → Fwd s st (countS s r).2 ∧ ((countS s r).2.bad = true ∨ st.i < (countS s r).2.i) := fun r hr => by
          have h2 := hr.trans (Fwd.count hr.2.1)
          refine ⟨h1.trans h2, .inr ?_⟩
          have := h2.1
          simp [adv] at this
          omega
        split
        · exact key _ (Fwd.refl h1.2.1)
        · split
          · exact key _ (Fwd.set _ h1.2.1)
          · split
            · exact key _ (ihe _ h1.2.1)
            · exact key _ (Fwd.refl h1.2.1)
    · rw [escS]
      split
      · exact Fwd.spoil h
      · next hc =>
        have hlt : st.i < s.size := by
          simp only [not_or] at hc
          exact peekOk_lt (by simpa using hc.1)
        have h1 := Fwd.adv hlt
        split
        · exact h1
        · split
          · exact h1
          · next h2 =>
            have hg : st.g < 9 := by
              simp only [not_or] at hc
              have := hc.2.2
              simp only [Decidable.not_not] at h2
              simp only [h2, true_and] at this
              omega
            have h0 : Fwd s st (opened st) := ⟨by simp [opened], by simp [opened]; omega, fun _ => by simp [opened]; omega⟩
            have h3 := ihs true (opened st) [] h0.2.1
            have h4 := Fwd.eatIf 92 h3.2.1
            exact ((h0.trans h3).trans h4).trans (Fwd.eatIf 41 h4.2.1)
    · rw [partsS]
      split
      · exact Fwd.refl h
      · have h1 := (ihp st h).1
        exact h1.trans (ihs inner _ _ h1.2.1)

end Go.Proofs.YtmjdaifalgpdnaaGreat
