import Derived.Test.YtpnecblofjpgfaaGreatDoorRefF
import Derived.Deep.AppendLies
namespace Go.Proofs.YtpnecblofjpgfaaGreatDoor
open Go.RowKit

/-- A part of an expression, as the document's reader has it. -/
inductive Part where
  | mk (g : Nat) (kids : List Part) (neg : Bool) (pairs : ByteArray) (mn mx : Int)

/-- A slice of parts in memory: its blocks are among those that 'ok' lets in. -/
def Row (ok : Nat → Prop) (w : World) (v : Value) (n : Nat) (xs : List Value) : Prop := w.ownsRow 0 76 6 v n xs ∧ ∀ k, v.ownBlock = some k → ok k

mutual
def PRep (ok : Nat → Prop) (w : World) : Part → List Value → Prop
  | .mk g kids neg pairs mn mx, cs => ∃ ka kl kc xs, cs = [.int .i64 g, .slice ka kl kc, .bool neg, .string pairs, .int .i64 mn, .int .i64 mx] ∧ Row ok w (.slice ka kl kc) kids.length xs ∧ KRep ok w kids xs
def KRep (ok : Nat → Prop) (w : World) : List Part → List Value → Prop
  | [], xs => xs = []
  | p :: ps, xs => ∃ c rest, xs = c ++ rest ∧ PRep ok w p c ∧ KRep ok w ps rest
end

def Agree (ok : Nat → Prop) (w w' : World) : Prop := w.heap.size ≤ w'.heap.size ∧ ∀ k, ok k → k < w.heap.size → w'.heap[k]? = w.heap[k]?

theorem Row.agree {ok : Nat → Prop} {w w' : World} {v : Value} {n : Nat} {xs : List Value} (h : Row ok w v n xs) (ha : Agree ok w w') : Row ok w' v n xs := by
  refine ⟨⟨h.1.1, ?_⟩, h.2⟩
  rcases h.1.2 with hn | ⟨g, cap, cur, rfl, hb, hg, rest⟩
  · exact .inl hn
  · exact .inr ⟨g, cap, cur, rfl, hb, by rw [ha.2 g (h.2 g rfl) (Array.getElem?_eq_some_iff.1 hg).1]; exact hg, rest⟩

theorem Row.mono {ok ok' : Nat → Prop} {w : World} {v : Value} {n : Nat} {xs : List Value} (h : Row ok w v n xs) (hm : ∀ k, ok k → k < w.heap.size → ok' k) : Row ok' w v n xs :=
  ⟨h.1, fun k hk => hm k (h.2 k hk) (h.1.lt k hk).2⟩

mutual
theorem PRep.agree {ok : Nat → Prop} {w w' : World} (ha : Agree ok w w') : ∀ (p : Part) (cs : List Value), PRep ok w p cs → PRep ok w' p cs
  | .mk g kids neg pairs mn mx, cs, h => by
    simp only [PRep] at h ⊢
    obtain ⟨ka, kl, kc, xs, h1, h2, h3⟩ := h
    exact ⟨ka, kl, kc, xs, h1, h2.agree ha, KRep.agree ha kids xs h3⟩
theorem KRep.agree {ok : Nat → Prop} {w w' : World} (ha : Agree ok w w') : ∀ (l : List Part) (xs : List Value), KRep ok w l xs → KRep ok w' l xs
  | [], xs, h => by simp only [KRep] at h ⊢; exact h
  | p :: ps, xs, h => by
    simp only [KRep] at h ⊢
    obtain ⟨c, rest, h1, h2, h3⟩ := h
    exact ⟨c, rest, h1, PRep.agree ha p c h2, KRep.agree ha ps rest h3⟩
end

mutual
theorem PRep.mono {ok ok' : Nat → Prop} {w : World} (hm : ∀ k, ok k → k < w.heap.size → ok' k) : ∀ (p : Part) (cs : List Value), PRep ok w p cs → PRep ok' w p cs
  | .mk g kids neg pairs mn mx, cs, h => by
    simp only [PRep] at h ⊢
    obtain ⟨ka, kl, kc, xs, h1, h2, h3⟩ := h
    exact ⟨ka, kl, kc, xs, h1, h2.mono hm, KRep.mono hm kids xs h3⟩
theorem KRep.mono {ok ok' : Nat → Prop} {w : World} (hm : ∀ k, ok k → k < w.heap.size → ok' k) : ∀ (l : List Part) (xs : List Value), KRep ok w l xs → KRep ok' w l xs
  | [], xs, h => by simp only [KRep] at h ⊢; exact h
  | p :: ps, xs, h => by
    simp only [KRep] at h ⊢
    obtain ⟨c, rest, h1, h2, h3⟩ := h
    exact ⟨c, rest, h1, PRep.mono hm p c h2, KRep.mono hm ps rest h3⟩
end

theorem KRep.snoc {ok : Nat → Prop} {w : World} : ∀ (l : List Part) (xs : List Value) (p : Part) (c : List Value), KRep ok w l xs → PRep ok w p c → KRep ok w (l ++ [p]) (xs ++ c)
  | [], xs, p, c, h, hp => by
    simp only [KRep] at h; subst h
    simp only [List.nil_append, KRep]
    exact ⟨c, [], by simp, hp, rfl⟩
  | q :: l, xs, p, c, h, hp => by
    simp only [KRep] at h
    obtain ⟨d, rest, h1, h2, h3⟩ := h
    simp only [List.cons_append, KRep]
    exact ⟨d, rest ++ c, by rw [h1, List.append_assoc], h2, KRep.snoc l rest p c h3 hp⟩

theorem Kp.agree {b : Nat} {w w' : World} (h : Kp b w w') {ok : Nat → Prop} (hb : ¬ ok b) : Agree ok w w' := ⟨h.size, fun k hk hl => h.block k hl (fun e => hb (e ▸ hk))⟩
section
variable {ok : Nat → Prop} {w w1 w2 : World}
theorem Agree.refl (ok : Nat → Prop) (w : World) : Agree ok w w := ⟨Nat.le_refl _, fun _ _ _ => rfl⟩
theorem Agree.trans (h : Agree ok w w1) (k : Agree ok w1 w2) : Agree ok w w2 := ⟨Nat.le_trans h.1 k.1, fun i hi hl => (k.2 i hi (Nat.lt_of_lt_of_le hl h.1)).trans (h.2 i hi hl)⟩
theorem Agree.set (h : Agree ok w w1) {p : Addr} (hp : ¬ ok p.block) (u : Value) : Agree ok w (w1.setCell p u) :=
  ⟨by simpa [World.setCell] using h.1, fun k hk hl => (Below.heap_setCell _ _ _ _ (fun e => hp (e ▸ hk))).trans (h.2 k hk hl)⟩
theorem Agree.kp (h : Agree ok w w1) {b : Nat} (k : Kp b w1 w2) (hb : ¬ ok b) : Agree ok w w2 := h.trans (k.agree hb)
theorem Agree.drewN (h : Agree ok w w1) (n : Nat) : Agree ok w (w1.drewN n) := h
theorem Agree.alloc (h : Agree ok w w1) (o : Obj) : Agree ok w (w1.alloc o) :=
  h.trans ⟨by simp, fun k _ hl => Below.heap_alloc _ _ _ hl⟩
theorem Agree.put6 (h : Agree ok w w1) {k : Nat} (hk : ¬ ok k) (b0 b1 b2 b3 b4 b5 : Value) :
    Agree ok w ((((((w1.setCell ⟨k, 0, none⟩ b0).setCell ⟨k, 1, none⟩ b1).setCell ⟨k, 2, none⟩ b2).setCell ⟨k, 3, none⟩ b3).setCell ⟨k, 4, none⟩ b4).setCell ⟨k, 5, none⟩ b5) :=
  (((((h.set hk _).set hk _).set hk _).set hk _).set hk _).set hk _
end

/-- What 'part' and 'escaped' hand back. -/
def PartV (ok : Nat → Prop) (w : World) : Part → Value → Prop
  | .mk g kids neg pairs mn mx, v => ∃ ka kl kc xs, v = .agg #[.int .i64 g, .slice ka kl kc, .bool neg, .string pairs, .int .i64 mn, .int .i64 mx] ∧ Row ok w (.slice ka kl kc) kids.length xs ∧ KRep ok w kids xs

def emptyP : Part := .mk 0 [] false ⟨#[]⟩ 0 0
def singleP (c : Int) : Part := .mk 0 [] false ⟨#[byteOf c, byteOf c]⟩ 1 1
def upd : Part → Int → Int → Part | .mk g k neg ps _ _, mn, mx => .mk g k neg ps mn mx
def starL : List UInt8 := [42, 47, 94, 36, 10]
def escL : List UInt8 := [46, 91, 93, 42, 94, 36, 92, 47, 110, 40]

def countS (s : ByteArray) (r : Part × St) : Part × St :=
  if r.2.bad = true then r else
  if isB s r.2 42 = true then (upd r.1 0 (-1), adv r.2) else
  if isEsc s r.2 123 = true then (upd r.1 (boundsS s (adv (adv r.2))).1.1 (boundsS s (adv (adv r.2))).1.2, (boundsS s (adv (adv r.2))).2) else r

def opened (st : St) : St := { st with i := st.i + 1, g := st.g + 1 }

def stopped (s : ByteArray) (st : St) : Prop := st.bad = true ∨ ¬ st.i < s.size ∨ isB s st 47 = true ∨ isB s st 36 = true
instance (s : ByteArray) (st : St) : Decidable (stopped s st) := by unfold stopped; infer_instance

mutual
def partS (s : ByteArray) : Nat → St → Part × St
  | 0, st => (emptyP, spoil st)
  | n + 1, st =>
    if peekOk s st = false ∨ hasL starL (peekC s st) = true then (emptyP, spoil st) else
    countS s (
      if peekC s st = 46 then (.mk 0 [] false ⟨#[byteOf 0, byteOf 255]⟩ 1 1, adv st) else
      if peekC s st = 91 then (.mk 0 [] (setS s (s.size + 2) (adv st)).1.1 (setS s (s.size + 2) (adv st)).1.2 1 1, (setS s (s.size + 2) (adv st)).2) else
      if peekC s st = 92 then escS s n (adv st) else (singleP (peekC s st), adv st))
def escS (s : ByteArray) : Nat → St → Part × St
  | 0, st => (emptyP, spoil st)
  | n + 1, st =>
    if peekOk s st = false ∨ hasL escL (peekC s st) = false ∨ (peekC s st = 40 ∧ 9 ≤ st.g) then (emptyP, spoil st) else
    if peekC s st = 110 then (singleP 10, adv st) else
    if peekC s st ≠ 40 then (singleP (peekC s st), adv st) else
    (.mk (st.g + 1) (partsS s true n (opened st) []).1 false ⟨#[]⟩ 1 1, eatIf s 41 (eatIf s 92 (partsS s true n (opened st) []).2))
def partsS (s : ByteArray) (inner : Bool) : Nat → St → List Part → List Part × St
  | 0, st, l => (l, st)
  | n + 1, st, l =>
    if stopped s st ∨ (inner = true ∧ isEsc s st 41 = true) then (l, st) else
    partsS s inner n (partS s n st).2 (l ++ [(partS s n st).1])
end

section
variable {s : ByteArray} {n : Nat} {st : St}
theorem escS_bad (h : peekOk s st = false ∨ hasL escL (peekC s st) = false ∨ (peekC s st = 40 ∧ 9 ≤ st.g)) : escS s (n + 1) st = (emptyP, spoil st) := by rw [escS, if_pos h]
theorem escS_n (h : ¬ (peekOk s st = false ∨ hasL escL (peekC s st) = false ∨ (peekC s st = 40 ∧ 9 ≤ st.g))) (h1 : peekC s st = 110) : escS s (n + 1) st = (singleP 10, adv st) := by rw [escS, if_neg h, if_pos h1]
theorem escS_one (h : ¬ (peekOk s st = false ∨ hasL escL (peekC s st) = false ∨ (peekC s st = 40 ∧ 9 ≤ st.g))) (h1 : ¬ peekC s st = 110) (h2 : peekC s st ≠ 40) : escS s (n + 1) st = (singleP (peekC s st), adv st) := by rw [escS, if_neg h, if_neg h1, if_pos h2]
theorem escS_open (h : ¬ (peekOk s st = false ∨ hasL escL (peekC s st) = false ∨ (peekC s st = 40 ∧ 9 ≤ st.g))) (h1 : ¬ peekC s st = 110) (h2 : ¬ peekC s st ≠ 40) :
    escS s (n + 1) st = (.mk (st.g + 1) (partsS s true n (opened st) []).1 false ⟨#[]⟩ 1 1, eatIf s 41 (eatIf s 92 (partsS s true n (opened st) []).2)) := by rw [escS, if_neg h, if_neg h1, if_neg h2]
end

end Go.Proofs.YtpnecblofjpgfaaGreatDoor
