import Derived.Test.YtpnecblofjpgfaaGreatDoorProF
import Derived.Defers
import Derived.Recover
namespace Go.Proofs.YtpnecblofjpgfaaGreatDoor
open Go.RowKit

/-- A part of the program's list. -/
structure PP where
  W : Nat → Nat
  group : Int
  inner : Int
  next : Int
  least : Int
  most : Int

def PP.cells (p : PP) : List Value := [.int .u64 (p.W 0 : Nat), .int .u64 (p.W 1 : Nat), .int .u64 (p.W 2 : Nat), .int .u64 (p.W 3 : Nat), .int .i64 p.group, .int .i64 p.inner, .int .i64 p.next, .int .i64 p.least, .int .i64 p.most]
def zeroPP : PP := ⟨fun _ => 0, 0, 0, 0, 0, 0⟩

def allCells : List PP → List Value
  | [] => []
  | p :: ps => p.cells ++ allCells ps
theorem allCells_append : ∀ a b, allCells (a ++ b) = allCells a ++ allCells b
  | [], b => rfl
  | p :: a, b => by simp only [List.cons_append, allCells, allCells_append a b, List.append_assoc]
theorem allCells_len : ∀ a, (allCells a).length = a.length * 9
  | [] => rfl
  | p :: a => by simp only [allCells, List.length_append, allCells_len a, List.length_cons]; simp [PP.cells]; omega

/-- The program's parts in memory. -/
def Flat (w : World) (pv : Value) (ps : List PP) : Prop := w.ownsRow 0 104 9 pv ps.length (allCells ps)

/-- Of what was there nothing has turned but block b and a row. -/
structure Kq (b : Nat) (row : Option Nat) (w w' : World) : Prop where
  os : w'.os = w.os
  tape : w'.tape = w.tape
  output : w'.output = w.output
  size : w.heap.size ≤ w'.heap.size
  block : ∀ k, k < w.heap.size → k ≠ b → some k ≠ row → w'.heap[k]? = w.heap[k]?

/-- The row is as it was, or in new memory. -/
def Fresh (w : World) (row row' : Option Nat) : Prop := row' = row ∨ ∀ k, row' = some k → w.heap.size ≤ k

section
variable {b : Nat} {row row' : Option Nat} {w w1 w2 : World}
theorem Kq.refl (b : Nat) (row : Option Nat) (w : World) : Kq b row w w := ⟨rfl, rfl, rfl, Nat.le_refl _, fun _ _ _ _ => rfl⟩
theorem Kq.of_kp (h : Kp b w w1) : Kq b row w w1 := ⟨h.os, h.tape, h.output, h.size, fun k hk hb _ => h.block k hk hb⟩
theorem Kq.trans (h : Kq b row w w1) (k : Kq b row' w1 w2) (hf : Fresh w row row') : Kq b row w w2 :=
  ⟨k.os.trans h.os, k.tape.trans h.tape, k.output.trans h.output, Nat.le_trans h.size k.size, fun i hi hb hr => by
    refine (k.block i (Nat.lt_of_lt_of_le hi h.size) hb ?_).trans (h.block i hi hb hr)
    rcases hf with e | e
    · rw [e]; exact hr
    · intro he; have := e i he.symm; omega⟩
theorem Kq.trans' (h : Kq b row w w1) (k : Kp b w1 w2) : Kq b row w w2 := h.trans (Kq.of_kp (row := row) k) (.inl rfl)
theorem Fresh.trans {row'' : Option Nat} (h : Fresh w row row') (k : Fresh w1 row' row'') (hs : w.heap.size ≤ w1.heap.size) : Fresh w row row'' := by
  rcases k with e | e
  · rw [e]; exact h
  · right; intro i hi; have := e i hi; omega
theorem Fresh.refl (w : World) (row : Option Nat) : Fresh w row row := .inl rfl
theorem Blk.kq {k : Nat} {c : Array Value} {t : TypeId} (h : Blk w k c t) (hk : Kq b row w w1) (hb : k ≠ b) (hr : some k ≠ row) : Blk w1 k c t := by
  have := hk.block k h.lt hb hr
  unfold Blk at h ⊢
  rw [this]; exact h
theorem Flat.kp {pv : Value} {ps : List PP} (h : Flat w pv ps) (hk : Kp b w w1) (hb : pv.ownBlock ≠ some b) : Flat w1 pv ps := by
  refine ⟨h.1, ?_⟩
  rcases h.2 with hn | ⟨g, cap, cur, rfl, h0, hg, rest⟩
  · exact .inl hn
  · exact .inr ⟨g, cap, cur, rfl, h0, by rw [hk.block g (Array.getElem?_eq_some_iff.1 hg).1 (fun e => hb (by simp [Value.ownBlock, e]))]; exact hg, rest⟩
theorem Flat.alloc {pv : Value} {ps : List PP} (h : Flat w pv ps) (o : Obj) : Flat (w.alloc o) pv ps := World.ownsRow.alloc h o
theorem Flat.set {pv : Value} {ps : List PP} (h : Flat w pv ps) {p : Addr} (hp : pv.ownBlock ≠ some p.block) (u : Value) : Flat (w.setCell p u) pv ps := by
  refine ⟨h.1, ?_⟩
  rcases h.2 with hn | ⟨g, cap, cur, rfl, h0, hg, rest⟩
  · exact .inl hn
  · exact .inr ⟨g, cap, cur, rfl, h0, by rw [Below.heap_setCell _ _ _ _ (fun e => hp (by simp [Value.ownBlock, e]))]; exact hg, rest⟩
theorem Flat.lt {pv : Value} {ps : List PP} (h : Flat w pv ps) : ∀ k, pv.ownBlock = some k → k < w.heap.size := fun k hk => (World.ownsRow.lt h k hk).2
end

def firstIx (lo : Nat) (l : List Part) : Int := if l.isEmpty then -1 else lo

mutual
/-- An atom as the program has laid it: what its part bears, and the parts within, from place lo on. -/
def LayA (lo : Nat) : Part → (Nat → Nat) → Int → Int → List PP → Prop
  | .mk g kids neg ps _ _, W, group, inner, ks =>
    if g = 0 then group = 0 ∧ ks = [] ∧ Holds4 W (fun c => oneB neg ps c) else group = g ∧ inner = firstIx lo kids ∧ LayL lo kids ks
/-- Parts as the program has laid them, from place lo on. -/
def LayL (lo : Nat) : List Part → List PP → Prop
  | [], qs => qs = []
  | x :: xs, qs => ∃ p ks rest, qs = p :: (ks ++ rest) ∧ LayA (lo + 1) x p.W p.group p.inner ks ∧ p.least = x.mn ∧ p.most = mxV x.mx ∧ p.next = firstIx (lo + 1 + ks.length) xs ∧ LayL (lo + 1 + ks.length) xs rest
end

/-- A part's atom, as the document reads it. -/
def atomT (s : ByteArray) (n : Nat) (st : St) : Part × St :=
  if peekOk s st = false ∨ hasL starL (peekC s st) = true then (emptyP, spoil st) else
  if peekC s st = 46 then (.mk 0 [] false ⟨#[byteOf 0, byteOf 255]⟩ 1 1, adv st) else
  if peekC s st = 91 then (.mk 0 [] (setS s (s.size + 2) (adv st)).1.1 (setS s (s.size + 2) (adv st)).1.2 1 1, (setS s (s.size + 2) (adv st)).2) else
  if peekC s st = 92 then escS s n (adv st) else (singleP (peekC s st), adv st)

theorem partS_atomT (s : ByteArray) (n : Nat) (st : St) : partS s (n + 1) st = countS s (atomT s n st) := by
  rw [partS, atomT]
  split
  · rw [countS_bad rfl]
  · rfl

theorem countS_cnt (s : ByteArray) (P : Part) (st : St) (h : st.bad = false) : countS s (P, st) = (if isB s st 42 = true ∨ isEsc s st 123 = true then upd P (cntS s st).1.1 (cntS s st).1.2 else P, (cntS s st).2) := by
  unfold cntS
  cases h1 : isB s st 42
  · cases h2 : isEsc s st 123
    · rw [countS_none (by rw [h]; simp) (by rw [h1]; simp) (by rw [h2]; simp)]; simp
    · rw [countS_bounds (by rw [h]; simp) (by rw [h1]; simp) h2]; simp
  · rw [countS_star (by rw [h]; simp) h1]; simp

theorem oneB_single (c : Int) (h0 : 0 ≤ c) (h1 : c < 256) (z : Nat) : oneB false ⟨#[byteOf c, byteOf c]⟩ z = decide ((z : Int) = c) := by
  unfold oneB
  rw [inPairs_two _ _ _ h0 h1 h0 h1]
  by_cases h : (z : Int) = c
  · simp [h]
  · have : (decide (c ≤ (z : Int)) && decide ((z : Int) ≤ c)) = false := by simp; omega
    rw [this]; simp [h]

theorem oneB_dot (z : Nat) (hz : z < 256) : oneB false ⟨#[byteOf 0, byteOf 255]⟩ z = true := by
  unfold oneB
  rw [inPairs_two 0 255 _ (by omega) (by omega) (by omega) (by omega)]
  have : (decide ((0 : Int) ≤ (z : Int)) && decide ((z : Int) ≤ 255)) = true := by simp; omega
  rw [this]; rfl

end Go.Proofs.YtpnecblofjpgfaaGreatDoor
