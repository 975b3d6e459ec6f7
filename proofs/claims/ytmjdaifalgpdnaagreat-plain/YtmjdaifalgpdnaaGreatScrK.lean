import Derived.Test.YtmjdaifalgpdnaaGreatPriC
namespace Go.Proofs.YtmjdaifalgpdnaaGreat
open Go.RowKit

def cmdL : List UInt8 := [123, 125, 58, 98, 116, 97, 105, 99, 100, 68, 103, 71, 104, 72, 120, 110, 78, 112, 80, 113, 81, 115, 119, 121, 61]

/-- What stands ahead of a letter: both addresses. -/
def addrsS (s : ByteArray) (n : Nat) (st : St) : Int × St :=
  if (addrS s n st).2.bad = false ∧ (addrS s n st).1.kind ≠ 0 ∧ isB s (addrS s n st).2 44 = true then
    ((addrS s n st).1.kind, if (addrS s n (adv (addrS s n st).2)).1.kind = 0 then spoil (addrS s n (adv (addrS s n st).2)).2 else (addrS s n (adv (addrS s n st).2)).2)
  else ((addrS s n st).1.kind, (addrS s n st).2)

def letterBad (s : ByteArray) (nest : Nat) (full : Bool) (kind : Int) (nt : Bool) (st : St) : Prop :=
  peekOk s st = false ∨ full = true ∨ hasL cmdL (peekC s st) = false ∨ (¬ (kind = 0 ∧ nt = false) ∧ (peekC s st = 125 ∨ peekC s st = 58)) ∨ (peekC s st = 123 ∧ 6 ≤ nest) ∨ (peekC s st = 125 ∧ nest = 0)
instance (s : ByteArray) (nest : Nat) (full : Bool) (kind : Int) (nt : Bool) (st : St) : Decidable (letterBad s nest full kind nt st) := by unfold letterBad; infer_instance

structure CmT where
  op : Int
  pos : Nat
  text : ByteArray
  plain : ByteArray

/-- A command's text without the blanks that need not be. -/
def plainC (s : ByteArray) (i0 ia : Nat) (nt : Bool) (ic ie : Nat) : ByteArray := (if nt = true then s.extract i0 ia ++ ⟨#[33]⟩ else s.extract i0 ia) ++ s.extract ic ie

def commandS (s : ByteArray) (n nest : Nat) (full : Bool) (st : St) : CmT × St :=
  let a := addrsS s n st
  if a.2.bad = true then (⟨0, 0, ⟨#[]⟩, ⟨#[]⟩⟩, a.2) else
  let b := blanksS s (s.size + 1) a.2
  let c := advIf s 33 b
  if letterBad s nest full a.1 (isB s b 33) c then (⟨0, 0, ⟨#[]⟩, ⟨#[]⟩⟩, spoil c) else
  (⟨peekC s c, c.i, restT s (peekC s c) (adv c), plainC s st.i a.2.i (isB s b 33) c.i (restS s n (peekC s c) (adv c)).i⟩, restS s n (peekC s c) (adv c))

theorem text_plain {s : ByteArray} {A B : AdT} {nt : Bool} {f : Rf} {op : Int} {st st2 c st' : St} (h1 : addrsX A B = s.extract st.i st2.i) (hok : peekOk s c = true) (hop : peekC s c = op) (h2 : restX op f = s.extract (adv c).i st'.i) (hle : (adv c).i ≤ st'.i) : textX op A B nt f = plainC s st.i st2.i nt c.i st'.i := by
  unfold textX plainC
  rw [h1, h2, ← hop, ← peek_byte hok]
  have c1 : (adv c).i = c.i + 1 := rfl
  rw [c1] at hle ⊢
  rw [ByteArray.append_assoc, ext_app s (Nat.le_succ _) hle]

/-- A command being read: its addresses, whether it has a !, nothing else yet. -/
structure CmH (A B : AdT) (nt : Bool) (c : Array Value) : Prop where
  size : c.size = 31
  one : c.all (·.oneCell') = true
  fd : FdV c A B nt zF
  e26 : c[26]? = some (.slice none 0 0)
section
variable {A B : AdT} {nt : Bool} {c : Array Value}
theorem CmH.e2 (h : CmH A B nt c) : c[2]? = some (.int .u8 A.kind) := h.fd.e2
theorem CmH.e16 (h : CmH A B nt c) : c[16]? = some (.bool nt) := h.fd.e16
theorem CmH.set (h : CmH A B nt c) (o : Nat) (ho : o < 2) {v : Value} (hv : v.oneCell' = true) : CmH A B nt (c.setIfInBounds o v) := by
  refine ⟨by simp [h.size], one_set h.one o hv, ⟨?_, ?_, ?_, ?_, ?_, ?_, ?_, h.fd.rv.set o (.inl (by omega)) v⟩, ?_⟩
  all_goals rw [Array.getElem?_setIfInBounds_ne (by omega)]
  · exact h.fd.e2
  · exact h.fd.e3
  · exact h.fd.e8
  · exact h.fd.e9
  · exact h.fd.e10
  · exact h.fd.e15
  · exact h.fd.e16
  · exact h.e26
theorem CmH.set16 (h : CmH A B nt c) (k : Bool) : CmH A B k (c.setIfInBounds 16 (.bool k)) := by
  have hz := h.size
  refine ⟨by simp [h.size], one_set h.one 16 rfl, ⟨?_, ?_, ?_, ?_, ?_, ?_, Array.getElem?_setIfInBounds_self_of_lt (by omega), h.fd.rv.set 16 (.inl (by omega)) _⟩, ?_⟩
  all_goals rw [Array.getElem?_setIfInBounds_ne (by omega)]
  · exact h.fd.e2
  · exact h.fd.e3
  · exact h.fd.e8
  · exact h.fd.e9
  · exact h.fd.e10
  · exact h.fd.e15
  · exact h.e26
theorem get_ne {c : Array Value} {x : Option Value} {i : Nat} (o : Nat) (v : Value) (hx : c[i]? = x) (h : o ≠ i) : (c.setIfInBounds o v)[i]? = x := by rw [Array.getElem?_setIfInBounds_ne h]; exact hx
theorem get_eq {c : Array Value} {i : Nat} (v : Value) (h : i < c.size) : (c.setIfInBounds i v)[i]? = some v := Array.getElem?_setIfInBounds_self_of_lt h
theorem CmH.setA (h : CmH A B nt c) (A' : AdT) (v4 v5 v6 v7 : Value) (h4 : v4.oneCell' = true) (h5 : v5.oneCell' = true) (h6 : v6.oneCell' = true) (h7 : v7.oneCell' = true) :
    CmH A' B nt (((((((c.setIfInBounds 2 (.int .u8 A'.kind)).setIfInBounds 3 (.int .i64 A'.num)).setIfInBounds 4 v4).setIfInBounds 5 v5).setIfInBounds 6 v6).setIfInBounds 7 v7).setIfInBounds 8 (.string A'.text)) := by
  have hz := h.size
  refine ⟨by simp [hz], one_set (one_set (one_set (one_set (one_set (one_set (one_set h.one 2 rfl) 3 rfl) 4 h4) 5 h5) 6 h6) 7 h7) 8 rfl, ⟨?_, ?_, ?_, ?_, ?_, ?_, ?_, ?_⟩, ?_⟩
  · exact get_ne 8 _ (get_ne 7 _ (get_ne 6 _ (get_ne 5 _ (get_ne 4 _ (get_ne 3 _ (get_eq _ (by omega)) (by omega)) (by omega)) (by omega)) (by omega)) (by omega)) (by omega)
  · exact get_ne 8 _ (get_ne 7 _ (get_ne 6 _ (get_ne 5 _ (get_ne 4 _ (get_eq _ (by simp [hz])) (by omega)) (by omega)) (by omega)) (by omega)) (by omega)
  · exact get_eq _ (by simp [hz])
  · exact get_ne 8 _ (get_ne 7 _ (get_ne 6 _ (get_ne 5 _ (get_ne 4 _ (get_ne 3 _ (get_ne 2 _ h.fd.e9 (by omega)) (by omega)) (by omega)) (by omega)) (by omega)) (by omega)) (by omega)
  · exact get_ne 8 _ (get_ne 7 _ (get_ne 6 _ (get_ne 5 _ (get_ne 4 _ (get_ne 3 _ (get_ne 2 _ h.fd.e10 (by omega)) (by omega)) (by omega)) (by omega)) (by omega)) (by omega)) (by omega)
  · exact get_ne 8 _ (get_ne 7 _ (get_ne 6 _ (get_ne 5 _ (get_ne 4 _ (get_ne 3 _ (get_ne 2 _ h.fd.e15 (by omega)) (by omega)) (by omega)) (by omega)) (by omega)) (by omega)) (by omega)
  · exact get_ne 8 _ (get_ne 7 _ (get_ne 6 _ (get_ne 5 _ (get_ne 4 _ (get_ne 3 _ (get_ne 2 _ h.fd.e16 (by omega)) (by omega)) (by omega)) (by omega)) (by omega)) (by omega)) (by omega)
  · exact ((((((h.fd.rv.set 2 (by omega) _).set 3 (by omega) _).set 4 (by omega) _).set 5 (by omega) _).set 6 (by omega) _).set 7 (by omega) _).set 8 (by omega) _
  · exact get_ne 8 _ (get_ne 7 _ (get_ne 6 _ (get_ne 5 _ (get_ne 4 _ (get_ne 3 _ (get_ne 2 _ h.e26 (by omega)) (by omega)) (by omega)) (by omega)) (by omega)) (by omega)) (by omega)
theorem CmH.setB (h : CmH A B nt c) (B' : AdT) (v4 v5 v6 v7 : Value) (h4 : v4.oneCell' = true) (h5 : v5.oneCell' = true) (h6 : v6.oneCell' = true) (h7 : v7.oneCell' = true) :
    CmH A B' nt (((((((c.setIfInBounds 9 (.int .u8 B'.kind)).setIfInBounds 10 (.int .i64 B'.num)).setIfInBounds 11 v4).setIfInBounds 12 v5).setIfInBounds 13 v6).setIfInBounds 14 v7).setIfInBounds 15 (.string B'.text)) := by
  have hz := h.size
  refine ⟨by simp [hz], one_set (one_set (one_set (one_set (one_set (one_set (one_set h.one 9 rfl) 10 rfl) 11 h4) 12 h5) 13 h6) 14 h7) 15 rfl, ⟨?_, ?_, ?_, ?_, ?_, ?_, ?_, ?_⟩, ?_⟩
  · exact get_ne 15 _ (get_ne 14 _ (get_ne 13 _ (get_ne 12 _ (get_ne 11 _ (get_ne 10 _ (get_ne 9 _ h.fd.e2 (by omega)) (by omega)) (by omega)) (by omega)) (by omega)) (by omega)) (by omega)
  · exact get_ne 15 _ (get_ne 14 _ (get_ne 13 _ (get_ne 12 _ (get_ne 11 _ (get_ne 10 _ (get_ne 9 _ h.fd.e3 (by omega)) (by omega)) (by omega)) (by omega)) (by omega)) (by omega)) (by omega)
  · exact get_ne 15 _ (get_ne 14 _ (get_ne 13 _ (get_ne 12 _ (get_ne 11 _ (get_ne 10 _ (get_ne 9 _ h.fd.e8 (by omega)) (by omega)) (by omega)) (by omega)) (by omega)) (by omega)) (by omega)
  · exact get_ne 15 _ (get_ne 14 _ (get_ne 13 _ (get_ne 12 _ (get_ne 11 _ (get_ne 10 _ (get_eq _ (by omega)) (by omega)) (by omega)) (by omega)) (by omega)) (by omega)) (by omega)
  · exact get_ne 15 _ (get_ne 14 _ (get_ne 13 _ (get_ne 12 _ (get_ne 11 _ (get_eq _ (by simp [hz])) (by omega)) (by omega)) (by omega)) (by omega)) (by omega)
  · exact get_eq _ (by simp [hz])
  · exact get_ne 15 _ (get_ne 14 _ (get_ne 13 _ (get_ne 12 _ (get_ne 11 _ (get_ne 10 _ (get_ne 9 _ h.fd.e16 (by omega)) (by omega)) (by omega)) (by omega)) (by omega)) (by omega)) (by omega)
  · exact ((((((h.fd.rv.set 9 (by omega) _).set 10 (by omega) _).set 11 (by omega) _).set 12 (by omega) _).set 13 (by omega) _).set 14 (by omega) _).set 15 (by omega) _
  · exact get_ne 15 _ (get_ne 14 _ (get_ne 13 _ (get_ne 12 _ (get_ne 11 _ (get_ne 10 _ (get_ne 9 _ h.e26 (by omega)) (by omega)) (by omega)) (by omega)) (by omega)) (by omega)) (by omega)
end
theorem zeroH : CmH ⟨0, 0, ⟨#[]⟩⟩ ⟨0, 0, ⟨#[]⟩⟩ false zeroC := ⟨rfl, by kernel_rfl, ⟨rfl, rfl, rfl, rfl, rfl, rfl, rfl, ⟨rfl, rfl, rfl, rfl, rfl, rfl, rfl, rfl⟩⟩, rfl⟩

theorem num_le (s : ByteArray) : ∀ (k : Nat) (a : Int) (st : St), st.i ≤ s.size → st.i ≤ (numL s k a st).2.i ∧ (numL s k a st).2.i ≤ s.size
  | 0, _, st, h => ⟨Nat.le_refl _, h⟩
  | k + 1, a, st, h => by
    rw [numL]
    split
    · have h1 := digit_ge s 48 st
      have h2 := digit_le s 48 st h
      have := num_le s k (10 * a + (digitS s 48 st).1) (digitS s 48 st).2 h2
      omega
    · exact ⟨Nat.le_refl _, h⟩
theorem addr_le (s : ByteArray) (n : Nat) (st : St) (h : st.i ≤ s.size) : st.i ≤ (addrS s n st).2.i ∧ (addrS s n st).2.i ≤ s.size := by
  unfold addrS
  split
  · next hc => have := peekOk_lt (isB_ok hc); simp [adv]; omega
  · split
    · next hc =>
      have h1 := peekOk_lt (isB_ok hc)
      have h2 := pattern_le s n (adv st) (by simp [adv]; omega)
      have h3 : (adv st).i = st.i + 1 := rfl
      exact ⟨by show st.i ≤ (patternS s n (adv st)).2.i; omega, h2.2⟩
    · split
      · exact ⟨Nat.le_refl _, h⟩
      · exact num_le s 4 0 st h

/-- A command that was read, as far as its printed text hangs on it. -/
def TxV (m : Nat) (cs : Array Value) (t : CmT) : Prop := ∃ (A B : AdT) (nt : Bool) (f : Rf), FdV cs A B nt f ∧ AdB m A ∧ AdB m B ∧ 0 ≤ f.n ∧ f.n < 100000 ∧ f.text.size ≤ m ∧ f.tt.size ≤ m ∧ f.r.size ≤ m ∧ textX t.op A B nt f = t.plain ∧ 0 ≤ t.op ∧ t.op < 256
/-- A command that was read, as a value. -/
def CmdV (cs : Array Value) (t : CmT) : Prop := cs.size = 31 ∧ cs.all (·.oneCell') = true ∧ cs[0]? = some (.int .u8 t.op) ∧ cs[1]? = some (.int .i64 t.pos) ∧ (∃ x, cs[17]? = some (.string x)) ∧ ((t.op = 58 ∨ t.op = 98 ∨ t.op = 116) → cs[17]? = some (.string t.text)) ∧ TxV 1048576 cs t

theorem has_cmd (c : Int) (w : World) : Calls Tryz.prog 41 #[.string ⟨#[123, 125, 58, 98, 116, 97, 105, 99, 100, 68, 103, 71, 104, 72, 120, 110, 78, 112, 80, 113, 81, 115, 119, 121, 61]⟩, .int .u8 c] w fun e w' => e = .returned (.bool (hasL cmdL c)) ∧ w' = w :=
  has_any ⟨#[123, 125, 58, 98, 116, 97, 105, 99, 100, 68, 103, 71, 104, 72, 120, 110, 78, 112, 80, 113, 81, 115, 119, 121, 61]⟩ c w (by decide)

set_option maxRecDepth 100000 in
set_option maxHeartbeats 1600000 in
theorem command_any (n b nest : Nat) (full : Bool) (s : ByteArray) (st : St) (w : World) (h : RD w b s st) (hs : s.size ≤ 1048576) (hi : st.i ≤ s.size) (hn : 2 * (s.size - st.i) + 2 ≤ n) (hn' : n ≤ 4000000) (hne : nest ≤ 1000000) :
    Calls Tryz.prog 28 #[.pointer (some ⟨b, 0, none⟩), .int .i64 nest, .bool full] w fun e w' => ∃ cs', e = .returned (.agg cs') ∧ (cs'.size = 31 ∧ cs'.all (·.oneCell') = true) ∧ ((commandS s n nest full st).2.bad = false → CmdV cs' (commandS s n nest full st).1) ∧ RD w' b s (commandS s n nest full st).2 ∧ Kp b w w' := by
  have hbl := h.lt
  have hR0 := (h.alloc (.cells zeroC 62)).alloc (.cells zeroC 62)
  have hK0 : Kp b w ((w.alloc (.cells zeroC 62)).alloc (.cells zeroC 62)) := ((Kp.refl b w).alloc _).alloc _
  have hZ0 : Blk ((w.alloc (.cells zeroC 62)).alloc (.cells zeroC 62)) w.heap.size zeroC 62 := (Blk.new _ _ _).alloc _
  have hC0 : Blk ((w.alloc (.cells zeroC 62)).alloc (.cells zeroC 62)) (w.heap.size + 1) zeroC 62 := Blk.newAt (by simp)
  have hone : zeroC.all (·.oneCell') = true := by kernel_rfl
  have hi2 : (Tryz.prog.info? 62).map (·.size) = some zeroC.size := infoCmd
  have hth := there_cmd (n := zeroC.size) hC0 rfl
  have hR1 := setCells_rd (k := w.heap.size + 1) (by omega) zeroC.toList 0 _ hR0
  have hK1 := setCells_kp (k := w.heap.size + 1) (by omega) zeroC.toList 0 _ hK0
  have hZ1 := setCells_other (g := w.heap.size + 1) (by omega) zeroC.toList 0 _ hZ0
  have hC1 := setCells_all hC0 zeroC rfl
  go_enter Tryz.func28, Tryz.ntmps28
  go_upto_region 2 with (refine wpList_store_mid rfl 62 _ _ rfl (w.heap.size + 1) 0 zeroC rfl rfl hth hi2 hone ?_)
  generalize hw1 : ((w.alloc (.cells zeroC 62)).alloc (.cells zeroC 62)).setCells (w.heap.size + 1) 0 zeroC.toList = w1 at hR1 hK1 hZ1 hC1
  change Code.wp _ _ _ _ (((w.alloc (.cells zeroC 62)).alloc (.cells zeroC 62)).setCells (w.heap.size + 1) 0 zeroC.toList)
  rw [hw1]
  clear hw1 hth hR0 hK0 hZ0 hC0 hi2 hone
  obtain ⟨rb, hrb⟩ : ∃ rb, rb = w.heap.size := ⟨_, rfl⟩
  have hrb1 : w.heap.size ≤ rb := by omega
  have hrbb : b < rb := by omega
  rw [← hrb] at hC1 hZ1 ⊢
  have HRB := hide hrb
  clear hrb
  have hcb1 : w.heap.size ≤ rb + 1 := by omega
  have ne1 : rb + 1 ≠ b := by omega
  have ne2 : rb + 1 ≠ rb := by omega
  have ne3 : rb ≠ b := by omega
  go_wp2_with fail
  refine (addr_any n b s st w1 hR1 hs hi hn hn').mono ?_
  rintro e w2 ⟨v, rfl, ⟨fi, la, ka, kl, kc, g, rfl⟩, hR2, hK2⟩
  have hC2 := hC1.kp hK2 (by omega)
  have hZ2 := hZ1.kp hK2 (by omega)
  have hKw := hK1.trans hK2
  have hal := addr_le s n st hi
  have HAD := hide (adr_one s n st)
  clear hR1 hK1 hC1 hZ1 hK2
  have q2 := hC2.cell 2 (v := .int .u8 0) rfl
  have q3 := hC2.cell 3 (v := .int .i64 0) rfl
  have q4 := hC2.cell 4 (v := .bool false) rfl
  have q5 := hC2.cell 5 (v := .bool false) rfl
  have q6 := hC2.cell 6 (v := .slice none 0 0) rfl
  have q7 := hC2.cell 7 (v := .int .i64 0) rfl
  have q8 := hC2.cell 8 (v := .string ⟨#[]⟩) rfl
  have qf := hC2.fz
  have Haddr := hide (show addrsS s n st = (if (addrS s n st).2.bad = false ∧ (addrS s n st).1.kind ≠ 0 ∧ isB s (addrS s n st).2 44 = true then
      ((addrS s n st).1.kind, if (addrS s n (adv (addrS s n st).2)).1.kind = 0 then spoil (addrS s n (adv (addrS s n st).2)).2 else (addrS s n (adv (addrS s n st).2)).2)
    else ((addrS s n st).1.kind, (addrS s n st).2)) from rfl)
  go_upto_region 3 with fail
  generalize addrS s n st = AA at *
  obtain ⟨A, q⟩ := AA
  dsimp only at *
  have hR3 := (((((((hR2.other (p := ⟨rb + 1, 2, none⟩) ne1 (.int .u8 A.kind)).other (p := ⟨rb + 1, 3, none⟩) ne1 (.int .i64 A.num)).other (p := ⟨rb + 1, 4, none⟩) ne1 (.bool fi)).other (p := ⟨rb + 1, 5, none⟩) ne1 (.bool la)).other (p := ⟨rb + 1, 6, none⟩) ne1 (.slice ka kl kc)).other (p := ⟨rb + 1, 7, none⟩) ne1 (.int .i64 g)).other (p := ⟨rb + 1, 8, none⟩) ne1 (.string A.text))
  have hZ3 := (((((((hZ2.other (p := ⟨rb + 1, 2, none⟩) ne2 (.int .u8 A.kind)).other (p := ⟨rb + 1, 3, none⟩) ne2 (.int .i64 A.num)).other (p := ⟨rb + 1, 4, none⟩) ne2 (.bool fi)).other (p := ⟨rb + 1, 5, none⟩) ne2 (.bool la)).other (p := ⟨rb + 1, 6, none⟩) ne2 (.slice ka kl kc)).other (p := ⟨rb + 1, 7, none⟩) ne2 (.int .i64 g)).other (p := ⟨rb + 1, 8, none⟩) ne2 (.string A.text))
  have hK3 := (((((((hKw.setNew (p := ⟨rb + 1, 2, none⟩) hcb1 (.int .u8 A.kind)).setNew (p := ⟨rb + 1, 3, none⟩) hcb1 (.int .i64 A.num)).setNew (p := ⟨rb + 1, 4, none⟩) hcb1 (.bool fi)).setNew (p := ⟨rb + 1, 5, none⟩) hcb1 (.bool la)).setNew (p := ⟨rb + 1, 6, none⟩) hcb1 (.slice ka kl kc)).setNew (p := ⟨rb + 1, 7, none⟩) hcb1 (.int .i64 g)).setNew (p := ⟨rb + 1, 8, none⟩) hcb1 (.string A.text))
  have hC3 := (((((((hC2.set 2 (.int .u8 A.kind) rfl).set 3 (.int .i64 A.num) rfl).set 4 (.bool fi) rfl).set 5 (.bool la) rfl).set 6 (.slice ka kl kc) rfl).set 7 (.int .i64 g) rfl).set 8 (.string A.text) rfl)
  have hH3 := zeroH.setA A (.bool fi) (.bool la) (.slice ka kl kc) (.int .i64 g) rfl rfl rfl rfl
  generalize (((((((w2.setCell ⟨rb + 1, 2, none⟩ (.int .u8 A.kind)).setCell ⟨rb + 1, 3, none⟩ (.int .i64 A.num)).setCell ⟨rb + 1, 4, none⟩ (.bool fi)).setCell ⟨rb + 1, 5, none⟩ (.bool la)).setCell ⟨rb + 1, 6, none⟩ (.slice ka kl kc)).setCell ⟨rb + 1, 7, none⟩ (.int .i64 g)).setCell ⟨rb + 1, 8, none⟩ (.string A.text)) = w3 at *
  generalize (((((((zeroC.setIfInBounds 2 (.int .u8 A.kind)).setIfInBounds 3 (.int .i64 A.num)).setIfInBounds 4 (.bool fi)).setIfInBounds 5 (.bool la)).setIfInBounds 6 (.slice ka kl kc)).setIfInBounds 7 (.int .i64 g)).setIfInBounds 8 (.string A.text)) = c3 at *
  clear q2 q3 q4 q5 q6 q7 q8 qf hR2 hZ2 hKw hC2
  have r2 := hR3.c2
  have q2 := hC3.cell 2 hH3.e2
  go_cut [29] (fun bv wc => bv = .bool (!q.bad && decide (A.kind ≠ 0) && isB s q 44) ∧ Same w3 wc)
  case first =>
    cases hb : q.bad
    · rw [hb] at r2
      by_cases hk : A.kind = 0
      · rw [hk] at q2
        go_wp2_with fail
        go_meet
        case rel => exact ⟨by simp [hb, hk], 0, rfl⟩
      · go_wp2_with (go_at_call 27; refine (is_any b s q 44 w3 hR3 hs).mono ?_; rintro e w4 ⟨rfl, hw4⟩; replace hw4 : Same w3 w4 := hw4)
        go_meet
        case rel => exact ⟨by simp [hb, hk], hw4⟩
    · rw [hb] at r2
      go_wp2_with fail
      go_meet
      case rel => exact ⟨by simp [hb], 0, rfl⟩
  case rest =>
  obtain ⟨rfl, hsm⟩ := hcut
  have hR4 := hsm.rd hR3
  have hK4 := hsm.kp hK3
  have hC4 := hsm.blk hC3
  have hZ4 := hsm.blk hZ3
  clear hsm hR3 hK3 hC3 hZ3 r2 q2
  obtain ⟨st2, hst2⟩ : ∃ st2, st2 = (addrsS s n st).2 := ⟨_, rfl⟩
  have hkd : Hid ((addrsS s n st).1 = A.kind) := by rw [Haddr.out]; split <;> exact rfl
  have Hst2 := hide hst2
  clear hst2
  go_upto_if 29 with fail
  go_cut [] (fun wc => ∃ (c5 : Array Value) (B : AdT), RD wc b s st2 ∧ Kp b w wc ∧ Blk wc (rb + 1) c5 62 ∧ CmH A B false c5 ∧ ADR s st st2 A B ∧ Blk wc rb zeroC 62)
  case first =>
    cases ht : (!q.bad && decide (A.kind ≠ 0) && isB s q 44)
    · have E := hide (show st2 = q by
        rw [Hst2.out, Haddr.out, if_neg]
        intro h
        rw [h.1, h.2.2] at ht
        simp at ht
        exact h.2.1 ht)
      clear ht
      go_wp2_with fail
      go_meet
      case rel => exact ⟨c3, _, by rw [E.out]; exact hR4, hK4, hC4, hH3, by rw [E.out]; exact HAD.out, hZ4⟩
    · have hx : q.bad = false ∧ A.kind ≠ 0 ∧ isB s q 44 = true := by
        simp at ht
        exact ⟨ht.1.1, ht.1.2, ht.2⟩
      have hlt := peekOk_lt (isB_ok hx.2.2)
      have E := hide (show st2 = if (addrS s n (adv q)).1.kind = 0 then spoil (addrS s n (adv q)).2 else (addrS s n (adv q)).2 by rw [Hst2.out, Haddr.out, if_pos hx])
      have HAB := hide (fun hk => adr_two (n := n) HAD.out hx.1 hal.1 hx.2.2 (addr_le s n (adv q) (by simp [adv]; omega)).1 hk)
      have r1 := hR4.c1
      have rf := hR4.fz
      have hks := hH3.size
      clear ht hx
      go_wp2_with fail
      refine (addr_any n b s (adv q) _ (hR4.adv rfl) hs (by simp [adv]; omega) (by simp [adv]; omega) hn').mono ?_
      rintro e w5 ⟨v, rfl, ⟨fi2, la2, ka2, kl2, kc2, g2, rfl⟩, hR5, hK5⟩
      have hC5 := (hC4.other (p := ⟨b, 1, none⟩) (Ne.symm ne1) (.int .i64 ((q.i : Int) + 1))).kp hK5 (by omega)
      have hZ5 := (hZ4.other (p := ⟨b, 1, none⟩) (Ne.symm ne3) (.int .i64 ((q.i : Int) + 1))).kp hK5 (by omega)
      replace hK5 := (hK4.set 1 (.int .i64 ((q.i : Int) + 1))).trans hK5
      clear r1 rf hR4 hK4 hC4 hZ4
      have q9 := hC5.cell 9 (Array.getElem?_eq_getElem (by omega))
      have q10 := hC5.cell 10 (Array.getElem?_eq_getElem (by omega))
      have q11 := hC5.cell 11 (Array.getElem?_eq_getElem (by omega))
      have q12 := hC5.cell 12 (Array.getElem?_eq_getElem (by omega))
      have q13 := hC5.cell 13 (Array.getElem?_eq_getElem (by omega))
      have q14 := hC5.cell 14 (Array.getElem?_eq_getElem (by omega))
      have q15 := hC5.cell 15 (Array.getElem?_eq_getElem (by omega))
      have qf := hC5.fz
      generalize addrS s n (adv q) = BB at *
      obtain ⟨B, q5⟩ := BB
      dsimp only at *
      have hR6 := (((((((hR5.other (p := ⟨rb + 1, 9, none⟩) ne1 (.int .u8 B.kind)).other (p := ⟨rb + 1, 10, none⟩) ne1 (.int .i64 B.num)).other (p := ⟨rb + 1, 11, none⟩) ne1 (.bool fi2)).other (p := ⟨rb + 1, 12, none⟩) ne1 (.bool la2)).other (p := ⟨rb + 1, 13, none⟩) ne1 (.slice ka2 kl2 kc2)).other (p := ⟨rb + 1, 14, none⟩) ne1 (.int .i64 g2)).other (p := ⟨rb + 1, 15, none⟩) ne1 (.string B.text))
      have hZ6 := (((((((hZ5.other (p := ⟨rb + 1, 9, none⟩) ne2 (.int .u8 B.kind)).other (p := ⟨rb + 1, 10, none⟩) ne2 (.int .i64 B.num)).other (p := ⟨rb + 1, 11, none⟩) ne2 (.bool fi2)).other (p := ⟨rb + 1, 12, none⟩) ne2 (.bool la2)).other (p := ⟨rb + 1, 13, none⟩) ne2 (.slice ka2 kl2 kc2)).other (p := ⟨rb + 1, 14, none⟩) ne2 (.int .i64 g2)).other (p := ⟨rb + 1, 15, none⟩) ne2 (.string B.text))
      have hK6 := (((((((hK5.setNew (p := ⟨rb + 1, 9, none⟩) hcb1 (.int .u8 B.kind)).setNew (p := ⟨rb + 1, 10, none⟩) hcb1 (.int .i64 B.num)).setNew (p := ⟨rb + 1, 11, none⟩) hcb1 (.bool fi2)).setNew (p := ⟨rb + 1, 12, none⟩) hcb1 (.bool la2)).setNew (p := ⟨rb + 1, 13, none⟩) hcb1 (.slice ka2 kl2 kc2)).setNew (p := ⟨rb + 1, 14, none⟩) hcb1 (.int .i64 g2)).setNew (p := ⟨rb + 1, 15, none⟩) hcb1 (.string B.text))
      have hC6 := (((((((hC5.set 9 (.int .u8 B.kind) rfl).set 10 (.int .i64 B.num) rfl).set 11 (.bool fi2) rfl).set 12 (.bool la2) rfl).set 13 (.slice ka2 kl2 kc2) rfl).set 14 (.int .i64 g2) rfl).set 15 (.string B.text) rfl)
      have hH6 := hH3.setB B (.bool fi2) (.bool la2) (.slice ka2 kl2 kc2) (.int .i64 g2) rfl rfl rfl rfl
      have r2 := hR5.c2
      have rf := hR5.fz
      have HB6 := hide (And.intro hR6 (And.intro hK6 (And.intro hC6 (And.intro hH6 hZ6))))
      clear hR6 hK6 hC6 hH6 hZ6 hR5 hK5 hC5 hZ5 Haddr hkd Hst2
      by_cases hk : B.kind = 0
      · have HE := hide (show st2 = spoil q5 by rw [E.out, if_pos hk])
        have hkd : (B.kind == 0) = true := by simp [hk]
        clear E hk
        go_wp2_with fail
        go_meet
        case rel => exact ⟨_, _, by rw [HE.out]; exact HB6.out.1.spoil, HB6.out.2.1.set 2 _, HB6.out.2.2.1.other (Ne.symm ne1) _, HB6.out.2.2.2.1, (by rw [HE.out]; exact fun hx => by cases hx), HB6.out.2.2.2.2.other (Ne.symm ne3) _⟩
      · have HE := hide (show st2 = q5 by rw [E.out, if_neg hk])
        have HAC := hide (HAB.out hk)
        have hkd : (B.kind == 0) = false := by simp [hk]
        clear E hk
        go_wp2_with fail
        go_meet
        case rel => exact ⟨_, _, by rw [HE.out]; exact HB6.out.1, HB6.out.2.1, HB6.out.2.2.1, HB6.out.2.2.2.1, (by rw [HE.out]; exact HAC.out), HB6.out.2.2.2.2⟩
  case rest =>
  obtain ⟨c5, B, hR5, hK5, hC5, hH5, hAB, hZ5⟩ := hcut
  have HAB := hide hAB
  clear hR4 hK4 hC4 hZ4 hH3 hAB HAD
  have r2 := hR5.c2
  have hl2 : st2.i ≤ s.size ∧ st.i ≤ st2.i := by
    rw [Hst2.out, Haddr.out]
    split
    · next hx =>
      have h1 := peekOk_lt (isB_ok hx.2.2)
      have h2 := addr_le s n (adv q) (by simp [adv]; omega)
      have h3 : (adv q).i = q.i + 1 := rfl
      dsimp only
      split
      · exact ⟨h2.2, by show st.i ≤ (addrS s n (adv q)).2.i; omega⟩
      · exact ⟨h2.2, by omega⟩
    · exact ⟨hal.2, hal.1⟩
  have HCo : Hid (commandS s n nest full st = if st2.bad = true then (⟨0, 0, ⟨#[]⟩, ⟨#[]⟩⟩, st2) else if letterBad s nest full A.kind (isB s (blanksS s (s.size + 1) st2) 33) (advIf s 33 (blanksS s (s.size + 1) st2)) then (⟨0, 0, ⟨#[]⟩, ⟨#[]⟩⟩, spoil (advIf s 33 (blanksS s (s.size + 1) st2))) else (⟨peekC s (advIf s 33 (blanksS s (s.size + 1) st2)), (advIf s 33 (blanksS s (s.size + 1) st2)).i, restT s (peekC s (advIf s 33 (blanksS s (s.size + 1) st2))) (adv (advIf s 33 (blanksS s (s.size + 1) st2))), plainC s st.i st2.i (isB s (blanksS s (s.size + 1) st2) 33) (advIf s 33 (blanksS s (s.size + 1) st2)).i (restS s n (peekC s (advIf s 33 (blanksS s (s.size + 1) st2))) (adv (advIf s 33 (blanksS s (s.size + 1) st2)))).i⟩, restS s n (peekC s (advIf s 33 (blanksS s (s.size + 1) st2))) (adv (advIf s 33 (blanksS s (s.size + 1) st2))))) := by
    unfold commandS
    simp only [hkd.out, ← Hst2.out]
    exact trivial
  clear Haddr hkd Hst2
  cases hb : st2.bad
  · rw [hb] at r2
    have HC2 := hide (HCo.out.trans (if_neg (by rw [hb]; simp)))
    have HAC := hide (HAB.out hb)
    clear HCo hb HAB
    go_wp2_with fail
    refine (blanks_any (s.size + 1) b s st2 wc hR5 hs hl2.1 (by omega)).mono ?_
    rintro e w6 ⟨rfl, hR6, hK6⟩
    have hC6 := hC5.kp hK6 (by omega)
    have hZ6 := hZ5.kp hK6 (by omega)
    have hl6 := (Fwd.blanks (s := s) (s.size + 1) st2 hl2.1).2.1
    have hg6 := (Fwd.blanks (s := s) (s.size + 1) st2 hl2.1).1
    replace hK6 := hK5.trans hK6
    clear hR5 hK5 hC5 hZ5 r2
    generalize blanksS s (s.size + 1) st2 = s6 at *
    go_upto_if 55 with (go_at_call 27; refine (is_any b s s6 33 w6 hR6 hs).mono ?_; rintro e w7 ⟨rfl, hw7⟩; replace hw7 : Same w6 w7 := hw7)
    have hR7 := hw7.rd hR6
    have hK7 := hw7.kp hK6
    have hC7 := hw7.blk hC6
    have hZ7 := hw7.blk hZ6
    clear hw7 hR6 hK6 hC6 hZ6
    have hl7 := (Fwd.advIf 33 hl6).2.1
    have hg7 := (Fwd.advIf 33 hl6).1
    obtain ⟨s7, hs7⟩ : ∃ s7, s7 = advIf s 33 s6 := ⟨_, rfl⟩
    rw [← hs7] at HC2 hl7 hg7
    have Hs7 := hide hs7
    clear hs7
    go_cut [] (fun wc => ∃ c9 : Array Value, RD wc b s s7 ∧ Kp b w wc ∧ Blk wc (rb + 1) c9 62 ∧ CmH A B (isB s s6 33) c9 ∧ Blk wc rb zeroC 62)
    case first =>
      cases hx : isB s s6 33
      · have HX := hide hx
        go_wp2_with fail
        go_meet
        case rel => exact ⟨c5, by rw [Hs7.out, advIf, HX.out]; exact hR7, hK7, hC7, by rw [HX.out]; exact hH5, hZ7⟩
      · have HX := hide hx
        have r1 := hR7.c1
        have rf := hR7.fz
        have hlt := peekOk_lt (isB_ok hx)
        have hks := hH5.size
        have q16 := hC7.cell 16 hH5.e16
        have qf := hC7.fz
        go_wp2_with fail
        go_meet
        case rel => exact ⟨_, by rw [Hs7.out, advIf, HX.out]; exact (hR7.adv rfl).other ne1 _, (hK7.set 1 _).setNew hcb1 _, (hC7.other (Ne.symm ne1) _).set 16 _ rfl, by rw [HX.out]; exact hH5.set16 true, (hZ7.other (Ne.symm ne3) _).other ne2 _⟩
    case rest =>
    obtain ⟨c9, hR9, hK9, hC9, hH9, hZ9⟩ := hcut
    clear hR7 hK7 hC7 hZ7 hH5 Hs7
    obtain ⟨nt, hnt⟩ : ∃ nt, isB s s6 33 = nt := ⟨_, rfl⟩
    rw [hnt] at hH9 HC2
    clear hnt
    have hlo := peekC_lo s s7
    have hhi := peekC_hi s s7
    have HL7 : Hid (peekOk s s7 = true → s7.i < s.size) := fun h => peekOk_lt h
    obtain ⟨bd, hbd⟩ : ∃ bd : Bool, (bd = true ↔ letterBad s nest full A.kind nt s7) := ⟨decide (letterBad s nest full A.kind nt s7), by simp⟩
    have Hbd := hide hbd
    unfold letterBad at hbd
    generalize hpc : peekC s s7 = pc at *
    generalize hpo : peekOk s s7 = ok at *
    have HPC := hide (And.intro hpc hpo)
    clear hpc hpo
    go_upto_region 15 with (go_at_call 39; refine (peek_of HPC.out.1 HPC.out.2 hR9 hs).mono ?_; rintro e w10 ⟨rfl, hw10⟩; replace hw10 : Same wc w10 := hw10)
    have hRa := hw10.rd hR9
    have hKa := hw10.kp hK9
    have hCa := hw10.blk hC9
    have hZa := hw10.blk hZ9
    clear hw10 hR9 hK9 hC9 hZ9
    have q2 := hCa.cell 2 hH9.e2
    have q16 := hCa.cell 16 hH9.e16
    go_cut [8, 9, 10] (fun dv okv bv wc => dv = .int .u8 pc ∧ okv = .bool ok ∧ bv = .bool (decide (A.kind = 0) && !nt) ∧ wc = w10)
    case first =>
      by_cases hk : A.kind = 0
      · rw [hk] at q2
        go_wp2_with fail
        go_meet
        case rel => exact ⟨rfl, rfl, by simp [hk], rfl⟩
      · go_wp2_with fail
        go_meet
        case rel => exact ⟨rfl, rfl, by simp [hk], rfl⟩
    case rest =>
    obtain ⟨rfl, rfl, rfl, hww⟩ := hcut
    rw [hww]
    clear q2 q16 hww
    go_upto_region 16 with fail
    go_cut [8, 115] (fun dv bv wc => dv = .int .u8 pc ∧ bv = .bool bd ∧ wc = w10)
    case first =>
      have hv : ∀ x : Bool, (x = true ↔ (ok = false ∨ full = true ∨ hasL cmdL pc = false ∨ ¬ (A.kind = 0 ∧ nt = false) ∧ (pc = 125 ∨ pc = 58) ∨ pc = 123 ∧ 6 ≤ nest ∨ pc = 125 ∧ nest = 0)) → x = bd := fun x hx => by
        rw [Bool.eq_iff_iff, hx, hbd]
      have HV := hide hv
      clear hv hbd
      cases ok
      · have HB := hide (show bd = true from (HV.out true (by simp)).symm)
        clear HV
        go_wp2_with fail
        go_meet
        case rel => exact ⟨rfl, by rw [HB.out], rfl⟩
      · cases full
        · cases hh : hasL cmdL pc
          · have HH := hide hh
            clear hh
            have HB := hide (show bd = true from (HV.out true (by simp [HH.out])).symm)
            clear HV
            go_wp2_with (go_at_call 41; refine (has_cmd pc _).mono ?_; rintro e w11 ⟨rfl, rfl⟩; rw [HH.out])
            go_meet
            case rel => exact ⟨rfl, by rw [HB.out], rfl⟩
          · have HH := hide hh
            clear hh
            have hbr : ∀ x : Bool, (decide (A.kind = 0) && !nt) = x → ((A.kind = 0 ∧ nt = false) ↔ x = true) := fun x hx => by rw [← hx]; simp
            have HBR := hide (hbr _ rfl)
            clear hbr
            generalize (decide (A.kind = 0) && !nt) = bare at *
            by_cases h125 : pc = 125
            · subst h125
              cases bare
              · have HX := hide (show ¬ (A.kind = 0 ∧ nt = false) by rw [HBR.out]; simp)
                have HB := hide (show bd = true from (HV.out true ⟨fun _ => .inr (.inr (.inr (.inl ⟨HX.out, .inl rfl⟩))), fun _ => rfl⟩).symm)
                clear HV
                go_wp2_with (go_at_call 41; refine (has_cmd _ _).mono ?_; rintro e w11 ⟨rfl, rfl⟩; rw [HH.out])
                go_meet
                case rel => exact ⟨rfl, by rw [HB.out], rfl⟩
              · have HX := hide (show A.kind = 0 ∧ nt = false by rw [HBR.out])
                by_cases hn0 : nest = 0
                · subst hn0
                  have HB := hide (show bd = true from (HV.out true ⟨fun _ => .inr (.inr (.inr (.inr (.inr ⟨rfl, rfl⟩)))), fun _ => rfl⟩).symm)
                  clear HV
                  go_wp2_with (go_at_call 41; refine (has_cmd _ _).mono ?_; rintro e w11 ⟨rfl, rfl⟩; rw [HH.out])
                  go_meet
                  case rel => exact ⟨rfl, by rw [HB.out], rfl⟩
                · have hd : ((nest : Int) == 0) = false := by simp; omega
                  have hno : ¬ (true = false ∨ false = true ∨ hasL cmdL (125 : Int) = false ∨ ¬ (A.kind = 0 ∧ nt = false) ∧ ((125 : Int) = 125 ∨ (125 : Int) = 58) ∨ (125 : Int) = 123 ∧ 6 ≤ nest ∨ (125 : Int) = 125 ∧ nest = 0) := by
                    intro h
                    rcases h with h | h | h | h | h | h
                    · cases h
                    · cases h
                    · rw [HH.out] at h; cases h
                    · first | exact absurd HX.out h.1 | omega
                    · omega
                    · omega
                  have HB := hide (show bd = false from (HV.out false ⟨fun h => (by cases h), fun h => absurd h hno⟩).symm)
                  clear HV hno
                  go_wp2_with (go_at_call 41; refine (has_cmd _ _).mono ?_; rintro e w11 ⟨rfl, rfl⟩; rw [HH.out])
                  go_meet
                  case rel => exact ⟨rfl, by rw [HB.out], rfl⟩
            · by_cases h58 : pc = 58
              · subst h58
                cases bare
                · have HX := hide (show ¬ (A.kind = 0 ∧ nt = false) by rw [HBR.out]; simp)
                  have HB := hide (show bd = true from (HV.out true ⟨fun _ => .inr (.inr (.inr (.inl ⟨HX.out, .inr rfl⟩))), fun _ => rfl⟩).symm)
                  clear HV
                  go_wp2_with (go_at_call 41; refine (has_cmd _ _).mono ?_; rintro e w11 ⟨rfl, rfl⟩; rw [HH.out])
                  go_meet
                  case rel => exact ⟨rfl, by rw [HB.out], rfl⟩
                · have HX := hide (show A.kind = 0 ∧ nt = false by rw [HBR.out])
                  have hno : ¬ (true = false ∨ false = true ∨ hasL cmdL (58 : Int) = false ∨ ¬ (A.kind = 0 ∧ nt = false) ∧ ((58 : Int) = 125 ∨ (58 : Int) = 58) ∨ (58 : Int) = 123 ∧ 6 ≤ nest ∨ (58 : Int) = 125 ∧ nest = 0) := by
                    intro h
                    rcases h with h | h | h | h | h | h
                    · cases h
                    · cases h
                    · rw [HH.out] at h; cases h
                    · first | exact absurd HX.out h.1 | omega
                    · omega
                    · omega
                  have HB := hide (show bd = false from (HV.out false ⟨fun h => (by cases h), fun h => absurd h hno⟩).symm)
                  clear HV hno
                  go_wp2_with (go_at_call 41; refine (has_cmd _ _).mono ?_; rintro e w11 ⟨rfl, rfl⟩; rw [HH.out])
                  go_meet
                  case rel => exact ⟨rfl, by rw [HB.out], rfl⟩
              · by_cases h123 : pc = 123
                · subst h123
                  by_cases hn6 : 6 ≤ nest
                  · have hd : decide ((6 : Int) ≤ nest) = true := by simp; omega
                    cases bare
                    all_goals
                      have HB := hide (show bd = true from (HV.out true ⟨fun _ => .inr (.inr (.inr (.inr (.inl ⟨rfl, hn6⟩)))), fun _ => rfl⟩).symm)
                      clear HV
                      go_wp2_with (go_at_call 41; refine (has_cmd _ _).mono ?_; rintro e w11 ⟨rfl, rfl⟩; rw [HH.out])
                      go_meet
                      case rel => exact ⟨rfl, by rw [HB.out], rfl⟩
                  · have hd : decide ((6 : Int) ≤ nest) = false := by simp; omega
                    cases bare
                    all_goals
                      have hno : ¬ (true = false ∨ false = true ∨ hasL cmdL (123 : Int) = false ∨ ¬ (A.kind = 0 ∧ nt = false) ∧ ((123 : Int) = 125 ∨ (123 : Int) = 58) ∨ (123 : Int) = 123 ∧ 6 ≤ nest ∨ (123 : Int) = 125 ∧ nest = 0) := by
                        intro h
                        rcases h with h | h | h | h | h | h
                        · cases h
                        · cases h
                        · rw [HH.out] at h; cases h
                        · first | exact absurd HX.out h.1 | omega
                        · omega
                        · omega
                      have HB := hide (show bd = false from (HV.out false ⟨fun h => (by cases h), fun h => absurd h hno⟩).symm)
                      clear HV hno
                      go_wp2_with (go_at_call 41; refine (has_cmd _ _).mono ?_; rintro e w11 ⟨rfl, rfl⟩; rw [HH.out])
                      go_meet
                      case rel => exact ⟨rfl, by rw [HB.out], rfl⟩
                · cases bare
                  all_goals
                    have hno : ¬ (true = false ∨ false = true ∨ hasL cmdL pc = false ∨ ¬ (A.kind = 0 ∧ nt = false) ∧ (pc = 125 ∨ pc = 58) ∨ pc = 123 ∧ 6 ≤ nest ∨ pc = 125 ∧ nest = 0) := by
                      intro h
                      rcases h with h | h | h | h | h | h
                      · cases h
                      · cases h
                      · rw [HH.out] at h; cases h
                      · first | exact absurd HX.out h.1 | omega
                      · omega
                      · omega
                    have HB := hide (show bd = false from (HV.out false ⟨fun h => (by cases h), fun h => absurd h hno⟩).symm)
                    clear HV hno
                    go_wp2_with (go_at_call 41; refine (has_cmd _ _).mono ?_; rintro e w11 ⟨rfl, rfl⟩; rw [HH.out])
                    go_meet
                    case rel => exact ⟨rfl, by first | (rw [HB.out]; done) | (rw [HB.out]; simp [h125, h58]), rfl⟩
        · have HB := hide (show bd = true from (HV.out true (by simp)).symm)
          clear HV
          go_wp2_with fail
          go_meet
          case rel => exact ⟨rfl, by rw [HB.out], rfl⟩
    case rest =>
    obtain ⟨rfl, rfl, hww⟩ := hcut
    rw [hww]
    clear hbd hww
    have r1 := hRa.c1
    have r2 := hRa.c2
    have rf := hRa.fz
    have hk9 := hH9.size
    cases bd
    · have hnl : ¬ letterBad s nest full A.kind nt s7 := fun h => by have := Hbd.out.2 h; cases this
      have hok : ok = true := by
        cases hx : ok
        · exact absurd (.inl (HPC.out.2.trans hx)) hnl
        · rfl
      have hlt := HL7.out hok
      have HOK := hide (show peekOk s s7 = true ∧ peekC s s7 = pc from ⟨HPC.out.2.trans hok, HPC.out.1⟩)
      have E := hide (HC2.out.trans (if_neg hnl))
      have q0 := hCa.cell 0 (Array.getElem?_eq_getElem (by omega))
      have q1 := hCa.cell 1 (Array.getElem?_eq_getElem (by omega))
      have qf := hCa.fz
      clear HC2 hnl Hbd HL7 HPC
      go_upto_region 22 with fail
      have hRb : RD (((w10.setCell ⟨rb + 1, 1, none⟩ (.int .i64 s7.i)).setCell ⟨rb + 1, 0, none⟩ (.int .u8 pc)).setCell ⟨b, 1, none⟩ (.int .i64 ((s7.i : Int) + 1))) b s (adv s7) := ((hRa.other (p := ⟨rb + 1, 1, none⟩) ne1 (.int .i64 s7.i)).other (p := ⟨rb + 1, 0, none⟩) ne1 (.int .u8 pc)).adv rfl
      have hKb := ((hKa.setNew (p := ⟨rb + 1, 1, none⟩) hcb1 (.int .i64 s7.i)).setNew (p := ⟨rb + 1, 0, none⟩) hcb1 (.int .u8 pc)).set 1 (.int .i64 ((s7.i : Int) + 1))
      have hCb := ((hCa.set 1 (.int .i64 s7.i) rfl).set 0 (.int .u8 pc) rfl).other (p := ⟨b, 1, none⟩) (Ne.symm ne1) (.int .i64 ((s7.i : Int) + 1))
      have hZb := ((hZa.other (p := ⟨rb + 1, 1, none⟩) ne2 (.int .i64 s7.i)).other (p := ⟨rb + 1, 0, none⟩) ne2 (.int .u8 pc)).other (p := ⟨b, 1, none⟩) (Ne.symm ne3) (.int .i64 ((s7.i : Int) + 1))
      have hHb := (hH9.set 1 (by omega) (v := .int .i64 s7.i) rfl).set 0 (by omega) (v := .int .u8 pc) rfl
      have e0 : ((c9.setIfInBounds 1 (.int .i64 s7.i)).setIfInBounds 0 (.int .u8 pc))[0]? = some (.int .u8 pc) := by rw [Array.getElem?_setIfInBounds_self_of_lt (by simp [hk9])]
      have e1 : ((c9.setIfInBounds 1 (.int .i64 s7.i)).setIfInBounds 0 (.int .u8 pc))[1]? = some (.int .i64 s7.i) := by rw [Array.getElem?_setIfInBounds_ne (by omega), Array.getElem?_setIfInBounds_self_of_lt (by omega)]
      generalize (c9.setIfInBounds 1 (.int .i64 s7.i)).setIfInBounds 0 (.int .u8 pc) = c11 at *
      generalize ((w10.setCell ⟨rb + 1, 1, none⟩ (.int .i64 s7.i)).setCell ⟨rb + 1, 0, none⟩ (.int .u8 pc)).setCell ⟨b, 1, none⟩ (.int .i64 ((s7.i : Int) + 1)) = w11 at *
      clear r1 r2 rf q0 q1 qf hRa hKa hCa hZa hH9 hk9
      have hks := hHb.size
      obtain ⟨d, hd1, hd2⟩ := rowCmd
      have hi1 : (Tryz.prog.info? 62).map (·.size) = some c11.toList.length := by rw [infoCmd, Array.length_toList, hks]
      have hrg := range_cmd hCb
      go_wp2_with (refine wpList_load_mid rfl 62 _ rfl (rb + 1) 0 rfl c11.toList d hrg hd1 hd2 hi1 ?_; rw [Array.toArray_toList])
      refine (rest_any n b s (adv s7) c11 pc w11 hRb hs (by simp [adv]; omega) hks hHb.one (by simp [adv]; omega) hn' e0 hHb.e26 hHb.fd.rv).mono ?_
      rintro e w12 ⟨cs2, rfl, hP2, hT2, hV2, hR2, hK2⟩
      have hZ2 := hZb.kp hK2 (by omega)
      have hk2 := hP2.size
      have hi2 : (Tryz.prog.info? 62).map (·.size) = some cs2.size := by rw [infoCmd, hk2]
      have hth := there_cmd (n := cs2.size) hZ2 (by rw [hk2]; rfl)
      have h1' := hP2.one
      have HT2 := hide hT2
      have HV2 := hide hV2
      clear hT2 hV2
      have HON := hide (On.rest (n := n) pc (show (adv s7).i ≤ s.size by simp [adv]; omega) (by simp [adv]; omega)).1
      go_wp2_with (refine wpList_store_mid rfl 62 _ _ rfl rb 0 cs2 rfl rfl hth hi2 h1' ?_)
      refine bodyPost_ret (ret_cmd rfl rfl (setCells_all hZ2 cs2 (by rw [hk2]; rfl)) hk2) rfl ?_
      rw [E.out]
      exact ⟨cs2, rfl, ⟨hk2, h1'⟩, (fun hbad => ⟨hk2, h1', hP2.e0.trans e0, hP2.e1.trans e1, hP2.e17, HT2.out, by
        obtain ⟨f, f1, f2, f3, f4, f5, f6, f7⟩ := HV2.out hbad
        obtain ⟨a1, a2, a3⟩ := HAC.out
        have hk : ∀ {i : Nat} {v : Value}, i < 17 → c11[i]? = some v → cs2[i]? = some v := fun hi h => (hP2.keep _ hi).trans h
        have hfd := hHb.fd
        exact ⟨A, B, nt, f, ⟨hk (by omega) hfd.e2, hk (by omega) hfd.e3, hk (by omega) hfd.e8, hk (by omega) hfd.e9, hk (by omega) hfd.e10, hk (by omega) hfd.e15, hk (by omega) hfd.e16, f1⟩, ⟨a1.1, a1.2.1, by have := a1.2.2; omega⟩, ⟨a2.1, a2.2.1, by have := a2.2.2; omega⟩, f2, f3, by omega, by omega, by omega, text_plain a3 HOK.out.1 HOK.out.2 f7 HON.out, hlo, hhi⟩⟩), setCells_rd ne3 _ _ _ hR2, setCells_kp hrb1 _ _ _ (hKb.trans hK2)⟩
    · have E := hide (show (commandS s n nest full st).2 = spoil s7 by rw [HC2.out, if_pos (Hbd.out.1 rfl)])
      clear HC2 Hbd HL7 HPC r1
      have hRs := hRa.spoil
      have hCs := hCa.other (p := ⟨b, 2, none⟩) (Ne.symm ne1) (.bool true)
      have hZs := hZa.other (p := ⟨b, 2, none⟩) (Ne.symm ne3) (.bool true)
      have hKs := hKa.set 2 (.bool true)
      have hks := hH9.size
      obtain ⟨d, hd1, hd2⟩ := rowCmd
      have hi1 : (Tryz.prog.info? 62).map (·.size) = some c9.toList.length := by rw [infoCmd, Array.length_toList, hks]
      have hi2 : (Tryz.prog.info? 62).map (·.size) = some c9.size := by rw [infoCmd, hks]
      have hrg := range_cmd hCs
      have hth := there_cmd (n := c9.size) hZs (by rw [hks]; rfl)
      have h1' := hH9.one
      go_wp2_with (first | (refine wpList_load_mid rfl 62 _ rfl (rb + 1) 0 rfl c9.toList d hrg hd1 hd2 hi1 ?_; rw [Array.toArray_toList]) | (refine wpList_store_mid rfl 62 _ _ rfl rb 0 c9 rfl rfl hth hi2 h1' ?_))
      refine bodyPost_ret (ret_cmd rfl rfl (setCells_all hZs c9 (by rw [hks]; rfl)) hks) rfl ?_
      rw [E.out]
      exact ⟨c9, rfl, ⟨hks, h1'⟩, (fun hx => by cases hx), setCells_rd ne3 _ _ _ hRs, setCells_kp hrb1 _ _ _ hKs⟩
  · rw [hb] at r2
    have E := hide (show (commandS s n nest full st).2 = st2 by rw [HCo.out, if_pos hb])
    have HBd := hide hb
    clear HCo hb
    have hks := hH5.size
    obtain ⟨d, hd1, hd2⟩ := rowCmd
    have hi1 : (Tryz.prog.info? 62).map (·.size) = some c5.toList.length := by rw [infoCmd, Array.length_toList, hks]
    have hi2 : (Tryz.prog.info? 62).map (·.size) = some c5.size := by rw [infoCmd, hks]
    have hrg := range_cmd hC5
    have hth := there_cmd (n := c5.size) hZ5 (by rw [hks]; rfl)
    have h1' := hH5.one
    go_wp2_with (first | (refine wpList_load_mid rfl 62 _ rfl (rb + 1) 0 rfl c5.toList d hrg hd1 hd2 hi1 ?_; rw [Array.toArray_toList]) | (refine wpList_store_mid rfl 62 _ _ rfl rb 0 c5 rfl rfl hth hi2 h1' ?_))
    refine bodyPost_ret (ret_cmd rfl rfl (setCells_all hZ5 c5 (by rw [hks]; rfl)) hks) rfl ?_
    rw [E.out]
    exact ⟨c5, rfl, ⟨hks, h1'⟩, (fun hx => by rw [HBd.out] at hx; cases hx), setCells_rd ne3 _ _ _ hR5, setCells_kp hrb1 _ _ _ hK5⟩
end Go.Proofs.YtmjdaifalgpdnaaGreat
