import Derived.Test.YtmjdaifalgpdnaaGreatRows
import Derived.WalkKit
import Derived.WalkSpells
import Derived.WalkLawsBesides
import Derived.Deep.QuietTactic
import Derived.BigQuiet
namespace Go.Proofs.YtmjdaifalgpdnaaGreat
open Go.RowKit

theorem ret_bool {a b : Bool} (h : a = b) : Ending.returned (.bool a) = .returned (.bool b) := by rw [h]
theorem ret_int {k : IntKind} {a b : Int} (h : a = b) : Ending.returned (.int k a) = .returned (.int k b) := by rw [h]

/-- is c among the bytes of l? -/
def hasL (l : List UInt8) (c : Int) : Bool := l.any fun b => (b.toNat : Int) == c

theorem hasL_snoc (l : List UInt8) (b : UInt8) (c : Int) : hasL (l ++ [b]) c = (hasL l c || ((b.toNat : Int) == c)) := by
  simp [hasL]

theorem take_snoc (s : ByteArray) (k : Nat) (h : k < s.size) : s.data.toList.take (k + 1) = s.data.toList.take k ++ [s[k]] := by
  rw [List.take_succ_eq_append_getElem (by simpa using h)]; rfl

set_option maxHeartbeats 400000 in
theorem has_any (s : ByteArray) (c : Int) (w : World) (hs : s.size ≤ 1048576) :
    Calls Tryz.prog 41 #[.string s, .int .u8 c] w fun e w' => e = .returned (.bool (hasL s.data.toList c)) ∧ w' = w := by
  go_enter Tryz.func41, Tryz.ntmps41
  go_wp2
  go_loop [5] (fun i => ∃ k : Nat, k ≤ s.size ∧ i = .int .i64 k ∧ hasL (s.data.toList.take k) c = false) (fun i => s.size - (intOf i).toNat)
  case atStart => exact ⟨0, Nat.zero_le _, rfl, rfl⟩
  case round =>
    obtain ⟨k, hk, rfl, hh⟩ := hrel
    have HH : Hid (hasL (s.data.toList.take k) c = false) := hh
    clear hh
    by_cases hlt : k < s.size
    · go_wp2
      · go_ret
        exact ⟨ret_bool (by
          have h1 := take_snoc s k hlt
          have h2 := hasL_snoc (s.data.toList.take k) s[k] c
          rw [← h1] at h2
          have h3 : hasL (s.data.toList.take (k+1)) c = true := by rw [h2]; simp [*]
          rw [← List.take_append_drop (k+1) s.data.toList]
          simp only [hasL, List.any_append] at h3 ⊢
          rw [h3]; rfl), rfl⟩
      · refine ⟨⟨k + 1, by omega, by go_num, ?_⟩, by simp [intOf]; omega⟩
        rw [take_snoc s k hlt, hasL_snoc, HH.out]; simp [*]
    · go_wp2
      go_ret
      exact ⟨ret_bool (by rw [← HH.out, List.take_of_length_le (by simp; omega)]), rfl⟩

/-- What a Reader has come to. -/
structure St where
  i : Nat
  bad : Bool
  g : Nat

/-- The block of a psedref.Reader. -/
def RD (w : World) (b : Nat) (s : ByteArray) (st : St) : Prop :=
  w.heap[b]? = some (.cells #[.string s, .int .i64 st.i, .bool st.bad, .int .i64 st.g] 52)

section
variable {w : World} {b : Nat} {s : ByteArray} {st : St}
theorem RD.c0 (h : RD w b s st) : w.cell? ⟨b, 0, none⟩ = some (.string s) := by unfold RD at h; simp [World.cell?, h]
theorem RD.c1 (h : RD w b s st) : w.cell? ⟨b, 1, none⟩ = some (.int .i64 st.i) := by unfold RD at h; simp [World.cell?, h]
theorem RD.c2 (h : RD w b s st) : w.cell? ⟨b, 2, none⟩ = some (.bool st.bad) := by unfold RD at h; simp [World.cell?, h]
theorem RD.c3 (h : RD w b s st) : w.cell? ⟨b, 3, none⟩ = some (.int .i64 st.g) := by unfold RD at h; simp [World.cell?, h]
theorem RD.fz (h : RD w b s st) (o : Nat) : w.frozen? ⟨b, o, none⟩ = false := by unfold RD at h; simp [World.frozen?, h]
theorem RD.lt (h : RD w b s st) : b < w.heap.size := (Array.getElem?_eq_some_iff.1 h).1
theorem RD.drewN (h : RD w b s st) (n : Nat) : RD (w.drewN n) b s st := h
theorem RD.drew (h : RD w b s st) : RD w.drew b s st := h
theorem RD.alloc (h : RD w b s st) (o : Obj) : RD (w.alloc o) b s st := by
  have hl := h.lt
  unfold RD at h ⊢
  rw [← h]; exact Below.heap_alloc _ _ _ hl
theorem RD.other (h : RD w b s st) {p : Addr} (hp : p.block ≠ b) (u : Value) : RD (w.setCell p u) b s st := by
  unfold RD at h ⊢
  rw [← h]; exact Below.heap_setCell _ _ _ _ (Ne.symm hp)
theorem RD.set1 (h : RD w b s st) (i : Int) (j : Nat) (e : i = j) : RD (w.setCell ⟨b, 1, none⟩ (.int .i64 i)) b s { st with i := j } := by
  unfold RD at h ⊢
  simp [World.setCell, Array.getElem?_modify, h, e]
theorem RD.set2 (h : RD w b s st) (x : Bool) : RD (w.setCell ⟨b, 2, none⟩ (.bool x)) b s { st with bad := x } := by
  unfold RD at h ⊢
  simp [World.setCell, Array.getElem?_modify, h]
theorem RD.set3 (h : RD w b s st) (i : Int) (j : Nat) (e : i = j) : RD (w.setCell ⟨b, 3, none⟩ (.int .i64 i)) b s { st with g := j } := by
  unfold RD at h ⊢
  simp [World.setCell, Array.getElem?_modify, h, e]
end

/-- Of what was there nothing has turned but block b. -/
structure Kp (b : Nat) (w w' : World) : Prop where
  os : w'.os = w.os
  tape : w'.tape = w.tape
  output : w'.output = w.output
  size : w.heap.size ≤ w'.heap.size
  block : ∀ k, k < w.heap.size → k ≠ b → w'.heap[k]? = w.heap[k]?

section
variable {b : Nat} {w w1 w2 : World}
theorem Kp.refl (b : Nat) (w : World) : Kp b w w := ⟨rfl, rfl, rfl, Nat.le_refl _, fun _ _ _ => rfl⟩
theorem Kp.trans (h : Kp b w w1) (k : Kp b w1 w2) : Kp b w w2 :=
  ⟨k.os.trans h.os, k.tape.trans h.tape, k.output.trans h.output, Nat.le_trans h.size k.size, fun i hi hb => (k.block i (Nat.lt_of_lt_of_le hi h.size) hb).trans (h.block i hi hb)⟩
theorem Kp.drewN (h : Kp b w w1) (n : Nat) : Kp b w (w1.drewN n) := ⟨h.os, h.tape, h.output, h.size, h.block⟩
theorem Kp.drew (h : Kp b w w1) : Kp b w w1.drew := ⟨h.os, h.tape, h.output, h.size, h.block⟩
theorem Kp.alloc (h : Kp b w w1) (o : Obj) : Kp b w (w1.alloc o) :=
  h.trans ⟨rfl, rfl, rfl, by simp, fun k hk _ => Below.heap_alloc _ _ _ hk⟩
theorem Kp.set (h : Kp b w w1) (o : Nat) (u : Value) : Kp b w (w1.setCell ⟨b, o, none⟩ u) :=
  h.trans ⟨rfl, rfl, rfl, by simp [World.setCell], fun k _ hb => Below.heap_setCell _ _ _ _ hb⟩
theorem Kp.setNew (h : Kp b w w1) {p : Addr} (hp : w.heap.size ≤ p.block) (u : Value) : Kp b w (w1.setCell p u) :=
  ⟨h.os, h.tape, h.output, by simpa [World.setCell] using h.size, fun k hk hb => (Below.heap_setCell _ _ _ _ (by omega)).trans (h.block k hk hb)⟩
theorem Kp.below (h : Below w.heap.size w w1) : Kp b w w1 := ⟨h.os, h.tape, h.output, h.size, fun k hk _ => h.block k hk⟩
end

def peekOk (s : ByteArray) (st : St) : Bool := !st.bad && decide (st.i < s.size)
def peekC (s : ByteArray) (st : St) : Int := if h : st.bad = false ∧ st.i < s.size then (s[st.i]'h.2).toNat else 0
def isB (s : ByteArray) (st : St) (c : Int) : Bool := peekOk s st && (peekC s st == c)

theorem peekC_lo (s : ByteArray) (st : St) : 0 ≤ peekC s st := by unfold peekC; split <;> omega
theorem peekC_hi (s : ByteArray) (st : St) : peekC s st < 256 := by
  unfold peekC; split
  · next h => have := (s[st.i]'h.2).toNat_lt; omega
  · omega
theorem peekOk_lt {s : ByteArray} {st : St} (h : peekOk s st = true) : st.i < s.size := by simp [peekOk] at h; exact h.2
theorem peekOk_bad {s : ByteArray} {st : St} (h : peekOk s st = true) : st.bad = false := by simp [peekOk] at h; exact h.1
theorem isB_ok {s : ByteArray} {st : St} {c : Int} (h : isB s st c = true) : peekOk s st = true := by simp [isB] at h; exact h.1

theorem tup2 {a b c d : Value} (h : a = c) (k : b = d) : Ending.returned (.tuple #[a, b]) = .returned (.tuple #[c, d]) := by rw [h, k]

set_option maxHeartbeats 400000 in
theorem peek_any (b : Nat) (s : ByteArray) (st : St) (w : World) (h : RD w b s st) (_hs : s.size ≤ 1048576) :
    Calls Tryz.prog 39 #[.pointer (some ⟨b, 0, none⟩)] w fun e w' => e = .returned (.tuple #[.int .u8 (peekC s st), .bool (peekOk s st)]) ∧ ∃ n, w' = w.drewN n := by
  obtain ⟨i, bad, g⟩ := st
  have h0 := h.c0
  have h1 := h.c1
  have h2 := h.c2
  clear h
  dsimp only at h1 h2
  cases bad
  · by_cases hlt : i < s.size
    · have hd : decide ((s.size : Int) ≤ i) = false := by simp; omega
      go_enter Tryz.func39, Tryz.ntmps39
      go_wp2
      go_quiet (fail)
      go_wp2
      go_quiet (fail)
      go_wp2
      go_ret2
      exact ⟨tup2 (by simp [peekC, hlt]) (by simp [peekOk, hlt]), ⟨_, by rw [World.drewN_drewN]⟩⟩
    · have hd : decide ((s.size : Int) ≤ i) = true := by simp; omega
      go_enter Tryz.func39, Tryz.ntmps39
      go_wp2
      go_quiet (fail)
      go_wp2
      go_ret2
      exact ⟨tup2 (by simp [peekC, hlt]) (by simp [peekOk, hlt]), ⟨_, rfl⟩⟩
  · go_enter Tryz.func39, Tryz.ntmps39
    go_wp2
    go_quiet (fail)
    go_wp2
    go_ret2
    exact ⟨tup2 (by simp [peekC]) (by simp [peekOk]), ⟨_, rfl⟩⟩

set_option maxHeartbeats 400000 in
theorem is_any (b : Nat) (s : ByteArray) (st : St) (c : Int) (w : World) (h : RD w b s st) (hs : s.size ≤ 1048576) :
    Calls Tryz.prog 27 #[.pointer (some ⟨b, 0, none⟩), .int .u8 c] w fun e w' => e = .returned (.bool (isB s st c)) ∧ ∃ n, w' = w.drewN n := by
  cases hp : peekOk s st
  · have HP : Hid (peekOk s st = false) := hp
    clear hp
    go_enter Tryz.func27, Tryz.ntmps27
    go_wp2_with fail
    refine (peek_any b s st _ h hs).mono ?_
    rintro e w1 ⟨rfl, n, rfl⟩
    rw [HP.out]
    go_wp2
    go_ret
    exact ⟨ret_bool (by simp [isB, HP.out]), n, rfl⟩
  · have HP : Hid (peekOk s st = true) := hp
    clear hp
    go_enter Tryz.func27, Tryz.ntmps27
    go_wp2_with fail
    refine (peek_any b s st _ h hs).mono ?_
    rintro e w1 ⟨rfl, n, rfl⟩
    rw [HP.out]
    go_wp2
    go_ret
    exact ⟨ret_bool (by simp [isB, HP.out]), n, rfl⟩

theorem peek_of {b : Nat} {s : ByteArray} {st : St} {pc : Int} {ok : Bool} (hc : peekC s st = pc) (ho : peekOk s st = ok) {w : World} (h : RD w b s st) (hs : s.size ≤ 1048576) :
    Calls Tryz.prog 39 #[.pointer (some ⟨b, 0, none⟩)] w fun e w' => e = .returned (.tuple #[.int .u8 pc, .bool ok]) ∧ ∃ n, w' = w.drewN n := by
  subst hc; subst ho; exact peek_any b s st w h hs

theorem is_of {b : Nat} {s : ByteArray} {st : St} {c : Int} {x : Bool} (hx : isB s st c = x) {w : World} (h : RD w b s st) (hs : s.size ≤ 1048576) :
    Calls Tryz.prog 27 #[.pointer (some ⟨b, 0, none⟩), .int .u8 c] w fun e w' => e = .returned (.bool x) ∧ ∃ n, w' = w.drewN n := by
  subst hx; exact is_any b s st c w h hs

def eatS (s : ByteArray) (c : Int) (st : St) : St := if isB s st c then { st with i := st.i + 1 } else { st with bad := true }

set_option maxHeartbeats 400000 in
theorem eat_any (b : Nat) (s : ByteArray) (st : St) (c : Int) (w : World) (h : RD w b s st) (hs : s.size ≤ 1048576) :
    Calls Tryz.prog 29 #[.pointer (some ⟨b, 0, none⟩), .int .u8 c] w fun e w' => e = .returned (.tuple #[]) ∧ RD w' b s (eatS s c st) ∧ Kp b w w' := by
  have h1 := h.c1
  have h2 := h.c2
  have hf := h.fz
  cases hp : isB s st c
  · have HP : Hid (isB s st c = false) := hp
    clear hp
    go_enter Tryz.func29, Tryz.ntmps29
    go_wp2_with fail
    refine (is_any b s st c _ h hs).mono ?_
    rintro e w1 ⟨rfl, n, rfl⟩
    rw [HP.out]
    go_wp2
    go_end0
    exact ⟨rfl, by rw [eatS, HP.out]; exact (h.drewN n).set2 _, ((Kp.refl b w).drewN n).set _ _⟩
  · have HP : Hid (isB s st c = true) := hp
    have hlt := peekOk_lt (isB_ok hp)
    clear hp
    go_enter Tryz.func29, Tryz.ntmps29
    go_wp2_with fail
    refine (is_any b s st c _ h hs).mono ?_
    rintro e w1 ⟨rfl, n, rfl⟩
    rw [HP.out]
    go_wp2
    go_end0
    exact ⟨rfl, by rw [eatS, HP.out]; exact (h.drewN n).set1 _ _ (by simp), ((Kp.refl b w).drewN n).set _ _⟩

def digitS (s : ByteArray) (lo : Int) (st : St) : Int × St :=
  if peekOk s st = true ∧ lo ≤ peekC s st ∧ peekC s st ≤ 57 then (peekC s st - 48, { st with i := st.i + 1 }) else (0, { st with bad := true })

set_option maxHeartbeats 400000 in
theorem digit_any (b : Nat) (s : ByteArray) (st : St) (lo : Int) (w : World) (h : RD w b s st) (hs : s.size ≤ 1048576) :
    Calls Tryz.prog 52 #[.pointer (some ⟨b, 0, none⟩), .int .u8 lo] w fun e w' => e = .returned (.int .i64 (digitS s lo st).1) ∧ RD w' b s (digitS s lo st).2 ∧ Kp b w w' := by
  have h1 := h.c1
  have h2 := h.c2
  have hf := h.fz
  have p1 := peekC_lo s st
  have p2 := peekC_hi s st
  cases hp : peekOk s st
  · have HP : Hid (peekOk s st = false) := hp
    clear hp
    go_enter Tryz.func52, Tryz.ntmps52
    go_wp2_with fail
    refine (peek_any b s st _ h hs).mono ?_
    rintro e w1 ⟨rfl, n, rfl⟩
    rw [HP.out]
    go_wp2
    go_ret
    have e1 : digitS s lo st = (0, { st with bad := true }) := by simp [digitS, HP.out]
    rw [e1]
    exact ⟨rfl, (h.drewN n).set2 _, ((Kp.refl b w).drewN n).set _ _⟩
  · have HP : Hid (peekOk s st = true) := hp
    have hlt := peekOk_lt hp
    clear hp
    by_cases hc : lo ≤ peekC s st ∧ peekC s st ≤ 57
    · obtain ⟨hc1, hc2⟩ := hc
      have e1 : Hid (digitS s lo st = (peekC s st - 48, { st with i := st.i + 1 })) := by simp [Hid, digitS, HP.out, hc1, hc2]
      generalize hpc : peekC s st = pc at *
      have HC : Hid (peekC s st = pc) := hpc
      clear hpc
      have d1 : decide (pc < lo) = false := by simp; omega
      have d2 : decide (57 < pc) = false := by simp; omega
      go_enter Tryz.func52, Tryz.ntmps52
      go_wp2_with fail
      refine (peek_of HC.out HP.out h hs).mono ?_
      rintro e w1 ⟨rfl, n, rfl⟩
      go_wp2
      go_ret
      rw [e1.out]
      exact ⟨rfl, (h.drewN n).set1 _ _ (by simp), ((Kp.refl b w).drewN n).set _ _⟩
    · have e1 : Hid (digitS s lo st = (0, { st with bad := true })) := by simp only [Hid, digitS, HP.out]; rw [if_neg (by simpa using hc)]
      generalize hpc : peekC s st = pc at *
      have HC : Hid (peekC s st = pc) := hpc
      clear hpc
      have d1 : (decide (pc < lo) || decide (57 < pc)) = true := by simp; omega
      go_enter Tryz.func52, Tryz.ntmps52
      go_wp2_with fail
      refine (peek_of HC.out HP.out h hs).mono ?_
      rintro e w1 ⟨rfl, n, rfl⟩
      go_wp2
      all_goals
        go_ret
        rw [e1.out]
        exact ⟨rfl, (h.drewN n).set2 _, ((Kp.refl b w).drewN n).set _ _⟩

end Go.Proofs.YtmjdaifalgpdnaaGreat
