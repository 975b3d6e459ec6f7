import Derived.Test.YtmjdaifalgpdnaaGreatRefA
import Derived.Laws.IdiomStrings
namespace Go.Proofs.YtmjdaifalgpdnaaGreat
open Go.RowKit

theorem wrapE (x : Int) (h1 : -9223372036854775808 ≤ x) (h2 : x ≤ 9223372036854775807) : IntKind.i64.wrap x = x := by
  rw [IntKind.wrap_i64]; omega

/-- The pairs of a set, as bytes. -/
def byteOf (n : Int) : UInt8 := UInt8.ofNat n.toNat
theorem byteOf_toNat {n : Int} (h : 0 ≤ n) (h' : n < 256) : ((byteOf n).toNat : Int) = n := by
  unfold byteOf
  rw [UInt8.toNat_ofNat']
  omega

set_option maxHeartbeats 400000 in
theorem pair_any (a c : Int) (w : World) (ha : 0 ≤ a) (ha' : a < 256) (hc : 0 ≤ c) (hc' : c < 256) :
    Calls Tryz.prog 92 #[.int .u8 a, .int .u8 c] w fun e w' => e = .returned (.string ⟨#[byteOf a, byteOf c]⟩) ∧ Below w.heap.size w w' := by
  have hcv : (convert 75 9 (.slice (some ⟨w.heap.size, 0, none⟩) 2 2)).run Tryz.prog (w.alloc (.cells #[.int .u8 a, .int .u8 c] 5)) = .ok (.string ⟨#[byteOf a, byteOf c]⟩) (w.alloc (.cells #[.int .u8 a, .int .u8 c] 5)) := by
    have := run_convert_bytes_back (P := Tryz.prog) (w.alloc (.cells #[.int .u8 a, .int .u8 c] 5)) 75 9 5 ⟨w.heap.size, 0, none⟩ 2 [byteOf a, byteOf c] (by kernel_rfl) (by kernel_rfl) (by kernel_rfl) (by
      intro j hj
      have hh : (w.alloc (.cells #[.int .u8 a, .int .u8 c] 5)).heap[w.heap.size]? = some (.cells #[.int .u8 a, .int .u8 c] 5) := heap_alloc_new w _
      have : j = 0 ∨ j = 1 := by simp at hj; omega
      rcases this with rfl | rfl
      · exact (cell_of_row _ _ 0 _ 5 (0, 0) hh).trans (by simp [byteOf_toNat ha ha'])
      · exact (cell_of_row _ _ 1 _ 5 (0, 0) hh).trans (by simp [byteOf_toNat hc hc']))
    simpa using this
  go_enter Tryz.func92, Tryz.ntmps92
  go_wp2
  go_ret
  exact ⟨rfl, (Below.refl _ _).alloc (Nat.le_refl _) _⟩

def isEsc (s : ByteArray) (st : St) (c : Int) : Bool := !st.bad && (if h : st.i + 1 < s.size then (((s[st.i]'(by omega)).toNat : Int) == 92) && ((s[st.i+1].toNat : Int) == c) else false)

set_option maxHeartbeats 400000 in
theorem closing_any (b : Nat) (s : ByteArray) (st : St) (c : Int) (w : World) (h : RD w b s st) (hs : s.size ≤ 1048576) (hi : st.i ≤ s.size) :
    Calls Tryz.prog 86 #[.pointer (some ⟨b, 0, none⟩), .int .u8 c] w fun e w' => e = .returned (.bool (isEsc s st c)) ∧ ∃ n, w' = w.drewN n := by
  obtain ⟨i, bad, g⟩ := st
  have h0 := h.c0
  have h1 := h.c1
  have h2 := h.c2
  clear h
  dsimp only at h1 h2 hi
  cases bad
  · obtain ⟨j, hj⟩ : ∃ j : Nat, j = i + 1 := ⟨_, rfl⟩
    have HJ : Hid (j = i + 1) := hj
    have hw : IntKind.i64.wrap ((i : Int) + 1) = (j : Int) := by rw [wrapE ((i : Int) + 1) (by omega) (by omega)]; omega
    by_cases hlt : j < s.size
    · have hd : decide ((j : Int) < s.size) = true := by simp; omega
      have hl2 : i < s.size := by omega
      have e1 : isEsc s ⟨i, false, g⟩ c = (((s[i].toNat : Int) == 92) && ((s[j].toNat : Int) == c)) := by
        subst hj; simp [isEsc, hlt]
      have E1 := e1
      replace E1 : Hid _ := E1
      clear e1 hj
      cases hb : (((s[i]'hl2).toNat : Int) == 92)
      · go_enter Tryz.func86, Tryz.ntmps86
        go_wp2
        go_quiet (fail)
        go_wp2
        go_ret
        exact ⟨ret_bool (by rw [E1.out, hb]; rfl), _, rfl⟩
      · go_enter Tryz.func86, Tryz.ntmps86
        go_wp2
        go_quiet (fail)
        go_wp2
        go_ret
        exact ⟨ret_bool (by rw [E1.out, hb]; rfl), _, rfl⟩
    · have hd : decide ((j : Int) < s.size) = false := by simp; omega
      clear hj
      go_enter Tryz.func86, Tryz.ntmps86
      go_wp2
      go_quiet (fail)
      go_wp2
      go_ret
      exact ⟨ret_bool (by have := HJ.out; simp [isEsc]; omega), _, rfl⟩
  · go_enter Tryz.func86, Tryz.ntmps86
    go_wp2
    go_quiet (fail)
    go_wp2
    go_ret
    exact ⟨ret_bool (by simp [isEsc]), _, rfl⟩

end Go.Proofs.YtmjdaifalgpdnaaGreat

namespace Go.Proofs.YtmjdaifalgpdnaaGreat
open Go.RowKit

def neverL : List UInt8 := [92, 93, 47, 45, 10]

def adv (st : St) : St := { st with i := st.i + 1 }
def spoil (st : St) : St := { st with bad := true }

def itemS (s : ByteArray) (st : St) : ByteArray × St :=
  if peekOk s st = false ∨ hasL neverL (peekC s st) = true then (⟨#[]⟩, spoil st) else
  if isB s (adv st) 45 = false then (⟨#[byteOf (peekC s st), byteOf (peekC s st)]⟩, adv st) else
  if peekOk s (adv (adv st)) = false ∨ hasL neverL (peekC s (adv (adv st))) = true ∨ peekC s (adv (adv st)) < peekC s st then (⟨#[]⟩, spoil (adv (adv st))) else
  (⟨#[byteOf (peekC s st), byteOf (peekC s (adv (adv st)))]⟩, adv (adv (adv st)))

theorem RD.adv {w : World} {b : Nat} {s : ByteArray} {st : St} (h : RD w b s st) {i : Int} (e : i = st.i + 1) : RD (w.setCell ⟨b, 1, none⟩ (.int .i64 i)) b s (adv st) := h.set1 _ _ (by rw [e]; rfl)
theorem RD.spoil {w : World} {b : Nat} {s : ByteArray} {st : St} (h : RD w b s st) : RD (w.setCell ⟨b, 2, none⟩ (.bool true)) b s (spoil st) := h.set2 _

theorem RD.below {W w : World} {b : Nat} {s : ByteArray} {st : St} (h : RD W b s st) (hb : Below W.heap.size W w) : RD w b s st := by
  have := hb.block b h.lt
  unfold RD at h ⊢
  rw [this]; exact h

theorem has_never (c : Int) (w : World) : Calls Tryz.prog 41 #[.string ⟨#[92, 93, 47, 45, 10]⟩, .int .u8 c] w fun e w' => e = .returned (.bool (hasL neverL c)) ∧ w' = w :=
  has_any ⟨#[92, 93, 47, 45, 10]⟩ c w (by decide)

set_option maxHeartbeats 800000 in
theorem item_any (b : Nat) (s : ByteArray) (st : St) (w : World) (h : RD w b s st) (hs : s.size ≤ 1048576) :
    Calls Tryz.prog 99 #[.pointer (some ⟨b, 0, none⟩)] w fun e w' => e = .returned (.string (itemS s st).1) ∧ RD w' b s (itemS s st).2 ∧ Kp b w w' := by
  have h1 := h.c1
  have h2 := h.c2
  have hf := h.fz
  have p1 := peekC_lo s st
  have p2 := peekC_hi s st
  cases hp : peekOk s st
  · have HE : Hid (itemS s st = (⟨#[]⟩, spoil st)) := by simp [Hid, itemS, hp]
    have HP : Hid (peekOk s st = false) := hp
    clear hp
    go_enter Tryz.func99, Tryz.ntmps99
    go_wp2_with fail
    refine (peek_of rfl HP.out h hs).mono ?_
    rintro e w1 ⟨rfl, n, rfl⟩
    go_wp2_with fail
    go_ret
    rw [HE.out]
    exact ⟨rfl, (h.drewN n).spoil, ((Kp.refl b w).drewN n).set _ _⟩
  have hlt := peekOk_lt hp
  have HP : Hid (peekOk s st = true) := hp
  clear hp
  generalize hpc : peekC s st = pc at *
  have HC : Hid (peekC s st = pc) := hpc
  clear hpc
  cases hh : hasL neverL pc
  · have HH : Hid (hasL neverL pc = false) := hh
    clear hh
    cases hi : isB s (adv st) 45
    · have HE : Hid (itemS s st = (⟨#[byteOf pc, byteOf pc]⟩, adv st)) := by simp [Hid, itemS, HP.out, HH.out, HC.out, hi]
      have HI : Hid (isB s (adv st) 45 = false) := hi
      clear hi
      go_enter Tryz.func99, Tryz.ntmps99
      go_wp2_with fail
      refine (peek_of HC.out HP.out h hs).mono ?_
      rintro e w1 ⟨rfl, n, rfl⟩
      go_wp2_with fail
      refine (has_never _ _).mono ?_
      rintro e w1 ⟨rfl, rfl⟩
      rw [HH.out]
      go_wp2_with fail
      refine (is_of HI.out ((h.drewN n).adv rfl) hs).mono ?_
      rintro e w1 ⟨rfl, m, rfl⟩
      go_wp2_with fail
      refine (pair_any pc pc _ p1 p2 p1 p2).mono ?_
      rintro e w1 ⟨rfl, hb⟩
      go_wp2_with fail
      go_ret
      rw [HE.out]
      exact ⟨rfl, (((h.drewN n).adv rfl).drewN m).below hb, ((((Kp.refl b w).drewN n).set _ _).drewN m).trans (Kp.below hb)⟩
    · have HI : Hid (isB s (adv st) 45 = true) := hi
      have hlt2 : st.i + 1 < s.size := peekOk_lt (isB_ok hi)
      clear hi
      have q1 := peekC_lo s (adv (adv st))
      have q2 := peekC_hi s (adv (adv st))
      cases ho : peekOk s (adv (adv st))
      · have HO : Hid (peekOk s (adv (adv st)) = false) := ho
        have HE : Hid (itemS s st = (⟨#[]⟩, spoil (adv (adv st)))) := by simp [Hid, itemS, HP.out, HH.out, HC.out, HI.out, ho]
        clear ho
        go_enter Tryz.func99, Tryz.ntmps99
        go_wp2_with fail
        refine (peek_of HC.out HP.out h hs).mono ?_
        rintro e w1 ⟨rfl, n, rfl⟩
        go_wp2_with fail
        refine (has_never _ _).mono ?_
        rintro e w1 ⟨rfl, rfl⟩
        rw [HH.out]
        go_wp2_with fail
        refine (is_of HI.out ((h.drewN n).adv rfl) hs).mono ?_
        rintro e w1 ⟨rfl, m, rfl⟩
        go_wp2_with fail
        refine (peek_of rfl HO.out ((((h.drewN n).adv rfl).drewN m).adv (by simp [adv])) hs).mono ?_
        rintro e w1 ⟨rfl, k, rfl⟩
        go_wp2_with fail
        go_ret
        rw [HE.out]
        exact ⟨rfl, (((((h.drewN n).adv rfl).drewN m).adv (by simp [adv])).drewN k).spoil, ((((((Kp.refl b w).drewN n).set _ _).drewN m).set _ _).drewN k).set _ _⟩
      · have HO : Hid (peekOk s (adv (adv st)) = true) := ho
        have hlt3 : st.i + 1 + 1 < s.size := peekOk_lt ho
        clear ho
        generalize hqc : peekC s (adv (adv st)) = qc at *
        have HD : Hid (peekC s (adv (adv st)) = qc) := hqc
        clear hqc
        cases hk : hasL neverL qc
        · have HK : Hid (hasL neverL qc = false) := hk
          clear hk
          by_cases hc : qc < pc
          · have HE : Hid (itemS s st = (⟨#[]⟩, spoil (adv (adv st)))) := by simp [Hid, itemS, HP.out, HH.out, HC.out, HI.out, HO.out, HD.out, hc]
            go_enter Tryz.func99, Tryz.ntmps99
            go_wp2_with fail
            refine (peek_of HC.out HP.out h hs).mono ?_
            rintro e w1 ⟨rfl, n, rfl⟩
            go_wp2_with fail
            refine (has_never _ _).mono ?_
            rintro e w1 ⟨rfl, rfl⟩
            rw [HH.out]
            go_wp2_with fail
            refine (is_of HI.out ((h.drewN n).adv rfl) hs).mono ?_
            rintro e w1 ⟨rfl, m, rfl⟩
            go_wp2_with fail
            refine (peek_of HD.out HO.out ((((h.drewN n).adv rfl).drewN m).adv (by simp [adv])) hs).mono ?_
            rintro e w1 ⟨rfl, k, rfl⟩
            go_wp2_with fail
            refine (has_never _ _).mono ?_
            rintro e w1 ⟨rfl, rfl⟩
            rw [HK.out]
            go_wp2_with fail
            go_ret
            rw [HE.out]
            exact ⟨rfl, (((((h.drewN n).adv rfl).drewN m).adv (by simp [adv])).drewN k).spoil, ((((((Kp.refl b w).drewN n).set _ _).drewN m).set _ _).drewN k).set _ _⟩
          · have HE : Hid (itemS s st = (⟨#[byteOf pc, byteOf qc]⟩, adv (adv (adv st)))) := by simp [Hid, itemS, HP.out, HH.out, HC.out, HI.out, HO.out, HD.out, HK.out]; omega
            go_enter Tryz.func99, Tryz.ntmps99
            go_wp2_with fail
            refine (peek_of HC.out HP.out h hs).mono ?_
            rintro e w1 ⟨rfl, n, rfl⟩
            go_wp2_with fail
            refine (has_never _ _).mono ?_
            rintro e w1 ⟨rfl, rfl⟩
            rw [HH.out]
            go_wp2_with fail
            refine (is_of HI.out ((h.drewN n).adv rfl) hs).mono ?_
            rintro e w1 ⟨rfl, m, rfl⟩
            go_wp2_with fail
            refine (peek_of HD.out HO.out ((((h.drewN n).adv rfl).drewN m).adv (by simp [adv])) hs).mono ?_
            rintro e w1 ⟨rfl, k, rfl⟩
            go_wp2_with fail
            refine (has_never _ _).mono ?_
            rintro e w1 ⟨rfl, rfl⟩
            rw [HK.out]
            go_wp2_with fail
            refine (pair_any pc qc _ p1 p2 q1 q2).mono ?_
            rintro e w1 ⟨rfl, hb⟩
            go_wp2_with fail
            go_ret
            rw [HE.out]
            exact ⟨rfl, ((((((h.drewN n).adv rfl).drewN m).adv (by simp [adv])).drewN k).adv (by simp [adv])).below hb, (((((((Kp.refl b w).drewN n).set _ _).drewN m).set _ _).drewN k).set _ _).trans (Kp.below hb)⟩
        · have HK : Hid (hasL neverL qc = true) := hk
          clear hk
          have HE : Hid (itemS s st = (⟨#[]⟩, spoil (adv (adv st)))) := by simp [Hid, itemS, HP.out, HH.out, HC.out, HI.out, HO.out, HD.out, HK.out]
          go_enter Tryz.func99, Tryz.ntmps99
          go_wp2_with fail
          refine (peek_of HC.out HP.out h hs).mono ?_
          rintro e w1 ⟨rfl, n, rfl⟩
          go_wp2_with fail
          refine (has_never _ _).mono ?_
          rintro e w1 ⟨rfl, rfl⟩
          rw [HH.out]
          go_wp2_with fail
          refine (is_of HI.out ((h.drewN n).adv rfl) hs).mono ?_
          rintro e w1 ⟨rfl, m, rfl⟩
          go_wp2_with fail
          refine (peek_of HD.out HO.out ((((h.drewN n).adv rfl).drewN m).adv (by simp [adv])) hs).mono ?_
          rintro e w1 ⟨rfl, k, rfl⟩
          go_wp2_with fail
          refine (has_never _ _).mono ?_
          rintro e w1 ⟨rfl, rfl⟩
          rw [HK.out]
          go_wp2_with fail
          go_ret
          rw [HE.out]
          exact ⟨rfl, (((((h.drewN n).adv rfl).drewN m).adv (by simp [adv])).drewN k).spoil, ((((((Kp.refl b w).drewN n).set _ _).drewN m).set _ _).drewN k).set _ _⟩
  · have HH : Hid (hasL neverL pc = true) := hh
    clear hh
    have HE : Hid (itemS s st = (⟨#[]⟩, spoil st)) := by simp [Hid, itemS, HP.out, HH.out, HC.out]
    go_enter Tryz.func99, Tryz.ntmps99
    go_wp2_with fail
    refine (peek_of HC.out HP.out h hs).mono ?_
    rintro e w1 ⟨rfl, n, rfl⟩
    go_wp2_with fail
    refine (has_never _ _).mono ?_
    rintro e w1 ⟨rfl, rfl⟩
    rw [HH.out]
    go_wp2_with fail
    go_ret
    rw [HE.out]
    exact ⟨rfl, (h.drewN n).spoil, ((Kp.refl b w).drewN n).set _ _⟩
end Go.Proofs.YtmjdaifalgpdnaaGreat

namespace Go.Proofs.YtmjdaifalgpdnaaGreat
open Go.RowKit

/-- A block of cells. -/
def Blk (w : World) (k : Nat) (c : Array Value) (t : TypeId) : Prop := w.heap[k]? = some (.cells c t)

section
variable {w w' : World} {k b : Nat} {c : Array Value} {t : TypeId}
theorem Blk.lt (h : Blk w k c t) : k < w.heap.size := (Array.getElem?_eq_some_iff.1 h).1
theorem Blk.cell (h : Blk w k c t) (o : Nat) {v : Value} (e : c[o]? = some v) : w.cell? ⟨k, o, none⟩ = some v := by
  unfold Blk at h; simp [World.cell?, h, e]
theorem Blk.fz (h : Blk w k c t) (o : Nat) : w.frozen? ⟨k, o, none⟩ = false := by unfold Blk at h; simp [World.frozen?, h]
theorem Blk.drewN (h : Blk w k c t) (n : Nat) : Blk (w.drewN n) k c t := h
theorem Blk.drew (h : Blk w k c t) : Blk w.drew k c t := h
theorem Blk.alloc (h : Blk w k c t) (o : Obj) : Blk (w.alloc o) k c t := by
  have hl := h.lt
  unfold Blk at h ⊢
  rw [← h]; exact Below.heap_alloc _ _ _ hl
theorem Blk.new (w : World) (c : Array Value) (t : TypeId) : Blk (w.alloc (.cells c t)) w.heap.size c t := heap_alloc_new w _
theorem Blk.newAt {w : World} {k : Nat} {c : Array Value} {t : TypeId} (hk : k = w.heap.size) : Blk (w.alloc (.cells c t)) k c t := by subst hk; exact heap_alloc_new w _
theorem Blk.other (h : Blk w k c t) {p : Addr} (hp : p.block ≠ k) (u : Value) : Blk (w.setCell p u) k c t := by
  unfold Blk at h ⊢
  rw [← h]; exact Below.heap_setCell _ _ _ _ (Ne.symm hp)
theorem Blk.set (h : Blk w k c t) (o : Nat) (u : Value) {c' : Array Value} (e : c.setIfInBounds o u = c') : Blk (w.setCell ⟨k, o, none⟩ u) k c' t := by
  unfold Blk at h ⊢
  simp [World.setCell, Array.getElem?_modify, h, e]
theorem Blk.kp (h : Blk w k c t) (hk : Kp b w w') (hne : k ≠ b) : Blk w' k c t := by
  have := hk.block k h.lt hne
  unfold Blk at h ⊢
  rw [this]; exact h
theorem Blk.below (h : Blk w k c t) (hk : Below w.heap.size w w') : Blk w' k c t := by
  have := hk.block k h.lt
  unfold Blk at h ⊢
  rw [this]; exact h
end

/-- The six cells of a part. -/
def pcells (g : Int) (kids : Value) (neg : Bool) (pairs : ByteArray) (mn mx : Int) : Array Value :=
  #[.int .i64 g, kids, .bool neg, .string pairs, .int .i64 mn, .int .i64 mx]

def nilS : Value := .slice none 0 0

section
variable {w : World} {k : Nat} {t : TypeId} {a0 a1 a2 a3 a4 a5 : Value}
theorem Blk.six (h : Blk w k #[a0, a1, a2, a3, a4, a5] t) : w.cell? ⟨k, 0, none⟩ = some a0 ∧ w.cell? ⟨k, 1, none⟩ = some a1 ∧ w.cell? ⟨k, 2, none⟩ = some a2 ∧ w.cell? ⟨k, 3, none⟩ = some a3 ∧ w.cell? ⟨k, 4, none⟩ = some a4 ∧ w.cell? ⟨k, 5, none⟩ = some a5 ∧ ∀ o, w.frozen? ⟨k, o, none⟩ = false :=
  ⟨h.cell 0 rfl, h.cell 1 rfl, h.cell 2 rfl, h.cell 3 rfl, h.cell 4 rfl, h.cell 5 rfl, h.fz⟩
theorem Blk.four (h : Blk w k #[a0, a1, a2, a3] t) : w.cell? ⟨k, 0, none⟩ = some a0 ∧ w.cell? ⟨k, 1, none⟩ = some a1 ∧ w.cell? ⟨k, 2, none⟩ = some a2 ∧ w.cell? ⟨k, 3, none⟩ = some a3 ∧ ∀ o, w.frozen? ⟨k, o, none⟩ = false :=
  ⟨h.cell 0 rfl, h.cell 1 rfl, h.cell 2 rfl, h.cell 3 rfl, h.fz⟩
theorem Blk.put6 (h : Blk w k #[a0, a1, a2, a3, a4, a5] t) (b0 b1 b2 b3 b4 b5 : Value) :
    Blk ((((((w.setCell ⟨k, 0, none⟩ b0).setCell ⟨k, 1, none⟩ b1).setCell ⟨k, 2, none⟩ b2).setCell ⟨k, 3, none⟩ b3).setCell ⟨k, 4, none⟩ b4).setCell ⟨k, 5, none⟩ b5) k #[b0, b1, b2, b3, b4, b5] t :=
  (((((h.set 0 b0 rfl).set 1 b1 rfl).set 2 b2 rfl).set 3 b3 rfl).set 4 b4 rfl).set 5 b5 rfl
theorem below_put6 {B : Nat} {W w : World} (h : Below B W w) {k : Nat} (hk : B ≤ k) (b0 b1 b2 b3 b4 b5 : Value) :
    Below B W ((((((w.setCell ⟨k, 0, none⟩ b0).setCell ⟨k, 1, none⟩ b1).setCell ⟨k, 2, none⟩ b2).setCell ⟨k, 3, none⟩ b3).setCell ⟨k, 4, none⟩ b4).setCell ⟨k, 5, none⟩ b5) :=
  (((((h.setCell hk _).setCell hk _).setCell hk _).setCell hk _).setCell hk _).setCell hk _
theorem Kp.put6 {b : Nat} {W w : World} (h : Kp b W w) {k : Nat} (hk : W.heap.size ≤ k) (b0 b1 b2 b3 b4 b5 : Value) :
    Kp b W ((((((w.setCell ⟨k, 0, none⟩ b0).setCell ⟨k, 1, none⟩ b1).setCell ⟨k, 2, none⟩ b2).setCell ⟨k, 3, none⟩ b3).setCell ⟨k, 4, none⟩ b4).setCell ⟨k, 5, none⟩ b5) :=
  (((((h.setNew hk _).setNew hk _).setNew hk _).setNew hk _).setNew hk _).setNew hk _
theorem RD.put6 {w : World} {b : Nat} {s : ByteArray} {st : St} (h : RD w b s st) {k : Nat} (hk : k ≠ b) (b0 b1 b2 b3 b4 b5 : Value) :
    RD ((((((w.setCell ⟨k, 0, none⟩ b0).setCell ⟨k, 1, none⟩ b1).setCell ⟨k, 2, none⟩ b2).setCell ⟨k, 3, none⟩ b3).setCell ⟨k, 4, none⟩ b4).setCell ⟨k, 5, none⟩ b5) b s st :=
  (((((h.other hk _).other hk _).other hk _).other hk _).other hk _).other hk _
theorem Blk.putOther6 {w : World} {b : Nat} {c : Array Value} {t : TypeId} (h : Blk w b c t) {k : Nat} (hk : k ≠ b) (b0 b1 b2 b3 b4 b5 : Value) :
    Blk ((((((w.setCell ⟨k, 0, none⟩ b0).setCell ⟨k, 1, none⟩ b1).setCell ⟨k, 2, none⟩ b2).setCell ⟨k, 3, none⟩ b3).setCell ⟨k, 4, none⟩ b4).setCell ⟨k, 5, none⟩ b5) b c t :=
  (((((h.other hk _).other hk _).other hk _).other hk _).other hk _).other hk _

/-- A part that is handed back out of its variable. -/
theorem ret_part {fn : Func} {p : Tmp} (hres : fn.results = #[.cell p 151]) {tmps : Array Value} (ht : tmps.getD p undef = .pointer (some ⟨k, 0, none⟩)) (h : Blk w k #[a0, a1, a2, a3, a4, a5] 151) :
    (results fn tmps).run Tryz.prog w = .ok (.agg #[a0, a1, a2, a3, a4, a5]) w := by
  obtain ⟨c0, c1, c2, c3, c4, c5, _⟩ := h.six
  have ht' : tmps[p]?.getD undef = .pointer (some ⟨k, 0, none⟩) := by simpa using ht
  simp [results, hres, ht', go_sem, c0, c1, c2, c3, c4, c5]
end

def singleV (c : Int) : Value := .agg #[.int .i64 0, .slice none 0 0, .bool false, .string ⟨#[byteOf c, byteOf c]⟩, .int .i64 1, .int .i64 1]

set_option maxHeartbeats 400000 in
theorem single_any (c : Int) (w : World) (hc : 0 ≤ c) (hc' : c < 256) :
    Calls Tryz.prog 91 #[.int .u8 c] w fun e w' => e = .returned (singleV c) ∧ Below w.heap.size w w' := by
  go_enter Tryz.func91, Tryz.ntmps91
  go_wp2_with fail
  refine (pair_any c c _ hc hc' hc hc').mono ?_
  rintro e w1 ⟨rfl, hb⟩
  have hB := (Blk.new w #[.int .i64 0, .slice none 0 0, .bool false, .string ⟨#[]⟩, .int .i64 0, .int .i64 0] 151).below hb
  obtain ⟨c0, c1, c2, c3, c4, c5, cf⟩ := hB.six
  go_wp2_with fail
  refine bodyPost_ret (v := singleV c) (ret_part Tryz.results91 rfl (hB.put6 _ _ _ _ _ _)) rfl ⟨rfl, ?_⟩
  exact below_put6 (((Below.refl _ w).alloc (Nat.le_refl _) _).trans (hb.mono (by simp))) (Nat.le_refl _) _ _ _ _ _ _


/-- The items of a set, up to its bracket. -/
def setLoop (s : ByteArray) : Nat → ByteArray → St → ByteArray × St
  | 0, ps, st => (ps, st)
  | n + 1, ps, st => if st.bad = false ∧ (ps.size = 0 ∨ isB s st 93 = false) then setLoop s n (ps ++ (itemS s st).1) (itemS s st).2 else (ps, st)

def eatIf (s : ByteArray) (c : Int) (st : St) : St := if st.bad then st else eatS s c st

def setS (s : ByteArray) (n : Nat) (st : St) : (Bool × ByteArray) × St :=
  let neg := isB s st 94
  let r := setLoop s n ⟨#[]⟩ (if neg then adv st else st)
  ((neg, r.1), eatIf s 93 r.2)

theorem size_two (a c : UInt8) : ByteArray.size ⟨#[a, c]⟩ = 2 := rfl

theorem item_cases (s : ByteArray) (st : St) : ((itemS s st).1 = ⟨#[]⟩ ∧ (itemS s st).2.bad = true ∧ st.i ≤ (itemS s st).2.i) ∨ ((itemS s st).1.size = 2 ∧ (itemS s st).2.bad = st.bad ∧ st.i < (itemS s st).2.i ∧ (itemS s st).2.i ≤ s.size) := by
  unfold itemS
  split
  · simp [spoil]
  · next h1 =>
    have h1' : st.i < s.size := by
      simp only [not_or] at h1
      exact peekOk_lt (by simpa using h1.1)
    split
    · right; refine ⟨size_two _ _, rfl, ?_, ?_⟩ <;> simp [adv] <;> omega
    · split
      · left; simp [spoil, adv]; omega
      · next h3 =>
        have : (adv (adv st)).i < s.size := by
          simp only [not_or] at h3
          exact peekOk_lt (by simpa using h3.1)
        right; simp [adv] at this; refine ⟨size_two _ _, rfl, ?_, ?_⟩ <;> simp [adv] <;> omega

theorem item_g (s : ByteArray) (st : St) : (itemS s st).2.g = st.g := by
  unfold itemS
  repeat' split
  all_goals simp [spoil, adv]

theorem item_le (s : ByteArray) (st : St) (h : st.i ≤ s.size) : (itemS s st).2.i ≤ s.size := by
  unfold itemS
  split
  · simpa [spoil] using h
  · next h1 =>
    have h1' : st.i < s.size := by
      simp only [not_or] at h1
      exact peekOk_lt (by simpa using h1.1)
    split
    · simp [adv]; omega
    · next h2 =>
      have h2' : (adv st).i < s.size := peekOk_lt (isB_ok (by simpa using h2))
      split
      · simp [spoil, adv] at h2' ⊢; omega
      · next h3 =>
        have : (adv (adv st)).i < s.size := by
          simp only [not_or] at h3
          exact peekOk_lt (by simpa using h3.1)
        simp [adv] at this ⊢; omega

end Go.Proofs.YtmjdaifalgpdnaaGreat
