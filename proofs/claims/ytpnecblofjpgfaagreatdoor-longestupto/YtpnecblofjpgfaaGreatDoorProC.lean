import Derived.Test.YtpnecblofjpgfaaGreatDoorProB
import Derived.Lib.IndexBytes
namespace Go.Proofs.YtpnecblofjpgfaaGreatDoor
open Go.RowKit

theorem drop_cons (s : ByteArray) (k : Nat) (h : k < s.size) : s.data.toList.drop k = s[k] :: s.data.toList.drop (k + 1) := by
  rw [List.drop_eq_getElem_cons (by simpa using h)]; rfl

theorem nextW_data (s : ByteArray) (at_ : Nat) (word : ByteArray) : nextW s at_ word = (decide (word.size ≤ s.size - at_) && ((s.data.toList.drop at_).take word.size == word.data.toList)) := by
  unfold nextW
  rw [ByteArray.toList_eq, ByteArray.toList_eq, Lib.extract_data, Lib.extract_to_end, List.drop_zero, Nat.sub_zero]

theorem u8_eq (a : UInt8) (c : UInt8) : (a == c) = ((a.toNat : Int) == (c.toNat : Int)) := by
  rw [Bool.eq_iff_iff]
  simp only [beq_iff_eq]
  constructor
  · intro h; rw [h]
  · intro h; apply UInt8.toNat_inj.1; omega

theorem nextW_one (s : ByteArray) (at_ g : Nat) (c : UInt8) : nextW s at_ ⟨#[c]⟩ = isB s ⟨at_, false, g⟩ (c.toNat : Int) := by
  rw [nextW_data]
  have e1 : (ByteArray.mk #[c]).size = 1 := rfl
  have e2 : (ByteArray.mk #[c]).data.toList = [c] := rfl
  rw [e1, e2]
  unfold isB peekOk peekC
  by_cases h : at_ < s.size
  · rw [drop_cons s at_ h]
    have : decide (1 ≤ s.size - at_) = true := by simp; omega
    rw [this]
    simp [h, u8_eq]
  · have : decide (1 ≤ s.size - at_) = false := by simp; omega
    rw [this]
    simp [h]

theorem nextW_two (s : ByteArray) (at_ g : Nat) (c : UInt8) : nextW s at_ ⟨#[92, c]⟩ = isEsc s ⟨at_, false, g⟩ (c.toNat : Int) := by
  rw [nextW_data]
  have e1 : (ByteArray.mk #[92, c]).size = 2 := rfl
  have e2 : (ByteArray.mk #[92, c]).data.toList = [92, c] := rfl
  rw [e1, e2]
  unfold isEsc
  by_cases h : at_ + 1 < s.size
  · rw [drop_cons s at_ (by omega), drop_cons s (at_ + 1) h]
    have : decide (2 ≤ s.size - at_) = true := by simp; omega
    rw [this]
    have h92 : (92 : UInt8).toNat = 92 := rfl
    simp only [List.take_succ_cons, List.take_zero, Bool.true_and, dif_pos h, Bool.not_false]
    rw [show ([s[at_], s[at_ + 1]] == [92, c]) = ((s[at_] == 92) && (s[at_ + 1] == c)) from by simp]
    rw [u8_eq, u8_eq, h92]; rfl
  · have : decide (2 ≤ s.size - at_) = false := by simp; omega
    rw [this]
    simp [h]

theorem nextOf_peek (s : ByteArray) (at_ g : Nat) (l : ByteArray) : nextOf s at_ l = (peekOk s ⟨at_, false, g⟩ && hasL l.data.toList (peekC s ⟨at_, false, g⟩)) := by
  unfold nextOf peekOk peekC
  by_cases h : at_ < s.size <;> simp [h]

/-- The block of an exprReader. -/
def ER (w : World) (b : Nat) (s : ByteArray) (at_ : Nat) (en : Int) (pv : Value) (g : Nat) : Prop := Blk w b #[.string s, .int .i64 at_, .int .i64 en, pv, .int .i64 g] 58

section
variable {w w' : World} {b : Nat} {s : ByteArray} {at_ g : Nat} {en : Int} {pv : Value}
theorem ER.rd (h : ER w b s at_ en pv g) : RdC w b s at_ en := ⟨h.cell 0 rfl, h.cell 1 rfl, h.cell 2 rfl, h.fz 1⟩
theorem ER.drewN (h : ER w b s at_ en pv g) (n : Nat) : ER (w.drewN n) b s at_ en pv g := h
theorem ER.moved {dst : Nat} (h : ER w b s at_ en pv g) (hm : Moved w b dst w') : ER w' b s dst en pv g := by
  obtain ⟨n, m, rfl⟩ := hm
  exact (Blk.set (w := w.drewN n) h 1 (.int .i64 (dst : Int)) rfl).drewN m
theorem ER.below (h : ER w b s at_ en pv g) (hb : Below w.heap.size w w') : ER w' b s at_ en pv g := Blk.below h hb
theorem ER.alloc (h : ER w b s at_ en pv g) (o : Obj) : ER (w.alloc o) b s at_ en pv g := Blk.alloc h o
theorem ER.other (h : ER w b s at_ en pv g) {p : Addr} (hp : p.block ≠ b) (u : Value) : ER (w.setCell p u) b s at_ en pv g := Blk.other h hp u
theorem ER.lt (h : ER w b s at_ en pv g) : b < w.heap.size := Blk.lt h
end

def digitsB : ByteArray := ⟨#[48, 49, 50, 51, 52, 53, 54, 55, 56, 57]⟩
theorem has_digits (c : Int) (h0 : 0 ≤ c) (h1 : c < 256) : hasL digitsB.data.toList c = (decide (48 ≤ c) && decide (c ≤ 57)) := by
  have key : ∀ k : Nat, k < 256 → hasL digitsB.data.toList (k : Int) = (decide (48 ≤ (k : Int)) && decide ((k : Int) ≤ 57)) := by decide +kernel
  obtain ⟨k, rfl⟩ := Int.eq_ofNat_of_zero_le h0
  exact key k (by omega)

/-- The program's digit, against the document's. -/
def Took (w : World) (b : Nat) (s : ByteArray) (en : Int) (pv : Value) (g : Nat) (st : St) (good : Ending → Prop) (e : Ending) (w' : World) : Prop :=
  Kp b w w' ∧ ((st.bad = false ∧ good e ∧ ER w' b s st.i en pv g) ∨ (st.bad = true ∧ e = .panicked (gaveUp en st.i)))

theorem u8_sub (x : Int) (h : 48 ≤ x) (h2 : x ≤ 57) : IntKind.u8.wrap (x - 48) = x - 48 := by
  simp [IntKind.wrap, IntKind.bits, IntKind.signed]; omega

set_option maxHeartbeats 800000 in
theorem pdigit_any (b : Nat) (s : ByteArray) (at_ : Nat) (en : Int) (pv : Value) (g : Nat) (least : Int) (w : World) (h : ER w b s at_ en pv g) (hs : s.size ≤ 1048576) (ha : at_ ≤ s.size) (hl0 : 0 ≤ least) (hl9 : least ≤ 9) :
    Calls Tryz.prog 92 #[.pointer (some ⟨b, 0, none⟩), .int .i64 least] w fun e w' => Took w b s en pv g (digitS s (48 + least) ⟨at_, false, g⟩).2 (fun e => e = .returned (.int .i64 (digitS s (48 + least) ⟨at_, false, g⟩).1)) e w' := by
  have p1 := peekC_lo s ⟨at_, false, g⟩
  have p2 := peekC_hi s ⟨at_, false, g⟩
  have hrd := h.rd
  by_cases hlt : at_ < s.size
  · have hpc : peekC s ⟨at_, false, g⟩ = ((s[at_]'hlt).toNat : Int) := by simp [peekC, hlt]
    have hpo : peekOk s ⟨at_, false, g⟩ = true := by simp [peekOk, hlt]
    have hnx : nextOf s at_ digitsB = (decide (48 ≤ peekC s ⟨at_, false, g⟩) && decide (peekC s ⟨at_, false, g⟩ ≤ 57)) := by rw [nextOf_peek s at_ g, hpo, has_digits _ p1 p2]; rfl
    by_cases hd : 48 ≤ peekC s ⟨at_, false, g⟩ ∧ peekC s ⟨at_, false, g⟩ ≤ 57
    · have hn1 : nextOf s at_ digitsB = true := by rw [hnx]; simp [hd]
      have HN := hide hn1
      clear hn1 hnx
      by_cases hl : 48 + least ≤ peekC s ⟨at_, false, g⟩
      · have HE : Hid (digitS s (48 + least) ⟨at_, false, g⟩ = (peekC s ⟨at_, false, g⟩ - 48, ⟨at_ + 1, false, g⟩)) := by rw [Hid, digitS, if_pos ⟨hpo, hl, hd.2⟩]
        rw [hpc] at HE hl hd
        clear hpc hpo p1 p2
        have hw := u8_sub _ hd.1 hd.2
        obtain ⟨hd1, hd2⟩ := hd
        go_enter Tryz.func92, Tryz.ntmps92
        go_wp2_with fail
        refine (takeOneOf_ok b s at_ en digitsB _ hrd hs hlt HN.out).mono ?_
        rintro e w1 ⟨rfl, hm⟩
        go_wp2_with fail
        go_ret
        rw [HE.out]
        exact ⟨hm.kp, .inl ⟨rfl, rfl, h.moved hm⟩⟩
      · have HE : Hid (digitS s (48 + least) ⟨at_, false, g⟩ = (0, ⟨at_, true, g⟩)) := by rw [Hid, digitS, if_neg (by omega)]
        rw [hpc] at hl hd
        clear hpc hpo p1 p2
        have hw := u8_sub _ hd.1 hd.2
        obtain ⟨hd1, hd2⟩ := hd
        have hl2 : (s[at_].toNat : Int) - 48 < least := by omega
        go_enter Tryz.func92, Tryz.ntmps92
        go_wp2_with fail
        refine (takeOneOf_ok b s at_ en digitsB _ hrd hs hlt HN.out).mono ?_
        rintro e w1 ⟨rfl, hm⟩
        go_wp2_with fail
        refine (refuse_any b s (at_ + 1) en _ (hrd.moved hm) hs (by omega)).mono ?_
        rintro e w2 ⟨rfl, rfl⟩
        refine ⟨rfl, ?_⟩
        rw [HE.out]
        exact ⟨hm.kp, .inr ⟨rfl, by rw [show (((at_ + 1 : Nat) : Int) - 1) = (at_ : Int) from by omega]⟩⟩
    · have hn1 : nextOf s at_ digitsB = false := by rw [hnx, Bool.eq_false_iff]; intro h; simp at h; exact hd h
      have HN := hide hn1
      have HE : Hid (digitS s (48 + least) ⟨at_, false, g⟩ = (0, ⟨at_, true, g⟩)) := by rw [Hid, digitS, if_neg (by intro h; exact hd ⟨by omega, h.2.2⟩)]
      clear hn1 hnx hpc hpo p1 p2 hd
      go_enter Tryz.func92, Tryz.ntmps92
      go_wp2_with fail
      refine (takeOneOf_bad b s at_ en digitsB _ hrd hs hlt HN.out).mono ?_
      rintro e w1 ⟨rfl, hk⟩
      refine ⟨rfl, ?_⟩
      rw [HE.out]
      exact ⟨hk, .inr ⟨rfl, rfl⟩⟩
  · obtain rfl : at_ = s.size := by omega
    have HE : Hid (digitS s (48 + least) ⟨s.size, false, g⟩ = (0, ⟨s.size, true, g⟩)) := by rw [Hid, digitS, if_neg (by simp [peekOk])]
    go_enter Tryz.func92, Tryz.ntmps92
    go_wp2_with fail
    refine (takeOneOf_end b s en digitsB _ hrd).mono ?_
    rintro e w1 ⟨rfl, n, rfl⟩
    refine ⟨rfl, ?_⟩
    rw [HE.out]
    exact ⟨(Kp.refl b w).drewN n, .inr ⟨rfl, rfl⟩⟩

end Go.Proofs.YtpnecblofjpgfaaGreatDoor
