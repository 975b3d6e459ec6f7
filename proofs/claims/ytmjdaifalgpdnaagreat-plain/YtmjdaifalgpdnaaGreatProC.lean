import Derived.Test.YtmjdaifalgpdnaaGreatProA
import Derived.Deep.LoopGhost
import Derived.RegionTactic
import Derived.BigRegion
import Derived.Laws.Bits64b
import Derived.Lib.IndexBytes
namespace Go.Proofs.YtmjdaifalgpdnaaGreat
open Go.RowKit

/-- The four words of a set of bytes. -/
def ucells (W : Nat → Nat) : Array Value := #[.int .u64 (W 0 : Nat), .int .u64 (W 1 : Nat), .int .u64 (W 2 : Nat), .int .u64 (W 3 : Nat)]
def putW (W : Nat → Nat) (j : Nat) (v : Nat) : Nat → Nat := fun z => if z = j then v else W z
theorem ucells_get {W : Nat → Nat} {q : Nat} (h : q < 4) : (ucells W)[q]? = some (.int .u64 (W q : Nat)) := by
  match q, h with
  | 0, _ => rfl
  | 1, _ => rfl
  | 2, _ => rfl
  | 3, _ => rfl
theorem ucells_set (W : Nat → Nat) {q : Nat} (h : q < 4) (v : Nat) : (ucells W).setIfInBounds q (.int .u64 (v : Nat)) = ucells (putW W q v) := by
  match q, h with
  | 0, _ => rfl
  | 1, _ => rfl
  | 2, _ => rfl
  | 3, _ => rfl

/-- A set of bytes that is handed back out of its variable. -/
theorem ret_four {w : World} {k : Nat} {a0 a1 a2 a3 : Value} {fn : Func} {p : Tmp} (hres : fn.results = #[.cell p 165]) {tmps : Array Value} (ht : tmps.getD p undef = .pointer (some ⟨k, 0, none⟩)) (h : Blk w k #[a0, a1, a2, a3] 165) :
    (results fn tmps).run Tryz.prog w = .ok (.agg #[a0, a1, a2, a3]) w := by
  obtain ⟨c0, c1, c2, c3, _⟩ := h.four
  have ht' : tmps[p]?.getD undef = .pointer (some ⟨k, 0, none⟩) := by simpa using ht
  simp [results, hres, ht', go_sem, c0, c1, c2, c3]

/-- Four words that hold the bytes of which M is true. -/
def Holds4 (W : Nat → Nat) (M : Nat → Bool) : Prop := (∀ j, W j < 18446744073709551616) ∧ ∀ c, c < 256 → (W (c / 64)).testBit (c % 64) = M c

/-- A set of bytes. -/
def SetV (v : Value) (M : Nat → Bool) : Prop := ∃ W, v = .agg (ucells W) ∧ Holds4 W M

theorem two_pow_lt {k : Nat} (h : k < 64) : 2 ^ k < 18446744073709551616 := by
  have : 2 ^ k < 2 ^ 64 := Nat.pow_lt_pow_right (by omega) h
  simpa using this
theorem wrap_pow {k : Nat} (h : k < 64) : IntKind.u64.wrap (2 ^ k) = ((2 ^ k : Nat) : Int) := by
  have := two_pow_lt h
  have e : ((2 : Int) ^ k) = ((2 ^ k : Nat) : Int) := by simp
  rw [e]
  generalize 2 ^ k = m at *
  rw [IntKind.wrap_u64]
  omega

theorem holds4_or {W : Nat → Nat} {M : Nat → Bool} (h : Holds4 W M) {j : Nat} (hj : j < 256) : Holds4 (putW W (j / 64) (W (j / 64) ||| 2 ^ (j % 64))) (fun c => M c || decide (c = j)) := by
  have hp := two_pow_lt (show j % 64 < 64 by omega)
  refine ⟨fun z => ?_, fun c hc => ?_⟩
  · unfold putW; split
    · have := Nat.or_lt_two_pow (n := 64) (x := W (j / 64)) (y := 2 ^ (j % 64)) (by simpa using h.1 _) (by simpa using hp)
      simpa using this
    · exact h.1 z
  · unfold putW
    by_cases hz : c / 64 = j / 64
    · rw [if_pos hz, Nat.testBit_or, ← hz, h.2 c hc, Nat.testBit_two_pow]
      congr 1
      rw [Bool.eq_iff_iff]; simp; omega
    · rw [if_neg hz, h.2 c hc]
      have : decide (c = j) = false := by simp; intro h; subst h; exact hz rfl
      show M c = (M c || decide (c = j))
      rw [this, Bool.or_false]

set_option maxRecDepth 100000 in
set_option maxHeartbeats 1600000 in
theorem byteRange_any (lo hi : Nat) (hlo : lo < 256) (hhi : hi < 256) (w : World) :
    Calls Tryz.prog 115 #[.int .u8 lo, .int .u8 hi] w fun e w' => ∃ v, e = .returned v ∧ SetV v (fun c => decide (lo ≤ c) && decide (c ≤ hi)) ∧ Below w.heap.size w w' := by
  have hB := Blk.newAt (w := w.alloc (.cells (ucells (fun _ => 0)) 165)) (k := w.heap.size + 1) (c := ucells (fun _ => 0)) (t := 165) (by simp)
  go_enter Tryz.func115, Tryz.ntmps115
  go_wp2_with fail
  go_loopg [6] (256 - lo) (fun k i w' => ∃ (j : Nat) (W : Nat → Nat), i = .int .i64 j ∧ lo ≤ j ∧ j ≤ 256 ∧ (j ≤ lo ∨ j ≤ hi + 1) ∧ 256 ≤ j + k ∧ Blk w' w.heap.size (ucells (fun _ => 0)) 165 ∧ Blk w' (w.heap.size + 1) (ucells W) 165 ∧ Below w.heap.size w w' ∧ Hid (Holds4 W (fun c => decide (lo ≤ c) && decide (c < j))))
  case atStart =>
    refine ⟨lo, fun _ => 0, rfl, Nat.le_refl _, by omega, .inl (Nat.le_refl _), by omega, (Blk.new w (ucells fun _ => 0) 165).alloc _, hB, ((Below.refl _ _).alloc (Nat.le_refl _) _).alloc (by simp) _, fun _ => (by show 0 < 18446744073709551616; omega), fun c hc => ?_⟩
    simp
  case round =>
    obtain ⟨j, W, rfl, hlj, hj, hjh, hk, hB0, hB1, hBel, HW⟩ := hrel
    by_cases hlt : j ≤ hi
    · have hq : j / 64 < 4 := by omega
      have c1 := hB1.cell (j / 64) (ucells_get hq)
      have f1 := hB1.fz (j / 64)
      have hwp := wrap_pow (show j % 64 < 64 by omega)
      have hor : bits .or .u64 ((W (j / 64) : Nat) : Int) ((2 : Int) ^ (j % 64)) = ((W (j / 64) ||| 2 ^ (j % 64) : Nat) : Int) := by
        have := bits_or_u64_nat (W (j / 64)) (2 ^ (j % 64)) (HW.out.1 _) (two_pow_lt (by omega))
        rw [← this]; simp
      have hwp : IntKind.u64.wrap ((2 : Int) ^ (j % 64)) = (2 : Int) ^ (j % 64) := by rw [hwp]; simp
      have HX : Hid (Holds4 (putW W (j / 64) (W (j / 64) ||| 2 ^ (j % 64))) (fun c => decide (lo ≤ c) && decide (c < j + 1))) := by
        have := holds4_or HW.out (j := j) (by omega)
        refine ⟨this.1, fun c hc => ?_⟩
        rw [this.2 c hc, Bool.eq_iff_iff]; simp; omega
      clear hB
      go_wp2_with fail
      go_region
      go_wp2_with fail
      go_roundg (gk - 1)
      case measure => omega
      case rel =>
        refine ⟨j + 1, _, by go_num, by omega, by omega, .inr (by omega), by omega, ?_, ?_, ?_, HX⟩
        · exact (hB0.other (by simp) _).drew
        · exact (hB1.set (j / 64) (.int .u64 ((W (j / 64) ||| 2 ^ (j % 64) : Nat) : Int)) (ucells_set W hq _)).drew
        · exact (hBel.setCell (by simp) _).drew
    · have hB0' := hB0
      obtain ⟨c0, c1, c2, c3, cf⟩ := hB1.four
      obtain ⟨d0, d1, d2, d3, df⟩ := hB0'.four
      go_wp2_with fail
      refine bodyPost_ret (ret_four Tryz.results115 rfl (hB0.put4 _ _ _ _)) rfl ⟨_, rfl, ⟨W, rfl, HW.out.1, fun c hc => ?_⟩, (((hBel.setCell (Nat.le_refl _) _).setCell (Nat.le_refl _) _).setCell (Nat.le_refl _) _).setCell (Nat.le_refl _) _⟩
      rw [HW.out.2 c hc, Bool.eq_iff_iff]; simp; omega

set_option maxHeartbeats 400000 in
theorem oneByte_any (c : Nat) (hc : c < 256) (w : World) :
    Calls Tryz.prog 110 #[.int .u8 c] w fun e w' => ∃ v, e = .returned v ∧ SetV v (fun z => decide (z = c)) ∧ Below w.heap.size w w' := by
  go_enter Tryz.func110, Tryz.ntmps110
  go_wp2_with fail
  refine (byteRange_any c c hc hc _).mono ?_
  rintro e w1 ⟨v, rfl, ⟨W, rfl, hW⟩, hb⟩
  have hB := (Blk.new w #[.int .u64 0, .int .u64 0, .int .u64 0, .int .u64 0] 165).below hb
  obtain ⟨c0, c1, c2, c3, cf⟩ := hB.four
  have HW := hide hW
  clear hW
  unfold ucells
  go_wp2_with fail
  refine bodyPost_ret (ret_four Tryz.results110 rfl (hB.put4 _ _ _ _)) rfl ⟨_, rfl, ⟨W, rfl, HW.out.1, fun z hz => ?_⟩, ?_⟩
  · rw [HW.out.2 z hz, Bool.eq_iff_iff]; simp; omega
  · exact ((((((Below.refl _ w).alloc (Nat.le_refl _) _).trans (hb.mono (by simp))).setCell (Nat.le_refl _) _).setCell (Nat.le_refl _) _).setCell (Nat.le_refl _) _).setCell (Nat.le_refl _) _

/-- All the bytes that are not in a set. -/
def notW (W : Nat → Nat) : Nat → Nat := fun j => 18446744073709551615 - W j

theorem testBit_not {x k : Nat} (hx : x < 18446744073709551616) (hk : k < 64) : (18446744073709551615 - x).testBit k = !x.testBit k := by
  have h := Nat.testBit_two_pow_sub_succ (x := x) (n := 64) (by simpa using hx) k
  have e : 2 ^ 64 - (x + 1) = 18446744073709551615 - x := by omega
  rw [e] at h
  rw [h]; simp [hk]

theorem holds4_not {W : Nat → Nat} {M : Nat → Bool} (h : Holds4 W M) : Holds4 (notW W) (fun c => !M c) :=
  ⟨fun j => by unfold notW; omega, fun c hc => by unfold notW; rw [testBit_not (h.1 _) (by omega), h.2 c hc]⟩

theorem xor_u64 {x : Nat} (hx : x < 18446744073709551616) : bits .xor .u64 IntKind.u64.max (x : Int) = ((18446744073709551615 - x : Nat) : Int) := by
  have h1 : (BitVec.ofInt 64 (x : Int)) = BitVec.ofNat 64 x := by rw [BitVec.ofInt_natCast]
  have h2 : BitVec.ofInt 64 IntKind.u64.max = BitVec.allOnes 64 := by decide
  show IntKind.u64.wrap ((BitVec.ofInt 64 IntKind.u64.max ^^^ BitVec.ofInt 64 (x : Int)).toNat : Int) = _
  rw [h1, h2, BitVec.allOnes_xor, BitVec.toNat_not, BitVec.toNat_ofNat, Nat.mod_eq_of_lt (by simpa using hx), IntKind.wrap_u64]
  omega

set_option maxHeartbeats 800000 in
theorem others_any (v : Value) (M : Nat → Bool) (hv : SetV v M) (w : World) :
    Calls Tryz.prog 107 #[v] w fun e w' => ∃ u, e = .returned u ∧ SetV u (fun z => !M z) ∧ Below w.heap.size w w' := by
  obtain ⟨W, rfl, hW⟩ := hv
  have hx : ∀ j, bits .xor .u64 IntKind.u64.max ((W j : Nat) : Int) = ((notW W j : Nat) : Int) := fun j => xor_u64 (hW.1 j)
  have HW := hide hW
  clear hW
  unfold ucells
  go_enter Tryz.func107, Tryz.ntmps107
  go_wp2_with fail
  refine wp_loop_rounds 5 ?_
  rw [rounds_succ]; go_wp2_with fail
  rw [rounds_succ]; go_wp2_with fail
  rw [rounds_succ]; go_wp2_with fail
  rw [rounds_succ]; go_wp2_with fail
  rw [rounds_succ]; go_wp2_with fail
  refine bodyPost_ret (ret_four Tryz.results107 rfl (Blk.newAt (by simp))) rfl ⟨_, rfl, ⟨notW W, rfl, holds4_not HW.out⟩, ((Below.refl _ w).alloc (Nat.le_refl _) _).alloc (by simp) _⟩

theorem holds4_with {V W : Nat → Nat} {M N : Nat → Bool} (h : Holds4 V M) (k : Holds4 W N) : Holds4 (fun j => V j ||| W j) (fun c => M c || N c) :=
  ⟨fun j => by
    have := Nat.or_lt_two_pow (n := 64) (x := V j) (y := W j) (by simpa using h.1 j) (by simpa using k.1 j)
    simpa using this, fun c hc => by rw [Nat.testBit_or, h.2 c hc, k.2 c hc]⟩

theorem idx96_0 (a b c d : Int) (w : World) : (Instr.index 165 (.agg #[.int .u64 a, .int .u64 b, .int .u64 c, .int .u64 d]) (.int .i64 0)).run Tryz.prog w = .ok (.int .u64 a) w := by kernel_rfl
theorem idx96_1 (a b c d : Int) (w : World) : (Instr.index 165 (.agg #[.int .u64 a, .int .u64 b, .int .u64 c, .int .u64 d]) (.int .i64 1)).run Tryz.prog w = .ok (.int .u64 b) w := by kernel_rfl
theorem idx96_2 (a b c d : Int) (w : World) : (Instr.index 165 (.agg #[.int .u64 a, .int .u64 b, .int .u64 c, .int .u64 d]) (.int .i64 2)).run Tryz.prog w = .ok (.int .u64 c) w := by kernel_rfl
theorem idx96_3 (a b c d : Int) (w : World) : (Instr.index 165 (.agg #[.int .u64 a, .int .u64 b, .int .u64 c, .int .u64 d]) (.int .i64 3)).run Tryz.prog w = .ok (.int .u64 d) w := by kernel_rfl

set_option maxRecDepth 100000 in
set_option maxHeartbeats 800000 in
theorem with_any (v u : Value) (M N : Nat → Bool) (hv : SetV v M) (hu : SetV u N) (w : World) :
    Calls Tryz.prog 113 #[v, u] w fun e w' => ∃ x, e = .returned x ∧ SetV x (fun z => M z || N z) ∧ Below w.heap.size w w' := by
  obtain ⟨V, rfl, hV⟩ := hv
  obtain ⟨W, rfl, hW⟩ := hu
  have hx : ∀ j, bits .or .u64 ((V j : Nat) : Int) ((W j : Nat) : Int) = ((V j ||| W j : Nat) : Int) := fun j => bits_or_u64_nat _ _ (hV.1 j) (hW.1 j)
  have HW := hide (And.intro hV hW)
  have i0 := idx96_0
  have i1 := idx96_1
  have i2 := idx96_2
  have i3 := idx96_3
  clear hW hV
  unfold ucells
  go_enter Tryz.func113, Tryz.ntmps113
  go_wp2_with fail
  refine wp_loop_rounds 5 ?_
  rw [rounds_succ]; go_wp2_with fail
  rw [rounds_succ]; go_wp2_with fail
  rw [rounds_succ]; go_wp2_with fail
  rw [rounds_succ]; go_wp2_with fail
  rw [rounds_succ]; go_wp2_with fail
  refine bodyPost_ret (ret_four Tryz.results113 rfl (Blk.newAt (by simp))) rfl ⟨_, rfl, ⟨fun j => V j ||| W j, rfl, holds4_with HW.out.1 HW.out.2⟩, (((Below.refl _ w).alloc (Nat.le_refl _) _).alloc (by simp) _).alloc (by simp; omega) _⟩
end Go.Proofs.YtmjdaifalgpdnaaGreat

namespace Go.Proofs.YtmjdaifalgpdnaaGreat
open Go.RowKit

theorem drop_cons (s : ByteArray) (k : Nat) (h : k < s.size) : s.data.toList.drop k = s[k] :: s.data.toList.drop (k + 1) := by
  rw [List.drop_eq_getElem_cons (by simpa using h)]; rfl

theorem nextW_data (s : ByteArray) (at_ : Nat) (word : ByteArray) : nextW s at_ word = (decide (word.size ≤ s.size - at_) && ((s.data.toList.drop at_).take word.size == word.data.toList)) := by
  unfold nextW
  rw [ByteArray.toList_eq, ByteArray.toList_eq, Lib.extract_data, Lib.extract_to_end, List.drop_zero, Nat.sub_zero]

theorem u8_eq (a : UInt8) (c : UInt8) : (a == c) = ((a.toNat : Int) == (c.toNat : Int)) := by
  rw [Bool.eq_iff_iff]
  simp only [beq_iff_eq]
  constructor
  · intro h; rw [h]
  · intro h; apply UInt8.toNat_inj.1; omega

theorem nextW_one (s : ByteArray) (at_ g : Nat) (c : UInt8) : nextW s at_ ⟨#[c]⟩ = isB s ⟨at_, false, g⟩ (c.toNat : Int) := by
  rw [nextW_data]
  have e1 : (ByteArray.mk #[c]).size = 1 := rfl
  have e2 : (ByteArray.mk #[c]).data.toList = [c] := rfl
  rw [e1, e2]
  unfold isB peekOk peekC
  by_cases h : at_ < s.size
  · rw [drop_cons s at_ h]
    have : decide (1 ≤ s.size - at_) = true := by simp; omega
    rw [this]
    simp [h, u8_eq]
  · have : decide (1 ≤ s.size - at_) = false := by simp; omega
    rw [this]
    simp [h]

theorem nextW_two (s : ByteArray) (at_ g : Nat) (c : UInt8) : nextW s at_ ⟨#[92, c]⟩ = isEsc s ⟨at_, false, g⟩ (c.toNat : Int) := by
  rw [nextW_data]
  have e1 : (ByteArray.mk #[92, c]).size = 2 := rfl
  have e2 : (ByteArray.mk #[92, c]).data.toList = [92, c] := rfl
  rw [e1, e2]
  unfold isEsc
  by_cases h : at_ + 1 < s.size
  · rw [drop_cons s at_ (by omega), drop_cons s (at_ + 1) h]
    have : decide (2 ≤ s.size - at_) = true := by simp; omega
    rw [this]
    have h92 : (92 : UInt8).toNat = 92 := rfl
    simp only [List.take_succ_cons, List.take_zero, Bool.true_and, dif_pos h, Bool.not_false]
    rw [show ([s[at_], s[at_ + 1]] == [92, c]) = ((s[at_] == 92) && (s[at_ + 1] == c)) from by simp]
    rw [u8_eq, u8_eq, h92]; rfl
  · have : decide (2 ≤ s.size - at_) = false := by simp; omega
    rw [this]
    simp [h]

theorem nextOf_peek (s : ByteArray) (at_ g : Nat) (l : ByteArray) : nextOf s at_ l = (peekOk s ⟨at_, false, g⟩ && hasL l.data.toList (peekC s ⟨at_, false, g⟩)) := by
  unfold nextOf peekOk peekC
  by_cases h : at_ < s.size <;> simp [h]

/-- The block of an exprReader. -/
def ER (w : World) (b : Nat) (s : ByteArray) (at_ : Nat) (en : Int) (pv : Value) (g : Nat) : Prop := Blk w b #[.string s, .int .i64 at_, .int .i64 en, pv, .int .i64 g] 154

section
variable {w w' : World} {b : Nat} {s : ByteArray} {at_ g : Nat} {en : Int} {pv : Value}
theorem ER.rd (h : ER w b s at_ en pv g) : RdC w b s at_ en := ⟨h.cell 0 rfl, h.cell 1 rfl, h.cell 2 rfl, h.fz 1⟩
theorem ER.drewN (h : ER w b s at_ en pv g) (n : Nat) : ER (w.drewN n) b s at_ en pv g := h
theorem ER.moved {dst : Nat} (h : ER w b s at_ en pv g) (hm : Moved w b dst w') : ER w' b s dst en pv g := by
  obtain ⟨n, m, rfl⟩ := hm
  exact (Blk.set (w := w.drewN n) h 1 (.int .i64 (dst : Int)) rfl).drewN m
theorem ER.below (h : ER w b s at_ en pv g) (hb : Below w.heap.size w w') : ER w' b s at_ en pv g := Blk.below h hb
theorem ER.alloc (h : ER w b s at_ en pv g) (o : Obj) : ER (w.alloc o) b s at_ en pv g := Blk.alloc h o
theorem ER.other (h : ER w b s at_ en pv g) {p : Addr} (hp : p.block ≠ b) (u : Value) : ER (w.setCell p u) b s at_ en pv g := Blk.other h hp u
theorem ER.lt (h : ER w b s at_ en pv g) : b < w.heap.size := Blk.lt h
end

def digitsB : ByteArray := ⟨#[48, 49, 50, 51, 52, 53, 54, 55, 56, 57]⟩
theorem has_digits (c : Int) (h0 : 0 ≤ c) (h1 : c < 256) : hasL digitsB.data.toList c = (decide (48 ≤ c) && decide (c ≤ 57)) := by
  have key : ∀ k : Nat, k < 256 → hasL digitsB.data.toList (k : Int) = (decide (48 ≤ (k : Int)) && decide ((k : Int) ≤ 57)) := by decide +kernel
  obtain ⟨k, rfl⟩ := Int.eq_ofNat_of_zero_le h0
  exact key k (by omega)

/-- The program's digit, against the document's. -/
def Took (w : World) (b : Nat) (s : ByteArray) (en : Int) (pv : Value) (g : Nat) (st : St) (good : Ending → Prop) (e : Ending) (w' : World) : Prop :=
  Kp b w w' ∧ ((st.bad = false ∧ good e ∧ ER w' b s st.i en pv g) ∨ (st.bad = true ∧ e = .panicked (gaveUp en st.i)))

theorem u8_sub (x : Int) (h : 48 ≤ x) (h2 : x ≤ 57) : IntKind.u8.wrap (x - 48) = x - 48 := by
  simp [IntKind.wrap, IntKind.bits, IntKind.signed]; omega

set_option maxHeartbeats 800000 in
theorem pdigit_any (b : Nat) (s : ByteArray) (at_ : Nat) (en : Int) (pv : Value) (g : Nat) (least : Int) (w : World) (h : ER w b s at_ en pv g) (hs : s.size ≤ 1048576) (ha : at_ ≤ s.size) (hl0 : 0 ≤ least) (hl9 : least ≤ 9) :
    Calls Tryz.prog 111 #[.pointer (some ⟨b, 0, none⟩), .int .i64 least] w fun e w' => Took w b s en pv g (digitS s (48 + least) ⟨at_, false, g⟩).2 (fun e => e = .returned (.int .i64 (digitS s (48 + least) ⟨at_, false, g⟩).1)) e w' := by
  have p1 := peekC_lo s ⟨at_, false, g⟩
  have p2 := peekC_hi s ⟨at_, false, g⟩
  have hrd := h.rd
  by_cases hlt : at_ < s.size
  · have hpc : peekC s ⟨at_, false, g⟩ = ((s[at_]'hlt).toNat : Int) := by simp [peekC, hlt]
    have hpo : peekOk s ⟨at_, false, g⟩ = true := by simp [peekOk, hlt]
    have hnx : nextOf s at_ digitsB = (decide (48 ≤ peekC s ⟨at_, false, g⟩) && decide (peekC s ⟨at_, false, g⟩ ≤ 57)) := by rw [nextOf_peek s at_ g, hpo, has_digits _ p1 p2]; rfl
    by_cases hd : 48 ≤ peekC s ⟨at_, false, g⟩ ∧ peekC s ⟨at_, false, g⟩ ≤ 57
    · have hn1 : nextOf s at_ digitsB = true := by rw [hnx]; simp [hd]
      have HN := hide hn1
      clear hn1 hnx
      by_cases hl : 48 + least ≤ peekC s ⟨at_, false, g⟩
      · have HE : Hid (digitS s (48 + least) ⟨at_, false, g⟩ = (peekC s ⟨at_, false, g⟩ - 48, ⟨at_ + 1, false, g⟩)) := by rw [Hid, digitS, if_pos ⟨hpo, hl, hd.2⟩]
        rw [hpc] at HE hl hd
        clear hpc hpo p1 p2
        have hw := u8_sub _ hd.1 hd.2
        obtain ⟨hd1, hd2⟩ := hd
        go_enter Tryz.func111, Tryz.ntmps111
        go_wp2_with fail
        refine (takeOneOf_ok b s at_ en digitsB _ hrd hs hlt HN.out).mono ?_
        rintro e w1 ⟨rfl, hm⟩
        go_wp2_with fail
        go_ret
        rw [HE.out]
        exact ⟨hm.kp, .inl ⟨rfl, rfl, h.moved hm⟩⟩
      · have HE : Hid (digitS s (48 + least) ⟨at_, false, g⟩ = (0, ⟨at_, true, g⟩)) := by rw [Hid, digitS, if_neg (by omega)]
        rw [hpc] at hl hd
        clear hpc hpo p1 p2
        have hw := u8_sub _ hd.1 hd.2
        obtain ⟨hd1, hd2⟩ := hd
        have hl2 : (s[at_].toNat : Int) - 48 < least := by omega
        go_enter Tryz.func111, Tryz.ntmps111
        go_wp2_with fail
        refine (takeOneOf_ok b s at_ en digitsB _ hrd hs hlt HN.out).mono ?_
        rintro e w1 ⟨rfl, hm⟩
        go_wp2_with fail
        refine (refuse_any b s (at_ + 1) en _ (hrd.moved hm) hs (by omega)).mono ?_
        rintro e w2 ⟨rfl, rfl⟩
        refine ⟨rfl, ?_⟩
        rw [HE.out]
        exact ⟨hm.kp, .inr ⟨rfl, by rw [show (((at_ + 1 : Nat) : Int) - 1) = (at_ : Int) from by omega]⟩⟩
    · have hn1 : nextOf s at_ digitsB = false := by rw [hnx, Bool.eq_false_iff]; intro h; simp at h; exact hd h
      have HN := hide hn1
      have HE : Hid (digitS s (48 + least) ⟨at_, false, g⟩ = (0, ⟨at_, true, g⟩)) := by rw [Hid, digitS, if_neg (by intro h; exact hd ⟨by omega, h.2.2⟩)]
      clear hn1 hnx hpc hpo p1 p2 hd
      go_enter Tryz.func111, Tryz.ntmps111
      go_wp2_with fail
      refine (takeOneOf_bad b s at_ en digitsB _ hrd hs hlt HN.out).mono ?_
      rintro e w1 ⟨rfl, hk⟩
      refine ⟨rfl, ?_⟩
      rw [HE.out]
      exact ⟨hk, .inr ⟨rfl, rfl⟩⟩
  · obtain rfl : at_ = s.size := by omega
    have HE : Hid (digitS s (48 + least) ⟨s.size, false, g⟩ = (0, ⟨s.size, true, g⟩)) := by rw [Hid, digitS, if_neg (by simp [peekOk])]
    go_enter Tryz.func111, Tryz.ntmps111
    go_wp2_with fail
    refine (takeOneOf_end b s en digitsB _ hrd).mono ?_
    rintro e w1 ⟨rfl, n, rfl⟩
    refine ⟨rfl, ?_⟩
    rw [HE.out]
    exact ⟨(Kp.refl b w).drewN n, .inr ⟨rfl, rfl⟩⟩

end Go.Proofs.YtmjdaifalgpdnaaGreat
