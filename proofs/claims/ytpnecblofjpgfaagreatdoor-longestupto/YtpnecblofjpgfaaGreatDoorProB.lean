import Derived.Test.YtpnecblofjpgfaaGreatDoorProA
import Derived.Deep.LoopGhost
import Derived.RegionTactic
import Derived.BigRegion
import Derived.Laws.Bits64b
namespace Go.Proofs.YtpnecblofjpgfaaGreatDoor
open Go.RowKit

/-- The four words of a set of bytes. -/
def ucells (W : Nat → Nat) : Array Value := #[.int .u64 (W 0 : Nat), .int .u64 (W 1 : Nat), .int .u64 (W 2 : Nat), .int .u64 (W 3 : Nat)]
def putW (W : Nat → Nat) (j : Nat) (v : Nat) : Nat → Nat := fun z => if z = j then v else W z
theorem ucells_get {W : Nat → Nat} {q : Nat} (h : q < 4) : (ucells W)[q]? = some (.int .u64 (W q : Nat)) := by
  match q, h with
  | 0, _ => rfl
  | 1, _ => rfl
  | 2, _ => rfl
  | 3, _ => rfl
theorem ucells_set (W : Nat → Nat) {q : Nat} (h : q < 4) (v : Nat) : (ucells W).setIfInBounds q (.int .u64 (v : Nat)) = ucells (putW W q v) := by
  match q, h with
  | 0, _ => rfl
  | 1, _ => rfl
  | 2, _ => rfl
  | 3, _ => rfl

/-- A set of bytes that is handed back out of its variable. -/
theorem ret_four {w : World} {k : Nat} {a0 a1 a2 a3 : Value} {fn : Func} {p : Tmp} (hres : fn.results = #[.cell p 102]) {tmps : Array Value} (ht : tmps.getD p undef = .pointer (some ⟨k, 0, none⟩)) (h : Blk w k #[a0, a1, a2, a3] 102) :
    (results fn tmps).run Tryz.prog w = .ok (.agg #[a0, a1, a2, a3]) w := by
  obtain ⟨c0, c1, c2, c3, _⟩ := h.four
  have ht' : tmps[p]?.getD undef = .pointer (some ⟨k, 0, none⟩) := by simpa using ht
  simp [results, hres, ht', go_sem, c0, c1, c2, c3]

/-- Four words that hold the bytes of which M is true. -/
def Holds4 (W : Nat → Nat) (M : Nat → Bool) : Prop := (∀ j, W j < 18446744073709551616) ∧ ∀ c, c < 256 → (W (c / 64)).testBit (c % 64) = M c

/-- A set of bytes. -/
def SetV (v : Value) (M : Nat → Bool) : Prop := ∃ W, v = .agg (ucells W) ∧ Holds4 W M

theorem two_pow_lt {k : Nat} (h : k < 64) : 2 ^ k < 18446744073709551616 := by
  have : 2 ^ k < 2 ^ 64 := Nat.pow_lt_pow_right (by omega) h
  simpa using this
theorem wrap_pow {k : Nat} (h : k < 64) : IntKind.u64.wrap (2 ^ k) = ((2 ^ k : Nat) : Int) := by
  have := two_pow_lt h
  have e : ((2 : Int) ^ k) = ((2 ^ k : Nat) : Int) := by simp
  rw [e]
  generalize 2 ^ k = m at *
  rw [IntKind.wrap_u64]
  omega

theorem holds4_or {W : Nat → Nat} {M : Nat → Bool} (h : Holds4 W M) {j : Nat} (hj : j < 256) : Holds4 (putW W (j / 64) (W (j / 64) ||| 2 ^ (j % 64))) (fun c => M c || decide (c = j)) := by
  have hp := two_pow_lt (show j % 64 < 64 by omega)
  refine ⟨fun z => ?_, fun c hc => ?_⟩
  · unfold putW; split
    · have := Nat.or_lt_two_pow (n := 64) (x := W (j / 64)) (y := 2 ^ (j % 64)) (by simpa using h.1 _) (by simpa using hp)
      simpa using this
    · exact h.1 z
  · unfold putW
    by_cases hz : c / 64 = j / 64
    · rw [if_pos hz, Nat.testBit_or, ← hz, h.2 c hc, Nat.testBit_two_pow]
      congr 1
      rw [Bool.eq_iff_iff]; simp; omega
    · rw [if_neg hz, h.2 c hc]
      have : decide (c = j) = false := by simp; intro h; subst h; exact hz rfl
      show M c = (M c || decide (c = j))
      rw [this, Bool.or_false]

set_option maxRecDepth 100000 in
set_option maxHeartbeats 1600000 in
theorem byteRange_any (lo hi : Nat) (hlo : lo < 256) (hhi : hi < 256) (w : World) :
    Calls Tryz.prog 108 #[.int .u8 lo, .int .u8 hi] w fun e w' => ∃ v, e = .returned v ∧ SetV v (fun c => decide (lo ≤ c) && decide (c ≤ hi)) ∧ Below w.heap.size w w' := by
  have hB := Blk.newAt (w := w.alloc (.cells (ucells (fun _ => 0)) 102)) (k := w.heap.size + 1) (c := ucells (fun _ => 0)) (t := 102) (by simp)
  go_enter Tryz.func108, Tryz.ntmps108
  go_wp2_with fail
  go_loopg [6] (256 - lo) (fun k i w' => ∃ (j : Nat) (W : Nat → Nat), i = .int .i64 j ∧ lo ≤ j ∧ j ≤ 256 ∧ (j ≤ lo ∨ j ≤ hi + 1) ∧ 256 ≤ j + k ∧ Blk w' w.heap.size (ucells (fun _ => 0)) 102 ∧ Blk w' (w.heap.size + 1) (ucells W) 102 ∧ Below w.heap.size w w' ∧ Hid (Holds4 W (fun c => decide (lo ≤ c) && decide (c < j))))
  case atStart =>
    refine ⟨lo, fun _ => 0, rfl, Nat.le_refl _, by omega, .inl (Nat.le_refl _), by omega, (Blk.new w (ucells fun _ => 0) 102).alloc _, hB, ((Below.refl _ _).alloc (Nat.le_refl _) _).alloc (by simp) _, fun _ => (by show 0 < 18446744073709551616; omega), fun c hc => ?_⟩
    simp
  case round =>
    obtain ⟨j, W, rfl, hlj, hj, hjh, hk, hB0, hB1, hBel, HW⟩ := hrel
    by_cases hlt : j ≤ hi
    · have hq : j / 64 < 4 := by omega
      have c1 := hB1.cell (j / 64) (ucells_get hq)
      have f1 := hB1.fz (j / 64)
      have hwp := wrap_pow (show j % 64 < 64 by omega)
      have hor : bits .or .u64 ((W (j / 64) : Nat) : Int) ((2 : Int) ^ (j % 64)) = ((W (j / 64) ||| 2 ^ (j % 64) : Nat) : Int) := by
        have := bits_or_u64_nat (W (j / 64)) (2 ^ (j % 64)) (HW.out.1 _) (two_pow_lt (by omega))
        rw [← this]; simp
      have hwp : IntKind.u64.wrap ((2 : Int) ^ (j % 64)) = (2 : Int) ^ (j % 64) := by rw [hwp]; simp
      have HX : Hid (Holds4 (putW W (j / 64) (W (j / 64) ||| 2 ^ (j % 64))) (fun c => decide (lo ≤ c) && decide (c < j + 1))) := by
        have := holds4_or HW.out (j := j) (by omega)
        refine ⟨this.1, fun c hc => ?_⟩
        rw [this.2 c hc, Bool.eq_iff_iff]; simp; omega
      clear hB
      go_wp2_with fail
      go_region
      go_wp2_with fail
      go_roundg (gk - 1)
      case measure => omega
      case rel =>
        refine ⟨j + 1, _, by go_num, by omega, by omega, .inr (by omega), by omega, ?_, ?_, ?_, HX⟩
        · exact (hB0.other (by simp) _).drew
        · exact (hB1.set (j / 64) (.int .u64 ((W (j / 64) ||| 2 ^ (j % 64) : Nat) : Int)) (ucells_set W hq _)).drew
        · exact (hBel.setCell (by simp) _).drew
    · have hB0' := hB0
      obtain ⟨c0, c1, c2, c3, cf⟩ := hB1.four
      obtain ⟨d0, d1, d2, d3, df⟩ := hB0'.four
      go_wp2_with fail
      refine bodyPost_ret (ret_four Tryz.results108 rfl (hB0.put4 _ _ _ _)) rfl ⟨_, rfl, ⟨W, rfl, HW.out.1, fun c hc => ?_⟩, (((hBel.setCell (Nat.le_refl _) _).setCell (Nat.le_refl _) _).setCell (Nat.le_refl _) _).setCell (Nat.le_refl _) _⟩
      rw [HW.out.2 c hc, Bool.eq_iff_iff]; simp; omega

set_option maxHeartbeats 400000 in
theorem oneByte_any (c : Nat) (hc : c < 256) (w : World) :
    Calls Tryz.prog 91 #[.int .u8 c] w fun e w' => ∃ v, e = .returned v ∧ SetV v (fun z => decide (z = c)) ∧ Below w.heap.size w w' := by
  go_enter Tryz.func91, Tryz.ntmps91
  go_wp2_with fail
  refine (byteRange_any c c hc hc _).mono ?_
  rintro e w1 ⟨v, rfl, ⟨W, rfl, hW⟩, hb⟩
  have hB := (Blk.new w #[.int .u64 0, .int .u64 0, .int .u64 0, .int .u64 0] 102).below hb
  obtain ⟨c0, c1, c2, c3, cf⟩ := hB.four
  have HW := hide hW
  clear hW
  unfold ucells
  go_wp2_with fail
  refine bodyPost_ret (ret_four Tryz.results91 rfl (hB.put4 _ _ _ _)) rfl ⟨_, rfl, ⟨W, rfl, HW.out.1, fun z hz => ?_⟩, ?_⟩
  · rw [HW.out.2 z hz, Bool.eq_iff_iff]; simp; omega
  · exact ((((((Below.refl _ w).alloc (Nat.le_refl _) _).trans (hb.mono (by simp))).setCell (Nat.le_refl _) _).setCell (Nat.le_refl _) _).setCell (Nat.le_refl _) _).setCell (Nat.le_refl _) _

/-- All the bytes that are not in a set. -/
def notW (W : Nat → Nat) : Nat → Nat := fun j => 18446744073709551615 - W j

theorem testBit_not {x k : Nat} (hx : x < 18446744073709551616) (hk : k < 64) : (18446744073709551615 - x).testBit k = !x.testBit k := by
  have h := Nat.testBit_two_pow_sub_succ (x := x) (n := 64) (by simpa using hx) k
  have e : 2 ^ 64 - (x + 1) = 18446744073709551615 - x := by omega
  rw [e] at h
  rw [h]; simp [hk]

theorem holds4_not {W : Nat → Nat} {M : Nat → Bool} (h : Holds4 W M) : Holds4 (notW W) (fun c => !M c) :=
  ⟨fun j => by unfold notW; omega, fun c hc => by unfold notW; rw [testBit_not (h.1 _) (by omega), h.2 c hc]⟩

theorem xor_u64 {x : Nat} (hx : x < 18446744073709551616) : bits .xor .u64 IntKind.u64.max (x : Int) = ((18446744073709551615 - x : Nat) : Int) := by
  have h1 : (BitVec.ofInt 64 (x : Int)) = BitVec.ofNat 64 x := by rw [BitVec.ofInt_natCast]
  have h2 : BitVec.ofInt 64 IntKind.u64.max = BitVec.allOnes 64 := by decide
  show IntKind.u64.wrap ((BitVec.ofInt 64 IntKind.u64.max ^^^ BitVec.ofInt 64 (x : Int)).toNat : Int) = _
  rw [h1, h2, BitVec.allOnes_xor, BitVec.toNat_not, BitVec.toNat_ofNat, Nat.mod_eq_of_lt (by simpa using hx), IntKind.wrap_u64]
  omega

set_option maxHeartbeats 800000 in
theorem others_any (v : Value) (M : Nat → Bool) (hv : SetV v M) (w : World) :
    Calls Tryz.prog 88 #[v] w fun e w' => ∃ u, e = .returned u ∧ SetV u (fun z => !M z) ∧ Below w.heap.size w w' := by
  obtain ⟨W, rfl, hW⟩ := hv
  have hx : ∀ j, bits .xor .u64 IntKind.u64.max ((W j : Nat) : Int) = ((notW W j : Nat) : Int) := fun j => xor_u64 (hW.1 j)
  have HW := hide hW
  clear hW
  unfold ucells
  go_enter Tryz.func88, Tryz.ntmps88
  go_wp2_with fail
  refine wp_loop_rounds 5 ?_
  rw [rounds_succ]; go_wp2_with fail
  rw [rounds_succ]; go_wp2_with fail
  rw [rounds_succ]; go_wp2_with fail
  rw [rounds_succ]; go_wp2_with fail
  rw [rounds_succ]; go_wp2_with fail
  refine bodyPost_ret (ret_four Tryz.results88 rfl (Blk.newAt (by simp))) rfl ⟨_, rfl, ⟨notW W, rfl, holds4_not HW.out⟩, ((Below.refl _ w).alloc (Nat.le_refl _) _).alloc (by simp) _⟩

theorem holds4_with {V W : Nat → Nat} {M N : Nat → Bool} (h : Holds4 V M) (k : Holds4 W N) : Holds4 (fun j => V j ||| W j) (fun c => M c || N c) :=
  ⟨fun j => by
    have := Nat.or_lt_two_pow (n := 64) (x := V j) (y := W j) (by simpa using h.1 j) (by simpa using k.1 j)
    simpa using this, fun c hc => by rw [Nat.testBit_or, h.2 c hc, k.2 c hc]⟩

theorem idx96_0 (a b c d : Int) (w : World) : (Instr.index 102 (.agg #[.int .u64 a, .int .u64 b, .int .u64 c, .int .u64 d]) (.int .i64 0)).run Tryz.prog w = .ok (.int .u64 a) w := by kernel_rfl
theorem idx96_1 (a b c d : Int) (w : World) : (Instr.index 102 (.agg #[.int .u64 a, .int .u64 b, .int .u64 c, .int .u64 d]) (.int .i64 1)).run Tryz.prog w = .ok (.int .u64 b) w := by kernel_rfl
theorem idx96_2 (a b c d : Int) (w : World) : (Instr.index 102 (.agg #[.int .u64 a, .int .u64 b, .int .u64 c, .int .u64 d]) (.int .i64 2)).run Tryz.prog w = .ok (.int .u64 c) w := by kernel_rfl
theorem idx96_3 (a b c d : Int) (w : World) : (Instr.index 102 (.agg #[.int .u64 a, .int .u64 b, .int .u64 c, .int .u64 d]) (.int .i64 3)).run Tryz.prog w = .ok (.int .u64 d) w := by kernel_rfl

set_option maxRecDepth 100000 in
set_option maxHeartbeats 800000 in
theorem with_any (v u : Value) (M N : Nat → Bool) (hv : SetV v M) (hu : SetV u N) (w : World) :
    Calls Tryz.prog 106 #[v, u] w fun e w' => ∃ x, e = .returned x ∧ SetV x (fun z => M z || N z) ∧ Below w.heap.size w w' := by
  obtain ⟨V, rfl, hV⟩ := hv
  obtain ⟨W, rfl, hW⟩ := hu
  have hx : ∀ j, bits .or .u64 ((V j : Nat) : Int) ((W j : Nat) : Int) = ((V j ||| W j : Nat) : Int) := fun j => bits_or_u64_nat _ _ (hV.1 j) (hW.1 j)
  have HW := hide (And.intro hV hW)
  have i0 := idx96_0
  have i1 := idx96_1
  have i2 := idx96_2
  have i3 := idx96_3
  clear hW hV
  unfold ucells
  go_enter Tryz.func106, Tryz.ntmps106
  go_wp2_with fail
  refine wp_loop_rounds 5 ?_
  rw [rounds_succ]; go_wp2_with fail
  rw [rounds_succ]; go_wp2_with fail
  rw [rounds_succ]; go_wp2_with fail
  rw [rounds_succ]; go_wp2_with fail
  rw [rounds_succ]; go_wp2_with fail
  refine bodyPost_ret (ret_four Tryz.results106 rfl (Blk.newAt (by simp))) rfl ⟨_, rfl, ⟨fun j => V j ||| W j, rfl, holds4_with HW.out.1 HW.out.2⟩, (((Below.refl _ w).alloc (Nat.le_refl _) _).alloc (by simp) _).alloc (by simp; omega) _⟩
end Go.Proofs.YtpnecblofjpgfaaGreatDoor
