import Derived.Test.YtpnecblofjpgfaaGreatDoorRefM
import Derived.Deep.OwnRows
namespace Go.Proofs.YtpnecblofjpgfaaGreatDoor
open Go.RowKit

/-- The cells of a row of bools. -/
def bcells (N : Nat) (F : Nat → Bool) : Array Value := (Array.range N).map (fun q => .bool (F q))
def put (F : Nat → Bool) (q : Nat) (v : Bool) : Nat → Bool := fun z => if z = q then v else F z

theorem bcells_size (N : Nat) (F : Nat → Bool) : (bcells N F).size = N := by simp [bcells]
theorem bcells_get {N : Nat} {F : Nat → Bool} {q : Nat} (h : q < N) : (bcells N F)[q]? = some (.bool (F q)) := by
  simp [bcells, h]
theorem bcells_set (N : Nat) (F : Nat → Bool) (q : Nat) (v : Bool) : (bcells N F).setIfInBounds q (.bool v) = bcells N (put F q v) := by
  apply Array.ext_getElem?
  intro i
  rw [Array.getElem?_setIfInBounds]
  by_cases hN : i < N
  · rw [bcells_get hN, bcells_get hN]
    by_cases hi : q = i
    · subst hi; simp [put, bcells_size, hN]
    · simp [put, hi, Ne.symm hi]
  · have e1 : ∀ G, (bcells N G)[i]? = none := fun G => by rw [Array.getElem?_eq_none]; rw [bcells_size]; omega
    rw [e1, e1, bcells_size]
    by_cases hi : q = i
    · subst hi; simp [hN]
    · simp [hi]
theorem bcells_made (N : Nat) : madeCells #[.bool false] N = bcells N (fun _ => false) := by
  apply Array.ext
  · simp [bcells, madeCells]
  · intro i h1 h2
    simp [bcells, madeCells, Nat.mod_one]

theorem info4 : (Tryz.prog.info? 4).map (fun i => (i.zero, i.size, i.bytes)) = some (some (.bool false), 1, 1) := by kernel_rfl

/-- 'make([]bool, n + 1)'. -/
theorem make_bools (n : Nat) (h : n ≤ 1048576) (w : World) : (Instr.makeSlice 51 (.int .i64 ((n : Int) + 1)) (.int .i64 ((n : Int) + 1))).run Tryz.prog w = .ok (.slice (some ⟨w.heap.size, 0, none⟩) (n + 1) (n + 1)) (w.alloc (.cells (bcells (n + 1) (fun _ => false)) 4)) := by
  have := run_make_row' (P := Tryz.prog) 51 4 (.bool false) 1 Tryz.underlying51 info4 rfl .i64 .i64 (n + 1) (by omega) (by omega) w
  rw [bcells_made] at this
  simpa using this

set_option maxHeartbeats 1600000 in
theorem one_any (g mn mx : Int) (ka : Option Addr) (kl kc : Nat) (neg : Bool) (ps : ByteArray) (c : Int) (w : World) (hps : ps.size ≤ 2097152) :
    Calls Tryz.prog 85 #[.agg #[.int .i64 g, .slice ka kl kc, .bool neg, .string ps, .int .i64 mn, .int .i64 mx], .int .u8 c] w fun e w' => e = .returned (.bool (oneB neg ps c)) ∧ Below w.heap.size w w' := by
  have hB := Blk.new w #[.int .i64 g, .slice ka kl kc, .bool neg, .string ps, .int .i64 mn, .int .i64 mx] 76
  go_enter Tryz.func85, Tryz.ntmps85
  go_wp2_with fail
  go_loopg [5] (ps.size + 1) (fun k i w' => ∃ j : Nat, i = .int .i64 j ∧ j ≤ ps.size ∧ ps.size ≤ j + k ∧ w' = w.alloc (.cells #[.int .i64 g, .slice ka kl kc, .bool neg, .string ps, .int .i64 mn, .int .i64 mx] 76) ∧ Hid (inPairs ps.data.toList c = inPairs (ps.data.toList.drop j) c))
  case atStart => exact ⟨0, rfl, by omega, by omega, rfl, by simp [Hid]⟩
  case round =>
    obtain ⟨j, rfl, hj, hk, rfl, HP⟩ := hrel
    obtain ⟨c0, c1, c2, c3, c4, c5, cf⟩ := hB.six
    by_cases hlt : j + 1 < ps.size
    · have hp := inPairs_drop ps j c hlt
      have HD := hide hp
      clear hp
      have hlt0 : j < ps.size := by omega
      by_cases ha : (ps[j].toNat : Int) ≤ c
      · by_cases hb : c ≤ (ps[j + 1].toNat : Int)
        · have HAB : Hid ((decide ((ps[j].toNat : Int) ≤ c) && decide (c ≤ (ps[j + 1].toNat : Int))) = true) := by simp [Hid, ha, hb]
          go_wp2_with fail
          go_ret
          exact ⟨ret_bool (by rw [oneB, HP.out, HD.out, HAB.out]; rfl), (Below.refl _ _).alloc (Nat.le_refl _) _⟩
        · have HAB : Hid ((decide ((ps[j].toNat : Int) ≤ c) && decide (c ≤ (ps[j + 1].toNat : Int))) = false) := by simp [Hid]; omega
          go_wp2_with fail
          go_roundg (gk - 2)
          case measure => omega
          case rel => exact ⟨j + 2, by go_num, by omega, by omega, rfl, by rw [Hid, HP.out, HD.out]; simp only [HAB.out]; rfl⟩
      · have HAB : Hid ((decide ((ps[j].toNat : Int) ≤ c) && decide (c ≤ (ps[j + 1].toNat : Int))) = false) := by simp [Hid]; omega
        go_wp2_with fail
        go_roundg (gk - 2)
        case measure => omega
        case rel => exact ⟨j + 2, by go_num, by omega, by omega, rfl, by rw [Hid, HP.out, HD.out]; simp only [HAB.out]; rfl⟩
    · go_wp2_with fail
      go_ret
      exact ⟨ret_bool (by rw [oneB, HP.out, inPairs_end ps j c hlt]; rfl), (Below.refl _ _).alloc (Nat.le_refl _) _⟩
end Go.Proofs.YtpnecblofjpgfaaGreatDoor
