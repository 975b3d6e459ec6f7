import Derived.Test.YtjlgccfibkcgbaaProW
import Derived.Shelf.Small.Bits
namespace Go.Proofs.Ytjlgccfibkcgbaa
open Go.RowKit Go.Shelf

def lays129_ren : Go.Shelf.Ren := ⟨fun | 129 => 67 | n => n, fun | 53 => 94 | 3 => 3 | 4 => 4 | 46 => 133 | 5 => 5 | 9 => 9 | n => n, fun | n => n⟩
theorem lays129 : Lays.n129 Try.prog lays129_ren := {
  mixed := by kernel_rfl
  f129 := Try.func67.trans (congrArg some (by kernel_rfl))
  t3 := Try.underlying3
  a3 := Try.isAgg3
  z3 := Try.sizeOf3
  v3 := Try.zeroValue3
  t4 := Try.underlying4
  a4 := Try.isAgg4
  z4 := Try.sizeOf4
  v4 := Try.zeroValue4
  t5 := Try.underlying5
  a5 := Try.isAgg5
  z5 := Try.sizeOf5
  v5 := Try.zeroValue5
  t9 := Try.underlying9
  a9 := Try.isAgg9
  z9 := Try.sizeOf9
  v9 := Try.zeroValue9
  t46 := Try.underlying133
  a46 := Try.isAgg133
  z46 := Try.sizeOf133
  v46 := Try.zeroValue133
  t53 := Try.underlying94
  a53 := Try.isAgg94
  z53 := Try.sizeOf94
  v53 := Try.zeroValue94 }

theorem len64_any (x : Int) (w : World) (h0 : 0 ≤ x) (h1 : x ≤ 18446744073709551615) :
    Calls Try.prog 67 #[.int .u64 x] w fun e w' => e = .returned (.int .i64 (Lib.bitLen x.toNat)) ∧ w' = w := Any.bits_Len64 lays129 x w h0 h1

end Go.Proofs.Ytjlgccfibkcgbaa

namespace Go.Proofs.Ytjlgccfibkcgbaa
open Go.RowKit

/-- The copies that are told apart. -/
def countedV (least most copies : Int) : Int := if most = 9223372036854775807 then min copies least else copies

set_option maxHeartbeats 400000 in
theorem counted_any (g o : Nat) (least most copies : Int) (w : World) (h1 : w.cell? ⟨g, o + 7, none⟩ = some (.int .i64 least)) (h2 : w.cell? ⟨g, o + 8, none⟩ = some (.int .i64 most)) :
    Calls Try.prog 64 #[.pointer (some ⟨g, o, none⟩), .int .i64 copies] w fun e w' => e = .returned (.int .i64 (countedV least most copies)) ∧ w' = w := by
  by_cases hm : most = 9223372036854775807
  · have hd : (most == 9223372036854775807) = true := by simp [hm]
    have HM := hide hm
    clear hm
    go_enter Try.func64, Try.ntmps64
    go_wp2_with fail
    go_ret
    refine ⟨?_, rfl⟩
    unfold countedV
    rw [if_pos HM.out]
    rfl
  · have hd : (most == 9223372036854775807) = false := by simp [hm]
    have HM := hide hm
    clear hm
    go_enter Try.func64, Try.ntmps64
    go_wp2_with fail
    go_ret
    refine ⟨?_, rfl⟩
    unfold countedV
    rw [if_neg HM.out]
    rfl

/-- The walk over a set's places is made. -/
theorem lastFirst_any (v : Value) (w : World) :
    Calls Try.prog 47 #[.agg #[v]] w fun e w' => e = .returned (.func (.func 66) #[] #[.pointer (some ⟨w.heap.size, 0, none⟩)]) ∧ w' = w.alloc (.cells #[v] 81) := by
  have hmf : ∀ (fn : Fn) (first cap : Array Value) (w : World), (Instr.makeFunc fn first cap).run Try.prog w = .ok (.func fn first cap) w := fun _ _ _ _ => rfl
  go_enter Try.func47, Try.ntmps47
  go_wp2_with fail
  go_ret
  exact ⟨rfl, rfl⟩
end Go.Proofs.Ytjlgccfibkcgbaa
