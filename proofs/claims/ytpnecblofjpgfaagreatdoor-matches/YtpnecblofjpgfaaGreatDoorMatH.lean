import Derived.Test.YtpnecblofjpgfaaGreatDoorMatI
import Derived.Test.YtpnecblofjpgfaaGreatDoorMatF
import Derived.Maps.OwnIn
import Derived.Maps.OwnSet
import Derived.DeepKeys3
namespace Go.Proofs.YtpnecblofjpgfaaGreatDoor
open Go.RowKit Go.Shelf

/-- The map's keys: three numbers. -/
theorem keyedK : Go.Maps.Keyed Tryz.prog 84 := Go.Maps.Keyed.of_law (deep_law (m := 5) (by omega) (by kernel_rfl) (by kernel_rfl) (by kernel_rfl))

def key3 (i c p : Int) : Value := .agg #[.int .i64 i, .int .i64 c, .int .i64 p]

/-- An element is read as it is. -/
def asIs (v : Value) : Option (DataW Value × List MemPlace) := some (.held v, [])

theorem cellsK : Tryz.prog.cellsOf 84 = 3 := by kernel_rfl
theorem cells3 : Tryz.prog.cellsOf 3 = 1 := by kernel_rfl
theorem lit3 (d : Nat) (x : Int) (h : (Lit.int .i64 x).wf = true) : Tryz.prog.keyLits (d + 1) 3 [.int .i64 x] = some [.int .i64 x] := by
  unfold Program.keyLits
  rw [Tryz.underlying3]
  simp [h]
theorem litsK (d : Nat) (i c p : Int) (hi : (Lit.int .i64 i).wf = true) (hc : (Lit.int .i64 c).wf = true) (hp : (Lit.int .i64 p).wf = true) :
    Tryz.prog.keyLits (d + 1 + 1) 84 [.int .i64 i, .int .i64 c, .int .i64 p] = some [.int .i64 i, .int .i64 c, .int .i64 p] := by
  unfold Program.keyLits
  rw [Tryz.underlying84]
  simp [cellsK, cells3, List.range_succ, lit3 d i hi, lit3 d c hc, lit3 d p hp]

def key3L (i c p : Int) : Lit := .string (keyBytes [.int .i64 i, .int .i64 c, .int .i64 p])

theorem key3_ok (i c p : Int) (hi : (Lit.int .i64 i).wf = true) (hc : (Lit.int .i64 c).wf = true) (hp : (Lit.int .i64 p).wf = true) : keyOf Tryz.prog 84 (key3 i c p) = some (key3L i c p) := by
  have h1 : Tryz.prog.keyType 84 = true := by kernel_rfl
  have h2 : Value.formed Tryz.prog 84 (key3 i c p) = true := by
    simp [key3, Value.formed, Tryz.underlying84, cellsK]
  have h3 : Tryz.prog.keyLits (Tryz.prog.types.size + 1) 84 (key3 i c p).cells.toList = some [.int .i64 i, .int .i64 c, .int .i64 p] := by
    have e : Tryz.prog.types.size + 1 = Tryz.prog.types.size - 1 + 1 + 1 := by kernel_rfl
    rw [e]
    exact litsK _ i c p hi hc hp
  unfold keyOf
  rw [Tryz.underlying84]
  simp only [h1, h2, Bool.and_self, if_true]
  rw [h3]
  rfl

end Go.Proofs.YtpnecblofjpgfaaGreatDoor
