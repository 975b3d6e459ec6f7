import Derived.Test.YtjlgccfibkcgbaaProZB
import Derived.Maps.OwnIn
import Derived.Maps.OwnSet
import Derived.DeepKeys3
namespace Go.Proofs.Ytjlgccfibkcgbaa
open Go.RowKit Go.Shelf

/-- The map's keys: three numbers. -/
theorem keyed100 : Go.Maps.Keyed Try.prog 100 := Go.Maps.Keyed.of_law (deep_law (m := 5) (by omega) (by kernel_rfl) (by kernel_rfl) (by kernel_rfl))

def key3 (i c p : Int) : Value := .agg #[.int .i64 i, .int .i64 c, .int .i64 p]

/-- An element is read as it is. -/
def asIs (v : Value) : Option (DataW Value × List MemPlace) := some (.held v, [])

theorem cells100 : Try.prog.cellsOf 100 = 3 := by kernel_rfl
theorem cells3 : Try.prog.cellsOf 3 = 1 := by kernel_rfl
theorem lit3 (d : Nat) (x : Int) (h : (Lit.int .i64 x).wf = true) : Try.prog.keyLits (d + 1) 3 [.int .i64 x] = some [.int .i64 x] := by
  unfold Program.keyLits
  rw [Try.underlying3]
  simp [h]
theorem lits100 (d : Nat) (i c p : Int) (hi : (Lit.int .i64 i).wf = true) (hc : (Lit.int .i64 c).wf = true) (hp : (Lit.int .i64 p).wf = true) :
    Try.prog.keyLits (d + 1 + 1) 100 [.int .i64 i, .int .i64 c, .int .i64 p] = some [.int .i64 i, .int .i64 c, .int .i64 p] := by
  unfold Program.keyLits
  rw [Try.underlying100]
  simp [cells100, cells3, List.range_succ, lit3 d i hi, lit3 d c hc, lit3 d p hp]

def key3L (i c p : Int) : Lit := .string (keyBytes [.int .i64 i, .int .i64 c, .int .i64 p])

theorem key3_ok (i c p : Int) (hi : (Lit.int .i64 i).wf = true) (hc : (Lit.int .i64 c).wf = true) (hp : (Lit.int .i64 p).wf = true) : keyOf Try.prog 100 (key3 i c p) = some (key3L i c p) := by
  have h1 : Try.prog.keyType 100 = true := by kernel_rfl
  have h2 : Value.formed Try.prog 100 (key3 i c p) = true := by
    simp [key3, Value.formed, Try.underlying100, cells100]
  have h3 : Try.prog.keyLits (Try.prog.types.size + 1) 100 (key3 i c p).cells.toList = some [.int .i64 i, .int .i64 c, .int .i64 p] := by
    have e : Try.prog.types.size + 1 = 151 + 1 + 1 := by kernel_rfl
    rw [e]
    exact lits100 151 i c p hi hc hp
  unfold keyOf
  rw [Try.underlying100]
  simp only [h1, h2, Bool.and_self, if_true]
  rw [h3]
  rfl

end Go.Proofs.Ytjlgccfibkcgbaa
