import Derived.Test.YtmjdaifalgpdnaaGreatPlaI
import Derived.Test.YtmjdaifalgpdnaaGreatRows
import Derived.WalkKit
import Derived.ProofKit
import Derived.OpenShut
import Derived.JoinedOf
import Derived.SizedLaws
import Derived.Carry
import Derived.Lib.SmallJoins
namespace Go.Proofs.YtmjdaifalgpdnaaGreat.plain
open Go.ChangeShapes Go.WideShapes Go.ChangeAt Go.RowKit Go.ChangeMaps

theorem own : ownKnob Tryz.prog.godebug = none := by kernel_rfl
theorem laidOut : laidOutB Tryz.prog = true := by kernel_rfl

theorem array6 {α : Type} {cs : Array α} (h : cs.size = 6) : ∃ c0 c1 c2 c3 c4 c5, cs = #[c0, c1, c2, c3, c4, c5] := by
  obtain ⟨l⟩ := cs
  match l, h with
  | [c0, c1, c2, c3, c4, c5], _ => exact ⟨c0, c1, c2, c3, c4, c5, rfl⟩
theorem list6 {α : Type} {cs : List α} (h : cs.length = 6) : ∃ c0 c1 c2 c3 c4 c5, cs = [c0, c1, c2, c3, c4, c5] := by
  match cs, h with
  | [c0, c1, c2, c3, c4, c5], _ => exact ⟨c0, c1, c2, c3, c4, c5, rfl⟩
theorem list3 {α : Type} {cs : List α} (h : cs.length = 3) : ∃ c0 c1 c2, cs = [c0, c1, c2] := by
  match cs, h with
  | [c0, c1, c2], _ => exact ⟨c0, c1, c2, rfl⟩

theorem cellsJob : Tryz.prog.cellsOf 33 = 6 := by kernel_rfl
theorem cellsFile : Tryz.prog.cellsOf 94 = 3 := by kernel_rfl
theorem cellsStr : Tryz.prog.cellsOf 9 = 1 := by kernel_rfl
theorem cellsBool : Tryz.prog.cellsOf 4 = 1 := by kernel_rfl
theorem cellsInt : Tryz.prog.cellsOf 3 = 1 := by kernel_rfl
theorem cellsFiles : Tryz.prog.cellsOf 31 = 1 := by kernel_rfl
theorem bytesFile : Tryz.prog.bytesOf 94 = 40 := by kernel_rfl

section
variable {H : Type} {enc : TypeId × Value → H} {W : World} {sp : Nat → Bool} {hd : Bool}

/-- One file, as its three cells. -/
theorem file_open {n : Nat} {cs : List Value} {x : DataW H × List MemPlace} (h : DataW.trod enc Tryz.prog W 0 sp hd n 94 cs = some x) : ∃ a b c, cs = [.string a, .string b, .bool c] := by
  obtain ⟨xs, k, _, _, hl, hxl, hf⟩ := DataW.trod_struct Tryz.underlying94 h
  rw [cellsFile] at hl
  obtain ⟨c0, c1, c2, rfl⟩ := list3 hl
  obtain ⟨y0, y1, y2, rfl⟩ := list3 (show xs.length = 3 from hxl)
  have g0 := hf 0 _ rfl
  have g1 := hf 1 _ rfl
  have g2 := hf 2 _ rfl
  simp [cellsStr, cellsBool] at g0 g1 g2
  obtain ⟨s0, e0, -, -⟩ := DataW.trod_string Tryz.underlying9 g0
  obtain ⟨s1, e1, -, -⟩ := DataW.trod_string Tryz.underlying9 g1
  obtain ⟨s2, e2, -⟩ := DataW.trod_bool Tryz.underlying4 g2
  simp at e0 e1 e2
  subst e0 e1 e2
  exact ⟨_, _, _, rfl⟩

/-- The files of a job that came in. -/
theorem files_open {n : Nat} {v : Value} {x : DataW H × List MemPlace} (h : DataW.trod enc Tryz.prog W 0 (fun _ => true) hd n 31 [v] = some x) :
    ∃ pf l c, v = .slice pf l c ∧ FlsAt W pf l ∧ ((l = 0 ∧ x.1 = .nil) ∨ ∃ el spr, x.1 = .slice el spr ∧ el.length = l) := by
  rcases Go.Deep.open_slice Tryz.underlying31 h with ⟨hcs, rfl⟩ | ⟨a, len, cap, m, k, D, Pl, hcs, hb, hl, hm, hmm, rfl, hx⟩
  · simp at hcs
    subst hcs
    exact ⟨none, 0, 0, rfl, fun i hi => by omega, .inl ⟨rfl, rfl⟩⟩
  · simp at hcs
    subst hcs
    have key : ∀ i, i < len → ∃ fx fy fz, W.cell? (a.add (i * 3)) = some (.string fx) ∧ W.cell? (a.add (i * 3 + 1)) = some (.string fy) ∧ W.cell? (a.add (i * 3 + 2)) = some (.bool fz) := fun i hi => by
      obtain ⟨cs', h1, h2⟩ := hx i (by rw [hmm]; simp; omega)
      rw [cellsFile] at h1
      obtain ⟨fx, fy, fz, rfl⟩ := file_open h2
      obtain ⟨_, hlen, hc⟩ := World.cells?_some h1
      have c0 := hc 0 (by omega)
      have c1 := hc 1 (by omega)
      have c2 := hc 2 (by omega)
      rw [Go.Deep.add_add] at c0 c1 c2
      exact ⟨fx, fy, fz, c0, c1, c2⟩
    refine ⟨some a, len, cap, rfl, fun i hi => ?_, .inr ⟨_, _, rfl, by simp⟩⟩
    obtain ⟨gx, gy, gz, z0, -, -⟩ := key 0 (by omega)
    obtain ⟨fx, fy, fz, c0, c1, c2⟩ := key i hi
    obtain ⟨b, off, spot⟩ := a
    have hspot : spot = none := by simpa [Addr.add] using World.cell?_spot z0
    subst hspot
    rw [Go.WideShapes.add_plain] at c0 c1 c2
    exact ⟨b, off, fx, fy, fz, rfl, World.block_lt_of_cell? W _ c0, c0, by rw [Nat.add_assoc]; exact c1, by rw [Nat.add_assoc]; exact c2⟩

set_option maxRecDepth 100000 in
/-- A job that came in. -/
theorem job_open {r : Reach} {b0 : Nat} {v : Value} {d : DataW H} {p : List MemPlace} (hv : Value.okWide Tryz.prog W r b0 33 v) (h : DataW.Trod enc Tryz.prog W 0 (fun _ => true) hd 33 v d p) :
    ∃ s q x y z pf l c d0 d1 d2 d3 d4 d5, v = .agg #[.string s, .bool q, .int .i64 x, .int .i64 y, .int .i64 z, .slice pf l c] ∧ FlsAt W pf l ∧ d = .agg [d0, d1, d2, d3, d4, d5] ∧ ((l = 0 ∧ d5 = .nil) ∨ ∃ el spr, d5 = .slice el spr ∧ el.length = l) := by
  obtain ⟨cs, rfl, hsz⟩ := okWide_struct Tryz.underlying33 hv
  rw [cellsJob] at hsz
  obtain ⟨v0, v1, v2, v3, v4, v5, rfl⟩ := array6 hsz
  obtain ⟨fuel, hf0⟩ := h
  obtain ⟨xs, k, _, hx, _, hxl, hf⟩ := DataW.trod_struct Tryz.underlying33 hf0
  obtain ⟨y0, y1, y2, y3, y4, y5, rfl⟩ := list6 (show xs.length = 6 from hxl)
  have g0 := hf 0 _ rfl
  have g1 := hf 1 _ rfl
  have g2 := hf 2 _ rfl
  have g3 := hf 3 _ rfl
  have g4 := hf 4 _ rfl
  have g5 := hf 5 _ rfl
  simp [Value.cells, cellsStr, cellsBool, cellsInt, cellsFiles] at g0 g1 g2 g3 g4 g5
  obtain ⟨s, e0, -, -⟩ := DataW.trod_string Tryz.underlying9 g0
  obtain ⟨q, e1, -⟩ := DataW.trod_bool Tryz.underlying4 g1
  obtain ⟨x, e2, -, -⟩ := DataW.trod_int Tryz.underlying3 g2
  obtain ⟨y, e3, -, -⟩ := DataW.trod_int Tryz.underlying3 g3
  obtain ⟨z, e4, -, -⟩ := DataW.trod_int Tryz.underlying3 g4
  obtain ⟨pf, l, c, rfl, hF, hd5⟩ := files_open g5
  simp at e0 e1 e2 e3 e4
  subst e0 e1 e2 e3 e4
  simp only [Prod.mk.injEq] at hx
  exact ⟨s, q, x, y, z, pf, l, c, y0.1, y1.1, y2.1, y3.1, y4.1, y5.1, rfl, hF, hx.1, hd5⟩
end

set_option maxRecDepth 100000 in
theorem contract (H : Type) (enc : TypeId × Value → H) (W : World) (base : Nat) (args : Array Value) (ds gs : List (DataW H)) (before : List MemPlace)
    (hval : ∀ (j : Nat) t v, Tryz.f4.params[j]? = some t → args[j]? = some v → Value.okWide Tryz.prog W .any base t v)
    (hW : DataW.Whole enc Tryz.prog Tryz.f4.params.toList Rows.plainSpec.vars false W args.toList ds gs before)
    (hsz0 : (DataW.weightsEach Tryz.prog (Tryz.f4.params.toList ++ Rows.plainSpec.plain.varTypes Tryz.prog) (ds ++ gs)).all (· ≤ reachBytes) = true) :
    Calls Tryz.prog 4 args W fun e W' => ∃ v, e = .returned v ∧ Rows.plainSpec.post enc Tryz.prog Tryz.f4 false true false false W args v W' := by
  have hW' := hW
  obtain ⟨p, q, hA0, hV, rfl, hfz, hnd⟩ := hW
  have hA : DataW.TrodAll enc Tryz.prog W 0 (fun _ => true) true Tryz.f4.params.toList args.toList ds p := hA0
  rw [Tryz.params4] at hA hval hsz0
  obtain ⟨v0, vs0, d0, ds0, p0, q0, hargs, rfl, rfl, h0, r0⟩ := trodAll_cons hA
  obtain ⟨rfl, rfl, rfl⟩ := trodAll_nil r0
  obtain rfl : args = #[v0] := by cases args; simp_all
  obtain ⟨rfl, rfl⟩ := trodVars_none hV
  clear hA0
  simp only [List.append_nil] at hW'
  have hlt : ∀ x ∈ p0, x.block < W.heap.size := fun x hx => by simpa using hW'.lt x hx
  have h0k := h0
  obtain ⟨s, qt, x, y, z, pf, l, c, e0, e1, e2, e3, e4, e5, rfl, hF, rfl, hd⟩ := job_open (hval 0 33 v0 rfl rfl) h0
  have hl : l * 40 ≤ 140737488351232 := by
    rcases hd with ⟨hl0, -⟩ | ⟨el, spr, he, hel⟩
    · omega
    · subst he
      have := List.all_eq_true.1 hsz0 ((el.length + spr.length) * Tryz.prog.bytesOf 94) (by
        simp [DataW.weightsEach, DataW.weights, Tryz.underlying33, Tryz.underlying31])
      rw [bytesFile] at this
      have h2 : (el.length + spr.length) * 40 ≤ 140737488351232 := of_decide_eq_true this
      omega
  refine (Plain_any s qt x y z pf l c W hF hl).mono fun e W' ⟨he, hg⟩ => ?_
  subst he
  exact ⟨_, rfl, ⟨_, _, _, [], p0 ++ [], [], hW', trodAll_cons_mk (shut_bool Tryz.underlying4 _) trodAll_mk0,
    trodAll_cons_mk (Below.trod laidOut (by kernel_rfl) (of_decide_eq_true (by kernel_rfl)) h0k hg hlt) trodAll_mk0,
    rfl, hg.frame _, fun h => by cases h⟩⟩

set_option maxRecDepth 100000 in
theorem lifted (os : Os) (started : os.Started) (H : Type) (enc : TypeId × Value → H) :
    ReturnsInHanded {} Tryz.checked os 4 .any (Rows.plainSpec.pre6 enc Tryz.prog Tryz.f4 Rows.plainRow.domain false) (Rows.plainSpec.post enc Tryz.prog Tryz.f4 false true false false) := by
  refine returnsInHanded_of_change_sized (C := Tryz.checked) own started (by kernel_rfl) Tryz.func4
    (ChangeSpec.witness6 (enc := enc) (C := Tryz.checked) false ⟨#[], #[.agg #[.string .empty, .bool false, .int .i64 0, .int .i64 0, .int .i64 0, .slice none 0 0]], []⟩ 8 (by kernel_rfl) (by kernel_rfl) (by kernel_rfl) (by kernel_rfl)) ?_
  intro W base args ds gs before hval hW _ hsz _
  exact contract H enc W base args ds gs before hval hW hsz

theorem over : Rows.plainRow.holds Tryz.pinned (OpenSpec.ofChange Rows.plainSpec) :=
  OpenClaim.holds_of_wide 4 Tryz.f4 rfl rfl rfl rfl rfl rfl rfl ⟨rfl, rfl, rfl, rfl, rfl⟩ rfl rfl rfl rfl rfl (by kernel_rfl) Tryz.func4 (by kernel_rfl)
    (of_decide_eq_true (by kernel_rfl)) (by unfold Func.isWrapper; first | (rw [if_pos (by decide +kernel)]; kernel_rfl) | (rw [if_neg (by decide +kernel)]; exact ⟨rfl, rfl⟩))
    (fun os started H enc _ => lifted os started H enc)

theorem proved : Rows.PlainSaid :=
  over
end Go.Proofs.YtmjdaifalgpdnaaGreat.plain
