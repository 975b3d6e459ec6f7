import Derived.Test.YtpnecblofjpgfaaGreatDoorProF
import Derived.Defers
import Derived.Recover
namespace Go.Proofs.YtpnecblofjpgfaaGreatDoor
open Go.RowKit

theorem assert_fault (en pl : Int) (w : World) : (Instr.typeAssert (.iface 40 (.agg #[.int .i64 en, .int .i64 pl])) 20 40 true).run Tryz.prog w = .ok (.tuple #[.agg #[.int .i64 en, .int .i64 pl], .bool true]) w := by kernel_rfl

set_option maxRecDepth 100000 in
set_option maxHeartbeats 800000 in
theorem catch_panicking (p : Nat) (a0 a1 : Value) (en pl : Int) (w : World) (h : Blk w p #[a0, a1] 40) :
    CallsD Tryz.prog 20 #[.pointer (some ⟨p, 0, none⟩)] (.panicking (gaveUp en pl)) w fun e u' w' =>
      e = .returned (.tuple #[]) ∧ u' = .panicking [{ v := .iface 40 (.agg #[.int .i64 en, .int .i64 pl]), recovered := true }] ∧ Blk w' p #[.int .i64 en, .int .i64 pl] 40 ∧ Kp p w w' := by
  have hta := assert_fault en pl
  have h' := h.alloc (.cells #[.int .i64 en, .int .i64 pl] 40)
  have d0 : (w.alloc (.cells #[.int .i64 en, .int .i64 pl] 40)).cell? ⟨p, 0, none⟩ = some a0 := h'.cell 0 rfl
  have d1 : (w.alloc (.cells #[.int .i64 en, .int .i64 pl] 40)).cell? ⟨p, 1, none⟩ = some a1 := h'.cell 1 rfl
  have df := h'.fz
  refine callsD_of_wpS Tryz.func20 rfl fun c₀ cs hu => ?_
  apply wpS_seq
  apply wpS_region
  simp [wpOpsS, go_sem, recoverD, hu, Tryz.ntmps20, Exit.thenS, gaveUp]
  refine wpS_of_wp ?_
  have HU := hide hu
  clear hu
  simp only [Array.replicate_succ, Array.replicate_zero, List.push_toArray, List.append_toArray, List.nil_append, List.cons_append, List.setIfInBounds_toArray, List.set_cons_succ, List.set_cons_zero]
  go_wp2_with fail
  have hb : Blk (((w.alloc (.cells #[.int .i64 en, .int .i64 pl] 40)).setCell ⟨p, 0, none⟩ (.int .i64 en)).setCell ⟨p, 1, none⟩ (.int .i64 pl)) p #[.int .i64 en, .int .i64 pl] 40 := (h'.set 0 (.int .i64 en) rfl).set 1 (.int .i64 pl) rfl
  have hk : Kp p w (((w.alloc (.cells #[.int .i64 en, .int .i64 pl] 40)).setCell ⟨p, 0, none⟩ (.int .i64 en)).setCell ⟨p, 1, none⟩ (.int .i64 pl)) := (((Kp.refl p w).alloc _).set _ _).set _ _
  simp [bodyPostS, results, Tryz.results20]
  exact ⟨hb, hk⟩

set_option maxRecDepth 100000 in
set_option maxHeartbeats 800000 in
theorem catch_idle (p : Nat) (w : World) :
    CallsD Tryz.prog 20 #[.pointer (some ⟨p, 0, none⟩)] .returning w fun e u' w' => e = .returned (.tuple #[]) ∧ u' = .returning ∧ w' = w := by
  refine callsD_of_wpS Tryz.func20 rfl fun c₀ cs hu => ?_
  apply wpS_seq
  apply wpS_region
  simp [wpOpsS, go_sem, recoverD, hu, Tryz.ntmps20, Exit.thenS]
  refine wpS_of_wp ?_
  have HU := hide hu
  clear hu
  simp only [Array.replicate_succ, Array.replicate_zero, List.push_toArray, List.append_toArray, List.nil_append, List.cons_append, List.setIfInBounds_toArray, List.set_cons_succ, List.set_cons_zero]
  go_wp2_with fail
  have hu := HU.out
  cases c₀
  simp_all [bodyPostS, results, Tryz.results20]

/-- A fault that is handed back out of its variable. -/
theorem ret_fault {w : World} {k : Nat} {a0 a1 : Value} {fn : Func} {p : Tmp} (hres : fn.results = #[.cell p 40]) {tmps : Array Value} (ht : tmps.getD p undef = .pointer (some ⟨k, 0, none⟩)) (h : Blk w k #[a0, a1] 40) :
    (results fn tmps).run Tryz.prog w = .ok (.agg #[a0, a1]) w := by
  have c0 : w.cell? ⟨k, 0, none⟩ = some a0 := h.cell 0 rfl
  have c1 : w.cell? ⟨k, 1, none⟩ = some a1 := h.cell 1 rfl
  have ht' : tmps[p]?.getD undef = .pointer (some ⟨k, 0, none⟩) := by simpa using ht
  simp [results, hres, ht', go_sem, c0, c1]

/-- caught: the work comes to its end, or gives up. -/
theorem caught_any (F : FuncId) (caps : Array Value) (w : World) (R1 : World → Prop) (R2 : Int → Int → World → Prop)
    (hF : ∀ (a : Array Value) (w : World), (callFunc F a).run Tryz.prog w = .ok (.enter F a) w)
    (h : Calls Tryz.prog F caps (w.alloc (.cells #[.int .i64 0, .int .i64 0] 40)) fun e w' => Blk w' w.heap.size #[.int .i64 0, .int .i64 0] 40 ∧ ((e = .returned (.tuple #[]) ∧ R1 w') ∨ ∃ en pl, e = .panicked (gaveUp en pl) ∧ R2 en pl w')) :
    Calls Tryz.prog 12 #[.func (.func F) #[] caps] w fun e w' => (∃ w0, R1 w0 ∧ e = .returned (.agg #[.int .i64 0, .int .i64 0]) ∧ Kp w.heap.size w0 w') ∨ (∃ w0 en pl, R2 en pl w0 ∧ e = .returned (.agg #[.int .i64 en, .int .i64 pl]) ∧ Kp w.heap.size w0 w') := by
  have hmf : ∀ (fn : Fn) (first cap : Array Value) (w : World), (Instr.makeFunc fn first cap).run Tryz.prog w = .ok (.func fn first cap) w := fun _ _ _ _ => rfl
  have H := hide h
  clear h
  go_enter_defers Tryz.func12, Tryz.ntmps12
  go_wp2_with fail
  refine H.out.mono ?_
  rintro e w1 ⟨hB, ⟨rfl, h1⟩ | ⟨en, pl, rfl, h2⟩⟩
  · have c0 := hB.cell 0 rfl
    have c1 := hB.cell 1 rfl
    have cf := hB.fz
    go_wp2_with fail
    refine leaves_cons (f := 20) (args := #[.pointer (some ⟨w.heap.size, 0, none⟩)]) (by simp) (by simp [go_sem]) ?_
    refine (catch_idle w.heap.size _).mono ?_
    rintro e u' w2 ⟨rfl, rfl, rfl⟩
    have hB2 := (hB.set 0 (.int .i64 0) rfl).set 1 (.int .i64 0) rfl
    simp only
    exact ⟨_, ret_fault Tryz.results12 rfl hB2, .inl ⟨w1, h1, rfl, ((Kp.refl _ w1).set _ _).set _ _⟩⟩
  · go_wp2_with fail
    refine leaves_cons (f := 20) (args := #[.pointer (some ⟨w.heap.size, 0, none⟩)]) (by simp) (by simp [go_sem]) ?_
    refine (catch_panicking w.heap.size _ _ en pl _ hB).mono ?_
    rintro e u' w2 ⟨rfl, rfl, hB2, hk⟩
    simp only [settle, List.dropWhile, Leaves]
    exact ⟨_, ret_fault Tryz.results12 rfl hB2, .inr ⟨w1, en, pl, h2, rfl, hk⟩⟩
end Go.Proofs.YtpnecblofjpgfaaGreatDoor
