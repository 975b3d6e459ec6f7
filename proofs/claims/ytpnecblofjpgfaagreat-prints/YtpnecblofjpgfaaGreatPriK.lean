import Derived.Test.YtpnecblofjpgfaaGreatPriI
import Derived.Test.YtpnecblofjpgfaaGreatScrP
import Derived.Test.YtpnecblofjpgfaaGreatRows
import Derived.WalkKit
import Derived.ProofKit
import Derived.OpenShut
import Derived.JoinedOf
namespace Go.Proofs.YtpnecblofjpgfaaGreat
open Go.RowKit

theorem err_ok {s : ByteArray} (h : (errS s).1 = 0) : errS s = (0, 0) ∧ s.size ≤ 1000 := by
  unfold errS at h ⊢
  split at h
  · cases h
  · next hl =>
    rw [if_neg hl]
    split at h
    · cases h
    · next hb =>
      rw [if_neg hb]
      split at h
      · cases h
      · exact ⟨rfl, by omega⟩

/-- What Print answers of a script. -/
def printS (s : ByteArray) : ByteArray := if (errS s).1 = 0 then printL (scrS s).1 else ⟨#[]⟩

set_option maxRecDepth 100000 in
set_option maxHeartbeats 1000000 in
theorem pprint_any (s : ByteArray) (w : World) : Calls Tryz.prog 8 #[.string s] w fun e w' => e = .returned (.tuple #[.string (printS s), .int .i64 (errS s).1, .int .i64 (errS s).2]) ∧ Below w.heap.size w w' := by
  go_enter Tryz.func8, Tryz.ntmps8
  go_wp2_with fail
  refine (commandsOf_any s w).mono ?_
  rintro e w1 ⟨hB, cv, rfl, hR, pa, n, cap, rfl⟩
  have G := Blk.new w1 #[.int .i64 (errS s).1, .int .i64 (errS s).2] 35
  have B2 := hB.alloc hB.size (.cells #[.int .i64 (errS s).1, .int .i64 (errS s).2] 35)
  by_cases h0 : (errS s).1 = 0
  · obtain ⟨css, hL, hA, -⟩ := hR h0
    obtain ⟨hE, hsz⟩ := err_ok h0
    have HP := hide (show printS s = printL (scrS s).1 by unfold printS; rw [if_pos h0])
    have HE := hide hE
    rw [hE] at G B2 ⊢
    dsimp only at G B2 ⊢
    have g0 : (w1.alloc (.cells #[.int .i64 0, .int .i64 0] 35)).cell? ⟨w1.heap.size, 0, none⟩ = some (.int .i64 0) := G.cell 0 rfl
    have hl := scr_len s
    have hL2 := hL.alloc (.cells #[.int .i64 0, .int .i64 0] 35)
    have hpl := plain_any _ (scrS s).1 css _ (2 * s.size + 1) hL2 hA hl.1 (by omega) hl.2
    have HPL := hide (And.intro hpl B2)
    clear hpl hL hL2 hA hl G B2 hR h0 hE
    go_wp2_with fail
    refine HPL.out.1.mono ?_
    rintro e w2 ⟨rfl, hB3⟩
    go_wp2_with fail
    refine bodyPost_ret (res_tmp3 rfl _ _ _) rfl ?_
    refine ⟨by rw [HP.out, HE.out]; rfl, HPL.out.2.trans (hB3.mono HPL.out.2.size)⟩
  · have HP := hide (show printS s = ⟨#[]⟩ by unfold printS; rw [if_neg h0])
    have g0 : (w1.alloc (.cells #[.int .i64 (errS s).1, .int .i64 (errS s).2] 35)).cell? ⟨w1.heap.size, 0, none⟩ = some (.int .i64 (errS s).1) := G.cell 0 rfl
    have g1 : (w1.alloc (.cells #[.int .i64 (errS s).1, .int .i64 (errS s).2] 35)).cell? ⟨w1.heap.size, 1, none⟩ = some (.int .i64 (errS s).2) := G.cell 1 rfl
    have hd : ((errS s).1 == 0) = false := by simpa using h0
    clear hR h0
    go_wp2_with fail
    go_region
    all_goals
      go_wp2_with fail
      refine bodyPost_ret (res_tmp3 rfl _ _ _) rfl ?_
      exact ⟨by rw [HP.out]; rfl, B2.drew⟩

set_option maxRecDepth 100000 in
set_option maxHeartbeats 1000000 in
theorem Prints_any (s : ByteArray) (w : World) : Calls Tryz.prog 4 #[.string s] w fun e w' => e = .returned (.bool true) ∧ Below w.heap.size w w' := by
  go_enter Tryz.func4, Tryz.ntmps4
  go_wp2_with fail
  refine (pprint_any s w).mono ?_
  rintro e w1 ⟨rfl, B1⟩
  go_wp2_with fail
  refine (script_any s w1).mono ?_
  rintro e w2 ⟨B2, lv, rfl, hR, pa, n, cap, rfl⟩
  have B3 := B1.trans (B2.mono B1.size)
  clear B1 B2
  have q1 : ((errS s).1 == (errS s).1) = true := by simp
  have q2 : ((errS s).2 == (errS s).2) = true := by simp
  by_cases h0 : (errS s).1 = 0
  · obtain ⟨css, hL, hA, h60, -⟩ := hR h0
    have hd : ((errS s).1 == 0) = true := by simpa using h0
    have HP := hide (show printS s = printL (scrS s).1 by unfold printS; rw [if_pos h0])
    have hpr := rprint_any _ (scrS s).1 css w2 hL hA h60
    have HPR := hide (And.intro hpr (fun (w' : World) (h : ∀ b, Kp b w2 w') => B3.trans (below_kp (h w2.heap.size) B3.size B3.size)))
    have hqe : ((printL (scrS s).1).toList == (printL (scrS s).1).toList) = true := by simp
    rw [HP.out]
    clear hpr hL hA h60 hR B3 h0
    go_wp2_with (first | (go_at_call 7; refine (num_any _ _).mono ?_; rintro e w3 ⟨rfl, rfl⟩) | (go_at_call 9; refine HPR.out.1.mono ?_; rintro e w3 ⟨rfl, hz3, hK3⟩))
    go_ret
    exact ⟨rfl, HPR.out.2 _ hK3⟩
  · have hd : ((errS s).1 == 0) = false := by simpa using h0
    have HP := hide (show printS s = ⟨#[]⟩ by unfold printS; rw [if_neg h0])
    rw [HP.out]
    clear hR h0
    go_wp2_with (go_at_call 7; refine (num_any _ _).mono ?_; rintro e w3 ⟨rfl, rfl⟩)
    go_ret
    exact ⟨rfl, B3⟩
end Go.Proofs.YtpnecblofjpgfaaGreat

namespace Go.Proofs.YtpnecblofjpgfaaGreat.prints
open Go.ChangeShapes Go.WideShapes Go.ChangeAt Go.RowKit Go.ChangeMaps

theorem own : ownKnob Tryz.prog.godebug = none := by kernel_rfl

set_option maxRecDepth 100000 in
theorem contract (H : Type) (enc : TypeId × Value → H) (W : World) (base : Nat) (args : Array Value) (ds gs : List (DataW H)) (before : List MemPlace)
    (hval : ∀ (j : Nat) t v, Tryz.f4.params[j]? = some t → args[j]? = some v → Value.okWide Tryz.prog W .any base t v)
    (hW : DataW.Whole enc Tryz.prog Tryz.f4.params.toList Rows.printsSpec.vars false W args.toList ds gs before) :
    Calls Tryz.prog 4 args W fun e W' => ∃ v, e = .returned v ∧ Rows.printsSpec.post enc Tryz.prog Tryz.f4 false true false false W args v W' := by
  have hW' := hW
  obtain ⟨p, q, hA0, hV, rfl, hfz, hnd⟩ := hW
  have hA : DataW.TrodAll enc Tryz.prog W 0 (fun _ => true) true Tryz.f4.params.toList args.toList ds p := hA0
  rw [Tryz.params4] at hA hval
  obtain ⟨v0, vs0, d0, ds0, p0, q0, hargs, rfl, rfl, h0, r0⟩ := trodAll_cons hA
  obtain ⟨rfl, rfl, rfl⟩ := trodAll_nil r0
  obtain rfl : args = #[v0] := by cases args; simp_all
  obtain ⟨rfl, rfl⟩ := trodVars_none hV
  obtain ⟨a0, rfl, rfl, rfl, w0⟩ := open_string Tryz.underlying9 (hval 0 9 v0 rfl rfl) h0
  clear hA0
  simp only [List.append_nil] at hW'
  refine (Prints_any a0 W).mono fun e W' ⟨he, hg⟩ => ?_
  subst he
  exact ⟨_, rfl, ⟨_, _, _, [], [], [], hW', trodAll_cons_mk (shut_bool Tryz.underlying4 _) trodAll_mk0,
    trodAll_cons_mk (shut_string Tryz.underlying9 w0) trodAll_mk0,
    rfl, hg.frame _, fun h => by cases h⟩⟩

set_option maxRecDepth 100000 in
theorem lifted (os : Os) (started : os.Started) (H : Type) (enc : TypeId × Value → H) :
    ReturnsInHanded {} Tryz.checked os 4 .any (Rows.printsSpec.pre6 enc Tryz.prog Tryz.f4 Rows.printsRow.domain false) (Rows.printsSpec.post enc Tryz.prog Tryz.f4 false true false false) := by
  refine returnsInHanded_of_change (C := Tryz.checked) own started (by kernel_rfl) Tryz.func4
    (ChangeSpec.witness6 (enc := enc) (C := Tryz.checked) false ⟨#[], #[.string .empty], []⟩ 8 (by kernel_rfl) (by kernel_rfl) (by kernel_rfl) (by kernel_rfl)) ?_
  intro W base args ds gs before hval hW _ _
  exact contract H enc W base args ds gs before hval hW

theorem over : Rows.printsRow.holds Tryz.pinned (OpenSpec.ofChange Rows.printsSpec) :=
  OpenClaim.holds_of_wide 4 Tryz.f4 rfl rfl rfl rfl rfl rfl rfl ⟨rfl, rfl, rfl, rfl, rfl⟩ rfl rfl rfl rfl rfl (by kernel_rfl) Tryz.func4 (by kernel_rfl)
    (of_decide_eq_true (by kernel_rfl)) (by unfold Func.isWrapper; first | (rw [if_pos (by decide +kernel)]; kernel_rfl) | (rw [if_neg (by decide +kernel)]; exact ⟨rfl, rfl⟩))
    (fun os started H enc _ => lifted os started H enc)

theorem proved : Rows.PrintsSaid :=
  over
end Go.Proofs.YtpnecblofjpgfaaGreat.prints
