import Derived.Test.YtpnecblofjpgfaaGreatPscS
import Derived.Test.YtpnecblofjpgfaaGreatScrO
namespace Go.Proofs.YtpnecblofjpgfaaGreat
open Go.RowKit

/-- What the document's Script does. -/
def RefPost (w : World) (s : ByteArray) (e : Ending) (w' : World) : Prop :=
  Below w.heap.size w w' ∧ ∃ lv, e = .returned (.tuple #[lv, .int .i64 (errS s).1, .int .i64 (errS s).2]) ∧ ((errS s).1 = 0 → ∃ css, w'.ownsRow 0 51 31 lv (scrS s).1.length (flatC css) ∧ All2 CmdV css (scrS s).1 ∧ (scrS s).1.length ≤ 60 ∧ (∀ k, lv.ownBlock = some k → w.heap.size ≤ k)) ∧ ∃ pa n cap, lv = .slice pa n cap

set_option maxRecDepth 100000 in
set_option maxHeartbeats 1000000 in
theorem script_any (s : ByteArray) (w : World) : Calls Tryz.prog 6 #[.string s] w fun e w' => RefPost w s e w' := by
  by_cases hlen : 1000 < s.size
  · have hd : decide ((1000 : Int) < (s.size : Nat)) = true := by rw [decide_eq_true_iff]; omega
    have hE : errS s = (1, 0) := by unfold errS; rw [if_pos hlen]
    have HE := hide hE
    clear hE hlen
    go_enter Tryz.func6, Tryz.ntmps6
    go_wp2_with fail
    refine bodyPost_ret (res_tmp3 rfl _ _ _) rfl ?_
    refine ⟨Below.refl _ w, .slice none 0 0, ?_, ?_, none, 0, 0, rfl⟩
    · rw [HE.out]; rfl
    · rw [HE.out]; intro h; cases h
  · have hd : decide ((1000 : Int) < (s.size : Nat)) = false := by rw [decide_eq_false_iff_not]; omega
    have hR : RD (w.alloc (.cells #[.string s, .int .i64 0, .bool false, .int .i64 0] 40)) w.heap.size s ⟨0, false, 0⟩ := Blk.new w _ _
    have hB : Below w.heap.size w (w.alloc (.cells #[.string s, .int .i64 0, .bool false, .int .i64 0] 40)) := (Below.refl _ w).alloc (Nat.le_refl _) _
    have hc := commands_any (2 * s.size + 2) w.heap.size (s.size + 1) s ⟨0, false, 0⟩ _ hR (by omega) (Nat.zero_le _) (by simp) (by omega) (by simp)
    have hAll : allS s (2 * s.size + 2) (s.size + 1) ⟨0, false, 0⟩ = scrS s := rfl
    rw [hAll] at hc
    have hE : errS s = if (scrS s).2.bad = true then ((3 : Int), (((scrS s).2.i : Nat) : Int)) else match lostS (scrS s).1 (scrS s).1.length 0 with | some p => ((4 : Int), ((p : Nat) : Int)) | none => ((0 : Int), (0 : Int)) := by unfold errS; rw [if_neg hlen]; rfl
    have HE := hide hE
    have HC := hide hc
    have HB := hide hB
    clear hc hAll hE hR hB hlen
    go_enter Tryz.func6, Tryz.ntmps6
    go_wp2_with fail
    refine HC.out.mono ?_
    rintro e w1 ⟨lv, css, rfl, hL, hA, h60, hlb, hR1, hK1⟩
    have B1 : Below w.heap.size w w1 := Kp.toBelow HB.out hK1 (Nat.le_refl _)
    have hlb2 : ∀ k, lv.ownBlock = some k → w.heap.size ≤ k := fun k hk => by have := hlb k hk; simp at this; omega
    clear HC HB hK1 hlb
    have r1 := hR1.c1
    have r2 := hR1.c2
    obtain ⟨pa, cap, rfl, hcap⟩ := own_form hL
    cases hb : (scrS s).2.bad
    · rw [hb] at r2 HE
      have hlo := lost_any (.slice pa (scrS s).1.length cap) (scrS s).1 css w1 hL hA h60
      have HLO := hide (And.intro hlo (And.intro hL (And.intro hA (And.intro h60 hlb2))))
      clear hlo hL hA h60 hlb2 hR1
      cases hl : lostS (scrS s).1 (scrS s).1.length 0 with
      | some p =>
        rw [hl] at HE
        have ho : optI (some p) = (p : Int) := rfl
        have HL2 := hide hl
        clear hl
        go_wp2_with (go_at_call 12; refine HLO.out.1.mono ?_; rintro e w2 ⟨rfl, rfl⟩; rw [HL2.out, ho])
        refine bodyPost_ret (res_tmp3 rfl _ _ _) rfl ?_
        have hE : errS s = (4, ((p : Nat) : Int)) := by rw [HE.out]; rfl
        refine ⟨B1, .slice none 0 0, ?_, ?_, none, 0, 0, rfl⟩
        · rw [hE]; rfl
        · rw [hE]; intro h; cases h
      | none =>
        rw [hl] at HE
        have ho : optI none = -1 := rfl
        have HL2 := hide hl
        clear hl
        go_wp2_with (go_at_call 12; refine HLO.out.1.mono ?_; rintro e w2 ⟨rfl, rfl⟩; rw [HL2.out, ho])
        refine bodyPost_ret (res_tmp3 rfl _ _ _) rfl ?_
        have hE : errS s = (0, 0) := by rw [HE.out]; rfl
        obtain ⟨-, hL, hA, h60, hlb2⟩ := HLO.out
        refine ⟨B1, .slice pa (scrS s).1.length cap, ?_, fun _ => ⟨css, hL, hA, h60, hlb2⟩, pa, _, cap, rfl⟩
        rw [hE]; rfl
    · rw [hb] at r2 HE
      clear hL hA h60 hlb2 hR1
      go_wp2_with fail
      go_quiet (fail)
      go_wp2_with fail
      refine bodyPost_ret (res_tmp3 rfl _ _ _) rfl ?_
      have hE : errS s = (3, (((scrS s).2.i : Nat) : Int)) := by rw [HE.out]; rfl
      refine ⟨below_kp ((Kp.below (b := w1.heap.size) B1).drewN nq) (by have := B1.size; omega) (Nat.le_refl _), .slice none 0 0, ?_, ?_, none, 0, 0, rfl⟩
      · rw [hE]; rfl
      · rw [hE]; intro h; cases h

set_option maxHeartbeats 400000 in
theorem num_any (e : Int) (w : World) : Calls Tryz.prog 7 #[.int .i64 e] w fun r w' => r = .returned (.int .i64 e) ∧ w' = w := by
  go_enter Tryz.func7, Tryz.ntmps7
  go_wp2_with fail
  go_ret
  exact ⟨rfl, rfl⟩

set_option maxRecDepth 100000 in
set_option maxHeartbeats 1000000 in
theorem Checks_any (s : ByteArray) (w : World) : Calls Tryz.prog 3 #[.string s] w fun e w' => e = .returned (.bool true) ∧ Below w.heap.size w w' := by
  go_enter Tryz.func3, Tryz.ntmps3
  go_wp2_with fail
  refine (check_any s w).mono ?_
  rintro e w1 ⟨rfl, B1⟩
  go_wp2_with fail
  refine (script_any s w1).mono ?_
  rintro e w2 ⟨B2, lv, rfl, -, pa, n, cap, rfl⟩
  have B3 := B1.trans (B2.mono B1.size)
  clear B1 B2
  have q1 : ((errS s).1 == (errS s).1) = true := by simp
  have q2 : ((errS s).2 == (errS s).2) = true := by simp
  go_wp2_with (go_at_call 7; refine (num_any _ _).mono ?_; rintro e w3 ⟨rfl, rfl⟩)
  go_ret
  exact ⟨rfl, B3⟩
end Go.Proofs.YtpnecblofjpgfaaGreat
