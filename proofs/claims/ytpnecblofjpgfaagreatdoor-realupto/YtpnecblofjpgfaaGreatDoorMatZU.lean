import Derived.Test.YtpnecblofjpgfaaGreatDoorMatY
import Derived.WalkSpells
namespace Go.Proofs.YtpnecblofjpgfaaGreatDoor
open Go.RowKit Go.Shelf

theorem readEx_any (s : ByteArray) (w : World) (hs : s.size ≤ 1048576) :
    Calls Tryz.prog 10 #[.string s] w fun e w' => ∃ ka kl kc xs, e = .returned (.tuple #[.agg #[.bool (exS s).1.first, .bool (exS s).1.last, .slice ka kl kc, .int .i64 (exS s).1.groups], .int .i64 (exS s).2.i, .bool (decide (Good s))]) ∧ Row T w' (.slice ka kl kc) (exS s).1.parts.length xs ∧ KRep T w' (exS s).1.parts xs ∧ Below w.heap.size w w' := by
  refine (read_any s w hs).mono ?_
  rintro e w' ⟨ka, kl, kc, xs, rfl, h1, h2, h3⟩
  refine ⟨ka, kl, kc, xs, ?_, h1.mono (fun _ _ _ => trivial), KRep.mono (fun _ _ _ => trivial) _ _ h2, h3⟩
  have : (!(exprS s (2 * s.size + 2) ⟨0, false, 0⟩).2.bad && decide ((exprS s (2 * s.size + 2) ⟨0, false, 0⟩).2.i = s.size)) = decide (Good s) := by
    rw [Bool.eq_iff_iff, decide_eq_true_eq]
    unfold Good exS
    simp
  rw [this]
  rfl

theorem ex_wf (s : ByteArray) (hs : s.size ≤ 1048576) (h : Good s) : ExWF (exS s).1 := by
  obtain ⟨h1, h2, h3, h4⟩ := ex_facts s hs h.1
  refine ⟨h1, ?_, h2⟩
  have h1' : (advIf s 94 (zeroed ⟨0, false, 0⟩)).i ≤ s.size := by
    show (advIf s 94 ⟨0, false, 0⟩).i ≤ s.size
    unfold advIf; split
    · next hc => exact peekOk_lt (isB_ok hc)
    · exact Nat.zero_le _
  exact ((wf_all s hs (2 * s.size + 2) (by omega)).2.2 false (advIf s 94 (zeroed ⟨0, false, 0⟩)) [] h1' trivial (by simp; omega)).2.2

set_option maxRecDepth 100000 in
theorem num_any (x : Int) (w : World) : Calls Tryz.prog 8 #[.int .i64 x] w fun e w' => e = .returned (.int .i64 x) ∧ w' = w := by
  go_enter Tryz.func8, Tryz.ntmps8
  go_wp2_with fail
  go_ret
  exact ⟨rfl, rfl⟩

set_option maxRecDepth 100000 in
set_option maxHeartbeats 1000000 in
theorem Longest_any (e s : ByteArray) (at_ p q : Int) (w : World) (he : e.size ≤ 1048576) (hs : s.size ≤ 1048576) (hT : TabOk w) :
    Calls Tryz.prog 5 #[.string e, .string s, .int .i64 at_, .int .i64 p, .int .i64 q] w fun r w' => r = .returned (.bool true) ∧ Below w.heap.size w w' := by
  have heq : ∀ (w : World) (a : Option Addr) (n c : Nat), (binOp .eql 22 (.slice a n c) (.slice none 0 0)).run Tryz.prog w = .ok (.bool a.isNone) w := fun w a n c => Lib.run_eql_slice_nil w 22 3 a n c 0 0 Tryz.underlying22
  go_enter Tryz.func5, Tryz.ntmps5
  go_wp2_with fail
  refine (Match_any e s at_ w he hs hT).mono ?_
  rintro r w1 ⟨hb1, v, en, pl, rfl, hM⟩
  go_wp2_with fail
  refine (readEx_any e w1 he).mono ?_
  rintro r w2 ⟨ka, kl, kc, xs, rfl, hR, hK, hb2⟩
  have hb2' := hb1.trans (hb2.mono hb1.size)
  have hb3 : Below w2.heap.size w2 (w2.alloc (.cells #[.bool (exS e).1.first, .bool (exS e).1.last, .slice ka kl kc, .int .i64 (exS e).1.groups] 33)) := (Below.refl _ _).alloc (Nat.le_refl _) _
  have hb4 := hb2'.trans (hb3.mono hb2'.size)
  rcases hM with ⟨hc, rfl, rfl, rfl⟩ | ⟨hc, hg, rfl, rfl, rfl⟩ | ⟨hc, hg, ha, rfl, rfl, rfl⟩ | ⟨hc, hg, h0, h1, rfl, rfl, hF⟩
  · have HZ := hide (And.intro hc hb4)
    clear hc hb1 hb2 hb2' hb3 hb4 hR hK
    go_wp2_with (go_at_call 8; refine (num_any _ _).mono ?_; rintro e w' ⟨rfl, rfl⟩)
    all_goals first | (go_ret; exact ⟨rfl, HZ.out.2⟩) | (exfalso; have := HZ.out.1; omega)
  · have HZ := hide (And.intro hg hb4)
    have hgd : decide (Good e) = false := by simp [hg]
    clear hc hb1 hb2 hb2' hb3 hb4 hR hK hg
    go_wp2_with (go_at_call 8; refine (num_any _ _).mono ?_; rintro e w' ⟨rfl, rfl⟩)
    all_goals first | (go_ret; exact ⟨rfl, HZ.out.2⟩) | (exfalso; have := HZ.out.1; omega)
  · have HZ := hide (And.intro ha hb4)
    have hgd : decide (Good e) = true := by simp [hg]
    clear hc hb1 hb2 hb2' hb3 hb4 hR hK hg ha
    go_wp2_with (go_at_call 8; refine (num_any _ _).mono ?_; rintro e w' ⟨rfl, rfl⟩)
    all_goals first | (go_ret; exact ⟨rfl, HZ.out.2⟩) | (exfalso; have := HZ.out.1; omega)
  · have hgd : decide (Good e) = true := by simp [hg]
    have c1 : decide ((60 : Int) < (e.size : Nat)) = false := by simp; omega
    have c2 : decide ((200 : Int) < (s.size : Nat)) = false := by simp; omega
    have c3 : decide (at_ < 0) = false := by simp; omega
    have c4 : decide ((s.size : Int) < at_) = false := by simp; omega
    have hcan := can_any s hs (exS e).1 (ex_wf e he hg) _ p q _ ⟨ka, kl, kc, xs, rfl, hR.below hb3, hK.below hb3⟩
    have HZ := hide (And.intro hb4 (And.intro hF (And.intro hb2 (And.intro hb3 (And.intro h0 (And.intro h1 (ex_facts e he hg.1).1))))))
    clear hc hb1 hb2 hb2' hb3 hb4 hR hK hg hF
    go_wp2_with fail
    refine hcan.mono ?_
    clear hcan
    rintro r w4 ⟨b, rfl, hb, hb5⟩
    have hbb := HZ.out.1.trans (hb5.mono HZ.out.1.size)
    cases b
    · clear hb hb5
      have HY := hide hbb
      clear hbb
      go_wp2_with (go_at_call 8; refine (num_any _ _).mono ?_; rintro e w' ⟨rfl, rfl⟩)
      all_goals (go_ret; exact ⟨rfl, HY.out⟩)
    · by_cases hpa : p < at_
      · have c5 : decide (p < at_) = true := by simp [hpa]
        have HY := hide hbb
        clear hbb hb hb5 hpa
        go_wp2_with (go_at_call 8; refine (num_any _ _).mono ?_; rintro e w' ⟨rfl, rfl⟩)
        all_goals (go_ret; exact ⟨rfl, HY.out⟩)
      · have c5 : decide (p < at_) = false := by simp; omega
        obtain ⟨hb4, hF, hb2, hb3, h0, h1, hWf⟩ := HZ.out
        have hC := hb.1 rfl
        have hp0 : 0 ≤ p := hC.1
        have hpq : p ≤ q := hC.2.1
        rcases hF with ⟨rfl, hno⟩ | ⟨p0, q0, ss, f1, f2, f3, f4, f5, f6, f7, f8⟩
        · exfalso
          have hpn : ((p.toNat : Nat) : Int) = p := by omega
          have := hno p.toNat (by omega) q
          rw [hpn] at this
          exact this hC
        · obtain ⟨sb, cap, rfl, hsl, hsc⟩ := f6.lay (by omega)
          have hle3 := hb3.size
          have hle2 := hb2.size
          have hI4 := f6.agree (w' := w4) (fun k ek => by
            cases ek
            exact (hb5.block sb (by omega)).trans ((hb3.block sb (by omega)).trans (hb2.block sb hsl)))
          have hsp := spanR_ok s (exS e).1.groups p0 q0 (by have := f3.2.2.1; omega) (exS e).1.parts p0 q0 _ ss hWf (Nat.le_refl _) (by have := f3.2.1; omega) (Nat.le_refl _) (by have := f3.2.2.2.2.2; rw [Int.toNat_natCast, Int.toNat_natCast] at this; exact this) (pairs_span0 _ _ _ _ _) f5
          have s0 : w4.cell? ⟨sb, 0, none⟩ = some (.int .i64 (p0 : Nat)) := by
            rw [hI4.cell (i := 0) (by omega), hsp.2.2.1]; rfl
          have s1 : w4.cell? ⟨sb, 1, none⟩ = some (.int .i64 (q0 : Nat)) := by
            rw [hI4.cell (i := 1) (by omega), hsp.2.2.2]; rfl
          have hle : (p0 : Int) ≤ p := by
            by_cases hlt : (p0 : Int) ≤ p
            · exact hlt
            · exfalso
              have hpn : ((p.toNat : Nat) : Int) = p := by omega
              have := f2 p.toNat (by omega) (by omega) q
              rw [hpn] at this
              exact this hC
          have hor : (p0 : Int) < p ∨ q ≤ (q0 : Int) := by
            by_cases hlt : (p0 : Int) < p
            · exact .inl hlt
            · right
              have hpe : p = (p0 : Int) := by omega
              have hqn : ((q.toNat : Nat) : Int) = q := by omega
              have := f4 q.toNat (by rw [hqn, ← hpe]; exact hC)
              omega
          have hlen2 : 2 ≤ ss.length := by omega
          have HY := hide hbb
          clear hbb hb hb5 hb4 hb2 hb3 f2 f3 f4 f5 f6 f8 hI4 hsp hC hpa HZ f7
          have d1 : decide ((p0 : Int) ≤ p) = true := by simp [hle]
          rcases hor with hor | hor
          · have d2 : decide ((p0 : Int) < p) = true := by simp [hor]
            go_wp2_with (go_at_call 8; refine (num_any _ _).mono ?_; rintro e w' ⟨rfl, rfl⟩)
            all_goals (go_ret; first | exact ⟨rfl, HY.out⟩ | exact ⟨rfl, HY.out.drew⟩)
          · have d3 : decide (q ≤ (q0 : Int)) = true := by simp [hor]
            go_wp2_with (go_at_call 8; refine (num_any _ _).mono ?_; rintro e w' ⟨rfl, rfl⟩)
            all_goals (go_ret; first | exact ⟨rfl, HY.out⟩ | exact ⟨rfl, HY.out.drew⟩)
end Go.Proofs.YtpnecblofjpgfaaGreatDoor
