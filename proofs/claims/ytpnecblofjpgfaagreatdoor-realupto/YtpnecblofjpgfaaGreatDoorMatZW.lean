import Derived.Test.YtpnecblofjpgfaaGreatDoorMatZU
namespace Go.Proofs.YtpnecblofjpgfaaGreatDoor
open Go.RowKit Go.Shelf

theorem wrap_two (m : Nat) (h : m ≤ 100) : wrap64 ((m : Int) + 2) = (m : Int) + 2 := by unfold wrap64; omega

set_option maxRecDepth 100000 in
set_option maxHeartbeats 1000000 in
theorem Real_any (e s : ByteArray) (at_ : Int) (w : World) (he : e.size ≤ 1048576) (hs : s.size ≤ 1048576) (hT : TabOk w) :
    Calls Tryz.prog 4 #[.string e, .string s, .int .i64 at_] w fun r w' => r = .returned (.bool true) ∧ Below w.heap.size w w' := by
  have heq : ∀ (w : World) (a : Option Addr) (n c : Nat), (binOp .eql 22 (.slice a n c) (.slice none 0 0)).run Tryz.prog w = .ok (.bool a.isNone) w := fun w a n c => Lib.run_eql_slice_nil w 22 3 a n c 0 0 Tryz.underlying22
  go_enter Tryz.func4, Tryz.ntmps4
  go_wp2_with fail
  refine (Match_any e s at_ w he hs hT).mono ?_
  rintro r w1 ⟨hb1, v, en, pl, rfl, hM⟩
  go_wp2_with fail
  refine (readEx_any e w1 he).mono ?_
  rintro r w2 ⟨ka, kl, kc, xs, rfl, hR, hK, hb2⟩
  have hb2' := hb1.trans (hb2.mono hb1.size)
  have hb3 : Below w2.heap.size w2 (w2.alloc (.cells #[.bool (exS e).1.first, .bool (exS e).1.last, .slice ka kl kc, .int .i64 (exS e).1.groups] 33)) := (Below.refl _ _).alloc (Nat.le_refl _) _
  have hb4 := hb2'.trans (hb3.mono hb2'.size)
  rcases hM with ⟨hc, rfl, rfl, rfl⟩ | ⟨hc, hg, rfl, rfl, rfl⟩ | ⟨hc, hg, ha, rfl, rfl, rfl⟩ | ⟨hc, hg, h0, h1, rfl, rfl, hF⟩
  · have HZ := hide (And.intro hc hb4)
    clear hc hb1 hb2 hb2' hb3 hb4 hR hK
    go_wp2_with (go_at_call 8; refine (num_any _ _).mono ?_; rintro e w' ⟨rfl, rfl⟩)
    all_goals first | (go_ret; exact ⟨rfl, HZ.out.2⟩) | (exfalso; have := HZ.out.1; omega)
  · have HZ := hide (And.intro hg hb4)
    have hgd : decide (Good e) = false := by simp [hg]
    clear hc hb1 hb2 hb2' hb3 hb4 hR hK hg
    go_wp2_with (go_at_call 8; refine (num_any _ _).mono ?_; rintro e w' ⟨rfl, rfl⟩)
    all_goals first | (go_ret; exact ⟨rfl, HZ.out.2⟩) | (exfalso; have := HZ.out.1; omega)
  · have HZ := hide (And.intro ha hb4)
    have hgd : decide (Good e) = true := by simp [hg]
    clear hc hb1 hb2 hb2' hb3 hb4 hR hK hg ha
    go_wp2_with (go_at_call 8; refine (num_any _ _).mono ?_; rintro e w' ⟨rfl, rfl⟩)
    all_goals first | (go_ret; exact ⟨rfl, HZ.out.2⟩) | (exfalso; have := HZ.out.1; omega)
  · have hgd : decide (Good e) = true := by simp [hg]
    have c1 : decide ((60 : Int) < (e.size : Nat)) = false := by simp; omega
    have c2 : decide ((200 : Int) < (s.size : Nat)) = false := by simp; omega
    have c3 : decide (at_ < 0) = false := by simp; omega
    have c4 : decide ((s.size : Int) < at_) = false := by simp; omega
    have hWX := ex_wf e he hg
    have hgr := (ex_facts e he hg.1).1
    have HE := hide hgd
    clear hg hgd
    generalize (exS e).1 = x at *
    have hgd := HE.out
    clear HE
    have hB := Blk.new w2 #[.bool x.first, .bool x.last, .slice ka kl kc, .int .i64 x.groups] 33
    have hV : ∀ w', Below (w2.alloc (.cells #[.bool x.first, .bool x.last, .slice ka kl kc, .int .i64 x.groups] 33)).heap.size (w2.alloc (.cells #[.bool x.first, .bool x.last, .slice ka kl kc, .int .i64 x.groups] 33)) w' → ExV w' x (.agg #[.bool x.first, .bool x.last, .slice ka kl kc, .int .i64 x.groups]) ∧ Blk w' w2.heap.size #[.bool x.first, .bool x.last, .slice ka kl kc, .int .i64 x.groups] 33 := by
      intro w' hb
      exact ⟨ExV.below ⟨ka, kl, kc, xs, rfl, hR.below hb3, hK.below hb3⟩ hb, hB.below hb⟩
    rcases hF with ⟨rfl, hno⟩ | ⟨p0, q0, ss, f1, f2, f3, f4, f5, f6, f7, f8⟩
    · have HZ := hide (And.intro hb4 (And.intro hV (And.intro hno hWX)))
      clear hc hb1 hb2 hb2' hb3 hb4 hR hK hno hV hWX hgr hB
      go_wp2_with (go_at_call 8; refine (num_any _ _).mono ?_; rintro e w' ⟨rfl, rfl⟩)
      generalize w2.alloc (.cells #[.bool x.first, .bool x.last, .slice ka kl kc, .int .i64 x.groups] 33) = W2 at *
      generalize w2.heap.size = gx at *
      go_loopg [13, 14] (s.size + 1 - at_.toNat) (fun k pv nv w' => ∃ p : Nat, pv = .int .i64 p ∧ at_.toNat ≤ p ∧ p + k = s.size + 1 ∧ Below W2.heap.size W2 w')
      case atStart => exact ⟨at_.toNat, by rw [Int.toNat_of_nonneg h0], Nat.le_refl _, by omega, Below.refl _ _⟩
      case round =>
        obtain ⟨p, rfl, hap, hpk, hbel⟩ := hrel
        by_cases hlt : p ≤ s.size
        · have hlt' : (p : Int) ≤ s.size := by omega
          obtain ⟨hE, hBk⟩ := HZ.out.2.1 _ hbel
          obtain ⟨y0, y1, y2, y3, yf⟩ := hBk.four
          have hn := HZ.out.2.2.1 p hap
          have HC := hide (And.intro hn (can_any s hs x HZ.out.2.2.2 _ p p _ hE))
          clear hn hE hBk
          obtain ⟨k0, hk0⟩ : ∃ k0, k0 = gk := ⟨_, rfl⟩
          go_wp2_with fail
          refine HC.out.2.mono ?_
          rintro r w5 ⟨b, rfl, hb, hb5⟩
          obtain rfl : b = false := by
            cases b
            · rfl
            · exact absurd (hb.1 rfl) (HC.out.1 _)
          clear hb y0 y1 y2 y3 yf
          go_wp2_with fail
          go_roundg (gk - 1)
          case measure => omega
          case rel => exact ⟨p + 1, by go_num, by omega, by omega, hbel.trans (hb5.mono hbel.size)⟩
        · have hlt' : ¬ (p : Int) ≤ s.size := by omega
          have HY := hide (HZ.out.1.trans (hbel.mono HZ.out.1.size))
          clear hbel
          go_wp2_with fail
          go_ret
          exact ⟨rfl, HY.out⟩
    · obtain ⟨sb, cap, rfl, hsl, hsc⟩ := f6.lay (by omega)
      have hle2 := hb2.size
      have hI4 := f6.agree (w' := (w2.alloc (.cells #[.bool x.first, .bool x.last, .slice ka kl kc, .int .i64 x.groups] 33))) (fun k ek => by
        cases ek
        exact (hb3.block sb (by omega)).trans (hb2.block sb hsl))
      have hsp := spanR_ok s x.groups p0 q0 (by have := f3.2.2.1; omega) x.parts p0 q0 _ ss hgr (Nat.le_refl _) (by have := f3.2.1; omega) (Nat.le_refl _) (by have := f3.2.2.2.2.2; rw [Int.toNat_natCast, Int.toNat_natCast] at this; exact this) (pairs_span0 _ _ _ _ _) f5
      have s0 : (w2.alloc (.cells #[.bool x.first, .bool x.last, .slice ka kl kc, .int .i64 x.groups] 33)).cell? ⟨sb, 0, none⟩ = some (.int .i64 (p0 : Nat)) := by
        rw [hI4.cell (i := 0) (by omega), hsp.2.2.1]; rfl
      have s1 : (w2.alloc (.cells #[.bool x.first, .bool x.last, .slice ka kl kc, .int .i64 x.groups] 33)).cell? ⟨sb, 1, none⟩ = some (.int .i64 (q0 : Nat)) := by
        rw [hI4.cell (i := 1) (by omega), hsp.2.2.2]; rfl
      have d0 : decide ((p0 : Int) < at_) = false := by simp; omega
      have hsb : sb < (w2.alloc (.cells #[.bool x.first, .bool x.last, .slice ka kl kc, .int .i64 x.groups] 33)).heap.size := by have := hb3.size; omega
      obtain ⟨y0, y1, y2, y3, yf⟩ := hB.four
      have HZ := hide (And.intro hb4 (And.intro hV (And.intro hWX (And.intro f3 (And.intro hsp.1 (And.intro hI4 (And.intro s0 s1)))))))
      have hlen : decide ((ss.length : Int) = 2 * (x.groups : Int) + 2) = true := by simp; omega
      have hG9 : x.groups ≤ 1048576 := by have := hWX.nine; omega
      have hw1 : wrap64 (2 * (x.groups : Int)) = 2 * (x.groups : Int) := by unfold wrap64; omega
      have hw2 : wrap64 (2 * (x.groups : Int) + 2) = 2 * (x.groups : Int) + 2 := by unfold wrap64; omega
      clear hc hb1 hb2 hb2' hb3 hb4 hR hK hV hWX hB f1 f2 f3 f4 f5 f6 f8 hI4 hsp hgr hle2 hsl hG9
      go_wp2_with (go_at_call 8; refine (num_any _ _).mono ?_; rintro e w' ⟨rfl, rfl⟩)
      generalize w2.alloc (.cells #[.bool x.first, .bool x.last, .slice ka kl kc, .int .i64 x.groups] 33) = W2 at *
      generalize w2.heap.size = gx at *
      go_loopg [15] x.groups (fun k iv w' => ∃ j m : Nat, iv = .int .i64 m ∧ Hid (m = 2 * j) ∧ 1 ≤ j ∧ j + k = x.groups + 1 ∧ Below W2.heap.size W2 w')
      case atStart => exact ⟨1, 2, rfl, rfl, Nat.le_refl _, by omega, Below.refl _ _⟩
      case round =>
        clear y0 y1 y2 y3 yf s0 s1
        obtain ⟨j, m, rfl, Hm, hj1, hjk, hbel⟩ := hrel
        have z0 : wr.cell? ⟨sb, 0, none⟩ = some (.int .i64 (p0 : Nat)) := (hbel.cell hsb).trans HZ.out.2.2.2.2.2.2.1
        have z1 : wr.cell? ⟨sb, 1, none⟩ = some (.int .i64 (q0 : Nat)) := (hbel.cell hsb).trans HZ.out.2.2.2.2.2.2.2
        have hm := Hm.out
        have hG9 : x.groups ≤ 9 := HZ.out.2.2.1.nine
        by_cases hlt : j ≤ x.groups
        · have hmw2 : Hid (wrap64 ((m : Int) + 2) = (m : Int) + 2) := wrap_two m (by omega)
          have hI := HZ.out.2.2.2.2.2.1.agree (w' := wr) (fun k ek => by cases ek; exact hbel.block sb hsb)
          have a0 := hI.cell (i := m) (by omega)
          have a1 := hI.cell (i := m + 1) (by omega)
          have hP := HZ.out.2.2.2.2.1 j hj1
          rw [← hm] at hP
          have hmw : wrap64 ((m : Int) + 1) = (m : Int) + 1 := by unfold wrap64; omega
          have hml : (m : Int) + 1 < ss.length := by omega
          have hml2 : m + 1 < ss.length := by omega
          generalize ss.getD m 0 = b0 at *
          generalize ss.getD (m + 1) 0 = b1 at *
          obtain ⟨k0, hk0⟩ : ∃ k0, k0 = gk := ⟨_, rfl⟩
          have HX := hide (And.intro hbel (And.intro hjk (And.intro hlt hG9)))
          clear hbel hjk hlt hm hI hG9
          rcases hP with ⟨rfl, rfl⟩ | ⟨g1, g2, g3⟩ | hP
          · go_wp2_with fail
            go_quiet (fail)
            go_wp2_with fail
            go_roundg (gk - 1)
            case measure => have := HX.out; omega
            case rel => exact ⟨j + 1, m + 2, (by rw [show (((m + 2 : Nat)) : Int) = (m : Int) + 2 from by omega]; exact congrArg _ hmw2.out), (by have := Hm.out; show m + 2 = 2 * (j + 1); omega), by omega, by have := HX.out; omega, by have h := HX.out.1; exact ⟨h.os, h.tape, h.output, h.size, h.block⟩⟩
          · have e1 : decide (b0 = -1) = false := by simp; omega
            have e2 : decide ((p0 : Int) ≤ b0) = true := by simp; omega
            have e3 : decide (b1 ≤ (q0 : Int)) = true := by simp; omega
            have e4 : decide (b0 ≤ b1) = true := by simp; omega
            have e5 : (b0 == -1) = false := by simp; omega
            clear g1 g2 g3
            go_wp2_with fail
            go_quiet (fail)
            go_wp2_with fail
            go_roundg (gk - 1)
            case measure => have := HX.out; omega
            case rel => exact ⟨j + 1, m + 2, (by rw [show (((m + 2 : Nat)) : Int) = (m : Int) + 2 from by omega]; exact congrArg _ hmw2.out), (by have := Hm.out; show m + 2 = 2 * (j + 1); omega), by omega, by have := HX.out; omega, by have h := HX.out.1; exact ⟨h.os, h.tape, h.output, h.size, h.block⟩⟩
          · omega
        · have hml : decide ((m : Int) + 1 < 2 * (x.groups : Int) + 2) = false := by simp; omega
          have hml2 : ¬ (m : Int) + 1 < 2 * (x.groups : Int) + 2 := by omega
          have hmw : wrap64 ((m : Int) + 1) = (m : Int) + 1 := by unfold wrap64; omega
          obtain ⟨hE, hBk⟩ := HZ.out.2.1 _ hbel
          obtain ⟨y0, y1, y2, y3, yf⟩ := hBk.four
          have HX := hide hbel
          have F7 := hide (And.intro f7 hlen)
          have n0 : (0 : Int) < 2 * (x.groups : Int) + 2 := by omega
          have n1 : (1 : Int) < 2 * (x.groups : Int) + 2 := by omega
          have n2 : 0 < 2 * x.groups + 2 := by omega
          have n3 : 1 < 2 * x.groups + 2 := by omega
          clear hE hBk hbel hlt hm hG9 f7 hlen hw1 hw2
          go_wp2_with fail
          go_region_held3 (fun w' => w'.cell? ⟨gx, 0, none⟩ = some (.bool x.first) ∧ w'.cell? ⟨gx, 1, none⟩ = some (.bool x.last) ∧ w'.cell? ⟨gx, 2, none⟩ = some (.slice ka kl kc) ∧ w'.cell? ⟨gx, 3, none⟩ = some (.int .i64 x.groups) ∧ w'.cell? ⟨sb, 0, none⟩ = some (.int .i64 (p0 : Nat)) ∧ w'.cell? ⟨sb, 1, none⟩ = some (.int .i64 (q0 : Nat))) (go_keep) ((go_at_call 11; refine (can_any s hs x HZ.out.2.2.1 _ p0 q0 _ (HZ.out.2.1 _ ?_).1).mono ?_; (have h := HX.out; exact ⟨h.os, h.tape, h.output, h.size, h.block⟩); rintro r w5 ⟨b, rfl, hb, hb5⟩; obtain rfl : b = true := hb.2 HZ.out.2.2.2.1; have h5 : Below W2.heap.size W2 w5 := HX.out.trans ((show Below wr.heap.size wr w5 from ⟨hb5.os, hb5.tape, hb5.output, hb5.size, hb5.block⟩).mono HX.out.size); obtain ⟨u0, u1, u2, u3, uf⟩ := (HZ.out.2.1 _ h5).2.four; have v0 : w5.cell? ⟨sb, 0, none⟩ = some (.int .i64 (p0 : Nat)) := (h5.cell hsb).trans HZ.out.2.2.2.2.2.2.1; have v1 : w5.cell? ⟨sb, 1, none⟩ = some (.int .i64 (q0 : Nat)) := (h5.cell hsb).trans HZ.out.2.2.2.2.2.2.2; have HY : Hid (Below w.heap.size w w5) := HZ.out.1.trans (h5.mono HZ.out.1.size); clear hb hb5 h5))
          all_goals go_wp2_with fail
          all_goals go_ret
          all_goals exact ⟨rfl, HY.out⟩
end Go.Proofs.YtpnecblofjpgfaaGreatDoor
