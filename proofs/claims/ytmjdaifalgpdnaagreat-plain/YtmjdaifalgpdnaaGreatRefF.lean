import Derived.Test.YtmjdaifalgpdnaaGreatRefE
namespace Go.Proofs.YtmjdaifalgpdnaaGreat
open Go.RowKit

def boundsS (s : ByteArray) (st : St) : (Int × Int) × St :=
  if (digitS s 48 st).2.bad = false ∧ isB s (digitS s 48 st).2 44 = true then
    if isB s (adv (digitS s 48 st).2) 92 = true then (((digitS s 48 st).1, -1), eatIf s 125 (eatIf s 92 (adv (digitS s 48 st).2)))
    else (((digitS s 48 st).1, (digitS s (48 + (digitS s 48 st).1) (adv (digitS s 48 st).2)).1), eatIf s 125 (eatIf s 92 (digitS s (48 + (digitS s 48 st).1) (adv (digitS s 48 st).2)).2))
  else (((digitS s 48 st).1, (digitS s 48 st).1), eatIf s 125 (eatIf s 92 (digitS s 48 st).2))

theorem digit_lo (s : ByteArray) (st : St) : 0 ≤ (digitS s 48 st).1 := by unfold digitS; split <;> simp; omega
theorem digit_hi (s : ByteArray) (lo : Int) (st : St) : (digitS s lo st).1 ≤ 9 := by unfold digitS; split <;> simp; omega
theorem digit_le (s : ByteArray) (lo : Int) (st : St) (h : st.i ≤ s.size) : (digitS s lo st).2.i ≤ s.size := by
  unfold digitS; split
  · next h => have := peekOk_lt h.1; simp; omega
  · exact h
theorem digit_ge (s : ByteArray) (lo : Int) (st : St) : st.i ≤ (digitS s lo st).2.i := by
  unfold digitS; split <;> simp
theorem digit_g (s : ByteArray) (lo : Int) (st : St) : (digitS s lo st).2.g = st.g := by
  unfold digitS; split <;> simp
theorem eat_le (s : ByteArray) (c : Int) (st : St) (h : st.i ≤ s.size) : (eatS s c st).i ≤ s.size := by
  unfold eatS; split
  · next h => have := peekOk_lt (isB_ok h); simp; omega
  · exact h
theorem eat_ge (s : ByteArray) (c : Int) (st : St) : st.i ≤ (eatS s c st).i := by unfold eatS; split <;> simp
theorem eat_g (s : ByteArray) (c : Int) (st : St) : (eatS s c st).g = st.g := by unfold eatS; split <;> simp
theorem eatIf_bad {s : ByteArray} {c : Int} {st : St} (h : st.bad = true) : eatIf s c st = st := by simp [eatIf, h]
theorem eatIf_ok {s : ByteArray} {c : Int} {st : St} (h : st.bad = false) : eatIf s c st = eatS s c st := by simp [eatIf, h]
theorem eatIf_le (s : ByteArray) (c : Int) (st : St) (h : st.i ≤ s.size) : (eatIf s c st).i ≤ s.size := by unfold eatIf; split; exact h; exact eat_le s c st h
theorem eatIf_ge (s : ByteArray) (c : Int) (st : St) : st.i ≤ (eatIf s c st).i := by unfold eatIf; split; exact Nat.le_refl _; exact eat_ge s c st
theorem eatIf_g (s : ByteArray) (c : Int) (st : St) : (eatIf s c st).g = st.g := by unfold eatIf; split; rfl; exact eat_g s c st

set_option maxHeartbeats 1600000 in
theorem bounds_any (b : Nat) (s : ByteArray) (st : St) (g0 m0 x0 : Int) (ka : Option Addr) (kl kc : Nat) (neg : Bool) (ps : ByteArray) (w : World) (h : RD w b s st) (hs : s.size ≤ 1048576) (hi : st.i ≤ s.size) :
    Calls Tryz.prog 95 #[.pointer (some ⟨b, 0, none⟩), .agg #[.int .i64 g0, .slice ka kl kc, .bool neg, .string ps, .int .i64 m0, .int .i64 x0]] w fun e w' =>
      e = .returned (.agg #[.int .i64 g0, .slice ka kl kc, .bool neg, .string ps, .int .i64 (boundsS s st).1.1, .int .i64 (boundsS s st).1.2]) ∧ RD w' b s (boundsS s st).2 ∧ Kp b w w' := by
  have hbl := h.lt
  have d1 := digit_lo s st
  have d2 := digit_hi s 48 st
  have d3 := digit_le s 48 st hi
  go_enter Tryz.func95, Tryz.ntmps95
  go_wp2_with fail
  refine (digit_any b s st _ _ ((h.alloc _).alloc _) hs).mono ?_
  rintro e w1 ⟨rfl, R1, K1⟩
  have K0 : Kp b w w1 := (((Kp.refl b w).alloc _).alloc _).trans K1
  have P1 := ((Blk.new w #[.int .i64 g0, .slice ka kl kc, .bool neg, .string ps, .int .i64 m0, .int .i64 x0] 151).alloc (.cells #[.int .i64 0, .slice none 0 0, .bool false, .string ⟨#[]⟩, .int .i64 0, .int .i64 0] 151)).kp K1 (by omega)
  have Q1 := (Blk.newAt (w := w.alloc (.cells #[.int .i64 g0, .slice ka kl kc, .bool neg, .string ps, .int .i64 m0, .int .i64 x0] 151)) (k := w.heap.size + 1) (c := #[.int .i64 0, .slice none 0 0, .bool false, .string ⟨#[]⟩, .int .i64 0, .int .i64 0]) (t := 151) (by simp)).kp K1 (by omega)
  clear h K1
  obtain ⟨st1, hst1⟩ : ∃ st1, (digitS s 48 st).2 = st1 := ⟨_, rfl⟩
  obtain ⟨mn, hmn⟩ : ∃ mn, (digitS s 48 st).1 = mn := ⟨_, rfl⟩
  have HM : Hid ((digitS s 48 st).2 = st1 ∧ (digitS s 48 st).1 = mn) := ⟨hst1, hmn⟩
  rw [hst1] at R1 d3
  rw [hmn] at d1 d2 ⊢
  clear hst1 hmn
  cases hb : st1.bad
  · have r1 := R1.c1
    have r2 := R1.c2
    have rf := R1.fz
    obtain ⟨a0, a1, a2, a3, a4, a5, af⟩ := P1.six
    obtain ⟨z0, z1, z2, z3, z4, z5, zf⟩ := Q1.six
    rw [hb] at r2
    have HB : Hid (st1.bad = false) := hb
    clear hb
    cases hc : isB s st1 44
    · have HC : Hid (isB s st1 44 = false) := hc
      clear hc
      have HE : Hid (boundsS s st = ((mn, mn), eatIf s 125 (eatIf s 92 st1))) := by simp [Hid, boundsS, HM.out.1, HM.out.2, HB.out, HC.out]
      go_wp2_with fail
      refine (is_of HC.out ((R1.other (p := ⟨w.heap.size, 4, none⟩) (by simp; omega) (.int .i64 mn)).other (p := ⟨w.heap.size, 5, none⟩) (by simp; omega) (.int .i64 mn)) hs).mono ?_
      rintro e w1 ⟨rfl, m, rfl⟩
      have R9 := ((R1.other (p := ⟨w.heap.size, 4, none⟩) (by simp; omega) (.int .i64 mn)).other (p := ⟨w.heap.size, 5, none⟩) (by simp; omega) (.int .i64 mn)).drewN m
      have K9 := ((K0.setNew (p := ⟨w.heap.size, 4, none⟩) (by simp) (.int .i64 mn)).setNew (p := ⟨w.heap.size, 5, none⟩) (by simp) (.int .i64 mn)).drewN m
      have B9 := ((Q1.other (p := ⟨w.heap.size, 4, none⟩) (by simp) (.int .i64 mn)).other (p := ⟨w.heap.size, 5, none⟩) (by simp) (.int .i64 mn)).drewN m
      have C9 := ((P1.set 4 (.int .i64 mn) rfl).set 5 (.int .i64 mn) rfl).drewN m
      clear HC
      cases hx : st1.bad
      · have t2 := R9.c2
        rw [hx] at t2
        have tf := R9.fz
        have HX : Hid (st1.bad = false) := hx
        clear hx
        obtain ⟨x0, x1, x2, x3, x4, x5, xf⟩ := B9.six
        obtain ⟨y0, y1, y2, y3, y4, y5, yf⟩ := C9.six
        go_wp2_with fail
        refine (eat_any b s st1 _ _ R9 hs).mono ?_
        rintro e w1 ⟨rfl, RA, KA⟩
        have BA := B9.kp KA (by omega)
        have BB := C9.kp KA (by omega)
        obtain ⟨p0, p1, p2, p3, p4, p5, pf⟩ := BA.six
        obtain ⟨q0, q1, q2, q3, q4, q5, qf⟩ := BB.six
        cases hy : (eatS s 92 st1).bad
        · have u2 := RA.c2
          rw [hy] at u2
          have uf := RA.fz
          have HY : Hid ((eatS s 92 st1).bad = false) := hy
          clear hy
          go_wp2_with fail
          refine (eat_any b s (eatS s 92 st1) _ _ RA hs).mono ?_
          rintro e w1 ⟨rfl, RC, KC⟩
          have BC := BA.kp KC (by omega)
          have BD := BB.kp KC (by omega)
          obtain ⟨m0, m1, m2, m3, m4, m5, mf⟩ := BC.six
          obtain ⟨n0, n1, n2, n3, n4, n5, nf⟩ := BD.six
          go_wp2_with fail
          refine bodyPost_ret (ret_part Tryz.results95 rfl (BC.put6 _ _ _ _ _ _)) rfl ⟨?_, ?_, ?_⟩
          · rw [HE.out]
          · rw [HE.out]; simp only [eatIf_ok HX.out, eatIf_ok HY.out]; exact RC.put6 (by omega) _ _ _ _ _ _
          · exact ((K9.trans KA).trans KC).put6 (by simp) _ _ _ _ _ _
        · have u2 := RA.c2
          rw [hy] at u2
          have uf := RA.fz
          have HY : Hid ((eatS s 92 st1).bad = true) := hy
          clear hy
          go_wp2_with fail
          refine bodyPost_ret (ret_part Tryz.results95 rfl (BA.put6 _ _ _ _ _ _)) rfl ⟨?_, ?_, ?_⟩
          · rw [HE.out]
          · rw [HE.out]; simp only [eatIf_ok HX.out, eatIf_bad HY.out]; exact RA.put6 (by omega) _ _ _ _ _ _
          · exact (K9.trans KA).put6 (by simp) _ _ _ _ _ _
      · have t2 := R9.c2
        rw [hx] at t2
        have tf := R9.fz
        have HX : Hid (st1.bad = true) := hx
        clear hx
        obtain ⟨x0, x1, x2, x3, x4, x5, xf⟩ := B9.six
        obtain ⟨y0, y1, y2, y3, y4, y5, yf⟩ := C9.six
        go_wp2_with fail
        refine bodyPost_ret (ret_part Tryz.results95 rfl (B9.put6 _ _ _ _ _ _)) rfl ⟨?_, ?_, ?_⟩
        · rw [HE.out]
        · rw [HE.out]; simp only [eatIf_bad HX.out]; exact R9.put6 (by omega) _ _ _ _ _ _
        · exact K9.put6 (by simp) _ _ _ _ _ _
    · have HC : Hid (isB s st1 44 = true) := hc
      have hlt : st1.i < s.size := peekOk_lt (isB_ok hc)
      clear hc
      cases hd : isB s (adv st1) 92
      · have HD : Hid (isB s (adv st1) 92 = false) := hd
        clear hd
        have HE : Hid (boundsS s st = ((mn, (digitS s (48 + mn) (adv st1)).1), eatIf s 125 (eatIf s 92 (digitS s (48 + mn) (adv st1)).2))) := by simp [Hid, boundsS, HM.out.1, HM.out.2, HB.out, HC.out, HD.out]
        go_wp2_with fail
        refine (is_of HC.out ((R1.other (p := ⟨w.heap.size, 4, none⟩) (by simp; omega) (.int .i64 mn)).other (p := ⟨w.heap.size, 5, none⟩) (by simp; omega) (.int .i64 mn)) hs).mono ?_
        rintro e w1 ⟨rfl, m, rfl⟩
        have x1 := R1.c1
        go_wp2_with fail
        refine (is_of HD.out (((((R1.other (p := ⟨w.heap.size, 4, none⟩) (by simp; omega) (.int .i64 mn)).other (p := ⟨w.heap.size, 5, none⟩) (by simp; omega) (.int .i64 mn)).drewN m).adv (i := (st1.i : Int) + 1) rfl).other (p := ⟨w.heap.size, 5, none⟩) (by simp; omega) (.int .i64 (-1))) hs).mono ?_
        rintro e w1 ⟨rfl, m2, rfl⟩
        have y4 := ((((((P1.set 4 (.int .i64 mn) rfl).set 5 (.int .i64 mn) rfl).drewN m).other (p := ⟨b, 1, none⟩) (by simp; omega) (.int .i64 ((st1.i : Int) + 1))).set 5 (.int .i64 (-1)) rfl).drewN m2).cell 4 rfl
        go_wp2_with fail
        refine (digit_any b s (adv st1) _ _ ((((((R1.other (p := ⟨w.heap.size, 4, none⟩) (by simp; omega) (.int .i64 mn)).other (p := ⟨w.heap.size, 5, none⟩) (by simp; omega) (.int .i64 mn)).drewN m).adv (i := (st1.i : Int) + 1) rfl).other (p := ⟨w.heap.size, 5, none⟩) (by simp; omega) (.int .i64 (-1))).drewN m2) hs).mono ?_
        rintro e w1 ⟨rfl, R5, K5⟩
        have P5 := ((((((P1.set 4 (.int .i64 mn) rfl).set 5 (.int .i64 mn) rfl).drewN m).other (p := ⟨b, 1, none⟩) (by simp; omega) (.int .i64 ((st1.i : Int) + 1))).set 5 (.int .i64 (-1)) rfl).drewN m2).kp K5 (by omega)
        have Q5 := ((((((Q1.other (p := ⟨w.heap.size, 4, none⟩) (by simp) (.int .i64 mn)).other (p := ⟨w.heap.size, 5, none⟩) (by simp) (.int .i64 mn)).drewN m).other (p := ⟨b, 1, none⟩) (by simp; omega) (.int .i64 ((st1.i : Int) + 1))).other (p := ⟨w.heap.size, 5, none⟩) (by simp) (.int .i64 (-1))).drewN m2).kp K5 (by omega)
        obtain ⟨g0, g1, g2, g3, g4, g5, gf⟩ := P5.six
        have R9 := R5.other (p := ⟨w.heap.size, 5, none⟩) (by simp; omega) (.int .i64 (digitS s (48 + mn) (adv st1)).1)
        have K9 := (((((((K0.setNew (p := ⟨w.heap.size, 4, none⟩) (by simp) (.int .i64 mn)).setNew (p := ⟨w.heap.size, 5, none⟩) (by simp) (.int .i64 mn)).drewN m).set 1 (.int .i64 ((st1.i : Int) + 1))).setNew (p := ⟨w.heap.size, 5, none⟩) (by simp) (.int .i64 (-1))).drewN m2).trans K5).setNew (p := ⟨w.heap.size, 5, none⟩) (by simp) (.int .i64 (digitS s (48 + mn) (adv st1)).1)
        have B9 := Q5.other (p := ⟨w.heap.size, 5, none⟩) (by simp) (.int .i64 (digitS s (48 + mn) (adv st1)).1)
        have C9 := P5.set 5 (.int .i64 (digitS s (48 + mn) (adv st1)).1) rfl
        cases hx : (digitS s (48 + mn) (adv st1)).2.bad
        · have t2 := R9.c2
          rw [hx] at t2
          have tf := R9.fz
          have HX : Hid ((digitS s (48 + mn) (adv st1)).2.bad = false) := hx
          clear hx
          obtain ⟨x0, x1, x2, x3, x4, x5, xf⟩ := B9.six
          obtain ⟨y0, y1, y2, y3, y4, y5, yf⟩ := C9.six
          go_wp2_with fail
          refine (eat_any b s (digitS s (48 + mn) (adv st1)).2 _ _ R9 hs).mono ?_
          rintro e w1 ⟨rfl, RA, KA⟩
          have BA := B9.kp KA (by omega)
          have BB := C9.kp KA (by omega)
          obtain ⟨p0, p1, p2, p3, p4, p5, pf⟩ := BA.six
          obtain ⟨q0, q1, q2, q3, q4, q5, qf⟩ := BB.six
          cases hy : (eatS s 92 (digitS s (48 + mn) (adv st1)).2).bad
          · have u2 := RA.c2
            rw [hy] at u2
            have uf := RA.fz
            have HY : Hid ((eatS s 92 (digitS s (48 + mn) (adv st1)).2).bad = false) := hy
            clear hy
            go_wp2_with fail
            refine (eat_any b s (eatS s 92 (digitS s (48 + mn) (adv st1)).2) _ _ RA hs).mono ?_
            rintro e w1 ⟨rfl, RC, KC⟩
            have BC := BA.kp KC (by omega)
            have BD := BB.kp KC (by omega)
            obtain ⟨m0, m1, m2, m3, m4, m5, mf⟩ := BC.six
            obtain ⟨n0, n1, n2, n3, n4, n5, nf⟩ := BD.six
            go_wp2_with fail
            refine bodyPost_ret (ret_part Tryz.results95 rfl (BC.put6 _ _ _ _ _ _)) rfl ⟨?_, ?_, ?_⟩
            · rw [HE.out]
            · rw [HE.out]; simp only [eatIf_ok HX.out, eatIf_ok HY.out]; exact RC.put6 (by omega) _ _ _ _ _ _
            · exact ((K9.trans KA).trans KC).put6 (by simp) _ _ _ _ _ _
          · have u2 := RA.c2
            rw [hy] at u2
            have uf := RA.fz
            have HY : Hid ((eatS s 92 (digitS s (48 + mn) (adv st1)).2).bad = true) := hy
            clear hy
            go_wp2_with fail
            refine bodyPost_ret (ret_part Tryz.results95 rfl (BA.put6 _ _ _ _ _ _)) rfl ⟨?_, ?_, ?_⟩
            · rw [HE.out]
            · rw [HE.out]; simp only [eatIf_ok HX.out, eatIf_bad HY.out]; exact RA.put6 (by omega) _ _ _ _ _ _
            · exact (K9.trans KA).put6 (by simp) _ _ _ _ _ _
        · have t2 := R9.c2
          rw [hx] at t2
          have tf := R9.fz
          have HX : Hid ((digitS s (48 + mn) (adv st1)).2.bad = true) := hx
          clear hx
          obtain ⟨x0, x1, x2, x3, x4, x5, xf⟩ := B9.six
          obtain ⟨y0, y1, y2, y3, y4, y5, yf⟩ := C9.six
          go_wp2_with fail
          refine bodyPost_ret (ret_part Tryz.results95 rfl (B9.put6 _ _ _ _ _ _)) rfl ⟨?_, ?_, ?_⟩
          · rw [HE.out]
          · rw [HE.out]; simp only [eatIf_bad HX.out]; exact R9.put6 (by omega) _ _ _ _ _ _
          · exact K9.put6 (by simp) _ _ _ _ _ _
      · have HD : Hid (isB s (adv st1) 92 = true) := hd
        clear hd
        have HE : Hid (boundsS s st = ((mn, -1), eatIf s 125 (eatIf s 92 (adv st1)))) := by simp [Hid, boundsS, HM.out.1, HM.out.2, HB.out, HC.out, HD.out]
        go_wp2_with fail
        refine (is_of HC.out ((R1.other (p := ⟨w.heap.size, 4, none⟩) (by simp; omega) (.int .i64 mn)).other (p := ⟨w.heap.size, 5, none⟩) (by simp; omega) (.int .i64 mn)) hs).mono ?_
        rintro e w1 ⟨rfl, m, rfl⟩
        have x1 := R1.c1
        go_wp2_with fail
        refine (is_of HD.out (((((R1.other (p := ⟨w.heap.size, 4, none⟩) (by simp; omega) (.int .i64 mn)).other (p := ⟨w.heap.size, 5, none⟩) (by simp; omega) (.int .i64 mn)).drewN m).adv (i := (st1.i : Int) + 1) rfl).other (p := ⟨w.heap.size, 5, none⟩) (by simp; omega) (.int .i64 (-1))) hs).mono ?_
        rintro e w1 ⟨rfl, m2, rfl⟩
        have R9 := (((((R1.other (p := ⟨w.heap.size, 4, none⟩) (by simp; omega) (.int .i64 mn)).other (p := ⟨w.heap.size, 5, none⟩) (by simp; omega) (.int .i64 mn)).drewN m).adv (i := (st1.i : Int) + 1) rfl).other (p := ⟨w.heap.size, 5, none⟩) (by simp; omega) (.int .i64 (-1))).drewN m2
        have K9 := (((((K0.setNew (p := ⟨w.heap.size, 4, none⟩) (by simp) (.int .i64 mn)).setNew (p := ⟨w.heap.size, 5, none⟩) (by simp) (.int .i64 mn)).drewN m).set 1 (.int .i64 ((st1.i : Int) + 1))).setNew (p := ⟨w.heap.size, 5, none⟩) (by simp) (.int .i64 (-1))).drewN m2
        have B9 := (((((Q1.other (p := ⟨w.heap.size, 4, none⟩) (by simp) (.int .i64 mn)).other (p := ⟨w.heap.size, 5, none⟩) (by simp) (.int .i64 mn)).drewN m).other (p := ⟨b, 1, none⟩) (by simp; omega) (.int .i64 ((st1.i : Int) + 1))).other (p := ⟨w.heap.size, 5, none⟩) (by simp) (.int .i64 (-1))).drewN m2
        have C9 := (((((P1.set 4 (.int .i64 mn) rfl).set 5 (.int .i64 mn) rfl).drewN m).other (p := ⟨b, 1, none⟩) (by simp; omega) (.int .i64 ((st1.i : Int) + 1))).set 5 (.int .i64 (-1)) rfl).drewN m2
        cases hx : (adv st1).bad
        · have t2 := R9.c2
          rw [hx] at t2
          have tf := R9.fz
          have HX : Hid ((adv st1).bad = false) := hx
          clear hx
          obtain ⟨x0, x1, x2, x3, x4, x5, xf⟩ := B9.six
          obtain ⟨y0, y1, y2, y3, y4, y5, yf⟩ := C9.six
          go_wp2_with fail
          refine (eat_any b s (adv st1) _ _ R9 hs).mono ?_
          rintro e w1 ⟨rfl, RA, KA⟩
          have BA := B9.kp KA (by omega)
          have BB := C9.kp KA (by omega)
          obtain ⟨p0, p1, p2, p3, p4, p5, pf⟩ := BA.six
          obtain ⟨q0, q1, q2, q3, q4, q5, qf⟩ := BB.six
          cases hy : (eatS s 92 (adv st1)).bad
          · have u2 := RA.c2
            rw [hy] at u2
            have uf := RA.fz
            have HY : Hid ((eatS s 92 (adv st1)).bad = false) := hy
            clear hy
            go_wp2_with fail
            refine (eat_any b s (eatS s 92 (adv st1)) _ _ RA hs).mono ?_
            rintro e w1 ⟨rfl, RC, KC⟩
            have BC := BA.kp KC (by omega)
            have BD := BB.kp KC (by omega)
            obtain ⟨m0, m1, m2, m3, m4, m5, mf⟩ := BC.six
            obtain ⟨n0, n1, n2, n3, n4, n5, nf⟩ := BD.six
            go_wp2_with fail
            refine bodyPost_ret (ret_part Tryz.results95 rfl (BC.put6 _ _ _ _ _ _)) rfl ⟨?_, ?_, ?_⟩
            · rw [HE.out]
            · rw [HE.out]; simp only [eatIf_ok HX.out, eatIf_ok HY.out]; exact RC.put6 (by omega) _ _ _ _ _ _
            · exact ((K9.trans KA).trans KC).put6 (by simp) _ _ _ _ _ _
          · have u2 := RA.c2
            rw [hy] at u2
            have uf := RA.fz
            have HY : Hid ((eatS s 92 (adv st1)).bad = true) := hy
            clear hy
            go_wp2_with fail
            refine bodyPost_ret (ret_part Tryz.results95 rfl (BA.put6 _ _ _ _ _ _)) rfl ⟨?_, ?_, ?_⟩
            · rw [HE.out]
            · rw [HE.out]; simp only [eatIf_ok HX.out, eatIf_bad HY.out]; exact RA.put6 (by omega) _ _ _ _ _ _
            · exact (K9.trans KA).put6 (by simp) _ _ _ _ _ _
        · have t2 := R9.c2
          rw [hx] at t2
          have tf := R9.fz
          have HX : Hid ((adv st1).bad = true) := hx
          clear hx
          obtain ⟨x0, x1, x2, x3, x4, x5, xf⟩ := B9.six
          obtain ⟨y0, y1, y2, y3, y4, y5, yf⟩ := C9.six
          go_wp2_with fail
          refine bodyPost_ret (ret_part Tryz.results95 rfl (B9.put6 _ _ _ _ _ _)) rfl ⟨?_, ?_, ?_⟩
          · rw [HE.out]
          · rw [HE.out]; simp only [eatIf_bad HX.out]; exact R9.put6 (by omega) _ _ _ _ _ _
          · exact K9.put6 (by simp) _ _ _ _ _ _
  · have r1 := R1.c1
    have r2 := R1.c2
    have rf := R1.fz
    obtain ⟨a0, a1, a2, a3, a4, a5, af⟩ := P1.six
    obtain ⟨z0, z1, z2, z3, z4, z5, zf⟩ := Q1.six
    rw [hb] at r2
    have HB : Hid (st1.bad = true) := hb
    clear hb
    have HE : Hid (boundsS s st = ((mn, mn), eatIf s 125 (eatIf s 92 st1))) := by simp [Hid, boundsS, HM.out.1, HM.out.2, HB.out]
    have R9 := ((R1.other (p := ⟨w.heap.size, 4, none⟩) (by simp; omega) (.int .i64 mn)).other (p := ⟨w.heap.size, 5, none⟩) (by simp; omega) (.int .i64 mn))
    have K9 := ((K0.setNew (p := ⟨w.heap.size, 4, none⟩) (by simp) (.int .i64 mn)).setNew (p := ⟨w.heap.size, 5, none⟩) (by simp) (.int .i64 mn))
    have B9 := ((Q1.other (p := ⟨w.heap.size, 4, none⟩) (by simp) (.int .i64 mn)).other (p := ⟨w.heap.size, 5, none⟩) (by simp) (.int .i64 mn))
    have C9 := ((P1.set 4 (.int .i64 mn) rfl).set 5 (.int .i64 mn) rfl)
    go_wp2_with fail
    refine bodyPost_ret (ret_part Tryz.results95 rfl (B9.put6 _ _ _ _ _ _)) rfl ⟨?_, ?_, ?_⟩
    · rw [HE.out]
    · rw [HE.out]; simp only [eatIf_bad HB.out]; exact R9.put6 (by omega) _ _ _ _ _ _
    · exact K9.put6 (by simp) _ _ _ _ _ _

end Go.Proofs.YtmjdaifalgpdnaaGreat
