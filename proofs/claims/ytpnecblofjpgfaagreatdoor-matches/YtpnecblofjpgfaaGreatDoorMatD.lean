import Derived.Test.YtpnecblofjpgfaaGreatDoorMatC
import Derived.RegionTactic
import Derived.BigRegion
namespace Go.Proofs.YtpnecblofjpgfaaGreatDoor
open Go.RowKit

theorem info88 : (Tryz.prog.info? 88).map (fun i => (i.zero, i.size, i.bytes)) = some (some (.int .u64 0), 1, 8) := by kernel_rfl

/-- 'make(placeSet, m)'. -/
theorem make_words (m : Nat) (h : m ≤ 1048576) (w : World) : (Instr.makeSlice 66 (.int .i64 (m : Int)) (.int .i64 (m : Int))).run Tryz.prog w = .ok (.slice (some ⟨w.heap.size, 0, none⟩) m m) (w.alloc (.cells (Array.replicate m (Value.int .u64 0)) 88)) := by
  have := run_make_row' (P := Tryz.prog) 66 88 (.int .u64 0) 8 Tryz.underlying66 info88 rfl .i64 .i64 m (by omega) (by omega) w
  have e : madeCells #[Value.int .u64 0] m = Array.replicate m (Value.int .u64 0) := by
    apply Array.ext
    · simp [madeCells]
    · intro i h1 h2
      simp [madeCells, Nat.mod_one]
  rw [e] at this
  exact this

theorem zeros_cells (m : Nat) : (Array.replicate m (Value.int .u64 0)).toList = wcells m (fun _ => 0) := by
  apply List.ext_getElem?
  intro j
  by_cases hj : j < m
  · rw [wcells_get hj]; simp [hj]
  · rw [List.getElem?_eq_none (by simp; omega), List.getElem?_eq_none (by rw [wcells_len]; omega)]

theorem words_new (w : World) (m : Nat) (h : m ≤ 1048576) : WordsP (w.alloc (.cells (Array.replicate m (Value.int .u64 0)) 88)) (.slice (some ⟨w.heap.size, 0, none⟩) m m) m (fun _ => 0) := by
  have := World.ownsRow_lit (base := 0) (e := 88) (size := 1) w (Array.replicate m (Value.int .u64 0)) m (Nat.zero_le _) (by unfold maxLen; omega) (by simp)
  rw [zeros_cells] at this
  exact this

set_option maxRecDepth 100000 in
set_option maxHeartbeats 1000000 in
theorem noPlaces_words (w : World) (n : Nat) (hn : n ≤ 60000) :
    Calls Tryz.prog 54 #[.int .i64 (n : Nat)] w fun e w' => e = .returned (.slice (some ⟨w.heap.size, 0, none⟩) (n / 64 + 1) (n / 64 + 1)) ∧ WordsP w' (.slice (some ⟨w.heap.size, 0, none⟩) (n / 64 + 1) (n / 64 + 1)) (n / 64 + 1) (fun _ => 0) ∧ Below w.heap.size w w' := by
  have hmk := make_words (n / 64 + 1) (by omega) w
  have e1 : ((n / 64 + 1 : Nat) : Int) = (n : Int) / 64 + 1 := by omega
  rw [e1] at hmk
  go_enter Tryz.func54, Tryz.ntmps54
  go_wp2_with fail
  go_ret
  exact ⟨rfl, words_new w _ (by omega), (Below.refl _ w).alloc (Nat.le_refl _) _⟩

theorem noPlaces_any (w : World) (n : Nat) (hn : n ≤ 60000) : Calls Tryz.prog 54 #[.int .i64 (n : Nat)] w fun e w' => SetP w n (fun _ => False) e w' := by
  refine (noPlaces_words w n hn).mono ?_
  rintro e w' ⟨rfl, h, hb⟩
  exact ⟨_, rfl, PSet.of h HoldsP.none (fun p => by simp) (fun p hp => hp.elim), hb⟩

set_option maxRecDepth 100000 in
set_option maxHeartbeats 1000000 in
/-- A place more, in the words themselves. -/
theorem add_words (w : World) (g cap m : Nat) (W : Nat → Nat) (q : Nat) (hq : q / 64 < m) (hm : m ≤ 1048576) (hW : ∀ j, W j < 18446744073709551616) (h : WordsP w (.slice (some ⟨g, 0, none⟩) m cap) m W) :
    Calls Tryz.prog 74 #[.slice (some ⟨g, 0, none⟩) m cap, .int .i64 (q : Nat)] w fun e w' => e = .returned (.tuple #[]) ∧ WordsP w' (.slice (some ⟨g, 0, none⟩) m cap) m (putW W (q / 64) (W (q / 64) ||| 2 ^ (q % 64))) ∧ Kp g w w' := by
  have c0 := h.cell hq
  have cf := h.fz (q / 64)
  have HW := hide (h.put (q / 64) (W (q / 64) ||| 2 ^ (q % 64)))
  have hx := hW (q / 64)
  generalize W (q / 64) = x at *
  have hwp := wrap_pow (show q % 64 < 64 by omega)
  have hor : bits .or .u64 (x : Int) ((2 : Int) ^ (q % 64)) = ((x ||| 2 ^ (q % 64) : Nat) : Int) := by
    have := bits_or_u64_nat x (2 ^ (q % 64)) hx (two_pow_lt (by omega))
    rw [← this]; simp
  have hwp : IntKind.u64.wrap ((2 : Int) ^ (q % 64)) = (2 : Int) ^ (q % 64) := by rw [hwp]; simp
  have hd : (q : Int) / 64 < (m : Nat) := by omega
  clear h
  go_enter Tryz.func74, Tryz.ntmps74
  go_wp2_with fail
  go_region
  go_wp2_with fail
  refine bodyPost_end (results_none rfl _ _ _) rfl ?_
  exact ⟨rfl, HW.out, (Kp.refl _ _).drew.set _ _⟩

theorem holdsP_put {W : Nat → Nat} {M : Nat → Bool} (h : HoldsP W M) (q : Nat) : HoldsP (putW W (q / 64) (W (q / 64) ||| 2 ^ (q % 64))) (fun p => M p || decide (p = q)) := by
  have := h.or (HoldsP.one q)
  refine ⟨fun j => ?_, fun p => ?_⟩
  · unfold putW
    split
    · have := this.1 (q / 64); simpa using this
    · exact h.1 j
  · have hp := this.2 p
    rw [← hp]
    unfold putW
    by_cases hj : p / 64 = q / 64
    · rw [if_pos hj]; dsimp only; rw [hj, if_pos rfl]
    · rw [if_neg hj]; dsimp only; rw [if_neg hj]; simp

set_option maxRecDepth 100000 in
set_option maxHeartbeats 1000000 in
theorem onePlace_any (w : World) (q n : Nat) (hq : q ≤ n) (hn : n ≤ 60000) : Calls Tryz.prog 55 #[.int .i64 (q : Nat), .int .i64 (n : Nat)] w fun e w' => SetP w n (fun p => p = q) e w' := by
  go_enter Tryz.func55, Tryz.ntmps55
  go_wp2_with fail
  refine (noPlaces_words w n hn).mono ?_
  rintro e w1 ⟨rfl, h1, hb1⟩
  go_wp2_with fail
  refine (add_words w1 w.heap.size (n / 64 + 1) (n / 64 + 1) (fun _ => 0) q (by omega) (by omega) (fun _ => by decide) h1).mono ?_
  rintro e w2 ⟨rfl, h2, k2⟩
  go_wp2_with fail
  go_ret
  refine ⟨.slice (some ⟨w.heap.size, 0, none⟩) (n / 64 + 1) (n / 64 + 1), rfl, PSet.of h2 (holdsP_put HoldsP.none q) (fun p => by simp) (fun p hp => by omega), ?_⟩
  exact hb1.trans ⟨k2.os, k2.tape, k2.output, k2.size, fun k hk => k2.block k (Nat.lt_of_lt_of_le hk hb1.size) (by omega)⟩

set_option maxRecDepth 100000 in
set_option maxHeartbeats 1000000 in
theorem allPlaces_any (w : World) (n : Nat) (hn : n ≤ 60000) : Calls Tryz.prog 37 #[.int .i64 (n : Nat)] w fun e w' => SetP w n (fun p => p ≤ n) e w' := by
  obtain ⟨m, hm⟩ : ∃ m, m = n / 64 + 1 := ⟨_, rfl⟩
  have HM := hide hm
  go_enter Tryz.func37, Tryz.ntmps37
  go_wp2_with fail
  refine (noPlaces_words w n hn).mono ?_
  rintro e w1 ⟨rfl, h1, hb1⟩
  rw [← hm] at h1 ⊢
  have hb2 := hide hb1
  have hlt : n / 64 < m := by omega
  have hlti : (n : Int) / 64 < (m : Int) := by omega
  have hm2 : m ≤ 1048576 := by omega
  clear hb1 hm
  go_wp2_with fail
  go_loopg [4, 9] m (fun k i c w' => ∃ j : Nat, c = .int .i64 (j : Nat) ∧ j + k = m ∧ WordsP w' (.slice (some ⟨w.heap.size, 0, none⟩) m m) m (partW j (fun _ => 18446744073709551615) (fun _ => 0)) ∧ Below w.heap.size w w')
  case atStart => exact ⟨0, rfl, by omega, by rw [partW_zero]; exact h1, hb2.out⟩
  case round =>
    obtain ⟨j, rfl, hjk, h2, hb⟩ := hrel
    clear h1
    by_cases hj : j < m
    · have hji : (j : Int) < (m : Int) := by omega
      have c1 := h2.cell hj
      have f1 := h2.fz j
      have HP := hide (partW_next j (fun _ => 18446744073709551615) (fun _ => 0))
      go_wp2_with fail
      go_roundg (gk - 1)
      case measure => omega
      case rel =>
        refine ⟨j + 1, by go_num, by omega, ?_, hb.setCell (by simp) _⟩
        rw [← HP.out]
        exact h2.put j _
    · have hjm : j = m := by omega
      subst hjm
      have c1 := h2.cell hlt
      have f1 := h2.fz (n / 64)
      have e1 : partW j (fun _ => 18446744073709551615) (fun _ => 0) (n / 64) = 18446744073709551615 := by unfold partW; rw [if_pos (by omega)]
      rw [e1] at c1
      clear e1
      obtain ⟨k, hk⟩ : ∃ k : Nat, k = 63 - n % 64 := ⟨_, rfl⟩
      have hs : IntKind.i64.wrap (63 - (n : Int) % 64) = (k : Int) := by rw [wrapE _ (by omega) (by omega)]; omega
      have hs' : (63 : Int) - (n : Int) % 64 = (k : Int) := by omega
      have hk64 : k < 64 := by omega
      have HK := hide hk
      clear hk
      go_wp2_with fail
      go_ret
      refine ⟨.slice (some ⟨w.heap.size, 0, none⟩) j j, rfl, ?_, hb.setCell (by simp) _⟩
      have ev : ((18446744073709551615 : Int) / (2 : Int) ^ k) = ((18446744073709551615 >>> k : Nat) : Int) := by
        rw [Nat.shiftRight_eq_div_pow]; simp
      rw [ev]
      have hjj := HM.out
      have hkk := HK.out
      refine PSet.ofm HM.out ((h2.put (n / 64) (18446744073709551615 >>> k)).congr (V := fun j => if j < n / 64 then 18446744073709551615 else if j = n / 64 then 18446744073709551615 >>> (63 - n % 64) else 0) (fun i hi => ?_)) (HoldsP.all n) (fun p => by simp) (fun p hp => hp)
      unfold putW partW
      rw [hkk]
      by_cases h1 : i = n / 64
      · rw [if_pos h1, if_neg (by omega), if_pos h1]
      · rw [if_neg h1, if_pos (by omega), if_pos (by omega)]

set_option maxRecDepth 100000 in
set_option maxHeartbeats 1000000 in
/-- The places right behind these. -/
theorem later_any (w : World) (v : Value) (n : Nat) (R : Nat → Prop) (hn : n ≤ 60000) (hv : PSet w v n R) (hR1 : ∀ p, R p → p < n) :
    Calls Tryz.prog 101 #[v] w fun e w' => SetP w n (fun p => 0 < p ∧ R (p - 1)) e w' := by
  obtain ⟨hR, W, hW, hWl, hWb⟩ := hv
  have HX := hide (And.intro hR1 hWb)
  clear hR hR1 hWb
  obtain ⟨m, hm⟩ : ∃ m, m = n / 64 + 1 := ⟨_, rfl⟩
  rw [← hm] at hW
  have hm2 : m ≤ 1048576 := by omega
  have hm1 : 0 < m := by omega
  have HM := hide hm
  clear hm
  obtain ⟨g2, cap2, rfl, hg2, hc2⟩ := hW.lay hm1
  go_enter Tryz.func101, Tryz.ntmps101
  go_wp2_with fail
  refine (clone_any w _ m W hm1 hm2 hW).mono ?_
  rintro e w1 ⟨v1, rfl, hv1, hb1, hf1⟩
  have hV1 := hW.below hb1
  obtain ⟨g1, cap1, rfl, hg1, hc1⟩ := hv1.lay hm1
  have hf := hf1 g1 rfl
  have HH := hide hb1
  have HWL := hide hWl
  clear hW hb1 hf1 hWl
  go_wp2_with fail
  go_loopg [4, 5, 6, 11] m (fun k cy i x c w' => ∃ j : Nat, c = .int .i64 (j : Nat) ∧ cy = .int .u64 ((if j = 0 then 0 else W (j - 1) >>> 63 : Nat) : Int) ∧ j + k = m ∧ WordsP w' (.slice (some ⟨g1, 0, none⟩) m cap1) m (partW j (fun j => (W j <<< 1) % 18446744073709551616 ||| (if j = 0 then 0 else W (j - 1) >>> 63)) W) ∧ WordsP w' (.slice (some ⟨g2, 0, none⟩) m cap2) m W ∧ Below w.heap.size w w')
  case atStart => exact ⟨0, rfl, by simp, by omega, by rw [partW_zero]; exact hv1, hV1, HH.out⟩
  case round =>
    obtain ⟨j, rfl, rfl, hjk, h1, h2, hb⟩ := hrel
    clear hv1 hV1
    by_cases hj : j < m
    · have hji : (j : Int) < (m : Int) := by omega
      have c1 := h1.cell hj
      have c2 := h2.cell hj
      have f1 := h1.fz j
      have hcl : (if j = 0 then 0 else W (j - 1) >>> 63) < 18446744073709551616 := by
        split
        · decide
        · exact Nat.lt_of_le_of_lt (Nat.shiftRight_le _ _) (HWL.out _)
      have HP := hide (partW_next j (fun j => (W j <<< 1) % 18446744073709551616 ||| (if j = 0 then 0 else W (j - 1) >>> 63)) W)
      generalize hcy : (if j = 0 then 0 else W (j - 1) >>> 63) = cy at *
      clear hcy
      have hwj := HWL.out j
      have HN : Hid ((W j >>> 63 : Nat) = if j + 1 = 0 then 0 else W (j + 1 - 1) >>> 63) := by simp [Hid]
      have hor : bits .or .u64 (IntKind.u64.wrap ((W j : Int) * 2)) (cy : Int) = ((W j <<< 1 % 18446744073709551616 ||| cy : Nat) : Int) := by
        have e1 : IntKind.u64.wrap ((W j : Int) * 2) = ((W j <<< 1 % 18446744073709551616 : Nat) : Int) := by
          rw [IntKind.wrap_u64, Nat.shiftLeft_eq]; omega
        rw [e1, bits_or_u64_nat _ _ (Nat.mod_lt _ (by decide)) hcl]
      have HS : Hid (((W j : Int) / (9223372036854775808 : Int)) = ((W j >>> 63 : Nat) : Int)) := by
        rw [Hid, Nat.shiftRight_eq_div_pow]; omega
      go_wp2_with fail
      go_roundg (gk - 1)
      case measure => omega
      case rel =>
        refine ⟨j + 1, by go_num, by rw [HS.out, HN.out], by omega, ?_, h2.other (by simp [Value.ownBlock]; omega) _, hb.setCell (by simp; omega) _⟩
        rw [← HP.out]
        exact h1.put j _
    · have hjm : j = m := by omega
      subst hjm
      go_wp2_with fail
      go_ret
      refine ⟨.slice (some ⟨g1, 0, none⟩) j cap1, rfl, ?_, hb⟩
      obtain ⟨hR, hWb⟩ := HX.out
      refine PSet.ofm HM.out (h1.congr (V := fun j => (W j <<< 1) % 18446744073709551616 ||| (if j = 0 then 0 else W (j - 1) >>> 63)) (fun i hi => by unfold partW; rw [if_pos (by omega)])) (holds_bits HWL.out).later (fun p => ?_) (fun p hp => ?_)
      · rw [Bool.and_eq_true, decide_eq_true_eq]
        exact and_congr_right fun _ => hWb (p - 1)
      · have := hR _ hp.2; omega

set_option maxRecDepth 100000 in
set_option maxHeartbeats 1000000 in
/-- The places right ahead of these. -/
theorem earlier_any (w : World) (v : Value) (n : Nat) (R : Nat → Prop) (hn : n ≤ 60000) (hv : PSet w v n R) :
    Calls Tryz.prog 99 #[v] w fun e w' => SetP w n (fun p => R (p + 1)) e w' := by
  obtain ⟨hR, W, hW, hWl, hWb⟩ := hv
  have hz : ∀ i, n / 64 + 1 ≤ i → W i = 0 := fun i hi => by
    by_cases h0 : W i = 0
    · exact h0
    · have hl : (W i).log2 < 64 := by rw [Nat.log2_lt h0, ← pow64]; exact hWl i
      have h1 := hWb (i * 64 + (W i).log2)
      rw [show (i * 64 + (W i).log2) / 64 = i by omega, show (i * 64 + (W i).log2) % 64 = (W i).log2 by omega] at h1
      have := hR _ (h1.1 (Nat.testBit_log2 h0))
      omega
  have HX := hide (And.intro hR hWb)
  clear hR hWb
  obtain ⟨m, hm⟩ : ∃ m, m = n / 64 + 1 := ⟨_, rfl⟩
  rw [← hm] at hW hz
  have HZ := hide hz
  have hm2 : m ≤ 1048576 := by omega
  have hm1 : 0 < m := by omega
  have HM := hide hm
  clear hm hz
  obtain ⟨g2, cap2, rfl, hg2, hc2⟩ := hW.lay hm1
  go_enter Tryz.func99, Tryz.ntmps99
  go_wp2_with fail
  refine (clone_any w _ m W hm1 hm2 hW).mono ?_
  rintro e w1 ⟨v1, rfl, hv1, hb1, hf1⟩
  have hV1 := hW.below hb1
  obtain ⟨g1, cap1, rfl, hg1, hc1⟩ := hv1.lay hm1
  have hf := hf1 g1 rfl
  have HH := hide hb1
  have HWL := hide hWl
  clear hW hb1 hf1 hWl
  go_wp2_with fail
  go_loopg [4, 5] m (fun k cy c w' => ∃ U : Nat → Nat, c = .int .i64 ((k : Nat) - 1 : Int) ∧ k ≤ m ∧ cy = .int .u64 (((W k <<< 63) % 18446744073709551616 : Nat) : Int) ∧ WordsP w' (.slice (some ⟨g1, 0, none⟩) m cap1) m U ∧ (∀ j, k ≤ j → j < m → U j = W j >>> 1 ||| (W (j + 1) <<< 63) % 18446744073709551616) ∧ WordsP w' (.slice (some ⟨g2, 0, none⟩) m cap2) m W ∧ Below w.heap.size w w')
  case atStart =>
    refine ⟨W, by go_num, Nat.le_refl _, by rw [HZ.out m (Nat.le_refl _)]; rfl, hv1, fun j h1 h2 => by omega, hV1, HH.out⟩
  case round =>
    obtain ⟨U, rfl, hkm, rfl, h1, hU, h2, hb⟩ := hrel
    clear hv1 hV1
    by_cases hk : 0 < gk
    · obtain ⟨j, rfl⟩ : ∃ j, gk = j + 1 := ⟨gk - 1, by omega⟩
      have hj : j < m := by omega
      have hji : (j : Int) < (m : Int) := by omega
      have c1 := h1.cell hj
      have c2 := h2.cell hj
      have f1 := h1.fz j
      have HU := hide hU
      clear hU
      have hcl : (W (j + 1) <<< 63) % 18446744073709551616 < 18446744073709551616 := Nat.mod_lt _ (by decide)
      have ej : (((j + 1 : Nat) : Int) - 1) = (j : Int) := by omega
      rw [ej]
      have hor : bits .or .u64 ((W j : Int) / (2 : Int)) (((W (j + 1) <<< 63) % 18446744073709551616 : Nat) : Int) = ((W j >>> 1 ||| (W (j + 1) <<< 63) % 18446744073709551616 : Nat) : Int) := by
        have e1 : ((W j : Int) / (2 : Int)) = ((W j >>> 1 : Nat) : Int) := by rw [Nat.shiftRight_eq_div_pow]; omega
        rw [e1, bits_or_u64_nat _ _ (Nat.lt_of_le_of_lt (Nat.shiftRight_le _ _) (HWL.out j)) hcl]
      have HS : Hid (IntKind.u64.wrap ((W j : Int) * (9223372036854775808 : Int)) = ((W j <<< 63 % 18446744073709551616 : Nat) : Int)) := by
        rw [Hid, IntKind.wrap_u64, Nat.shiftLeft_eq]; omega
      obtain ⟨cy, hcy⟩ : ∃ cy, cy = (W (j + 1) <<< 63) % 18446744073709551616 := ⟨_, rfl⟩
      have HCY := hide hcy
      rw [← hcy] at hor hcl ⊢
      clear hcy
      go_wp2_with fail
      go_roundg j
      case measure => omega
      case rel =>
        refine ⟨putW U j (W j >>> 1 ||| cy), rfl, by omega, by rw [HS.out], h1.put j _, fun i hi1 hi2 => ?_, h2.other (by simp [Value.ownBlock]; omega) _, hb.setCell (by simp; omega) _⟩
        unfold putW
        by_cases hij : i = j
        · subst hij; rw [if_pos rfl, HCY.out]
        · rw [if_neg hij]; exact HU.out i (by omega) hi2
    · obtain rfl : gk = 0 := by omega
      go_wp2_with fail
      go_ret
      refine ⟨.slice (some ⟨g1, 0, none⟩) m cap1, rfl, ?_, hb⟩
      obtain ⟨hR, hWb⟩ := HX.out
      refine PSet.ofm HM.out (h1.congr (V := fun j => W j >>> 1 ||| (W (j + 1) <<< 63) % 18446744073709551616) (fun i hi => hU i (Nat.zero_le _) hi)) (holds_bits HWL.out).earlier (fun p => ?_) (fun p hp => ?_)
      · exact hWb (p + 1)
      · have := hR _ hp; omega
end Go.Proofs.YtpnecblofjpgfaaGreatDoor
