import Derived.Test.YtmjdaifalgpdnaaGreatPriC
namespace Go.Proofs.YtmjdaifalgpdnaaGreat
open Go.RowKit

theorem decS_size (n : Nat) : n < 1000000 → (decS n).size ≤ 6 := by
  have key : ∀ k n : Nat, n < 10 ^ (k + 1) → (decS n).size ≤ k + 1 := by
    intro k
    induction k with
    | zero => intro n hn; rw [decS_digit (by omega)]; exact Nat.le_refl _
    | succ k ih =>
      intro n hn
      by_cases h : n < 10
      · rw [decS_digit h]; show 1 ≤ _; omega
      · rw [decS, if_neg h, ByteArray.size_append]
        have := ih (n / 10) (by rw [Nat.pow_succ] at hn; omega)
        show _ + 1 ≤ _
        omega
  exact key 5 n

theorem i64p (n : Int) (h : -9223372036854775808 ≤ n ∧ n ≤ 9223372036854775807) : IntKind.i64.wrap n = n := by
  simp [IntKind.wrap, IntKind.signed, IntKind.bits]; omega
theorem u8p (n : Int) (h : 0 ≤ n ∧ n < 256) : IntKind.u8.wrap n = n := by
  simp [IntKind.wrap, IntKind.bits, IntKind.signed]; omega
theorem conv_cell {w : World} {g : Nat} {c : Int} (h : w.cell? ⟨g, 0, none⟩ = some (.int .u8 c)) (hc : 0 ≤ c) (hc' : c < 256) : (convert 75 9 (.slice (some ⟨g, 0, none⟩) 1 1)).run Tryz.prog w = .ok (.string ⟨#[byteOf c]⟩) w := by
  have := run_convert_bytes_back (P := Tryz.prog) w 75 9 5 ⟨g, 0, none⟩ 1 [byteOf c] (by kernel_rfl) (by kernel_rfl) (by kernel_rfl) (by
    intro j hj
    have : j = 0 := by simp at hj; omega
    subst this
    exact h.trans (by simp [byteOf_toNat hc hc']))
  simpa using this

set_option maxRecDepth 100000 in
set_option maxHeartbeats 800000 in
theorem decimal_any : ∀ (k n : Nat) (w : World), n < k → n < 1000000 → Calls Tryz.prog 32 #[.int .i64 n] w fun e w' => e = .returned (.string (decS n)) ∧ ∀ b, Kp b w w'
  | 0, _, _, h, _ => by omega
  | k + 1, n, w, hk, hn => by
    by_cases h10 : n < 10
    · go_enter Tryz.func32, Tryz.ntmps32
      have hlt : decide ((n : Int) < 10) = true := by simp; omega
      have hcv := byte_str (48 + n) w (by omega) (by omega)
      have hE := decS_digit h10
      go_wp2_with fail
      go_ret
      exact ⟨by rw [hE]; rfl, fun b => (Kp.refl b w).alloc _⟩
    · go_enter Tryz.func32, Tryz.ntmps32
      have hlt : decide ((n : Int) < 10) = false := by simp; omega
      have hrl : n % 10 < 10 := by omega
      have HE := hide (show decS n = decS (n / 10) ++ ⟨#[byteOf (48 + (n % 10 : Nat))]⟩ by rw [decS, if_neg h10])
      have hdz := decS_size (n / 10) (by omega)
      have hcv := fun w' => byte_str (48 + (n % 10 : Nat)) w' (by omega) (by omega)
      have hone : ByteArray.size ⟨#[byteOf (48 + (n % 10 : Nat))]⟩ = 1 := rfl
      have hadd : ∀ w, (Op.stringOp .add (decS (n / 10)) ⟨#[byteOf (48 + (n % 10 : Nat))]⟩).run Tryz.prog w = .ok (.string (decS (n / 10) ++ ⟨#[byteOf (48 + (n % 10 : Nat))]⟩)) w := fun w => run_string_add_sum w _ _ (by omega)
      clear hone hdz
      generalize hd : n / 10 = d at *
      generalize hm : n % 10 = m at *
      have v1 : IntKind.i64.wrap ((n : Int) / 10) = (d : Int) := (i64p _ (by omega)).trans (by omega)
      have v2 : (n : Int).tmod 10 = (m : Int) := by rw [Int.tmod_eq_emod_of_nonneg (by omega)]; omega
      have v3 : IntKind.i64.wrap (48 + (m : Int)) = 48 + (m : Int) := i64p _ (by omega)
      have v4 : IntKind.u8.wrap (48 + (m : Int)) = 48 + (m : Int) := u8p _ (by omega)
      have HB := hide (Blk.new w #[.int .u8 (48 + (m : Int))] 5).drew
      have hcvd := conv_cell (HB.out.cell 0 rfl) (by omega) (by omega)
      go_wp2_with fail
      go_region_with (go_at_call 32; refine (decimal_any k d _ (by omega) (by omega)).mono ?_; rintro e w1 ⟨rfl, hK1⟩; try (have hcv1 := conv_cell (HB.out.kp (b := w.heap.size + 1) (hK1 _) (by omega) |>.cell 0 rfl) (by omega) (by omega)))
      all_goals
        go_wp2_with fail
        go_ret
        refine ⟨by rw [HE.out]; rfl, fun b => ?_⟩
        first | exact (((Kp.refl b w).drew).trans (hK1 b)).alloc _ | exact (((Kp.refl b w).alloc _).drew).trans (hK1 b)
end Go.Proofs.YtmjdaifalgpdnaaGreat

namespace Go.Proofs.YtmjdaifalgpdnaaGreat
open Go.RowKit

theorem add_run (a b : ByteArray) (h : a.size + b.size ≤ 100000000) : ∀ w, (Op.stringOp .add a b).run Tryz.prog w = .ok (.string (a ++ b)) w := fun w => run_string_add_sum w _ _ (by omega)

theorem decimal_int (n : Int) (w : World) (h0 : 0 ≤ n) (h : n < 1000000) : Calls Tryz.prog 32 #[.int .i64 n] w fun e w' => e = .returned (.string (decS n.toNat)) ∧ ∀ b, Kp b w w' := by
  obtain ⟨m, rfl⟩ : ∃ m : Nat, n = m := ⟨n.toNat, by omega⟩
  exact decimal_any (m + 1) m w (by omega) (by omega)

set_option maxRecDepth 100000 in
set_option maxHeartbeats 800000 in
theorem addrText_any (A : AdT) (x2 x3 x4 x5 : Value) (w : World) (hb : AdB 1048576 A) :
    Calls Tryz.prog 31 #[.agg #[.int .u8 A.kind, .int .i64 A.num, x2, x3, x4, x5, .string A.text]] w fun e w' => e = .returned (.string (addrX A.kind A.num A.text)) ∧ ∀ b, Kp b w w' := by
  obtain ⟨k, n, t⟩ := A
  obtain ⟨h1, h2, h3⟩ := hb
  dsimp only at h1 h2 h3
  have hC := Blk.new w #[.int .u8 k, .int .i64 n, x2, x3, x4, x5, .string t] 59
  have q0 := hC.cell 0 rfl
  have q1 := hC.cell 1 rfl
  have q6 := hC.cell 6 rfl
  have hK : ∀ b, Kp b w (w.alloc (.cells #[.int .u8 k, .int .i64 n, x2, x3, x4, x5, .string t] 59)) := fun b => (Kp.refl b w).alloc _
  by_cases hn : k = 110
  · have HX := hide (show addrX k n t = decS n.toNat by unfold addrX; rw [if_pos hn])
    subst hn
    obtain ⟨m, rfl⟩ : ∃ m : Nat, n = m := ⟨n.toNat, by omega⟩
    go_enter Tryz.func31, Tryz.ntmps31
    go_wp2_with fail
    refine (decimal_any (m + 1) m _ (by omega) (by omega)).mono ?_
    rintro e w1 ⟨rfl, hK1⟩
    go_wp2_with fail
    go_ret
    exact ⟨by rw [HX.out]; simp, fun b => (hK b).trans (hK1 b)⟩
  · by_cases hd : k = 36
    · have HX := hide (show addrX k n t = ⟨#[36]⟩ by unfold addrX; rw [if_neg hn, if_pos hd])
      subst hd
      go_enter Tryz.func31, Tryz.ntmps31
      go_wp2_with fail
      go_ret
      exact ⟨by rw [HX.out]; rfl, hK⟩
    · by_cases hs : k = 47
      · have HX := hide (show addrX k n t = ⟨#[47]⟩ ++ t ++ ⟨#[47]⟩ by unfold addrX; rw [if_neg hn, if_neg hd, if_pos hs])
        subst hs
        have e1 : ByteArray.size ⟨#[47]⟩ = 1 := rfl
        have a1 := add_run ⟨#[47]⟩ t (by omega)
        have a2 := add_run (⟨#[47]⟩ ++ t) ⟨#[47]⟩ (by rw [ByteArray.size_append]; omega)
        go_enter Tryz.func31, Tryz.ntmps31
        go_wp2_with fail
        go_ret
        exact ⟨by rw [HX.out]; rfl, hK⟩
      · have HX := hide (show addrX k n t = ⟨#[]⟩ by unfold addrX; rw [if_neg hn, if_neg hd, if_neg hs])
        have d1 : (k == 110) = false := by simp [hn]
        have d2 : (k == 36) = false := by simp [hd]
        have d3 : (k == 47) = false := by simp [hs]
        go_enter Tryz.func31, Tryz.ntmps31
        go_wp2_with fail
        go_ret
        exact ⟨by rw [HX.out]; rfl, hK⟩

set_option maxRecDepth 100000 in
set_option maxHeartbeats 1600000 in
theorem flags_any (cs : Array Value) (f : Rf) (w : World) (hV : RfV cs f) (hn0 : 0 ≤ f.n) (hn : f.n < 100000) (ht : f.text.size ≤ 1048576) :
    Calls Tryz.prog 33 #[.agg cs] w fun e w' => e = .returned (.string (flagX f)) ∧ ((flagX f).size ≤ 2000000 ∧ ∀ b, Kp b w w') := by
  have hC0 := Blk.new w cs 62
  have hK0 : ∀ b, Kp b w (w.alloc (.cells cs 62)) := fun b => (Kp.refl b w).alloc _
  have q18 := hC0.cell 18 hV.e18
  obtain ⟨N, hN⟩ : ∃ N, N = f.n := ⟨_, rfl⟩
  rw [← hN] at q18 hn0 hn
  obtain ⟨D1, hD1⟩ : ∃ D1, D1 = if 0 < N then decS N.toNat else ⟨#[]⟩ := ⟨_, rfl⟩
  obtain ⟨D2, hD2⟩ : ∃ D2, D2 = if f.g = true then D1 ++ ⟨#[103]⟩ else D1 := ⟨_, rfl⟩
  obtain ⟨D3, hD3⟩ : ∃ D3, D3 = if f.p = true then D2 ++ ⟨#[112]⟩ else D2 := ⟨_, rfl⟩
  obtain ⟨D4, hD4⟩ : ∃ D4, D4 = if f.w = true then D3 ++ ⟨#[119, 32]⟩ ++ f.text else D3 := ⟨_, rfl⟩
  have HFX := hide (show flagX f = D4 by rw [hD4, hD3, hD2, hD1, hN]; rfl)
  clear hN
  have z1 : D1.size ≤ 6 := by
    rw [hD1]; split
    · exact decS_size _ (by omega)
    · exact Nat.zero_le _
  have z2 : D2.size ≤ 7 := by
    rw [hD2]; split
    · rw [ByteArray.size_append]; show D1.size + 1 ≤ 7; omega
    · omega
  have z3 : D3.size ≤ 8 := by
    rw [hD3]; split
    · rw [ByteArray.size_append]; show D2.size + 1 ≤ 8; omega
    · omega
  have z4 : D4.size ≤ 2000000 := by
    rw [hD4]; split
    · rw [ByteArray.size_append, ByteArray.size_append]; show D3.size + 2 + _ ≤ _; omega
    · omega
  have HD1 := hide hD1
  have HD2 := hide hD2
  have HD3 := hide hD3
  have HD4 := hide hD4
  clear hD1 hD2 hD3 hD4
  go_enter Tryz.func33, Tryz.ntmps33
  go_upto_if 6 with fail
  generalize hw0 : w.alloc (.cells cs 62) = w0 at hC0 hK0 q18 ⊢
  clear hw0
  generalize hkb : w.heap.size = kb at hC0 q18 ⊢
  clear hkb
  go_cut [3] (fun v wc => v = .string D1 ∧ Blk wc kb cs 62 ∧ ∀ b, Kp b w wc)
  case first =>
    by_cases hp : 0 < N
    · have HE := hide (show D1 = decS N.toNat by rw [HD1.out, if_pos hp])
      have hd : decide (0 < N) = true := by simp [hp]
      have HN := hide (And.intro hn0 hn)
      clear hn0 hn
      go_wp2_with fail
      refine (decimal_int N _ HN.out.1 (by have := HN.out.2; omega)).mono ?_
      rintro e w1 ⟨rfl, hK1⟩
      go_wp2_with fail
      go_meet
      case rel => exact ⟨by rw [HE.out], hC0.kp (hK1 (kb + 1)) (by omega), fun b => (hK0 b).trans (hK1 b)⟩
    · have HE := hide (show D1 = ⟨#[]⟩ by rw [HD1.out, if_neg hp])
      obtain rfl : N = 0 := by omega
      clear hp
      go_wp2_with fail
      go_meet
      case rel => exact ⟨by rw [HE.out], hC0, hK0⟩
  case rest =>
  obtain ⟨rfl, hC1, hK1⟩ := hcut
  clear q18 hC0 hK0
  have q27 := hC1.cell 27 hV.e27
  go_upto_if 11 with fail
  go_cut [3] (fun v wc => v = .string D2 ∧ Blk wc kb cs 62 ∧ ∀ b, Kp b w wc)
  case first =>
    cases hx : f.g
    · rw [hx] at q27
      have HE := hide (show D2 = D1 by rw [HD2.out, hx]; rfl)
      clear hx
      go_wp2_with fail
      go_meet
      case rel => exact ⟨by rw [HE.out], hC1, hK1⟩
    · rw [hx] at q27
      have HE := hide (show D2 = D1 ++ ⟨#[103]⟩ by rw [HD2.out, hx]; rfl)
      have a1 := add_run D1 ⟨#[103]⟩ (by show D1.size + 1 ≤ _; omega)
      clear hx
      go_wp2_with fail
      go_meet
      case rel => exact ⟨by rw [HE.out], hC1, hK1⟩
  case rest =>
  obtain ⟨rfl, hC2, hK2⟩ := hcut
  clear q27 hC1 hK1
  have q28 := hC2.cell 28 hV.e28
  go_upto_if 15 with fail
  go_cut [3] (fun v wc => v = .string D3 ∧ Blk wc kb cs 62 ∧ ∀ b, Kp b w wc)
  case first =>
    cases hx : f.p
    · rw [hx] at q28
      have HE := hide (show D3 = D2 by rw [HD3.out, hx]; rfl)
      clear hx
      go_wp2_with fail
      go_meet
      case rel => exact ⟨by rw [HE.out], hC2, hK2⟩
    · rw [hx] at q28
      have HE := hide (show D3 = D2 ++ ⟨#[112]⟩ by rw [HD3.out, hx]; rfl)
      have a1 := add_run D2 ⟨#[112]⟩ (by show D2.size + 1 ≤ _; omega)
      clear hx
      go_wp2_with fail
      go_meet
      case rel => exact ⟨by rw [HE.out], hC2, hK2⟩
  case rest =>
  obtain ⟨rfl, hC3, hK3⟩ := hcut
  clear q28 hC2 hK2
  have q29 := hC3.cell 29 hV.e29
  have q17 := hC3.cell 17 hV.e17
  go_upto_if 19 with fail
  go_cut [3] (fun v wc => v = .string D4 ∧ Blk wc kb cs 62 ∧ ∀ b, Kp b w wc)
  case first =>
    cases hx : f.w
    · rw [hx] at q29
      have HE := hide (show D4 = D3 by rw [HD4.out, hx]; rfl)
      clear hx
      go_wp2_with fail
      go_meet
      case rel => exact ⟨by rw [HE.out], hC3, hK3⟩
    · rw [hx] at q29
      have HE := hide (show D4 = D3 ++ ⟨#[119, 32]⟩ ++ f.text by rw [HD4.out, hx]; rfl)
      have a1 := add_run D3 ⟨#[119, 32]⟩ (by show D3.size + 2 ≤ _; omega)
      have a2 := add_run (D3 ++ ⟨#[119, 32]⟩) f.text (by rw [ByteArray.size_append]; show D3.size + 2 + _ ≤ _; omega)
      clear hx
      go_wp2_with fail
      go_meet
      case rel => exact ⟨by rw [HE.out], hC3, hK3⟩
  case rest =>
  obtain ⟨rfl, hC4, hK4⟩ := hcut
  go_wp2_with fail
  go_ret
  exact ⟨by rw [HFX.out]; rfl, by rw [HFX.out]; exact z4, hK4⟩
end Go.Proofs.YtmjdaifalgpdnaaGreat
