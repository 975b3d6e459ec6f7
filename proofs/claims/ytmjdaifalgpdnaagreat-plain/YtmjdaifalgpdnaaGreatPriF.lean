import Derived.Test.YtmjdaifalgpdnaaGreatPriE
import Derived.Test.YtmjdaifalgpdnaaGreatScrK
import Derived.Test.YtmjdaifalgpdnaaGreatPscP
import Derived.Deep.MidRow
namespace Go.Proofs.YtmjdaifalgpdnaaGreat
open Go.RowKit

theorem infoAddr : (Tryz.prog.info? 59).map (·.size) = some 7 := by kernel_rfl
theorem rowAddr : ∃ d, Tryz.prog.underlying 59 = some d ∧ d.isRow = true := ⟨_, Tryz.underlying59, rfl⟩

theorem range_seven {w : World} {k o : Nat} {cs : Array Value} {v0 v1 v2 v3 v4 v5 v6 : Value} (h : Blk w k cs 62) (h0 : cs[o]? = some v0) (h1 : cs[o + 1]? = some v1) (h2 : cs[o + 2]? = some v2) (h3 : cs[o + 3]? = some v3) (h4 : cs[o + 4]? = some v4) (h5 : cs[o + 5]? = some v5) (h6 : cs[o + 6]? = some v6) :
    w.rangeAt k o [v0, v1, v2, v3, v4, v5, v6] := fun j v hv => by
  rw [cell_of_row w k (o + j) cs 62 (0, 0) h]
  match j, hv with
  | 0, hv => simpa using h0.trans (by simpa using hv)
  | 1, hv => exact h1.trans (by simpa using hv)
  | 2, hv => exact h2.trans (by simpa using hv)
  | 3, hv => exact h3.trans (by simpa using hv)
  | 4, hv => exact h4.trans (by simpa using hv)
  | 5, hv => exact h5.trans (by simpa using hv)
  | 6, hv => exact h6.trans (by simpa using hv)
  | j + 7, hv => simp at hv

theorem if_size {p : Prop} [Decidable p] {a b : ByteArray} {n : Nat} (ha : a.size ≤ n) (hb : b.size ≤ n) : (if p then a else b).size ≤ n := by split <;> assumption
theorem app_size {a b : ByteArray} {m n k : Nat} (ha : a.size ≤ m) (hb : b.size ≤ n) (hk : m + n ≤ k) : (a ++ b).size ≤ k := by rw [ByteArray.size_append]; omega
theorem flagX_size (f : Rf) (h0 : 0 ≤ f.n) (h1 : f.n < 100000) (ht : f.text.size ≤ 1048576) : (flagX f).size ≤ 2000000 := by
  have d1 := decS_size f.n.toNat (by omega)
  have z1 : (if 0 < f.n then decS f.n.toNat else ⟨#[]⟩).size ≤ 6 := if_size d1 (Nat.zero_le _)
  unfold flagX
  dsimp only
  generalize (if 0 < f.n then decS f.n.toNat else ⟨#[]⟩) = a at *
  have z2 : (if f.g = true then a ++ ⟨#[103]⟩ else a).size ≤ 7 := if_size (app_size (n := 1) z1 (Nat.le_refl _) (by omega)) (by omega)
  generalize (if f.g = true then a ++ ⟨#[103]⟩ else a) = b at *
  have z3 : (if f.p = true then b ++ ⟨#[112]⟩ else b).size ≤ 8 := if_size (app_size (n := 1) z2 (Nat.le_refl _) (by omega)) (by omega)
  generalize (if f.p = true then b ++ ⟨#[112]⟩ else b) = c at *
  exact if_size (app_size (m := 10) (app_size (n := 2) z3 (Nat.le_refl _) (by omega)) ht (by omega)) (by omega)
theorem restX_size (op : Int) (f : Rf) (h0 : 0 ≤ f.n) (h1 : f.n < 100000) (ht : f.text.size ≤ 1048576) (h24 : f.tt.size ≤ 1048576) (h25 : f.r.size ≤ 1048576) : (restX op f).size ≤ 6000000 := by
  have d1 := decS_size f.n.toNat (by omega)
  have e1 := flagX_size f h0 h1 ht
  have e2 := ext_size f.text 0 (f.text.size / 2)
  have e3 := ext_size f.text (f.text.size / 2) f.text.size
  unfold restX
  refine if_size (app_size (m := 1) (Nat.le_refl _) ht (by omega)) (if_size (by omega) (if_size (if_size (Nat.zero_le _) (app_size (m := 1) (Nat.le_refl _) ht (by omega))) (if_size (if_size (by omega) (Nat.zero_le _)) (if_size ?_ (if_size ?_ (Nat.zero_le _))))))
  · simp only [ByteArray.size_append]
    show 1 + _ + 1 + _ + 1 + _ ≤ _
    omega
  · simp only [ByteArray.size_append]
    show 1 + _ + 1 + _ + 1 ≤ _
    omega

set_option maxRecDepth 100000 in
set_option maxHeartbeats 3200000 in
theorem text_any (cs : Array Value) (t : CmT) (w : World) (hz : cs.size = 31) (hop : cs[0]? = some (.int .u8 t.op)) (hT : TxV 1048576 cs t) :
    Calls Tryz.prog 16 #[.agg cs] w fun e w' => e = .returned (.string t.plain) ∧ t.plain.size ≤ 20000000 ∧ ∀ b, Kp b w w' := by
  obtain ⟨A, B, nt, f, hF, hA, hB, hn0, hn, hx17, hx24, hx25, hpl, ho0, ho1⟩ := hT
  obtain ⟨op, pos, tx, pl⟩ := t
  dsimp only at hop hpl ho0 ho1 ⊢
  have hC0 := Blk.new w cs 62
  have hK0 : ∀ b, Kp b w (w.alloc (.cells cs 62)) := fun b => (Kp.refl b w).alloc _
  obtain ⟨d, hd1, hd2⟩ := rowAddr
  obtain ⟨x4, g4⟩ : ∃ x, cs[4]? = some x := ⟨_, Array.getElem?_eq_getElem (by omega)⟩
  obtain ⟨x5, g5⟩ : ∃ x, cs[5]? = some x := ⟨_, Array.getElem?_eq_getElem (by omega)⟩
  obtain ⟨x6, g6⟩ : ∃ x, cs[6]? = some x := ⟨_, Array.getElem?_eq_getElem (by omega)⟩
  obtain ⟨x7, g7⟩ : ∃ x, cs[7]? = some x := ⟨_, Array.getElem?_eq_getElem (by omega)⟩
  obtain ⟨y4, k4⟩ : ∃ x, cs[11]? = some x := ⟨_, Array.getElem?_eq_getElem (by omega)⟩
  obtain ⟨y5, k5⟩ : ∃ x, cs[12]? = some x := ⟨_, Array.getElem?_eq_getElem (by omega)⟩
  obtain ⟨y6, k6⟩ : ∃ x, cs[13]? = some x := ⟨_, Array.getElem?_eq_getElem (by omega)⟩
  obtain ⟨y7, k7⟩ : ∃ x, cs[14]? = some x := ⟨_, Array.getElem?_eq_getElem (by omega)⟩
  have hrA : ∀ {w' : World} {k : Nat}, Blk w' k cs 62 → w'.rangeAt k 2 [.int .u8 A.kind, .int .i64 A.num, x4, x5, x6, x7, .string A.text] := fun h => range_seven h hF.e2 hF.e3 g4 g5 g6 g7 hF.e8
  have hrB : ∀ {w' : World} {k : Nat}, Blk w' k cs 62 → w'.rangeAt k 9 [.int .u8 B.kind, .int .i64 B.num, y4, y5, y6, y7, .string B.text] := fun h => range_seven h hF.e9 hF.e10 k4 k5 k6 k7 hF.e15
  have HR := hide (And.intro @hrA @hrB)
  clear hrA hrB g4 g5 g6 g7 k4 k5 k6 k7
  obtain ⟨D1, hD1⟩ : ∃ D1, D1 = addrX A.kind A.num A.text := ⟨_, rfl⟩
  obtain ⟨D2, hD2⟩ : ∃ D2, D2 = addrsX A B := ⟨_, rfl⟩
  obtain ⟨D3, hD3⟩ : ∃ D3, D3 = if nt = true then D2 ++ ⟨#[33]⟩ else D2 := ⟨_, rfl⟩
  have az : ∀ A : AdT, AdB 1048576 A → (addrX A.kind A.num A.text).size ≤ 1048600 := fun A h => by
    unfold addrX
    split
    · have := decS_size A.num.toNat (by have := h.1; have := h.2.1; omega); omega
    · split
      · show 1 ≤ _; omega
      · split
        · rw [ByteArray.size_append, ByteArray.size_append]; show 1 + _ + 1 ≤ _; have := h.2.2; omega
        · exact Nat.zero_le _
  have z1 : D1.size ≤ 1048600 := by rw [hD1]; exact az A hA
  have z2 : D2.size ≤ 3000000 := by
    rw [hD2]; unfold addrsX
    have h1 := az A hA
    have h2 := az B hB
    split
    · omega
    · rw [ByteArray.size_append, ByteArray.size_append]; show _ + 1 + _ ≤ _; omega
  have z3 : D3.size ≤ 3000001 := by
    rw [hD3]; split
    · rw [ByteArray.size_append]; show _ + 1 ≤ _; omega
    · omega
  have HB := hide (And.intro (az B hB) hB)
  have HPL := hide (show pl = D3 ++ ⟨#[byteOf op]⟩ ++ restX op f by rw [← hpl, hD3, hD2]; rfl)
  have HD1 := hide hD1
  have HD2 := hide hD2
  have HD3 := hide hD3
  clear hD1 hD2 hD3 hpl az hB
  have hrg := HR.out.1 hC0
  have hi7 : (Tryz.prog.info? 59).map (·.size) = some [.int .u8 A.kind, .int .i64 A.num, x4, x5, x6, x7, .string A.text].length := infoAddr
  go_enter Tryz.func16, Tryz.ntmps16
  go_wp2_with (refine wpList_load_mid rfl 59 _ rfl w.heap.size 2 rfl [.int .u8 A.kind, .int .i64 A.num, x4, x5, x6, x7, .string A.text] d hrg hd1 hd2 hi7 ?_)
  refine (addrText_any A x4 x5 x6 x7 _ hA).mono ?_
  rintro e w1 ⟨rfl, hK1⟩
  have hC1 := hC0.kp (hK1 (w.heap.size + 1)) (by omega)
  replace hK1 : ∀ b, Kp b w w1 := fun b => (hK0 b).trans (hK1 b)
  rw [← HD1.out]
  clear hrg hC0 hK0
  generalize hkb : w.heap.size = kb at hC1 ⊢
  clear hkb
  have q9 := hC1.cell 9 hF.e9
  go_upto_if 13 with fail
  go_cut [3] (fun v wc => v = .string D2 ∧ Blk wc kb cs 62 ∧ ∀ b, Kp b w wc)
  case first =>
    by_cases hk : B.kind = 0
    · have HE := hide (show D2 = D1 by rw [HD2.out, HD1.out]; unfold addrsX; rw [if_pos hk])
      have hkd : (B.kind == 0) = true := by simp [hk]
      clear hk
      go_wp2_with fail
      go_meet
      case rel => exact ⟨by rw [HE.out], hC1, hK1⟩
    · have HE := hide (show D2 = D1 ++ ⟨#[44]⟩ ++ addrX B.kind B.num B.text by rw [HD2.out, HD1.out]; unfold addrsX; rw [if_neg hk])
      have hkd : (B.kind == 0) = false := by simp [hk]
      clear hk
      have hrg := HR.out.2 hC1
      have hi7 : (Tryz.prog.info? 59).map (·.size) = some [.int .u8 B.kind, .int .i64 B.num, y4, y5, y6, y7, .string B.text].length := infoAddr
      go_wp2_with (refine wpList_load_mid rfl 59 _ rfl kb 9 rfl [.int .u8 B.kind, .int .i64 B.num, y4, y5, y6, y7, .string B.text] d hrg hd1 hd2 hi7 ?_)
      refine (addrText_any B y4 y5 y6 y7 _ HB.out.2).mono ?_
      rintro e w2 ⟨rfl, hK2⟩
      have hC2 := hC1.kp (hK2 (kb + 1)) (by omega)
      have z5 := HB.out.1
      generalize addrX B.kind B.num B.text = BX at *
      have a1 := add_run D1 ⟨#[44]⟩ (by show D1.size + 1 ≤ _; omega)
      have a2 := add_run (D1 ++ ⟨#[44]⟩) BX (by rw [ByteArray.size_append]; show D1.size + 1 + _ ≤ _; omega)
      clear q9
      go_wp2_with fail
      go_meet
      case rel => exact ⟨by rw [HE.out], hC2, fun b => (hK1 b).trans (hK2 b)⟩
  case rest =>
  obtain ⟨rfl, hC2, hK2⟩ := hcut
  clear q9 hC1 hK1 hi7
  have q16 := hC2.cell 16 hF.e16
  go_upto_if 22 with fail
  go_cut [3] (fun v wc' => v = .string D3 ∧ Blk wc' kb cs 62 ∧ ∀ b, Kp b w wc')
  case first =>
    cases hx : nt
    · rw [hx] at q16
      have HE := hide (show D3 = D2 by rw [HD3.out, hx]; rfl)
      clear hx
      go_wp2_with fail
      go_meet
      case rel => exact ⟨by rw [HE.out], hC2, hK2⟩
    · rw [hx] at q16
      have HE := hide (show D3 = D2 ++ ⟨#[33]⟩ by rw [HD3.out, hx]; rfl)
      have a1 := add_run D2 ⟨#[33]⟩ (by show D2.size + 1 ≤ _; omega)
      clear hx
      go_wp2_with fail
      go_meet
      case rel => exact ⟨by rw [HE.out], hC2, hK2⟩
  case rest =>
  obtain ⟨rfl, hC3, hK3⟩ := hcut
  clear q16 hC2 hK2
  have q0 := hC3.cell 0 hop
  have hcv := byte_str op wc ho0 ho1
  obtain ⟨S, hS⟩ : ∃ S, S = D3 ++ ⟨#[byteOf op]⟩ := ⟨_, rfl⟩
  have zS : S.size ≤ 3000002 := by rw [hS, ByteArray.size_append]; show _ + 1 ≤ _; omega
  have a0 := add_run D3 ⟨#[byteOf op]⟩ (by show D3.size + 1 ≤ _; omega)
  rw [← hS] at a0
  have HPS := hide (show pl = S ++ restX op f by rw [HPL.out, hS])
  clear hS HPL HD1 HD2 HD3 z1 z2 z3 HB
  have hcb := hC3.lt
  go_upto_region 8 with fail
  have hC4 := hC3.alloc (.cells #[.int .u8 op] 5)
  have hK4 : ∀ b, Kp b w (wc.alloc (.cells #[.int .u8 op] 5)) := fun b => (hK3 b).alloc _
  generalize wc.alloc (.cells #[.int .u8 op] 5) = w4 at *
  have zr := restX_size op f hn0 hn hx17 hx24 hx25
  have zpl : pl.size ≤ 20000000 := by rw [HPS.out, ByteArray.size_append]; omega
  clear hcv a0 q0 hC3 hK3 zr
  have q0 := hC4.cell 0 hop
  have q17 := hC4.cell 17 hF.rv.e17
  have HZ := hide zpl
  clear zpl hcb
  by_cases ha : op = 97 ∨ op = 105 ∨ op = 99 ∨ op = 119
  · have HE := hide (show pl = S ++ ⟨#[32]⟩ ++ f.text by rw [HPS.out]; unfold restX; rw [if_pos ha, ByteArray.append_assoc])
    have a1 := add_run S ⟨#[32]⟩ (by show S.size + 1 ≤ _; omega)
    have a2 := add_run (S ++ ⟨#[32]⟩) f.text (by rw [ByteArray.size_append]; show S.size + 1 + _ ≤ _; omega)
    rcases ha with rfl | rfl | rfl | rfl
    all_goals
      go_wp2_with fail
      go_ret
      exact ⟨by rw [HE.out]; rfl, HZ.out, hK4⟩
  · by_cases hc : op = 58
    · have HE := hide (show pl = S ++ f.text by rw [HPS.out]; unfold restX; rw [if_neg ha, if_pos hc])
      have a1 := add_run S f.text (by omega)
      subst hc
      clear ha
      go_wp2_with fail
      go_ret
      exact ⟨by rw [HE.out]; rfl, HZ.out, hK4⟩
    · by_cases hb2 : op = 98 ∨ op = 116
      · by_cases hem : f.text.size = 0
        · have HE := hide (show pl = S by rw [HPS.out]; unfold restX; rw [if_neg ha, if_neg hc, if_pos hb2, if_pos hem, app_nil])
          have hie := isEmpty_size f.text
          rw [hem] at hie
          clear ha hc
          rcases hb2 with rfl | rfl
          all_goals
            go_wp2_with fail
            go_ret
            exact ⟨by rw [HE.out]; rfl, HZ.out, hK4⟩
        · have HE := hide (show pl = S ++ ⟨#[32]⟩ ++ f.text by rw [HPS.out]; unfold restX; rw [if_neg ha, if_neg hc, if_pos hb2, if_neg hem, ByteArray.append_assoc])
          have a1 := add_run S ⟨#[32]⟩ (by show S.size + 1 ≤ _; omega)
          have a2 := add_run (S ++ ⟨#[32]⟩) f.text (by rw [ByteArray.size_append]; show S.size + 1 + _ ≤ _; omega)
          have hie : f.text.toList.isEmpty = false := by rw [isEmpty_size]; simp [hem]
          clear ha hc hem
          rcases hb2 with rfl | rfl
          all_goals
            go_wp2_with fail
            go_ret
            exact ⟨by rw [HE.out]; rfl, HZ.out, hK4⟩
      · by_cases hq : op = 113 ∨ op = 81
        · have q18 := hC4.cell 18 hF.rv.e18
          have q19 := hC4.cell 19 hF.rv.e19
          cases hsd : f.said
          · rw [hsd] at q19
            have HE := hide (show pl = S by rw [HPS.out]; unfold restX; rw [if_neg ha, if_neg hc, if_neg hb2, if_pos hq, hsd]; exact app_nil S)
            clear ha hc hb2 hsd
            rcases hq with rfl | rfl
            all_goals
              go_wp2_with fail
              go_ret
              exact ⟨by rw [HE.out]; rfl, HZ.out, hK4⟩
          · rw [hsd] at q19
            have HE := hide (show pl = S ++ decS f.n.toNat by rw [HPS.out]; unfold restX; rw [if_neg ha, if_neg hc, if_neg hb2, if_pos hq, hsd]; rfl)
            have dz := decS_size f.n.toNat (by omega)
            have a1 := add_run S (decS f.n.toNat) (by omega)
            generalize f.n = N at *
            have HN := hide (And.intro hn0 hn)
            clear ha hc hb2 hsd hn0 hn dz
            rcases hq with rfl | rfl
            all_goals
              go_wp2_with fail
              refine (decimal_int N _ HN.out.1 (by have := HN.out.2; omega)).mono ?_
              rintro e w5 ⟨rfl, hK5⟩
              go_wp2_with fail
              go_ret
              exact ⟨by rw [HE.out]; rfl, HZ.out, fun b => (hK4 b).trans (hK5 b)⟩
        · by_cases hss : op = 115
          · have HE := hide (show pl = S ++ ⟨#[47]⟩ ++ f.tt ++ ⟨#[47]⟩ ++ f.r ++ ⟨#[47]⟩ ++ flagX f by
              rw [HPS.out]; unfold restX; rw [if_neg ha, if_neg hc, if_neg hb2, if_neg hq, if_pos hss]
              simp only [ByteArray.append_assoc])
            subst hss
            have q24 := hC4.cell 24 hF.rv.e24
            have q25 := hC4.cell 25 hF.rv.e25
            have zf := flagX_size f hn0 hn hx17
            have s1 : (S ++ ⟨#[47]⟩).size ≤ 3000003 := by rw [ByteArray.size_append]; show S.size + 1 ≤ _; omega
            have a1 := add_run S ⟨#[47]⟩ (by show S.size + 1 ≤ _; omega)
            have s2 : (S ++ ⟨#[47]⟩ ++ f.tt).size ≤ 5000003 := by rw [ByteArray.size_append]; omega
            have a2 := add_run (S ++ ⟨#[47]⟩) f.tt (by omega)
            have s3 : (S ++ ⟨#[47]⟩ ++ f.tt ++ ⟨#[47]⟩).size ≤ 5000004 := by rw [ByteArray.size_append]; show _ + 1 ≤ _; omega
            have a3 := add_run (S ++ ⟨#[47]⟩ ++ f.tt) ⟨#[47]⟩ (by show _ + 1 ≤ _; omega)
            have s4 : (S ++ ⟨#[47]⟩ ++ f.tt ++ ⟨#[47]⟩ ++ f.r).size ≤ 7000004 := by rw [ByteArray.size_append]; omega
            have a4 := add_run (S ++ ⟨#[47]⟩ ++ f.tt ++ ⟨#[47]⟩) f.r (by omega)
            have s5 : (S ++ ⟨#[47]⟩ ++ f.tt ++ ⟨#[47]⟩ ++ f.r ++ ⟨#[47]⟩).size ≤ 7000005 := by rw [ByteArray.size_append]; show _ + 1 ≤ _; omega
            have a5 := add_run (S ++ ⟨#[47]⟩ ++ f.tt ++ ⟨#[47]⟩ ++ f.r) ⟨#[47]⟩ (by show _ + 1 ≤ _; omega)
            have a6 := add_run (S ++ ⟨#[47]⟩ ++ f.tt ++ ⟨#[47]⟩ ++ f.r ++ ⟨#[47]⟩) (flagX f) (by omega)
            clear s1 s2 s3 s4 s5 ha hb2 hq
            obtain ⟨d2, hd3, hd4⟩ := rowCmd
            have hi1 : (Tryz.prog.info? 62).map (·.size) = some cs.toList.length := by rw [infoCmd, Array.length_toList, hz]
            have hrg := range_cmd hC4
            go_wp2_with (refine wpList_load_mid rfl 62 _ rfl kb 0 rfl cs.toList d2 hrg hd3 hd4 hi1 ?_; rw [Array.toArray_toList])
            refine (flags_any cs f _ hF.rv hn0 hn hx17).mono ?_
            rintro e w5 ⟨rfl, _, hK5⟩
            have hC5 := hC4.kp (hK5 (kb + 1)) (by omega)
            have p24 := hC5.cell 24 hF.rv.e24
            have p25 := hC5.cell 25 hF.rv.e25
            go_wp2_with fail
            go_ret
            exact ⟨by rw [HE.out]; rfl, HZ.out, fun b => (hK4 b).trans (hK5 b)⟩
          · by_cases hy : op = 121
            · obtain ⟨hf, hhf⟩ : ∃ hf : Nat, hf = f.text.size / 2 := ⟨_, rfl⟩
              have HE := hide (show pl = S ++ ⟨#[47]⟩ ++ f.text.extract 0 hf ++ ⟨#[47]⟩ ++ f.text.extract hf f.text.size ++ ⟨#[47]⟩ by
                rw [HPS.out]; unfold restX; rw [if_neg ha, if_neg hc, if_neg hb2, if_neg hq, if_neg hss, if_pos hy, hhf]
                simp only [ByteArray.append_assoc])
              subst hy
              have v1 : IntKind.i64.wrap ((f.text.size : Int) / 2) = (hf : Int) := (i64p _ (by omega)).trans (by omega)
              have hle : hf ≤ f.text.size := by omega
              have hle2 : (hf : Int) ≤ f.text.size := by omega
              have t1 := ext_size f.text 0 hf
              have t2 := ext_size f.text hf f.text.size
              have s1 : (S ++ ⟨#[47]⟩).size ≤ 3000003 := by rw [ByteArray.size_append]; show S.size + 1 ≤ _; omega
              have a1 := add_run S ⟨#[47]⟩ (by show S.size + 1 ≤ _; omega)
              have s2 : (S ++ ⟨#[47]⟩ ++ f.text.extract 0 hf).size ≤ 5000003 := by rw [ByteArray.size_append]; omega
              have a2 := add_run (S ++ ⟨#[47]⟩) (f.text.extract 0 hf) (by omega)
              have s3 : (S ++ ⟨#[47]⟩ ++ f.text.extract 0 hf ++ ⟨#[47]⟩).size ≤ 5000004 := by rw [ByteArray.size_append]; show _ + 1 ≤ _; omega
              have a3 := add_run (S ++ ⟨#[47]⟩ ++ f.text.extract 0 hf) ⟨#[47]⟩ (by show _ + 1 ≤ _; omega)
              have s4 : (S ++ ⟨#[47]⟩ ++ f.text.extract 0 hf ++ ⟨#[47]⟩ ++ f.text.extract hf f.text.size).size ≤ 7000004 := by rw [ByteArray.size_append]; omega
              have a4 := add_run (S ++ ⟨#[47]⟩ ++ f.text.extract 0 hf ++ ⟨#[47]⟩) (f.text.extract hf f.text.size) (by omega)
              have a5 := add_run (S ++ ⟨#[47]⟩ ++ f.text.extract 0 hf ++ ⟨#[47]⟩ ++ f.text.extract hf f.text.size) ⟨#[47]⟩ (by show _ + 1 ≤ _; omega)
              have p17 := hC4.drew.cell 17 hF.rv.e17
              clear s1 s2 s3 s4 t1 t2 ha hb2 hq hhf hn0 hn
              go_wp2_with fail
              go_region
              go_wp2_with fail
              go_ret
              exact ⟨by rw [HE.out]; rfl, HZ.out, fun b => (hK4 b).drew⟩
            · have HE := hide (show pl = S by rw [HPS.out]; unfold restX; rw [if_neg ha, if_neg hc, if_neg hb2, if_neg hq, if_neg hss, if_neg hy, app_nil])
              have n1 : ¬ op = 97 := by omega
              have n2 : ¬ op = 105 := by omega
              have n3 : ¬ op = 99 := by omega
              have n4 : ¬ op = 98 := by omega
              have n5 : ¬ op = 116 := by omega
              have n6 : ¬ op = 113 := by omega
              have n7 : ¬ op = 81 := by omega
              have n8 : ¬ op = 119 := by omega
              clear ha hb2 hq
              go_wp2_with fail
              go_ret
              exact ⟨by rw [HE.out]; rfl, HZ.out, hK4⟩
end Go.Proofs.YtmjdaifalgpdnaaGreat
