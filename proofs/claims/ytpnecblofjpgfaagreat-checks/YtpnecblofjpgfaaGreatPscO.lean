import Derived.Test.YtpnecblofjpgfaaGreatPscN
namespace Go.Proofs.YtpnecblofjpgfaaGreat
open Go.RowKit

theorem wfInt (i : Nat) (h : i ≤ 1048576) : (Lit.int .i64 (i : Nat)).wf = true := by
  simp [Lit.wf, IntKind.min, IntKind.max, IntKind.bits, IntKind.signed]
  omega
theorem blk_there {w : World} {k : Nat} {zs : Array Value} {t : TypeId} (h : Blk w k zs t) {n : Nat} (hz : zs.size = n) : w.there k 0 n := fun j hj => by
  rw [Nat.zero_add]
  refine ⟨?_, h.fz j⟩
  rw [cell_of_row w k j zs t (0, 0) h, Array.getElem?_eq_getElem (by omega)]
  rfl
theorem rowCommand : ∃ d, Tryz.prog.underlying 67 = some d ∧ d.isRow = true := ⟨_, Tryz.underlying67, rfl⟩
theorem flat_range {w : World} {gl cl n : Nat} {css : List (Array Value)} (hL : w.ownsRow 0 67 13 (.slice (some ⟨gl, 0, none⟩) n cl) n (flatC css)) (hz : ∀ c ∈ css, c.size = 13) {i : Nat} (hi : i < n) {cs : Array Value} (hc : css[i]? = some cs) : w.rangeAt gl (i * 13) cs.toList := fun j v hv => by
  have hj : j < 13 := by
    have := hz cs (List.mem_of_getElem? hc)
    have h2 : j < cs.toList.length := (List.getElem?_eq_some_iff.1 hv).1
    rw [Array.length_toList, this] at h2
    exact h2
  rw [hL.cellAt (i * 13 + j) (by have : i * 13 + 13 ≤ n * 13 := by omega
                                 omega), flatC_get hz i j hj, hc]
  simpa using hv

set_option maxRecDepth 100000 in
set_option maxHeartbeats 1600000 in
theorem plabels_any (b : Nat) (s : ByteArray) (at_ : Nat) (en : Int) (cv ov : Value) (ls : List CmT) (css : List (Array Value)) (w : World) (h : SR w b s at_ en cv ov) (hL : w.ownsRow 0 67 13 cv ls.length (flatC css)) (hA : All2 PCmdV css ls) (h60 : ls.length ≤ 60) (hsm : ∀ t ∈ ls, t.text.size ≤ 1048576) :
    Calls Tryz.prog 42 #[.pointer (some ⟨b, 0, none⟩)] w fun e w' => ∃ mm m, e = .returned (.map (some mm)) ∧ LabM w' mm m (fun x => firstL ls x ls.length) ∧ w.heap.size ≤ mm ∧ Below w.heap.size w w' := by
  have hbl := h.lt
  have hmk := @run_makeMap Tryz.prog
  have hz : ∀ c ∈ css, c.size = 13 := fun c hc => by
    obtain ⟨i, hi, rfl⟩ := List.getElem_of_mem hc
    have hl : i < ls.length := by rw [← hA.1]; exact hi
    exact (hA.2 i _ _ (List.getElem?_eq_getElem hi) (List.getElem?_eq_getElem hl)).1
  have M0 : LabM (w.alloc (.map #[] 0)) w.heap.size 0 (fun x => firstL ls x 0) := ⟨.map [], World.ownsMap_made w _ _ _, Maps.isMap_empty, fun x hx => .inl ⟨rfl, fun z => rfl⟩⟩
  have B0 : Below w.heap.size w (w.alloc (.map #[] 0)) := (Below.refl _ w).alloc (Nat.le_refl _) _
  have h1 := h.alloc (.map #[] 0)
  obtain ⟨pl, cl, rfl, hcl⟩ := own_form hL
  have c3 := h1.c3
  have HLS := hide (And.intro hL (And.intro hA (And.intro hz hsm)))
  clear hL hA hz hsm
  go_enter Tryz.func42, Tryz.ntmps42
  go_wp2_with fail
  go_loopg [14] ls.length (fun k iv w' => ∃ (i m : Nat), iv = .int .i64 i ∧ i + k = ls.length ∧ m ≤ i ∧ LabM w' w.heap.size m (fun x => firstL ls x i) ∧ Below w.heap.size w w')
  case atStart => exact ⟨0, 0, rfl, by omega, Nat.le_refl _, M0, B0⟩
  case round =>
    obtain ⟨i, m, rfl, hik, hmi, hM, hB⟩ := hrel
    by_cases hil : i < ls.length
    · have hd : decide ((i : Int) < (ls.length : Nat)) = true := by rw [decide_eq_true_iff]; omega
      obtain ⟨hL, hA, hz, hsm⟩ := HLS.out
      obtain ⟨gl, cl', hgl, -, hgl2⟩ := hL.form (by omega)
      simp only [Value.slice.injEq] at hgl
      obtain ⟨rfl, -, rfl⟩ := hgl
      have hL2 := own_agree (w' := wr) hL (fun k hk => hB.block k (World.ownsRow.lt hL k hk).2)
      have hic : i < css.length := by rw [hA.1]; exact hil
      obtain ⟨t, ht⟩ : ∃ t, ls[i]? = some t := ⟨_, List.getElem?_eq_getElem hil⟩
      obtain ⟨cs, hcs⟩ : ∃ cs, css[i]? = some cs := ⟨_, List.getElem?_eq_getElem hic⟩
      have hV := hA.2 i cs t hcs ht
      have htx := hsm t (List.mem_of_getElem? ht)
      have hrg := flat_range hL2 hz hil hcs
      have hzc := hV.1
      have h1c := hV.2.1
      obtain ⟨d, hd1, hd2⟩ := rowCommand
      have hi1 : (Tryz.prog.info? 67).map (·.size) = some cs.toList.length := by rw [infoCommand1, Array.length_toList, hzc]
      have hi2 : (Tryz.prog.info? 67).map (·.size) = some cs.size := by rw [infoCommand1, hzc]
      have hZ := Blk.new wr #[.int .u8 0, .int .i64 0, .slice none 0 0, .bool false, .string ⟨#[]⟩, .int .i64 0, .string ⟨#[]⟩, .string ⟨#[]⟩, .int .i64 0, .string ⟨#[]⟩, .pointer none, .string ⟨#[]⟩, .string ⟨#[]⟩] 67
      have hth : (wr.alloc (.cells #[.int .u8 0, .int .i64 0, .slice none 0 0, .bool false, .string ⟨#[]⟩, .int .i64 0, .string ⟨#[]⟩, .string ⟨#[]⟩, .int .i64 0, .string ⟨#[]⟩, .pointer none, .string ⟨#[]⟩, .string ⟨#[]⟩] 67)).there wr.heap.size 0 cs.size := blk_there hZ (by rw [hzc]; rfl)
      have hC5 := setCells_all hZ cs (by rw [hzc]; rfl)
      have hK5 := setCells_kp (b := wr.heap.size) (k := wr.heap.size) (W := wr) (Nat.le_refl _) cs.toList 0 _ ((Kp.refl wr.heap.size wr).alloc (.cells #[.int .u8 0, .int .i64 0, .slice none 0 0, .bool false, .string ⟨#[]⟩, .int .i64 0, .string ⟨#[]⟩, .string ⟨#[]⟩, .int .i64 0, .string ⟨#[]⟩, .pointer none, .string ⟨#[]⟩, .string ⟨#[]⟩] 67))
      have hmlt := hM.lt
      have hM5 := hM.agree (hK5.block w.heap.size hmlt (by omega))
      have hB5 := hB.trans (below_kp hK5 (Nat.le_of_lt hmlt) (Nat.le_of_lt hmlt))
      clear hL hA hz hsm hL2
      go_upto_region 5 with (first | (refine wpList_load_mid rfl 67 _ rfl gl (i * 13) rfl cs.toList d hrg hd1 hd2 hi1 ?_; rw [Array.toArray_toList]) | (refine wpList_store_mid rfl 67 _ _ rfl wr.heap.size 0 cs rfl rfl hth hi2 h1c ?_))
      generalize hcbq : wr.heap.size = cb at *
      generalize (wr.alloc (.cells #[.int .u8 0, .int .i64 0, .slice none 0 0, .bool false, .string ⟨#[]⟩, .int .i64 0, .string ⟨#[]⟩, .string ⟨#[]⟩, .int .i64 0, .string ⟨#[]⟩, .pointer none, .string ⟨#[]⟩, .string ⟨#[]⟩] 67)).setCells cb 0 cs.toList = w5 at *
      have c6 := hC5.cell 6 hV.2.2.2.2.2
      have c0 := hC5.cell 0 hV.2.2.1
      have hlx : (labT t).size ≤ 1048576 := by
        unfold labT
        split
        · exact htx
        · decide
      have hlk := hM5.look hlx true
      have hlab : ∀ x, isLab ls x i = (decide (t.op = 58) && decide (t.text = x)) := fun x => by unfold isLab; rw [ht]
      have hstay : (∀ x, firstL ls x i = none → isLab ls x i = false) → ∀ x, firstL ls x i = firstL ls x (i + 1) := fun hq x => by
        rw [firstL]
        cases hf : firstL ls x i with
        | some j => rfl
        | none => simp [hq x hf]
      try dsimp only at hlk
      rw [if_pos rfl] at hlk
      have hw1 : IntKind.i64.wrap ((i : Int) + 1) = (i : Int) + 1 := wrapE _ (by omega) (by omega)
      have HS := hide (And.intro hlab hstay)
      clear hlab hstay hrg hi1 hi2 hth hZ hd1 hd2 h1c hK5 hC5
      by_cases o58 : t.op = 58
      · have hlt : labT t = t.text := by unfold labT; rw [if_pos (.inl o58)]
        rw [hlt] at hlk c6
        rw [o58] at c0
        cases hf : firstL ls t.text i with
        | none =>
          rw [hf] at hlk
          simp only [Option.getD_none, Option.isSome_none] at hlk
          obtain ⟨D, hown, hID, hDf⟩ := hM5
          have HD := hide (And.intro hID hDf)
          have hml : m < maxLen := by unfold maxLen; omega
          have hwf := wfInt i (by omega)
          clear hID hDf
          go_wp2_with (at_mapUpdate; refine wpList_mapUpdate_own _ rfl _ _ _ 88 rfl 9 3 keyedS Tryz.underlying88 (plainElem Tryz.prog 3) w.heap.size m D rfl hown hml (.string t.text) (.int .i64 (i : Nat)) (.string t.text.data.toList) rfl rfl (keyS htx) (.lit (.int .i64 (i : Nat))) [] (plainElem_int Tryz.underlying3 hwf) ?_; intro w7 hown7 hgrow7)
          have hM7 := LabM.put hown HD.out.1 HD.out.2 htx (show i ≤ 1048576 by omega) hown7
          go_roundg (gk - 1)
          case measure => omega
          case rel =>
            refine ⟨i + 1, m + 1, by go_num, by omega, by omega, hM7.ext (fun x => ?_), below_grown hB5 hgrow7 (fun k hk => by simp only [Option.some.injEq] at hk; omega) (Nat.le_refl _)⟩
            rw [firstL]
            by_cases hx : x = t.text
            · subst hx
              rw [hf]
              have := HS.out.1 t.text
              simp [this, o58]
            · have h9 := HS.out.1 x
              have h8 : decide (t.text = x) = false := by rw [decide_eq_false_iff_not]; exact fun e => hx e.symm
              rw [if_neg hx]
              cases hg : firstL ls x i with
              | some j => rfl
              | none => simp [h9, h8]
        | some j =>
          rw [hf] at hlk
          simp only [Option.getD_some, Option.isSome_some] at hlk
          go_wp2_with fail
          go_roundg (gk - 1)
          case measure => omega
          case rel =>
            refine ⟨i + 1, m, by go_num, by omega, by omega, hM5.ext (HS.out.2 (fun x hx => ?_)), hB5⟩
            rw [HS.out.1 x]
            have : decide (t.text = x) = false := by
              rw [decide_eq_false_iff_not]
              intro e
              rw [← e, hf] at hx
              cases hx
            rw [this]; simp
      · generalize firstL ls (labT t) i = fo at hlk
        go_wp2_with fail
        go_roundg (gk - 1)
        case measure => omega
        case rel =>
          refine ⟨i + 1, m, by go_num, by omega, by omega, hM5.ext (HS.out.2 (fun x _ => ?_)), hB5⟩
          rw [HS.out.1 x]
          simp [o58]
    · have hd : decide ((i : Int) < (ls.length : Nat)) = false := by rw [decide_eq_false_iff_not]; omega
      have : i = ls.length := by omega
      subst this
      go_wp2_with fail
      go_ret
      exact ⟨_, m, rfl, hM, Nat.le_refl _, hB⟩
end Go.Proofs.YtpnecblofjpgfaaGreat
