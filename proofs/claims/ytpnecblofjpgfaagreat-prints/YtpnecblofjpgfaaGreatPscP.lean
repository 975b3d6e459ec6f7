import Derived.Test.YtpnecblofjpgfaaGreatPscM
import Derived.Maps.Own
import Derived.Maps.OwnOps
import Derived.Maps.Views
namespace Go.Proofs.YtpnecblofjpgfaaGreat
open Go.RowKit

/-- Is command i the place of the label x? -/
def isLab (l : List CmT) (x : ByteArray) (i : Nat) : Bool := match l[i]? with | some t => decide (t.op = 58) && decide (t.text = x) | none => false
/-- The first of k commands that is the place of the label x. -/
def firstL (l : List CmT) (x : ByteArray) : Nat → Option Nat
  | 0 => none
  | k + 1 => match firstL l x k with | some i => some i | none => if isLab l x k then some k else none

theorem firstL_up {l : List CmT} {x : ByteArray} {k i : Nat} (h : firstL l x k = some i) : ∀ m, k ≤ m → firstL l x m = some i
  | m, hm => by
    induction m with
    | zero => have : k = 0 := by omega
              subst this; exact h
    | succ m ih =>
      by_cases hk : k = m + 1
      · subst hk; exact h
      · rw [firstL, ih (by omega)]
theorem firstL_lt {l : List CmT} {x : ByteArray} : ∀ {k i : Nat}, firstL l x k = some i → i < k ∧ isLab l x i = true
  | 0, i, h => by cases h
  | k + 1, i, h => by
    rw [firstL] at h
    cases hf : firstL l x k with
    | some j =>
      rw [hf] at h
      simp only [Option.some.injEq] at h
      subst h
      have := firstL_lt hf
      exact ⟨by omega, this.2⟩
    | none =>
      rw [hf] at h
      dsimp only at h
      split at h
      · next hc =>
        simp only [Option.some.injEq] at h
        subst h
        exact ⟨by omega, hc⟩
      · cases h
theorem firstL_hit {l : List CmT} {x : ByteArray} {i : Nat} (h : isLab l x i = true) : ∃ j, firstL l x (i + 1) = some j ∧ j ≤ i := by
  rw [firstL]
  cases hf : firstL l x i with
  | some j => exact ⟨j, rfl, by have := (firstL_lt hf).1; omega⟩
  | none => exact ⟨i, by simp [h], Nat.le_refl _⟩

/-- Is the label of command i there twice, or not there? -/
def lostB (l : List CmT) (t : CmT) (i : Nat) : Bool := (decide (t.op = 58) && decide (firstL l t.text l.length ≠ some i)) || ((decide (t.op = 98) || decide (t.op = 116)) && decide (t.text.size ≠ 0) && decide (firstL l t.text l.length = none))
/-- The place of the first such command, from i on. -/
def lostS (l : List CmT) : Nat → Nat → Option Nat
  | 0, _ => none
  | k + 1, i => match l[i]? with | some t => if lostB l t i then some t.pos else lostS l k (i + 1) | none => none

/-- A map of labels in memory. -/
def LabM (w : World) (mm m : Nat) (f : ByteArray → Option Nat) : Prop := ∃ D : DataW Value, w.ownsMap Tryz.prog 9 (plainElem Tryz.prog 3) mm m D ∧ Maps.IsMap D ∧ ∀ x : ByteArray, x.size ≤ 1048576 → ((f x = none ∧ ∀ z, D.atKey (.string x.data.toList) z = z) ∨ ∃ v : Nat, f x = some v ∧ v ≤ 1048576 ∧ ∀ z, D.atKey (.string x.data.toList) z = .lit (.int .i64 (v : Nat)))

theorem keyedS : Maps.Keyed Tryz.prog 9 := Maps.string_keyed Tryz.underlying9
theorem keyS {x : ByteArray} (h : x.size ≤ 1048576) : keyOf Tryz.prog 9 (.string x) = some (.string x.data.toList) := WideMaps.keyOf_string_mk Tryz.underlying9 (by unfold maxLen; omega)
theorem zeroInt (w : World) : (zeroValue 3).run Tryz.prog w = .ok (.int .i64 0) w := by
  obtain ⟨i0, h0, h1, h2, h3⟩ := info_parts infoInt
  simp [zeroValue, typeInfo, h0, h1]
theorem LabM.look {w : World} {mm m : Nat} {f : ByteArray → Option Nat} (h : LabM w mm m f) {x : ByteArray} (hx : x.size ≤ 1048576) (c : Bool) :
    (Instr.lookup 88 (.map (some mm)) (.string x) c).run Tryz.prog w = .ok (if c then .tuple #[.int .i64 ((f x).getD 0 : Nat), .bool (f x).isSome] else .int .i64 ((f x).getD 0 : Nat)) w := by
  obtain ⟨D, ⟨es, clock, hb, F, hs, rfl⟩, hm, hf⟩ := h
  rcases Maps.fit_look c keyedS Tryz.underlying88 (zeroInt w) hb F (keyS hx) with ⟨hrun, _, hat⟩ | ⟨e0, y, _, _, hrun, hRv, hat, _⟩
  · rcases hf x hx with ⟨h1, _⟩ | ⟨v, _, _, h2⟩
    · rw [h1, hrun]; rfl
    · have := (hat .nil).symm.trans (h2 .nil)
      cases this
  · obtain ⟨a, e1, e2, _⟩ := plainElem_int_inv Tryz.underlying3 hRv
    rcases hf x hx with ⟨_, h2⟩ | ⟨v, h1, _, h2⟩
    · have := (hat .nil).symm.trans (h2 .nil)
      rw [e2] at this
      cases this
    · have := (hat .nil).symm.trans (h2 .nil)
      rw [e2] at this
      simp only [DataW.lit.injEq, Lit.int.injEq, true_and] at this
      rw [h1, hrun, e1, this]
      rfl
theorem LabM.agree {w w' : World} {mm m : Nat} {f : ByteArray → Option Nat} (h : LabM w mm m f) (hk : w'.heap[mm]? = w.heap[mm]?) : LabM w' mm m f := by
  obtain ⟨D, ⟨es, clock, hb, rest⟩, hf⟩ := h
  exact ⟨D, ⟨es, clock, by rw [hk]; exact hb, rest⟩, hf⟩
theorem LabM.lt {w : World} {mm m : Nat} {f : ByteArray → Option Nat} (h : LabM w mm m f) : mm < w.heap.size := by
  obtain ⟨D, ho, _⟩ := h
  exact ho.lt
theorem LabM.not_cells {w : World} {mm m : Nat} {f : ByteArray → Option Nat} (h : LabM w mm m f) {k : Nat} {c : Array Value} {t : TypeId} {r : Nat × Nat} (hk : w.heap[k]? = some (.cells c t r)) : k ≠ mm := by
  obtain ⟨D, ⟨es, clock, hb, _⟩, _⟩ := h
  rintro rfl
  rw [hb] at hk; cases hk
theorem LabM.ext {w : World} {mm m : Nat} {f g : ByteArray → Option Nat} (h : LabM w mm m f) (e : ∀ x, f x = g x) : LabM w mm m g := by
  obtain ⟨D, h1, h2, h3⟩ := h
  exact ⟨D, h1, h2, fun x hx => by rw [← e x]; exact h3 x hx⟩
theorem LabM.put {w w' : World} {mm m : Nat} {f : ByteArray → Option Nat} {D : DataW Value} (_h1 : w.ownsMap Tryz.prog 9 (plainElem Tryz.prog 3) mm m D) (h2 : Maps.IsMap D) (h3 : ∀ x : ByteArray, x.size ≤ 1048576 → ((f x = none ∧ ∀ z, D.atKey (.string x.data.toList) z = z) ∨ ∃ v : Nat, f x = some v ∧ v ≤ 1048576 ∧ ∀ z, D.atKey (.string x.data.toList) z = .lit (.int .i64 (v : Nat))))
    {x : ByteArray} (hx : x.size ≤ 1048576) {v : Nat} (hv : v ≤ 1048576) (hown : w'.ownsMap Tryz.prog 9 (plainElem Tryz.prog 3) mm (m + 1) (D.put (.string x.data.toList) (.lit (.int .i64 (v : Nat))))) : LabM w' mm (m + 1) (fun y => if y = x then some v else f y) := by
  refine ⟨_, hown, h2.put _ _, fun y hy => ?_⟩
  by_cases e : y = x
  · subst e
    right
    refine ⟨v, by simp, hv, fun z => Maps.atKey_put_same h2 (keyedS.key (keyS hx)) _ z⟩
  · have hne : (Lit.string y.data.toList) ≠ .string x.data.toList := by
      intro he
      simp only [Lit.string.injEq] at he
      apply e
      apply ByteArray.ext
      rw [← Array.toArray_toList (xs := y.data), he, Array.toArray_toList]
    simp only [e, if_false]
    rcases h3 y hy with ⟨g1, g2⟩ | ⟨u, g1, g2, g3⟩
    · exact .inl ⟨g1, fun z => (Maps.atKey_put_other hne _ z).trans (g2 z)⟩
    · exact .inr ⟨u, g1, g2, fun z => (Maps.atKey_put_other hne _ z).trans (g3 z)⟩
end Go.Proofs.YtpnecblofjpgfaaGreat

namespace Go.Proofs.YtpnecblofjpgfaaGreat
open Go.RowKit

theorem wfInt (i : Nat) (h : i ≤ 1048576) : (Lit.int .i64 (i : Nat)).wf = true := by
  simp [Lit.wf, IntKind.min, IntKind.max, IntKind.bits, IntKind.signed]
  omega
theorem blk_there {w : World} {k : Nat} {zs : Array Value} {t : TypeId} (h : Blk w k zs t) {n : Nat} (hz : zs.size = n) : w.there k 0 n := fun j hj => by
  rw [Nat.zero_add]
  refine ⟨?_, h.fz j⟩
  rw [cell_of_row w k j zs t (0, 0) h, Array.getElem?_eq_getElem (by omega)]
  rfl
theorem rowCommand : ∃ d, Tryz.prog.underlying 67 = some d ∧ d.isRow = true := ⟨_, Tryz.underlying67, rfl⟩
theorem flat_range {w : World} {gl cl n : Nat} {css : List (Array Value)} (hL : w.ownsRow 0 67 13 (.slice (some ⟨gl, 0, none⟩) n cl) n (flatC css)) (hz : ∀ c ∈ css, c.size = 13) {i : Nat} (hi : i < n) {cs : Array Value} (hc : css[i]? = some cs) : w.rangeAt gl (i * 13) cs.toList := fun j v hv => by
  have hj : j < 13 := by
    have := hz cs (List.mem_of_getElem? hc)
    have h2 : j < cs.toList.length := (List.getElem?_eq_some_iff.1 hv).1
    rw [Array.length_toList, this] at h2
    exact h2
  rw [hL.cellAt (i * 13 + j) (by have : i * 13 + 13 ≤ n * 13 := by omega
                                 omega), flatC_get hz i j hj, hc]
  simpa using hv

set_option maxRecDepth 100000 in
set_option maxHeartbeats 1600000 in
theorem plabels_any (b : Nat) (s : ByteArray) (at_ : Nat) (en : Int) (cv ov : Value) (ls : List CmT) (css : List (Array Value)) (w : World) (h : SR w b s at_ en cv ov) (hL : w.ownsRow 0 67 13 cv ls.length (flatC css)) (hA : All2 PCmdV css ls) (h60 : ls.length ≤ 60) (hsm : ∀ t ∈ ls, t.text.size ≤ 1048576) :
    Calls Tryz.prog 42 #[.pointer (some ⟨b, 0, none⟩)] w fun e w' => ∃ mm m, e = .returned (.map (some mm)) ∧ LabM w' mm m (fun x => firstL ls x ls.length) ∧ w.heap.size ≤ mm ∧ Below w.heap.size w w' := by
  have hbl := h.lt
  have hmk := @run_makeMap Tryz.prog
  have hz : ∀ c ∈ css, c.size = 13 := fun c hc => by
    obtain ⟨i, hi, rfl⟩ := List.getElem_of_mem hc
    have hl : i < ls.length := by rw [← hA.1]; exact hi
    exact (hA.2 i _ _ (List.getElem?_eq_getElem hi) (List.getElem?_eq_getElem hl)).1
  have M0 : LabM (w.alloc (.map #[] 0)) w.heap.size 0 (fun x => firstL ls x 0) := ⟨.map [], World.ownsMap_made w _ _ _, Maps.isMap_empty, fun x hx => .inl ⟨rfl, fun z => rfl⟩⟩
  have B0 : Below w.heap.size w (w.alloc (.map #[] 0)) := (Below.refl _ w).alloc (Nat.le_refl _) _
  have h1 := h.alloc (.map #[] 0)
  obtain ⟨pl, cl, rfl, hcl⟩ := own_form hL
  have c3 := h1.c3
  have HLS := hide (And.intro hL (And.intro hA (And.intro hz hsm)))
  clear hL hA hz hsm
  go_enter Tryz.func42, Tryz.ntmps42
  go_wp2_with fail
  go_loopg [14] ls.length (fun k iv w' => ∃ (i m : Nat), iv = .int .i64 i ∧ i + k = ls.length ∧ m ≤ i ∧ LabM w' w.heap.size m (fun x => firstL ls x i) ∧ Below w.heap.size w w')
  case atStart => exact ⟨0, 0, rfl, by omega, Nat.le_refl _, M0, B0⟩
  case round =>
    obtain ⟨i, m, rfl, hik, hmi, hM, hB⟩ := hrel
    by_cases hil : i < ls.length
    · have hd : decide ((i : Int) < (ls.length : Nat)) = true := by rw [decide_eq_true_iff]; omega
      obtain ⟨hL, hA, hz, hsm⟩ := HLS.out
      obtain ⟨gl, cl', hgl, -, hgl2⟩ := hL.form (by omega)
      simp only [Value.slice.injEq] at hgl
      obtain ⟨rfl, -, rfl⟩ := hgl
      have hL2 := own_agree (w' := wr) hL (fun k hk => hB.block k (World.ownsRow.lt hL k hk).2)
      have hic : i < css.length := by rw [hA.1]; exact hil
      obtain ⟨t, ht⟩ : ∃ t, ls[i]? = some t := ⟨_, List.getElem?_eq_getElem hil⟩
      obtain ⟨cs, hcs⟩ : ∃ cs, css[i]? = some cs := ⟨_, List.getElem?_eq_getElem hic⟩
      have hV := hA.2 i cs t hcs ht
      have htx := hsm t (List.mem_of_getElem? ht)
      have hrg := flat_range hL2 hz hil hcs
      have hzc := hV.1
      have h1c := hV.2.1
      obtain ⟨d, hd1, hd2⟩ := rowCommand
      have hi1 : (Tryz.prog.info? 67).map (·.size) = some cs.toList.length := by rw [infoCommand1, Array.length_toList, hzc]
      have hi2 : (Tryz.prog.info? 67).map (·.size) = some cs.size := by rw [infoCommand1, hzc]
      have hZ := Blk.new wr #[.int .u8 0, .int .i64 0, .slice none 0 0, .bool false, .string ⟨#[]⟩, .int .i64 0, .string ⟨#[]⟩, .string ⟨#[]⟩, .int .i64 0, .string ⟨#[]⟩, .pointer none, .string ⟨#[]⟩, .string ⟨#[]⟩] 67
      have hth : (wr.alloc (.cells #[.int .u8 0, .int .i64 0, .slice none 0 0, .bool false, .string ⟨#[]⟩, .int .i64 0, .string ⟨#[]⟩, .string ⟨#[]⟩, .int .i64 0, .string ⟨#[]⟩, .pointer none, .string ⟨#[]⟩, .string ⟨#[]⟩] 67)).there wr.heap.size 0 cs.size := blk_there hZ (by rw [hzc]; rfl)
      have hC5 := setCells_all hZ cs (by rw [hzc]; rfl)
      have hK5 := setCells_kp (b := wr.heap.size) (k := wr.heap.size) (W := wr) (Nat.le_refl _) cs.toList 0 _ ((Kp.refl wr.heap.size wr).alloc (.cells #[.int .u8 0, .int .i64 0, .slice none 0 0, .bool false, .string ⟨#[]⟩, .int .i64 0, .string ⟨#[]⟩, .string ⟨#[]⟩, .int .i64 0, .string ⟨#[]⟩, .pointer none, .string ⟨#[]⟩, .string ⟨#[]⟩] 67))
      have hmlt := hM.lt
      have hM5 := hM.agree (hK5.block w.heap.size hmlt (by omega))
      have hB5 := hB.trans (below_kp hK5 (Nat.le_of_lt hmlt) (Nat.le_of_lt hmlt))
      clear hL hA hz hsm hL2
      go_upto_region 5 with (first | (refine wpList_load_mid rfl 67 _ rfl gl (i * 13) rfl cs.toList d hrg hd1 hd2 hi1 ?_; rw [Array.toArray_toList]) | (refine wpList_store_mid rfl 67 _ _ rfl wr.heap.size 0 cs rfl rfl hth hi2 h1c ?_))
      generalize hcbq : wr.heap.size = cb at *
      generalize (wr.alloc (.cells #[.int .u8 0, .int .i64 0, .slice none 0 0, .bool false, .string ⟨#[]⟩, .int .i64 0, .string ⟨#[]⟩, .string ⟨#[]⟩, .int .i64 0, .string ⟨#[]⟩, .pointer none, .string ⟨#[]⟩, .string ⟨#[]⟩] 67)).setCells cb 0 cs.toList = w5 at *
      have c6 := hC5.cell 6 hV.2.2.2.2.2
      have c0 := hC5.cell 0 hV.2.2.1
      have hlx : (labT t).size ≤ 1048576 := by
        unfold labT
        split
        · exact htx
        · decide
      have hlk := hM5.look hlx true
      have hlab : ∀ x, isLab ls x i = (decide (t.op = 58) && decide (t.text = x)) := fun x => by unfold isLab; rw [ht]
      have hstay : (∀ x, firstL ls x i = none → isLab ls x i = false) → ∀ x, firstL ls x i = firstL ls x (i + 1) := fun hq x => by
        rw [firstL]
        cases hf : firstL ls x i with
        | some j => rfl
        | none => simp [hq x hf]
      try dsimp only at hlk
      rw [if_pos rfl] at hlk
      have hw1 : IntKind.i64.wrap ((i : Int) + 1) = (i : Int) + 1 := wrapE _ (by omega) (by omega)
      have HS := hide (And.intro hlab hstay)
      clear hlab hstay hrg hi1 hi2 hth hZ hd1 hd2 h1c hK5 hC5
      by_cases o58 : t.op = 58
      · have hlt : labT t = t.text := by unfold labT; rw [if_pos (.inl o58)]
        rw [hlt] at hlk c6
        rw [o58] at c0
        cases hf : firstL ls t.text i with
        | none =>
          rw [hf] at hlk
          simp only [Option.getD_none, Option.isSome_none] at hlk
          obtain ⟨D, hown, hID, hDf⟩ := hM5
          have HD := hide (And.intro hID hDf)
          have hml : m < maxLen := by unfold maxLen; omega
          have hwf := wfInt i (by omega)
          clear hID hDf
          go_wp2_with (at_mapUpdate; refine wpList_mapUpdate_own _ rfl _ _ _ 88 rfl 9 3 keyedS Tryz.underlying88 (plainElem Tryz.prog 3) w.heap.size m D rfl hown hml (.string t.text) (.int .i64 (i : Nat)) (.string t.text.data.toList) rfl rfl (keyS htx) (.lit (.int .i64 (i : Nat))) [] (plainElem_int Tryz.underlying3 hwf) ?_; intro w7 hown7 hgrow7)
          have hM7 := LabM.put hown HD.out.1 HD.out.2 htx (show i ≤ 1048576 by omega) hown7
          go_roundg (gk - 1)
          case measure => omega
          case rel =>
            refine ⟨i + 1, m + 1, by go_num, by omega, by omega, hM7.ext (fun x => ?_), below_grown hB5 hgrow7 (fun k hk => by simp only [Option.some.injEq] at hk; omega) (Nat.le_refl _)⟩
            rw [firstL]
            by_cases hx : x = t.text
            · subst hx
              rw [hf]
              have := HS.out.1 t.text
              simp [this, o58]
            · have h9 := HS.out.1 x
              have h8 : decide (t.text = x) = false := by rw [decide_eq_false_iff_not]; exact fun e => hx e.symm
              rw [if_neg hx]
              cases hg : firstL ls x i with
              | some j => rfl
              | none => simp [h9, h8]
        | some j =>
          rw [hf] at hlk
          simp only [Option.getD_some, Option.isSome_some] at hlk
          go_wp2_with fail
          go_roundg (gk - 1)
          case measure => omega
          case rel =>
            refine ⟨i + 1, m, by go_num, by omega, by omega, hM5.ext (HS.out.2 (fun x hx => ?_)), hB5⟩
            rw [HS.out.1 x]
            have : decide (t.text = x) = false := by
              rw [decide_eq_false_iff_not]
              intro e
              rw [← e, hf] at hx
              cases hx
            rw [this]; simp
      · generalize firstL ls (labT t) i = fo at hlk
        go_wp2_with fail
        go_roundg (gk - 1)
        case measure => omega
        case rel =>
          refine ⟨i + 1, m, by go_num, by omega, by omega, hM5.ext (HS.out.2 (fun x _ => ?_)), hB5⟩
          rw [HS.out.1 x]
          simp [o58]
    · have hd : decide ((i : Int) < (ls.length : Nat)) = false := by rw [decide_eq_false_iff_not]; omega
      have : i = ls.length := by omega
      subst this
      go_wp2_with fail
      go_ret
      exact ⟨_, m, rfl, hM, Nat.le_refl _, hB⟩
end Go.Proofs.YtpnecblofjpgfaaGreat

namespace Go.Proofs.YtpnecblofjpgfaaGreat
open Go.RowKit

theorem isEmpty_size (x : ByteArray) : x.toList.isEmpty = decide (x.size = 0) := by
  rw [Bool.eq_iff_iff, List.isEmpty_iff, decide_eq_true_iff]
  exact toList_nil x

set_option maxRecDepth 100000 in
set_option maxHeartbeats 1600000 in
theorem ptarget_any (b gl p mm m n cl : Nat) (s : ByteArray) (at_ : Nat) (en pos : Int) (x : ByteArray) (pl : Option Addr) (ov : Value) (f : ByteArray → Option Nat) (w : World) (h : SR w b s at_ en (.slice pl n cl) ov) (h1 : w.cell? ⟨gl, p + 1, none⟩ = some (.int .i64 pos)) (h6 : w.cell? ⟨gl, p + 6, none⟩ = some (.string x)) (hM : LabM w mm m f) (hx : x.size ≤ 1048576) :
    Calls Tryz.prog 43 #[.pointer (some ⟨b, 0, none⟩), .pointer (some ⟨gl, p, none⟩), .map (some mm)] w fun e w' => (¬ (x.size ≠ 0 ∧ f x = none) ∧ (∃ v, e = .returned (.int .i64 v)) ∧ w' = w) ∨ ((x.size ≠ 0 ∧ f x = none) ∧ e = .panicked (gaveUp en pos) ∧ w' = w.drew) := by
  have c3 := h.c3
  have hlk := hM.look hx true
  rw [if_pos rfl] at hlk
  have hie := isEmpty_size x
  by_cases hz : x.size = 0
  · have hd : decide (x.size = 0) = true := by simpa using hz
    rw [hd] at hie
    go_enter Tryz.func43, Tryz.ntmps43
    go_wp2_with fail
    go_ret
    exact .inl ⟨fun h => h.1 hz, ⟨_, rfl⟩, rfl⟩
  · have hd : decide (x.size = 0) = false := by simpa using hz
    rw [hd] at hie
    cases hf : f x with
    | some v =>
      rw [hf] at hlk
      simp only [Option.getD_some, Option.isSome_some] at hlk
      go_enter Tryz.func43, Tryz.ntmps43
      go_wp2_with fail
      go_ret
      exact .inl ⟨fun h => (by cases h.2), ⟨_, rfl⟩, rfl⟩
    | none =>
      rw [hf] at hlk
      simp only [Option.getD_none, Option.isSome_none] at hlk
      go_enter Tryz.func43, Tryz.ntmps43
      go_wp2_with fail
      refine wp_region_any (by kernel_rfl) ?_
      change wpAny _ _ _ _ _ _ _ (World.drew _)
      refine wpAny_take (i := 0) (v := .pointer (some ⟨b, 0, none⟩)) rfl (by kernel_rfl) (by kernel_rfl) (by kernel_rfl) (fun _ _ _ h => h) (Or.inl ⟨by rfl, by intro w; go_simp⟩) ?_
      refine wpAny_take (i := 1) (v := .pointer (some ⟨b, 0, none⟩)) rfl (by kernel_rfl) (by kernel_rfl) (by kernel_rfl) (fun _ _ _ h => h) (Or.inl ⟨by rfl, by intro w; go_simp⟩) ?_
      refine wpAny_take (i := 2) (v := .pointer (some ⟨b, 0, none⟩)) rfl (by kernel_rfl) (by kernel_rfl) (by kernel_rfl) (fun _ _ _ h => h) (Or.inl ⟨by rfl, by intro w; go_simp⟩) ?_
      refine wpAny_take (i := 3) (v := .pointer (some ⟨gl, p, none⟩)) rfl (by kernel_rfl) (by kernel_rfl) (by kernel_rfl) (fun _ _ _ h => h) (Or.inl ⟨by rfl, by intro w; go_simp⟩) ?_
      refine wpAny_take (i := 4) (v := .pointer (some ⟨gl, p, none⟩)) rfl (by kernel_rfl) (by kernel_rfl) (by kernel_rfl) (fun _ _ _ h => h) (Or.inl ⟨by rfl, by intro w; go_simp⟩) ?_
      refine wpAny_take (i := 5) (v := .pointer (some ⟨gl, p + 1, none⟩)) rfl (by kernel_rfl) (by kernel_rfl) (by kernel_rfl) (fun _ _ _ h => h) (Or.inl ⟨by rfl, by intro w; go_simp⟩) ?_
      refine wpAny_ready (rs := [6]) (by kernel_rfl) (by simp) ?_
      refine AllReady.cons rfl (fun K hK => ?_) AllReady.nil
      go_simp
      refine hK _ _ ?_
      clear hK K
      refine wpAny_ready (rs := [7]) (by kernel_rfl) (by simp) ?_
      refine AllReady.cons rfl (fun K hK => ?_) AllReady.nil
      go_simp
      refine (giveUp_any b s at_ en pos _ (SR.rd h.drew)).mono ?_
      rintro e w3 ⟨rfl, rfl⟩
      exact ⟨rfl, .inr ⟨⟨hz, by simp⟩, rfl, rfl⟩⟩

/-- What findLabels does. -/
def FindPost (w : World) (base b : Nat) (s : ByteArray) (at_ : Nat) (cv ov : Value) (ls : List CmT) (e : Ending) (w' : World) : Prop :=
  Below base w w' ∧ ((lostS ls ls.length 0 = none ∧ e = .returned (.tuple #[]) ∧ ∃ css', SR w' b s at_ 4 cv ov ∧ w'.ownsRow 0 67 13 cv ls.length (flatC css') ∧ All2 PCmdV css' ls) ∨ ∃ pl : Nat, lostS ls ls.length 0 = some pl ∧ e = .panicked (gaveUp 4 pl))

set_option maxRecDepth 100000 in
set_option maxHeartbeats 1600000 in
theorem pfind_any (b base : Nat) (s : ByteArray) (at_ : Nat) (en : Int) (cv ov : Value) (ls : List CmT) (css : List (Array Value)) (w : World) (h : SR w b s at_ en cv ov) (hL : w.ownsRow 0 67 13 cv ls.length (flatC css)) (hA : All2 PCmdV css ls) (h60 : ls.length ≤ 60) (hsm : ∀ t ∈ ls, t.text.size ≤ 1048576) (hbb : base ≤ b) (hlb : ∀ k, cv.ownBlock = some k → base ≤ k) :
    Calls Tryz.prog 32 #[.pointer (some ⟨b, 0, none⟩)] w fun e w' => FindPost w base b s at_ cv ov ls e w' := by
  have hbl := h.lt
  have hneb := own_blk hL h (by decide)
  have c2 := h.c2
  have cf := h.fz
  have h1 : SR (w.setCell ⟨b, 2, none⟩ (.int .i64 4)) b s at_ 4 cv ov := Blk.set h 2 _ rfl
  have hL1 := own_set hL (p := ⟨b, 2, none⟩) hneb (.int .i64 4)
  have B1 : Below base w (w.setCell ⟨b, 2, none⟩ (.int .i64 4)) := (Below.refl base w).setCell hbb _
  have hw0 : base ≤ (w.setCell ⟨b, 2, none⟩ (.int .i64 4)).heap.size := by show base ≤ (w.setCell ⟨b, 2, none⟩ (.int .i64 4)).heap.size; simp [World.setCell]; omega
  go_enter Tryz.func32, Tryz.ntmps32
  go_wp2_with fail
  generalize w.setCell ⟨b, 2, none⟩ (.int .i64 4) = w1 at *
  refine (plabels_any b s at_ 4 cv ov ls css w1 h1 hL1 hA h60 hsm).mono ?_
  rintro e w2 ⟨mm, m, rfl, hM, hmm, hB2⟩
  have h2 : SR w2 b s at_ 4 cv ov := Blk.below h1 hB2
  have hL2 := own_agree (w' := w2) hL1 (fun k hk => hB2.block k (World.ownsRow.lt hL1 k hk).2)
  have B2 : Below base w w2 := B1.trans ⟨hB2.os, hB2.tape, hB2.output, hB2.size, fun k hk => hB2.block k (by omega)⟩
  have hbm : base ≤ mm := by omega
  clear h h1 hL hL1 B1 hB2 c2 cf hneb hmm
  obtain ⟨pl, cl, rfl, hcl⟩ := own_form hL2
  have c3 := h2.c3
  have HSM := hide (And.intro hsm hlb)
  clear hsm hlb
  go_wp2_with fail
  go_loopg [16] ls.length (fun k iv w' => ∃ (i : Nat) (css' : List (Array Value)), iv = .int .i64 i ∧ i + k = ls.length ∧ SR w' b s at_ 4 (.slice pl ls.length cl) ov ∧ w'.ownsRow 0 67 13 (.slice pl ls.length cl) ls.length (flatC css') ∧ All2 PCmdV css' ls ∧ LabM w' mm m (fun x => firstL ls x ls.length) ∧ Below base w w' ∧ Hid (lostS ls k i = lostS ls ls.length 0))
  case atStart => exact ⟨0, css, rfl, by omega, h2, hL2, hA, hM, B2, rfl⟩
  case round =>
    obtain ⟨i, css', rfl, hik, hR, hL, hA, hM, hB, HE⟩ := hrel
    by_cases hil : i < ls.length
    · obtain ⟨k, rfl⟩ : ∃ k, gk = k + 1 := ⟨gk - 1, by omega⟩
      have hd : decide ((i : Int) < (ls.length : Nat)) = true := by rw [decide_eq_true_iff]; omega
      obtain ⟨hsm, hlb⟩ := HSM.out
      have hz : ∀ c ∈ css', c.size = 13 := fun c hc => by
        obtain ⟨i, hi, rfl⟩ := List.getElem_of_mem hc
        have hl : i < ls.length := by rw [← hA.1]; exact hi
        exact (hA.2 i _ _ (List.getElem?_eq_getElem hi) (List.getElem?_eq_getElem hl)).1
      obtain ⟨gl, cl', hgl, -, hgl2⟩ := hL.form (by omega)
      simp only [Value.slice.injEq] at hgl
      obtain ⟨rfl, -, rfl⟩ := hgl
      have hic : i < css'.length := by rw [hA.1]; exact hil
      obtain ⟨t, ht⟩ : ∃ t, ls[i]? = some t := ⟨_, List.getElem?_eq_getElem hil⟩
      obtain ⟨cs, hcs⟩ : ∃ cs, css'[i]? = some cs := ⟨_, List.getElem?_eq_getElem hic⟩
      have hV := hA.2 i cs t hcs ht
      have htx := hsm t (List.mem_of_getElem? ht)
      have hcell : ∀ o, o < 13 → wr.cell? ⟨gl, i * 13 + o, none⟩ = cs[o]? := fun o ho => by
        rw [hL.cellAt (i * 13 + o) (by omega), flatC_get hz i o ho, hcs]
        rfl
      have g0 : wr.cell? ⟨gl, i * 13, none⟩ = some (.int .u8 t.op) := (hcell 0 (by omega)).trans hV.2.2.1
      have g1 : wr.cell? ⟨gl, i * 13 + 1, none⟩ = some (.int .i64 t.pos) := (hcell 1 (by omega)).trans hV.2.2.2.1
      have g6 : wr.cell? ⟨gl, i * 13 + 6, none⟩ = some (.string (labT t)) := (hcell 6 (by omega)).trans hV.2.2.2.2.2
      have h5s : 5 < cs.size := by rw [hV.1]; omega
      have g5 : wr.cell? ⟨gl, i * 13 + 5, none⟩ = some cs[5] := (hcell 5 (by omega)).trans (Array.getElem?_eq_getElem h5s)
      have gf : wr.frozen? ⟨gl, i * 13 + 5, none⟩ = false := hL.frozenAt _
      generalize cs[5]'h5s = x5 at g5
      have hglb := hlb gl rfl
      have hnb : gl ≠ b := fun e => own_blk hL hR (by decide) (by rw [e]; rfl)
      have hE := HE.out
      rw [lostS, ht] at hE
      dsimp only at hE
      have HE2 := hide hE
      have c3 := hR.c3
      have hw1 : IntKind.i64.wrap ((i : Int) + 1) = (i : Int) + 1 := wrapE _ (by omega) (by omega)
      clear hE HE hcell hcs hV hsm hlb
      by_cases o58 : t.op = 58
      · have hlt : labT t = t.text := by unfold labT; rw [if_pos (.inl o58)]
        rw [hlt] at g6
        rw [o58] at g0
        have hlab : isLab ls t.text i = true := by unfold isLab; rw [ht]; simp [o58]
        obtain ⟨j, hj1, hj2⟩ := firstL_hit hlab
        have hj3 := firstL_up hj1 ls.length (by omega)
        have hlk := hM.look htx false
        rw [if_neg (by simp), hj3] at hlk
        simp only [Option.getD_some] at hlk
        by_cases hji : j < i
        · have hdj : decide ((j : Int) < (i : Nat)) = true := by rw [decide_eq_true_iff]; omega
          have hlo : lostB ls t i = true := by
            unfold lostB
            rw [hj3]
            simp [o58]
            omega
          have hEE := HE2.out
          rw [hlo, if_pos rfl] at hEE
          have HE3 := hide hEE
          clear hEE HE2 hj1 hj3 hlab hlo
          go_wp2_with fail
          refine wp_region_any (by kernel_rfl) ?_
          change wpAny _ _ _ _ _ _ _ (World.drew _)
          refine wpAny_take (i := 0) (v := .pointer (some ⟨b, 0, none⟩)) rfl (by kernel_rfl) (by kernel_rfl) (by kernel_rfl) (fun _ _ _ h => h) (Or.inl ⟨by rfl, by intro w; go_simp⟩) ?_
          refine wpAny_take (i := 1) (v := .pointer (some ⟨b, 0, none⟩)) rfl (by kernel_rfl) (by kernel_rfl) (by kernel_rfl) (fun _ _ _ h => h) (Or.inl ⟨by rfl, by intro w; go_simp⟩) ?_
          refine wpAny_take (i := 2) (v := .pointer (some ⟨b, 0, none⟩)) rfl (by kernel_rfl) (by kernel_rfl) (by kernel_rfl) (fun _ _ _ h => h) (Or.inl ⟨by rfl, by intro w; go_simp⟩) ?_
          refine wpAny_take (i := 3) (v := .pointer (some ⟨gl, i * 13, none⟩)) rfl (by kernel_rfl) (by kernel_rfl) (by kernel_rfl) (fun _ _ _ h => h) (Or.inl ⟨by rfl, by intro w; go_simp⟩) ?_
          refine wpAny_take (i := 4) (v := .pointer (some ⟨gl, i * 13, none⟩)) rfl (by kernel_rfl) (by kernel_rfl) (by kernel_rfl) (fun _ _ _ h => h) (Or.inl ⟨by rfl, by intro w; go_simp⟩) ?_
          refine wpAny_take (i := 5) (v := .pointer (some ⟨gl, i * 13 + 1, none⟩)) rfl (by kernel_rfl) (by kernel_rfl) (by kernel_rfl) (fun _ _ _ h => h) (Or.inl ⟨by rfl, by intro w; go_simp⟩) ?_
          refine wpAny_ready (rs := [6]) (by kernel_rfl) (by simp) ?_
          refine AllReady.cons rfl (fun K hK => ?_) AllReady.nil
          go_simp
          refine hK _ _ ?_
          clear hK K
          refine wpAny_ready (rs := [7]) (by kernel_rfl) (by simp) ?_
          refine AllReady.cons rfl (fun K hK => ?_) AllReady.nil
          go_simp
          refine (giveUp_any b s at_ 4 t.pos _ (SR.rd hR.drew)).mono ?_
          rintro e w3 ⟨rfl, rfl⟩
          exact ⟨rfl, hB.drew, .inr ⟨t.pos, HE3.out.symm, rfl⟩⟩
        · have hdj : decide ((j : Int) < (i : Nat)) = false := by rw [decide_eq_false_iff_not]; omega
          have hlo : lostB ls t i = false := by
            unfold lostB
            rw [hj3]
            have hji2 : j = i := by omega
            simp [o58, hji2]
          have hEE := HE2.out
          rw [hlo, if_neg (by simp)] at hEE
          have HE3 := hide hEE
          clear hEE HE2 hj1 hj3 hlab hlo
          go_wp2_with fail
          go_roundg k
          case measure => omega
          case rel => exact ⟨i + 1, css', by go_num, by omega, hR, hL, hA, hM, hB, HE3.out⟩
      · by_cases obt : t.op = 98 ∨ t.op = 116
        · have hlt : labT t = t.text := by unfold labT; rw [if_pos (.inr obt)]
          rw [hlt] at g6
          have hlo : lostB ls t i = (decide (t.text.size ≠ 0) && decide (firstL ls t.text ls.length = none)) := by
            unfold lostB
            rcases obt with o | o <;> simp [o]
          have hpt := ptarget_any b gl (i * 13) mm m ls.length cl s at_ 4 t.pos t.text (some ⟨gl, 0, none⟩) ov _ wr hR g1 g6 hM htx
          have HPT := hide hpt
          clear hpt
          have hne2 : gl ≠ mm := by
            rcases hL.2 with ⟨hq, _⟩ | ⟨g, cap, cur, hq, _, hg, _⟩
            · cases hq
            · cases hq
              exact hM.not_cells hg
          have hst := fun v : Int => (hL.stored (i * 13 + 5) (.int .i64 v)).1
          rcases obt with o | o
          all_goals
            rw [o] at g0
            go_wp2_with fail
            refine HPT.out.mono ?_
            rintro e w3 hT
            rcases hT with ⟨hno, ⟨v, rfl⟩, rfl⟩ | ⟨hyes, rfl, rfl⟩
            · have hEE := HE2.out
              have hlo2 : lostB ls t i = false := by
                rw [hlo]
                rw [Bool.eq_false_iff]
                intro hq
                simp only [Bool.and_eq_true, decide_eq_true_iff] at hq
                exact hno hq
              rw [hlo2, if_neg (by simp)] at hEE
              have HE3 := hide hEE
              clear hEE HE2
              go_wp2_with fail
              go_roundg k
              case measure => omega
              case rel =>
                refine ⟨i + 1, css'.modify i (·.setIfInBounds 5 (.int .i64 v)), by go_num, by omega, hR.other (p := ⟨gl, i * 13 + 5, none⟩) hnb _, ?_, hA.modify i _ (fun x y hxy => hxy.set5 rfl), hM.agree (Below.heap_setCell _ _ _ _ (fun e => hne2 e.symm)), hB.setCell hglb _, HE3.out⟩
                have := hst v
                rw [flatC_set hz i 5 _ (by omega)] at this
                exact this
            · have hEE := HE2.out
              have hlo2 : lostB ls t i = true := by
                rw [hlo]
                simp only [Bool.and_eq_true, decide_eq_true_iff]
                exact hyes
              rw [hlo2, if_pos rfl] at hEE
              exact ⟨rfl, hB.drew, .inr ⟨t.pos, hEE.symm, rfl⟩⟩
        · have n98 : ¬ t.op = 98 := fun e => obt (.inl e)
          have n116 : ¬ t.op = 116 := fun e => obt (.inr e)
          have hlo : lostB ls t i = false := by
            unfold lostB
            simp [o58, n98, n116]
          have hEE := HE2.out
          rw [hlo, if_neg (by simp)] at hEE
          have HE3 := hide hEE
          clear hEE HE2 hlo
          go_wp2_with fail
          go_roundg k
          case measure => omega
          case rel => exact ⟨i + 1, css', by go_num, by omega, hR, hL, hA, hM, hB, HE3.out⟩
    · have hd : decide ((i : Int) < (ls.length : Nat)) = false := by rw [decide_eq_false_iff_not]; omega
      have hgk : gk = 0 := by omega
      subst hgk
      go_wp2_with fail
      refine bodyPost_end (results_none rfl _ _ _) rfl ?_
      exact ⟨hB, .inl ⟨HE.out.symm, rfl, css', hR, hL, hA⟩⟩
end Go.Proofs.YtpnecblofjpgfaaGreat
