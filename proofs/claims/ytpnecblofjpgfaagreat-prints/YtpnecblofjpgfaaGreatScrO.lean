import Derived.Test.YtpnecblofjpgfaaGreatPscP
import Derived.Test.YtpnecblofjpgfaaGreatScrN
namespace Go.Proofs.YtpnecblofjpgfaaGreat
open Go.RowKit

def optI (o : Option Nat) : Int := match o with | some i => (i : Int) | none => -1

theorem cmd_cells {w : World} {gl cl n : Nat} {css : List (Array Value)} {l : List CmT} (hL : w.ownsRow 0 51 31 (.slice (some ⟨gl, 0, none⟩) n cl) n (flatC css)) (hA : All2 CmdV css l) (hn : n = l.length) {i : Nat} {t : CmT} (ht : l[i]? = some t) :
    w.cell? ⟨gl, i * 31, none⟩ = some (.int .u8 t.op) ∧ w.cell? ⟨gl, i * 31 + 1, none⟩ = some (.int .i64 t.pos) ∧ ∃ y, w.cell? ⟨gl, i * 31 + 17, none⟩ = some (.string y) ∧ ((t.op = 58 ∨ t.op = 98 ∨ t.op = 116) → y = t.text) := by
  have hi : i < l.length := (List.getElem?_eq_some_iff.1 ht).1
  have hz : ∀ c ∈ css, c.size = 31 := fun c hc => by
    obtain ⟨i, hi, rfl⟩ := List.getElem_of_mem hc
    have hl : i < l.length := by rw [← hA.1]; exact hi
    exact (hA.2 i _ _ (List.getElem?_eq_getElem hi) (List.getElem?_eq_getElem hl)).1
  obtain ⟨cs, hcs⟩ : ∃ cs, css[i]? = some cs := ⟨_, List.getElem?_eq_getElem (by rw [hA.1]; exact hi)⟩
  have hV := hA.2 i cs t hcs ht
  have hcell : ∀ o, o < 31 → w.cell? ⟨gl, i * 31 + o, none⟩ = cs[o]? := fun o ho => by
    rw [hL.cellAt (i * 31 + o) (by omega), flatC_get hz i o ho, hcs]
    rfl
  obtain ⟨h1, h2, h3, h4, ⟨y, h5⟩, h6, _⟩ := hV
  refine ⟨(hcell 0 (by omega)).trans h3, (hcell 1 (by omega)).trans h4, y, (hcell 17 (by omega)).trans h5, fun ho => ?_⟩
  have := h6 ho
  rw [h5] at this
  simpa using this

theorem beq_bytes (a b : ByteArray) : (a.toList == b.toList) = decide (a = b) := by
  rw [Bool.eq_iff_iff, beq_iff_eq, decide_eq_true_iff, ByteArray.toList_eq, ByteArray.toList_eq]
  constructor
  · intro h
    apply ByteArray.ext
    rw [← Array.toArray_toList (xs := a.data), h, Array.toArray_toList]
  · intro h; rw [h]

set_option maxRecDepth 100000 in
set_option maxHeartbeats 1600000 in
theorem label_any (lv : Value) (l : List CmT) (css : List (Array Value)) (x : ByteArray) (w : World) (hL : w.ownsRow 0 51 31 lv l.length (flatC css)) (hA : All2 CmdV css l) (h60 : l.length ≤ 60) :
    Calls Tryz.prog 22 #[lv, .string x] w fun e w' => e = .returned (.int .i64 (optI (firstL l x l.length))) ∧ w' = w := by
  obtain ⟨pl, cl, rfl, hcl⟩ := own_form hL
  go_enter Tryz.func22, Tryz.ntmps22
  go_wp2_with fail
  go_loopg [5] l.length (fun k iv w' => ∃ i : Nat, iv = .int .i64 i ∧ i + k = l.length ∧ w' = w ∧ Hid (firstL l x i = none))
  case atStart => exact ⟨0, rfl, by omega, rfl, rfl⟩
  case round =>
    obtain ⟨i, rfl, hik, rfl, HN⟩ := hrel
    by_cases hil : i < l.length
    · have hd : decide ((i : Int) < (l.length : Nat)) = true := by rw [decide_eq_true_iff]; omega
      obtain ⟨gl, cl', hgl, -, hgl2⟩ := hL.form (by omega)
      simp only [Value.slice.injEq] at hgl
      obtain ⟨rfl, -, rfl⟩ := hgl
      obtain ⟨t, ht⟩ : ∃ t, l[i]? = some t := ⟨_, List.getElem?_eq_getElem hil⟩
      obtain ⟨g0, -, y, g17, hy⟩ := cmd_cells hL hA rfl ht
      have hlab : isLab l x i = (decide (t.op = 58) && decide (t.text = x)) := by unfold isLab; rw [ht]
      have hw1 : IntKind.i64.wrap ((i : Int) + 1) = (i : Int) + 1 := wrapE _ (by omega) (by omega)
      have hstep : firstL l x (i + 1) = if isLab l x i then some i else none := by rw [firstL, HN.out]
      have HS := hide (And.intro hlab hstep)
      clear hlab hstep
      by_cases o58 : t.op = 58
      · rw [o58] at g0
        have hyt := hy (.inl o58)
        subst hyt
        have hbe := beq_bytes t.text x
        by_cases hxx : t.text = x
        · have hq : decide (t.text = x) = true := by simpa using hxx
          rw [hq] at hbe
          have hfin : firstL l x l.length = some i := firstL_up (k := i + 1) (by rw [HS.out.2, HS.out.1, hq]; simp [o58]) _ (by omega)
          have HF := hide hfin
          clear hfin hxx
          go_wp2_with fail
          go_ret
          rw [HF.out]
          exact ⟨rfl, rfl⟩
        · have hq : decide (t.text = x) = false := by simpa using hxx
          rw [hq] at hbe
          go_wp2_with fail
          go_roundg (gk - 1)
          case measure => omega
          case rel => exact ⟨i + 1, by go_num, by omega, rfl, by show firstL l x (i + 1) = none; rw [HS.out.2, HS.out.1, hq]; simp⟩
      · go_wp2_with fail
        go_roundg (gk - 1)
        case measure => omega
        case rel => exact ⟨i + 1, by go_num, by omega, rfl, by show firstL l x (i + 1) = none; rw [HS.out.2, HS.out.1]; simp [o58]⟩
    · have hd : decide ((i : Int) < (l.length : Nat)) = false := by rw [decide_eq_false_iff_not]; omega
      have : i = l.length := by omega
      subst this
      go_wp2_with fail
      go_ret
      rw [HN.out]
      exact ⟨rfl, rfl⟩

set_option maxRecDepth 100000 in
set_option maxHeartbeats 1600000 in
theorem lost_any (lv : Value) (l : List CmT) (css : List (Array Value)) (w : World) (hL : w.ownsRow 0 51 31 lv l.length (flatC css)) (hA : All2 CmdV css l) (h60 : l.length ≤ 60) :
    Calls Tryz.prog 12 #[lv] w fun e w' => e = .returned (.int .i64 (optI (lostS l l.length 0))) ∧ w' = w := by
  obtain ⟨pl, cl, rfl, hcl⟩ := own_form hL
  go_enter Tryz.func12, Tryz.ntmps12
  go_wp2_with fail
  go_loopg [3] l.length (fun k iv w' => ∃ i : Nat, iv = .int .i64 i ∧ i + k = l.length ∧ w' = w ∧ Hid (lostS l k i = lostS l l.length 0))
  case atStart => exact ⟨0, rfl, by omega, rfl, rfl⟩
  case round =>
    obtain ⟨i, rfl, hik, rfl, HN⟩ := hrel
    by_cases hil : i < l.length
    · obtain ⟨k, rfl⟩ : ∃ k, gk = k + 1 := ⟨gk - 1, by omega⟩
      have hd : decide ((i : Int) < (l.length : Nat)) = true := by rw [decide_eq_true_iff]; omega
      obtain ⟨gl, cl', hgl, -, hgl2⟩ := hL.form (by omega)
      simp only [Value.slice.injEq] at hgl
      obtain ⟨rfl, -, rfl⟩ := hgl
      obtain ⟨t, ht⟩ : ∃ t, l[i]? = some t := ⟨_, List.getElem?_eq_getElem hil⟩
      obtain ⟨g0, g1, y, g17, hy⟩ := cmd_cells hL hA rfl ht
      have hw1 : IntKind.i64.wrap ((i : Int) + 1) = (i : Int) + 1 := wrapE _ (by omega) (by omega)
      have hE := HN.out
      rw [lostS, ht] at hE
      dsimp only at hE
      have HE2 := hide hE
      have hlbl := label_any (.slice (some ⟨gl, 0, none⟩) l.length cl) l css y wr hL hA h60
      have HLB := hide hlbl
      have hie := isEmpty_size y
      have hkey : ∀ j, firstL l y l.length = some j → j < l.length := fun j hj => (firstL_lt hj).1
      clear hE HN hlbl
      generalize hfk : firstL l y l.length = fk at *
      have HFK := hide hfk
      clear hfk
      by_cases o58 : t.op = 58
      · rw [o58] at g0
        have hyt := hy (.inl o58)
        subst hyt
        have hlo : lostB l t i = decide (fk ≠ some i) := by unfold lostB; rw [HFK.out]; simp [o58]
        by_cases hfi : fk = some i
        · subst hfi
          have hlo2 : lostB l t i = false := by rw [hlo]; simp
          have hEE := HE2.out
          rw [hlo2, if_neg (by simp)] at hEE
          have HE3 := hide hEE
          have ho : optI (some i) = (i : Int) := rfl
          clear hEE HE2 hlo hlo2
          go_wp2_with (go_at_call 22; refine HLB.out.mono ?_; rintro e w2 ⟨rfl, rfl⟩; rw [ho])
          go_roundg k
          case measure => omega
          case rel => exact ⟨i + 1, by go_num, by omega, rfl, HE3.out⟩
        · have hlo2 : lostB l t i = true := by rw [hlo]; simpa using hfi
          have hEE := HE2.out
          rw [hlo2, if_pos rfl] at hEE
          have HE3 := hide hEE
          have hne : ¬ optI fk = (i : Int) := by
            intro e
            cases fk with
            | none =>
              have e2 : (-1 : Int) = (i : Int) := e
              omega
            | some j =>
              have e2 : (j : Int) = (i : Int) := e
              have e3 : j = i := by omega
              exact hfi (by rw [e3])
          generalize optI fk = kv at *
          clear hEE HE2 hlo hlo2 hfi
          go_wp2_with (go_at_call 22; refine HLB.out.mono ?_; rintro e w2 ⟨rfl, rfl⟩)
          go_ret
          rw [← HE3.out]
          exact ⟨rfl, rfl⟩
      · by_cases obt : t.op = 98 ∨ t.op = 116
        · have hyt := hy (.inr obt)
          subst hyt
          have hlo : lostB l t i = (decide (t.text.size ≠ 0) && decide (fk = none)) := by
            unfold lostB
            rw [HFK.out]
            rcases obt with o | o <;> simp [o]
          by_cases hz : t.text.size = 0
          · have hq : decide (t.text.size = 0) = true := by simpa using hz
            rw [hq] at hie
            have hlo2 : lostB l t i = false := by rw [hlo]; simp [hz]
            have hEE := HE2.out
            rw [hlo2, if_neg (by simp)] at hEE
            have HE3 := hide hEE
            generalize optI fk = kv at *
            clear hEE HE2 hlo hlo2
            rcases obt with o | o
            all_goals
              rw [o] at g0
              go_wp2_with (go_at_call 22; refine HLB.out.mono ?_; rintro e w2 ⟨rfl, rfl⟩)
              go_roundg k
              case measure => omega
              case rel => exact ⟨i + 1, by go_num, by omega, rfl, HE3.out⟩
          · have hq : decide (t.text.size = 0) = false := by simpa using hz
            rw [hq] at hie
            cases fk with
            | none =>
              have hlo2 : lostB l t i = true := by rw [hlo]; simp [hz]
              have hEE := HE2.out
              rw [hlo2, if_pos rfl] at hEE
              have HE3 := hide hEE
              have ho : optI none = -1 := rfl
              clear hEE HE2 hlo hlo2
              rcases obt with o | o
              all_goals
                rw [o] at g0
                go_wp2_with (go_at_call 22; refine HLB.out.mono ?_; rintro e w2 ⟨rfl, rfl⟩; rw [ho])
                go_ret
                rw [← HE3.out]
                exact ⟨rfl, rfl⟩
            | some j =>
              have hlo2 : lostB l t i = false := by rw [hlo]; simp
              have hEE := HE2.out
              rw [hlo2, if_neg (by simp)] at hEE
              have HE3 := hide hEE
              have ho : optI (some j) = (j : Int) := rfl
              clear hEE HE2 hlo hlo2
              rcases obt with o | o
              all_goals
                rw [o] at g0
                go_wp2_with (go_at_call 22; refine HLB.out.mono ?_; rintro e w2 ⟨rfl, rfl⟩; rw [ho])
                go_roundg k
                case measure => omega
                case rel => exact ⟨i + 1, by go_num, by omega, rfl, HE3.out⟩
        · have n98 : ¬ t.op = 98 := fun e => obt (.inl e)
          have n116 : ¬ t.op = 116 := fun e => obt (.inr e)
          have hlo2 : lostB l t i = false := by unfold lostB; simp [o58, n98, n116]
          have hEE := HE2.out
          rw [hlo2, if_neg (by simp)] at hEE
          have HE3 := hide hEE
          generalize optI fk = kv at *
          clear hEE HE2 hlo2
          go_wp2_with (go_at_call 22; refine HLB.out.mono ?_; rintro e w2 ⟨rfl, rfl⟩)
          go_roundg k
          case measure => omega
          case rel => exact ⟨i + 1, by go_num, by omega, rfl, HE3.out⟩
    · have hd : decide ((i : Int) < (l.length : Nat)) = false := by rw [decide_eq_false_iff_not]; omega
      have hgk : gk = 0 := by omega
      subst hgk
      go_wp2_with fail
      go_ret
      rw [← HN.out]
      exact ⟨rfl, rfl⟩
end Go.Proofs.YtpnecblofjpgfaaGreat
