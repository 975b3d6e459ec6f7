import Derived.Test.YtmjdaifalgpdnaaGreatPscP
import Derived.Test.YtmjdaifalgpdnaaGreatScrN
import Derived.Test.YtmjdaifalgpdnaaGreatPriF
import Derived.Shelf.Strings.Builder1
namespace Go.Proofs.YtmjdaifalgpdnaaGreat
open Go.RowKit

def optI (o : Option Nat) : Int := match o with | some i => (i : Int) | none => -1

theorem cmd_cells {w : World} {gl cl n : Nat} {css : List (Array Value)} {l : List CmT} (hL : w.ownsRow 0 62 31 (.slice (some ⟨gl, 0, none⟩) n cl) n (flatC css)) (hA : All2 CmdV css l) (hn : n = l.length) {i : Nat} {t : CmT} (ht : l[i]? = some t) :
    w.cell? ⟨gl, i * 31, none⟩ = some (.int .u8 t.op) ∧ w.cell? ⟨gl, i * 31 + 1, none⟩ = some (.int .i64 t.pos) ∧ ∃ y, w.cell? ⟨gl, i * 31 + 17, none⟩ = some (.string y) ∧ ((t.op = 58 ∨ t.op = 98 ∨ t.op = 116) → y = t.text) := by
  have hi : i < l.length := (List.getElem?_eq_some_iff.1 ht).1
  have hz : ∀ c ∈ css, c.size = 31 := fun c hc => by
    obtain ⟨i, hi, rfl⟩ := List.getElem_of_mem hc
    have hl : i < l.length := by rw [← hA.1]; exact hi
    exact (hA.2 i _ _ (List.getElem?_eq_getElem hi) (List.getElem?_eq_getElem hl)).1
  obtain ⟨cs, hcs⟩ : ∃ cs, css[i]? = some cs := ⟨_, List.getElem?_eq_getElem (by rw [hA.1]; exact hi)⟩
  have hV := hA.2 i cs t hcs ht
  have hcell : ∀ o, o < 31 → w.cell? ⟨gl, i * 31 + o, none⟩ = cs[o]? := fun o ho => by
    rw [hL.cellAt (i * 31 + o) (by omega), flatC_get hz i o ho, hcs]
    rfl
  obtain ⟨h1, h2, h3, h4, ⟨y, h5⟩, h6, _⟩ := hV
  refine ⟨(hcell 0 (by omega)).trans h3, (hcell 1 (by omega)).trans h4, y, (hcell 17 (by omega)).trans h5, fun ho => ?_⟩
  have := h6 ho
  rw [h5] at this
  simpa using this

theorem beq_bytes (a b : ByteArray) : (a.toList == b.toList) = decide (a = b) := by
  rw [Bool.eq_iff_iff, beq_iff_eq, decide_eq_true_iff, ByteArray.toList_eq, ByteArray.toList_eq]
  constructor
  · intro h
    apply ByteArray.ext
    rw [← Array.toArray_toList (xs := a.data), h, Array.toArray_toList]
  · intro h; rw [h]

set_option maxRecDepth 100000 in
set_option maxHeartbeats 1600000 in
theorem label_any (lv : Value) (l : List CmT) (css : List (Array Value)) (x : ByteArray) (w : World) (hL : w.ownsRow 0 62 31 lv l.length (flatC css)) (hA : All2 CmdV css l) (h60 : l.length ≤ 60) :
    Calls Tryz.prog 30 #[lv, .string x] w fun e w' => e = .returned (.int .i64 (optI (firstL l x l.length))) ∧ w' = w := by
  obtain ⟨pl, cl, rfl, hcl⟩ := own_form hL
  go_enter Tryz.func30, Tryz.ntmps30
  go_wp2_with fail
  go_loopg [5] l.length (fun k iv w' => ∃ i : Nat, iv = .int .i64 i ∧ i + k = l.length ∧ w' = w ∧ Hid (firstL l x i = none))
  case atStart => exact ⟨0, rfl, by omega, rfl, rfl⟩
  case round =>
    obtain ⟨i, rfl, hik, rfl, HN⟩ := hrel
    by_cases hil : i < l.length
    · have hd : decide ((i : Int) < (l.length : Nat)) = true := by rw [decide_eq_true_iff]; omega
      obtain ⟨gl, cl', hgl, -, hgl2⟩ := hL.form (by omega)
      simp only [Value.slice.injEq] at hgl
      obtain ⟨rfl, -, rfl⟩ := hgl
      obtain ⟨t, ht⟩ : ∃ t, l[i]? = some t := ⟨_, List.getElem?_eq_getElem hil⟩
      obtain ⟨g0, -, y, g17, hy⟩ := cmd_cells hL hA rfl ht
      have hlab : isLab l x i = (decide (t.op = 58) && decide (t.text = x)) := by unfold isLab; rw [ht]
      have hw1 : IntKind.i64.wrap ((i : Int) + 1) = (i : Int) + 1 := wrapE _ (by omega) (by omega)
      have hstep : firstL l x (i + 1) = if isLab l x i then some i else none := by rw [firstL, HN.out]
      have HS := hide (And.intro hlab hstep)
      clear hlab hstep
      by_cases o58 : t.op = 58
      · rw [o58] at g0
        have hyt := hy (.inl o58)
        subst hyt
        have hbe := beq_bytes t.text x
        by_cases hxx : t.text = x
        · have hq : decide (t.text = x) = true := by simpa using hxx
          rw [hq] at hbe
          have hfin : firstL l x l.length = some i := firstL_up (k := i + 1) (by rw [HS.out.2, HS.out.1, hq]; simp [o58]) _ (by omega)
          have HF := hide hfin
          clear hfin hxx
          go_wp2_with fail
          go_ret
          rw [HF.out]
          exact ⟨rfl, rfl⟩
        · have hq : decide (t.text = x) = false := by simpa using hxx
          rw [hq] at hbe
          go_wp2_with fail
          go_roundg (gk - 1)
          case measure => omega
          case rel => exact ⟨i + 1, by go_num, by omega, rfl, by show firstL l x (i + 1) = none; rw [HS.out.2, HS.out.1, hq]; simp⟩
      · go_wp2_with fail
        go_roundg (gk - 1)
        case measure => omega
        case rel => exact ⟨i + 1, by go_num, by omega, rfl, by show firstL l x (i + 1) = none; rw [HS.out.2, HS.out.1]; simp [o58]⟩
    · have hd : decide ((i : Int) < (l.length : Nat)) = false := by rw [decide_eq_false_iff_not]; omega
      have : i = l.length := by omega
      subst this
      go_wp2_with fail
      go_ret
      rw [HN.out]
      exact ⟨rfl, rfl⟩

set_option maxRecDepth 100000 in
set_option maxHeartbeats 1600000 in
theorem lost_any (lv : Value) (l : List CmT) (css : List (Array Value)) (w : World) (hL : w.ownsRow 0 62 31 lv l.length (flatC css)) (hA : All2 CmdV css l) (h60 : l.length ≤ 60) :
    Calls Tryz.prog 15 #[lv] w fun e w' => e = .returned (.int .i64 (optI (lostS l l.length 0))) ∧ w' = w := by
  obtain ⟨pl, cl, rfl, hcl⟩ := own_form hL
  go_enter Tryz.func15, Tryz.ntmps15
  go_wp2_with fail
  go_loopg [3] l.length (fun k iv w' => ∃ i : Nat, iv = .int .i64 i ∧ i + k = l.length ∧ w' = w ∧ Hid (lostS l k i = lostS l l.length 0))
  case atStart => exact ⟨0, rfl, by omega, rfl, rfl⟩
  case round =>
    obtain ⟨i, rfl, hik, rfl, HN⟩ := hrel
    by_cases hil : i < l.length
    · obtain ⟨k, rfl⟩ : ∃ k, gk = k + 1 := ⟨gk - 1, by omega⟩
      have hd : decide ((i : Int) < (l.length : Nat)) = true := by rw [decide_eq_true_iff]; omega
      obtain ⟨gl, cl', hgl, -, hgl2⟩ := hL.form (by omega)
      simp only [Value.slice.injEq] at hgl
      obtain ⟨rfl, -, rfl⟩ := hgl
      obtain ⟨t, ht⟩ : ∃ t, l[i]? = some t := ⟨_, List.getElem?_eq_getElem hil⟩
      obtain ⟨g0, g1, y, g17, hy⟩ := cmd_cells hL hA rfl ht
      have hw1 : IntKind.i64.wrap ((i : Int) + 1) = (i : Int) + 1 := wrapE _ (by omega) (by omega)
      have hE := HN.out
      rw [lostS, ht] at hE
      dsimp only at hE
      have HE2 := hide hE
      have hlbl := label_any (.slice (some ⟨gl, 0, none⟩) l.length cl) l css y wr hL hA h60
      have HLB := hide hlbl
      have hie := isEmpty_size y
      have hkey : ∀ j, firstL l y l.length = some j → j < l.length := fun j hj => (firstL_lt hj).1
      clear hE HN hlbl
      generalize hfk : firstL l y l.length = fk at *
      have HFK := hide hfk
      clear hfk
      by_cases o58 : t.op = 58
      · rw [o58] at g0
        have hyt := hy (.inl o58)
        subst hyt
        have hlo : lostB l t i = decide (fk ≠ some i) := by unfold lostB; rw [HFK.out]; simp [o58]
        by_cases hfi : fk = some i
        · subst hfi
          have hlo2 : lostB l t i = false := by rw [hlo]; simp
          have hEE := HE2.out
          rw [hlo2, if_neg (by simp)] at hEE
          have HE3 := hide hEE
          have ho : optI (some i) = (i : Int) := rfl
          clear hEE HE2 hlo hlo2
          go_wp2_with (go_at_call 30; refine HLB.out.mono ?_; rintro e w2 ⟨rfl, rfl⟩; rw [ho])
          go_roundg k
          case measure => omega
          case rel => exact ⟨i + 1, by go_num, by omega, rfl, HE3.out⟩
        · have hlo2 : lostB l t i = true := by rw [hlo]; simpa using hfi
          have hEE := HE2.out
          rw [hlo2, if_pos rfl] at hEE
          have HE3 := hide hEE
          have hne : ¬ optI fk = (i : Int) := by
            intro e
            cases fk with
            | none =>
              have e2 : (-1 : Int) = (i : Int) := e
              omega
            | some j =>
              have e2 : (j : Int) = (i : Int) := e
              have e3 : j = i := by omega
              exact hfi (by rw [e3])
          generalize optI fk = kv at *
          clear hEE HE2 hlo hlo2 hfi
          go_wp2_with (go_at_call 30; refine HLB.out.mono ?_; rintro e w2 ⟨rfl, rfl⟩)
          go_ret
          rw [← HE3.out]
          exact ⟨rfl, rfl⟩
      · by_cases obt : t.op = 98 ∨ t.op = 116
        · have hyt := hy (.inr obt)
          subst hyt
          have hlo : lostB l t i = (decide (t.text.size ≠ 0) && decide (fk = none)) := by
            unfold lostB
            rw [HFK.out]
            rcases obt with o | o <;> simp [o]
          by_cases hz : t.text.size = 0
          · have hq : decide (t.text.size = 0) = true := by simpa using hz
            rw [hq] at hie
            have hlo2 : lostB l t i = false := by rw [hlo]; simp [hz]
            have hEE := HE2.out
            rw [hlo2, if_neg (by simp)] at hEE
            have HE3 := hide hEE
            generalize optI fk = kv at *
            clear hEE HE2 hlo hlo2
            rcases obt with o | o
            all_goals
              rw [o] at g0
              go_wp2_with (go_at_call 30; refine HLB.out.mono ?_; rintro e w2 ⟨rfl, rfl⟩)
              go_roundg k
              case measure => omega
              case rel => exact ⟨i + 1, by go_num, by omega, rfl, HE3.out⟩
          · have hq : decide (t.text.size = 0) = false := by simpa using hz
            rw [hq] at hie
            cases fk with
            | none =>
              have hlo2 : lostB l t i = true := by rw [hlo]; simp [hz]
              have hEE := HE2.out
              rw [hlo2, if_pos rfl] at hEE
              have HE3 := hide hEE
              have ho : optI none = -1 := rfl
              clear hEE HE2 hlo hlo2
              rcases obt with o | o
              all_goals
                rw [o] at g0
                go_wp2_with (go_at_call 30; refine HLB.out.mono ?_; rintro e w2 ⟨rfl, rfl⟩; rw [ho])
                go_ret
                rw [← HE3.out]
                exact ⟨rfl, rfl⟩
            | some j =>
              have hlo2 : lostB l t i = false := by rw [hlo]; simp
              have hEE := HE2.out
              rw [hlo2, if_neg (by simp)] at hEE
              have HE3 := hide hEE
              have ho : optI (some j) = (j : Int) := rfl
              clear hEE HE2 hlo hlo2
              rcases obt with o | o
              all_goals
                rw [o] at g0
                go_wp2_with (go_at_call 30; refine HLB.out.mono ?_; rintro e w2 ⟨rfl, rfl⟩; rw [ho])
                go_roundg k
                case measure => omega
                case rel => exact ⟨i + 1, by go_num, by omega, rfl, HE3.out⟩
        · have n98 : ¬ t.op = 98 := fun e => obt (.inl e)
          have n116 : ¬ t.op = 116 := fun e => obt (.inr e)
          have hlo2 : lostB l t i = false := by unfold lostB; simp [o58, n98, n116]
          have hEE := HE2.out
          rw [hlo2, if_neg (by simp)] at hEE
          have HE3 := hide hEE
          generalize optI fk = kv at *
          clear hEE HE2 hlo2
          go_wp2_with (go_at_call 30; refine HLB.out.mono ?_; rintro e w2 ⟨rfl, rfl⟩)
          go_roundg k
          case measure => omega
          case rel => exact ⟨i + 1, by go_num, by omega, rfl, HE3.out⟩
    · have hd : decide ((i : Int) < (l.length : Nat)) = false := by rw [decide_eq_false_iff_not]; omega
      have hgk : gk = 0 := by omega
      subst hgk
      go_wp2_with fail
      go_ret
      rw [← HN.out]
      exact ⟨rfl, rfl⟩
end Go.Proofs.YtmjdaifalgpdnaaGreat

namespace Go.Proofs.YtmjdaifalgpdnaaGreat
open Go.RowKit

/-- The lines of a script in its plain form. -/
def printL : List CmT → ByteArray
  | [] => ⟨#[]⟩
  | t :: l => t.plain ++ ⟨#[10]⟩ ++ printL l
theorem printL_snoc (l : List CmT) (t : CmT) : printL (l ++ [t]) = printL l ++ (t.plain ++ ⟨#[10]⟩) := by
  induction l with
  | nil => simp only [List.nil_append, printL]; rw [app_nil, nil_app]
  | cons a l ih => simp only [List.cons_append, printL]; rw [ih]; simp only [ByteArray.append_assoc]
theorem printL_take (l : List CmT) {i : Nat} {t : CmT} (h : l[i]? = some t) : printL (l.take (i + 1)) = printL (l.take i) ++ t.plain ++ ⟨#[10]⟩ := by
  have hi := (List.getElem?_eq_some_iff.1 h).1
  rw [List.take_succ_eq_append_getElem hi, printL_snoc, ByteArray.append_assoc]
  have := (List.getElem?_eq_some_iff.1 h).2
  rw [this]

theorem flat_range31 {w : World} {gl cl n : Nat} {css : List (Array Value)} (hL : w.ownsRow 0 62 31 (.slice (some ⟨gl, 0, none⟩) n cl) n (flatC css)) (hz : ∀ c ∈ css, c.size = 31) {i : Nat} (hi : i < n) {cs : Array Value} (hc : css[i]? = some cs) : w.rangeAt gl (i * 31) cs.toList := fun j v hv => by
  have hj : j < 31 := by
    have := hz cs (List.mem_of_getElem? hc)
    have h2 : j < cs.toList.length := (List.getElem?_eq_some_iff.1 hv).1
    rw [Array.length_toList, this] at h2
    exact h2
  rw [hL.cellAt (i * 31 + j) (by have : i * 31 + 31 ≤ n * 31 := by omega
                                 omega), flatC_get hz i j hj, hc]
  simpa using hv

set_option maxRecDepth 100000 in
set_option maxHeartbeats 1600000 in
theorem rprint_any (lv : Value) (l : List CmT) (css : List (Array Value)) (w : World) (hL : w.ownsRow 0 62 31 lv l.length (flatC css)) (hA : All2 CmdV css l) (h60 : l.length ≤ 60) :
    Calls Tryz.prog 8 #[lv] w fun e w' => e = .returned (.string (printL l)) ∧ ((printL l).size ≤ 2000000000 ∧ ∀ b, Kp b w w') := by
  obtain ⟨pl, cl, rfl, hcl⟩ := own_form hL
  have hz : ∀ c ∈ css, c.size = 31 := fun c hc => by
    obtain ⟨i, hi, rfl⟩ := List.getElem_of_mem hc
    have hl : i < l.length := by rw [← hA.1]; exact hi
    exact (hA.2 i _ _ (List.getElem?_eq_getElem hi) (List.getElem?_eq_getElem hl)).1
  have HLS := hide (And.intro hL (And.intro hA hz))
  clear hL hA hz
  go_enter Tryz.func8, Tryz.ntmps8
  go_wp2_with fail
  go_loopg [3, 4] l.length (fun k sv iv w' => ∃ i : Nat, iv = .int .i64 i ∧ sv = .string (printL (l.take i)) ∧ i + k = l.length ∧ (printL (l.take i)).size ≤ i * 20000001 ∧ ∀ b, Kp b w w')
  case atStart => exact ⟨0, rfl, rfl, by omega, Nat.zero_le _, fun b => Kp.refl b w⟩
  case round =>
    obtain ⟨i, rfl, rfl, hik, hsz, hK⟩ := hrel
    by_cases hil : i < l.length
    · have hd : decide ((i : Int) < (l.length : Nat)) = true := by rw [decide_eq_true_iff]; omega
      obtain ⟨hL, hA, hz⟩ := HLS.out
      obtain ⟨gl, cl', hgl, -, hgl2⟩ := hL.form (by omega)
      simp only [Value.slice.injEq] at hgl
      obtain ⟨rfl, -, rfl⟩ := hgl
      have hL2 := own_kp hL (hK w.heap.size) (fun k hk => by have := (World.ownsRow.lt hL k hk).2; omega)
      have hic : i < css.length := by rw [hA.1]; exact hil
      obtain ⟨t, ht⟩ : ∃ t, l[i]? = some t := ⟨_, List.getElem?_eq_getElem hil⟩
      obtain ⟨cs, hcs⟩ : ∃ cs, css[i]? = some cs := ⟨_, List.getElem?_eq_getElem hic⟩
      have hV := hA.2 i cs t hcs ht
      have hrg := flat_range31 hL2 hz hil hcs
      obtain ⟨d, hd1, hd2⟩ := rowCmd
      have hi1 : (Tryz.prog.info? 62).map (·.size) = some cs.toList.length := by rw [infoCmd, Array.length_toList, hV.1]
      have HT := hide (printL_take l ht)
      clear hL hA hz hL2
      go_wp2_with (refine wpList_load_mid rfl 62 _ rfl gl (i * 31) rfl cs.toList d hrg hd1 hd2 hi1 ?_; rw [Array.toArray_toList])
      refine (text_any cs t wr hV.1 hV.2.2.1 hV.2.2.2.2.2.2).mono ?_
      rintro e w1 ⟨rfl, hpz, hK1⟩
      generalize printL (l.take i) = P at *
      have s1 : (P ++ t.plain).size ≤ 1500000000 := by rw [ByteArray.size_append]; omega
      have a1 : ∀ w, (Op.stringOp .add P t.plain).run Tryz.prog w = .ok (.string (P ++ t.plain)) w := fun w => run_string_add_sum w _ _ (by omega)
      have a2 : ∀ w, (Op.stringOp .add (P ++ t.plain) ⟨#[10]⟩).run Tryz.prog w = .ok (.string (P ++ t.plain ++ ⟨#[10]⟩)) w := fun w => run_string_add_sum w _ _ (by show _ + 1 ≤ _; omega)
      have hw1 : IntKind.i64.wrap ((i : Int) + 1) = (i : Int) + 1 := wrapE _ (by omega) (by omega)
      clear s1 hrg hi1
      go_wp2_with fail
      go_roundg (gk - 1)
      case measure => omega
      case rel =>
        refine ⟨i + 1, by go_num, by rw [HT.out], by omega, ?_, fun b => (hK b).trans (hK1 b)⟩
        rw [HT.out, ByteArray.size_append, ByteArray.size_append]
        show _ + _ + 1 ≤ _
        omega
    · have hd : decide ((i : Int) < (l.length : Nat)) = false := by rw [decide_eq_false_iff_not]; omega
      have : i = l.length := by omega
      subst this
      rw [List.take_length] at hsz ⊢
      go_wp2_with fail
      go_ret
      exact ⟨rfl, by omega, hK⟩
end Go.Proofs.YtmjdaifalgpdnaaGreat

namespace Go.Proofs.YtmjdaifalgpdnaaGreat
open Go.RowKit Go.Shelf

def lays169_ren : Go.Shelf.Ren := ⟨fun | 169 => 25 | n => n, fun | 70 => 74 | 9 => 9 | 0 => 0 | 72 => 77 | 37 => 75 | 127 => 102 | 3 => 3 | 5 => 5 | n => n, fun | n => n⟩
theorem lays169 : Go.Proofs.Lays.n169 Tryz.prog lays169_ren := {
  mixed := by kernel_rfl
  f169 := Tryz.func25.trans (congrArg some (by kernel_rfl))
  t0 := Tryz.underlying0
  a0 := Tryz.isAgg0
  z0 := Tryz.sizeOf0
  v0 := Tryz.zeroValue0
  t3 := Tryz.underlying3
  a3 := Tryz.isAgg3
  z3 := Tryz.sizeOf3
  v3 := Tryz.zeroValue3
  t9 := Tryz.underlying9
  a9 := Tryz.isAgg9
  z9 := Tryz.sizeOf9
  v9 := Tryz.zeroValue9
  t37 := Tryz.underlying75
  a37 := Tryz.isAgg75
  z37 := Tryz.sizeOf75
  v37 := Tryz.zeroValue75
  t70 := Tryz.underlying74
  a70 := Tryz.isAgg74
  z70 := Tryz.sizeOf74
  v70 := Tryz.zeroValue74
  t72 := Tryz.underlying77
  a72 := Tryz.isAgg77
  z72 := Tryz.sizeOf77
  v72 := Tryz.zeroValue77
  t127 := Tryz.underlying102
  a127 := Tryz.isAgg102
  z127 := Tryz.sizeOf102
  v127 := Tryz.zeroValue102 }
theorem extra169 : Builder.Extra Tryz.prog lays169_ren := {
  sizeBuilder := by kernel_rfl
  liesBuilder := by kernel_rfl
  t5 := Tryz.underlying5
  a5 := Tryz.isAgg5
  z5 := Tryz.sizeOf5
  v5 := Tryz.zeroValue5
  infoByte := by kernel_rfl
  cellsByte := by kernel_rfl
  sizeByte := by kernel_rfl
  neB5 := by decide }

theorem bString (B b : Nat) (l : List UInt8) (w : World) (h : Lib.IsBuilder 77 5 B b (Lib.byteCells l) w) (hBw : B ≤ w.heap.size) :
    Calls Tryz.prog 25 #[.pointer (some ⟨b, 0, none⟩)] w fun e w' => e = .returned (.string ⟨l.toArray⟩) ∧ Below B w w' := Any.Builder_String_any lays169 extra169 B b l w h hBw

theorem sizeBld : (Tryz.prog.info? 77).map (·.size) = some 2 := by kernel_rfl
theorem infoByteB : (Tryz.prog.info? 5).map (fun i => (i.zero, i.size, i.bytes)) = some (some (.int .u8 0), 1, 1) := by kernel_rfl

section
variable {w w1 w2 : World} {B b : Nat} {v v' : Value} {bs : List Value}
/-- A builder in use behind a growth of its row and the store of the new slice. -/
theorem bld_more (hB : B ≤ b) (C : Blk w1 b #[.pointer (some ⟨b, 0, none⟩), v] 77) (hg : w1.grownBy w2 v.ownBlock) (hne : v.ownBlock ≠ some b) (ho : w2.ownsRow B 5 1 v' bs.length bs) :
    Lib.BuilderAt 77 5 B b (.pointer (some ⟨b, 0, none⟩)) bs (w2.setCell ⟨b, 1, none⟩ v') := Lib.BuilderAt.put hB (grown_blk C hg hne) ho (by decide)
theorem bld_frame (hB : B ≤ b) (hb : Below B w w1) (hw : B ≤ w.heap.size) (hg : w1.grownBy w2 v.ownBlock) (hk : ∀ k, v.ownBlock = some k → B ≤ k) : Below B w (w2.setCell ⟨b, 1, none⟩ v') :=
  (hb.grown hg (Nat.le_trans hw hb.size) hk).setCell (p := ⟨b, 1, none⟩) hB _
end

set_option maxHeartbeats 1000000 in
set_option maxRecDepth 100000 in
/-- copyCheck, at this dump (where a copied builder is refused, not panicked at). -/
theorem copy_any (B b : Nat) (bs : List Value) (w : World) (h : Lib.IsBuilder 77 5 B b bs w) :
    Calls Tryz.prog 38 #[.pointer (some ⟨b, 0, none⟩)] w fun e w' => e = .returned (.tuple #[]) ∧ Lib.BuilderAt 77 5 B b (.pointer (some ⟨b, 0, none⟩)) bs w' ∧ Below B w w' := by
  obtain ⟨j, hj, hjs⟩ := Option.map_eq_some_iff.1 sizeBld
  have hz : j.size ≠ 0 := by rw [hjs]; decide
  rcases h with h | h
  · have c0 := h.cell0
    have cf := h.frozen0
    have u1 := Lib.run_to_unsafe w ⟨b, 0, none⟩ Tryz.underlying74 Tryz.underlying114 hj hz h.shape (Nat.zero_lt_succ 1)
    have u3 := Lib.run_from_unsafe w ⟨b, 0, none⟩ Tryz.underlying114 Tryz.underlying74 hj h.shape extra169.liesBuilder
    have u4 := Lib.run_noEscape (P := Tryz.prog)
    have u2 := fun args => run_callFunc_extern (P := Tryz.prog) (args := args) Tryz.func49 (by kernel_rfl) (by kernel_rfl) (by kernel_rfl) (e := Extern.AbiNoEscape.same) (by kernel_rfl)
    go_enter Tryz.func38, Tryz.ntmps38
    go_wp2_with fail
    go_end0
    exact ⟨rfl, h.used _, (Below.refl B w).setCell (p := ⟨b, 0, none⟩) h.1 _⟩
  · have c0 := h.cell0
    have u0 := Lib.run_neq_ptr_same w ⟨b, 0, none⟩ Tryz.underlying74 hj
    go_enter Tryz.func38, Tryz.ntmps38
    go_wp2_with fail
    go_end0
    exact ⟨rfl, h, Below.refl B _⟩

set_option maxHeartbeats 2000000 in
set_option maxRecDepth 100000 in
theorem bWriteByte (B b : Nat) (bs : List Value) (c : Int) (w : World) (h : Lib.IsBuilder 77 5 B b bs w) (hlen : bs.length + 1 ≤ 140737488355328) (hBw : B ≤ w.heap.size) :
    Calls Tryz.prog 24 #[.pointer (some ⟨b, 0, none⟩), .int .u8 c] w fun e w' => e = .returned .nilIface ∧ Lib.BuilderAt 77 5 B b (.pointer (some ⟨b, 0, none⟩)) (bs ++ [.int .u8 c]) w' ∧ Below B w w' := by
  obtain ⟨i0, hii, hz0, hz1, hz2⟩ := info_parts infoByteB
  have hml : bs.length + 1 ≤ maxLen := by unfold maxLen; omega
  go_enter Tryz.func24, Tryz.ntmps24
  go_wp2_with (go_at_call 38; refine (copy_any B b bs w h).mono ?_)
  rintro e w1 ⟨rfl, ⟨hB, v, C1, O1, ne1⟩, F1⟩
  have c1 := Blk.cell C1 1 rfl
  have C2 := Blk.alloc C1 (.cells #[.int .u8 c] 5)
  have F2 := F1.alloc (Nat.le_trans hBw F1.size) (.cells #[.int .u8 c] 5)
  have lt1 := Blk.lt C1
  have hs1 : B ≤ w1.heap.size + 1 := by omega
  go_wp2_with (at_builtin; refine wpList_append_lies _ rfl _ _ 75 rfl B 5 i0 (.int .u8 0) 1 1 Tryz.underlying75 hii hz0 hz1 hz2 rfl (by decide) v bs.length bs rfl (O1.alloc _) ⟨w1.heap.size, 0, none⟩ 1 1 [.int .u8 c] rfl rfl (blk_news (Blk.newAt rfl)) (by intro u hu; simp at hu; subst hu; rfl) (by decide) hml (by omega) (by simp; omega) (w1.heap.size + 1) (by simp) ?_; intro g7 cap7 w7 hown7 hgrow7 hat7 hlt7; have C7 := grown_blk C2 hgrow7 ne1; have c7 := C7.cell 1 rfl; have f7 := C7.fz 1)
  go_wp2_with fail
  go_ret
  refine ⟨rfl, ?_, bld_frame hB F2 hBw hgrow7 (fun k hk => (O1.lt k hk).1)⟩
  exact bld_more hB C2 hgrow7 ne1 (by rw [List.length_append]; exact hown7)

set_option maxHeartbeats 2000000 in
set_option maxRecDepth 100000 in
theorem bWriteString (B b : Nat) (bs : List Value) (s : ByteArray) (w : World) (h : Lib.IsBuilder 77 5 B b bs w) (hlen : bs.length + s.size ≤ 140737488355328) (hBw : B ≤ w.heap.size) :
    Calls Tryz.prog 23 #[.pointer (some ⟨b, 0, none⟩), .string s] w fun e w' => e = .returned (.tuple #[.int .i64 s.size, .nilIface]) ∧ Lib.BuilderAt 77 5 B b (.pointer (some ⟨b, 0, none⟩)) (bs ++ Lib.strCells s) w' ∧ Below B w w' := by
  obtain ⟨i0, hii, hz0, hz1, hz2⟩ := info_parts infoByteB
  have hml : bs.length + s.size ≤ maxLen := by unfold maxLen; omega
  go_enter Tryz.func23, Tryz.ntmps23
  go_wp2_with (go_at_call 38; refine (copy_any B b bs w h).mono ?_)
  rintro e w1 ⟨rfl, ⟨hB, v, C1, O1, ne1⟩, F1⟩
  have c1 := Blk.cell C1 1 rfl
  have hs1 := Nat.le_trans hBw F1.size
  go_wp2_with (at_builtin; refine Lib.wpList_append_own_string _ rfl _ _ 75 9 rfl B 5 i0 Tryz.underlying75 Tryz.underlying9 hii hz0 hz1 hz2 v bs.length bs rfl O1 s rfl hml hlen hs1 ?_; intro v7 w7 hown7 hgrow7 hx7; have C7 := grown_blk C1 hgrow7 ne1; have c7 := C7.cell 1 rfl; have f7 := C7.fz 1; obtain ⟨pa7, cap7, rfl, hcap7⟩ := own_form hown7)
  go_wp2_with fail
  refine bodyPost_ret (res_tmp2 rfl _ _ _) rfl ?_
  refine ⟨rfl, ?_, bld_frame hB F1 hBw hgrow7 (fun k hk => (O1.lt k hk).1)⟩
  exact bld_more hB C1 hgrow7 ne1 (by rw [List.length_append, Lib.strCells_length]; exact hown7)
end Go.Proofs.YtmjdaifalgpdnaaGreat
