import Derived.Test.YtmjdaifalgpdnaaGreatPscO
namespace Go.Proofs.YtmjdaifalgpdnaaGreat
open Go.RowKit

theorem isEmpty_size (x : ByteArray) : x.toList.isEmpty = decide (x.size = 0) := by
  rw [Bool.eq_iff_iff, List.isEmpty_iff, decide_eq_true_iff]
  exact toList_nil x

set_option maxRecDepth 100000 in
set_option maxHeartbeats 1600000 in
theorem ptarget_any (b gl p mm m n cl : Nat) (s : ByteArray) (at_ : Nat) (en pos : Int) (x : ByteArray) (pl : Option Addr) (ov : Value) (f : ByteArray → Option Nat) (w : World) (h : SR w b s at_ en (.slice pl n cl) ov) (h1 : w.cell? ⟨gl, p + 1, none⟩ = some (.int .i64 pos)) (h6 : w.cell? ⟨gl, p + 6, none⟩ = some (.string x)) (hM : LabM w mm m f) (hx : x.size ≤ 1048576) :
    Calls Tryz.prog 48 #[.pointer (some ⟨b, 0, none⟩), .pointer (some ⟨gl, p, none⟩), .map (some mm)] w fun e w' => (¬ (x.size ≠ 0 ∧ f x = none) ∧ (∃ v, e = .returned (.int .i64 v)) ∧ w' = w) ∨ ((x.size ≠ 0 ∧ f x = none) ∧ e = .panicked (gaveUp en pos) ∧ w' = w.drew) := by
  have c3 := h.c3
  have hlk := hM.look hx true
  rw [if_pos rfl] at hlk
  have hie := isEmpty_size x
  by_cases hz : x.size = 0
  · have hd : decide (x.size = 0) = true := by simpa using hz
    rw [hd] at hie
    go_enter Tryz.func48, Tryz.ntmps48
    go_wp2_with fail
    go_ret
    exact .inl ⟨fun h => h.1 hz, ⟨_, rfl⟩, rfl⟩
  · have hd : decide (x.size = 0) = false := by simpa using hz
    rw [hd] at hie
    cases hf : f x with
    | some v =>
      rw [hf] at hlk
      simp only [Option.getD_some, Option.isSome_some] at hlk
      go_enter Tryz.func48, Tryz.ntmps48
      go_wp2_with fail
      go_ret
      exact .inl ⟨fun h => (by cases h.2), ⟨_, rfl⟩, rfl⟩
    | none =>
      rw [hf] at hlk
      simp only [Option.getD_none, Option.isSome_none] at hlk
      go_enter Tryz.func48, Tryz.ntmps48
      go_wp2_with fail
      refine wp_region_any (by kernel_rfl) ?_
      change wpAny _ _ _ _ _ _ _ (World.drew _)
      refine wpAny_take (i := 0) (v := .pointer (some ⟨b, 0, none⟩)) rfl (by kernel_rfl) (by kernel_rfl) (by kernel_rfl) (fun _ _ _ h => h) (Or.inl ⟨by rfl, by intro w; go_simp⟩) ?_
      refine wpAny_take (i := 1) (v := .pointer (some ⟨b, 0, none⟩)) rfl (by kernel_rfl) (by kernel_rfl) (by kernel_rfl) (fun _ _ _ h => h) (Or.inl ⟨by rfl, by intro w; go_simp⟩) ?_
      refine wpAny_take (i := 2) (v := .pointer (some ⟨b, 0, none⟩)) rfl (by kernel_rfl) (by kernel_rfl) (by kernel_rfl) (fun _ _ _ h => h) (Or.inl ⟨by rfl, by intro w; go_simp⟩) ?_
      refine wpAny_take (i := 3) (v := .pointer (some ⟨gl, p, none⟩)) rfl (by kernel_rfl) (by kernel_rfl) (by kernel_rfl) (fun _ _ _ h => h) (Or.inl ⟨by rfl, by intro w; go_simp⟩) ?_
      refine wpAny_take (i := 4) (v := .pointer (some ⟨gl, p, none⟩)) rfl (by kernel_rfl) (by kernel_rfl) (by kernel_rfl) (fun _ _ _ h => h) (Or.inl ⟨by rfl, by intro w; go_simp⟩) ?_
      refine wpAny_take (i := 5) (v := .pointer (some ⟨gl, p + 1, none⟩)) rfl (by kernel_rfl) (by kernel_rfl) (by kernel_rfl) (fun _ _ _ h => h) (Or.inl ⟨by rfl, by intro w; go_simp⟩) ?_
      refine wpAny_ready (rs := [6]) (by kernel_rfl) (by simp) ?_
      refine AllReady.cons rfl (fun K hK => ?_) AllReady.nil
      go_simp
      refine hK _ _ ?_
      clear hK K
      refine wpAny_ready (rs := [7]) (by kernel_rfl) (by simp) ?_
      refine AllReady.cons rfl (fun K hK => ?_) AllReady.nil
      go_simp
      refine (giveUp_any b s at_ en pos _ (SR.rd h.drew)).mono ?_
      rintro e w3 ⟨rfl, rfl⟩
      exact ⟨rfl, .inr ⟨⟨hz, by simp⟩, rfl, rfl⟩⟩

/-- What findLabels does. -/
def FindPost (w : World) (base b : Nat) (s : ByteArray) (at_ : Nat) (cv ov : Value) (ls : List CmT) (e : Ending) (w' : World) : Prop :=
  Below base w w' ∧ ((lostS ls ls.length 0 = none ∧ e = .returned (.tuple #[]) ∧ ∃ css', SR w' b s at_ 4 cv ov ∧ w'.ownsRow 0 81 13 cv ls.length (flatC css') ∧ All2 PCmdV css' ls) ∨ ∃ pl : Nat, lostS ls ls.length 0 = some pl ∧ e = .panicked (gaveUp 4 pl))

set_option maxRecDepth 100000 in
set_option maxHeartbeats 1600000 in
theorem pfind_any (b base : Nat) (s : ByteArray) (at_ : Nat) (en : Int) (cv ov : Value) (ls : List CmT) (css : List (Array Value)) (w : World) (h : SR w b s at_ en cv ov) (hL : w.ownsRow 0 81 13 cv ls.length (flatC css)) (hA : All2 PCmdV css ls) (h60 : ls.length ≤ 60) (hsm : ∀ t ∈ ls, t.text.size ≤ 1048576) (hbb : base ≤ b) (hlb : ∀ k, cv.ownBlock = some k → base ≤ k) :
    Calls Tryz.prog 37 #[.pointer (some ⟨b, 0, none⟩)] w fun e w' => FindPost w base b s at_ cv ov ls e w' := by
  have hbl := h.lt
  have hneb := own_blk hL h (by decide)
  have c2 := h.c2
  have cf := h.fz
  have h1 : SR (w.setCell ⟨b, 2, none⟩ (.int .i64 4)) b s at_ 4 cv ov := Blk.set h 2 _ rfl
  have hL1 := own_set hL (p := ⟨b, 2, none⟩) hneb (.int .i64 4)
  have B1 : Below base w (w.setCell ⟨b, 2, none⟩ (.int .i64 4)) := (Below.refl base w).setCell hbb _
  have hw0 : base ≤ (w.setCell ⟨b, 2, none⟩ (.int .i64 4)).heap.size := by show base ≤ (w.setCell ⟨b, 2, none⟩ (.int .i64 4)).heap.size; simp [World.setCell]; omega
  go_enter Tryz.func37, Tryz.ntmps37
  go_wp2_with fail
  generalize w.setCell ⟨b, 2, none⟩ (.int .i64 4) = w1 at *
  refine (plabels_any b s at_ 4 cv ov ls css w1 h1 hL1 hA h60 hsm).mono ?_
  rintro e w2 ⟨mm, m, rfl, hM, hmm, hB2⟩
  have h2 : SR w2 b s at_ 4 cv ov := Blk.below h1 hB2
  have hL2 := own_agree (w' := w2) hL1 (fun k hk => hB2.block k (World.ownsRow.lt hL1 k hk).2)
  have B2 : Below base w w2 := B1.trans ⟨hB2.os, hB2.tape, hB2.output, hB2.size, fun k hk => hB2.block k (by omega)⟩
  have hbm : base ≤ mm := by omega
  clear h h1 hL hL1 B1 hB2 c2 cf hneb hmm
  obtain ⟨pl, cl, rfl, hcl⟩ := own_form hL2
  have c3 := h2.c3
  have HSM := hide (And.intro hsm hlb)
  clear hsm hlb
  go_wp2_with fail
  go_loopg [16] ls.length (fun k iv w' => ∃ (i : Nat) (css' : List (Array Value)), iv = .int .i64 i ∧ i + k = ls.length ∧ SR w' b s at_ 4 (.slice pl ls.length cl) ov ∧ w'.ownsRow 0 81 13 (.slice pl ls.length cl) ls.length (flatC css') ∧ All2 PCmdV css' ls ∧ LabM w' mm m (fun x => firstL ls x ls.length) ∧ Below base w w' ∧ Hid (lostS ls k i = lostS ls ls.length 0))
  case atStart => exact ⟨0, css, rfl, by omega, h2, hL2, hA, hM, B2, rfl⟩
  case round =>
    obtain ⟨i, css', rfl, hik, hR, hL, hA, hM, hB, HE⟩ := hrel
    by_cases hil : i < ls.length
    · obtain ⟨k, rfl⟩ : ∃ k, gk = k + 1 := ⟨gk - 1, by omega⟩
      have hd : decide ((i : Int) < (ls.length : Nat)) = true := by rw [decide_eq_true_iff]; omega
      obtain ⟨hsm, hlb⟩ := HSM.out
      have hz : ∀ c ∈ css', c.size = 13 := fun c hc => by
        obtain ⟨i, hi, rfl⟩ := List.getElem_of_mem hc
        have hl : i < ls.length := by rw [← hA.1]; exact hi
        exact (hA.2 i _ _ (List.getElem?_eq_getElem hi) (List.getElem?_eq_getElem hl)).1
      obtain ⟨gl, cl', hgl, -, hgl2⟩ := hL.form (by omega)
      simp only [Value.slice.injEq] at hgl
      obtain ⟨rfl, -, rfl⟩ := hgl
      have hic : i < css'.length := by rw [hA.1]; exact hil
      obtain ⟨t, ht⟩ : ∃ t, ls[i]? = some t := ⟨_, List.getElem?_eq_getElem hil⟩
      obtain ⟨cs, hcs⟩ : ∃ cs, css'[i]? = some cs := ⟨_, List.getElem?_eq_getElem hic⟩
      have hV := hA.2 i cs t hcs ht
      have htx := hsm t (List.mem_of_getElem? ht)
      have hcell : ∀ o, o < 13 → wr.cell? ⟨gl, i * 13 + o, none⟩ = cs[o]? := fun o ho => by
        rw [hL.cellAt (i * 13 + o) (by omega), flatC_get hz i o ho, hcs]
        rfl
      have g0 : wr.cell? ⟨gl, i * 13, none⟩ = some (.int .u8 t.op) := (hcell 0 (by omega)).trans hV.2.2.1
      have g1 : wr.cell? ⟨gl, i * 13 + 1, none⟩ = some (.int .i64 t.pos) := (hcell 1 (by omega)).trans hV.2.2.2.1
      have g6 : wr.cell? ⟨gl, i * 13 + 6, none⟩ = some (.string (labT t)) := (hcell 6 (by omega)).trans hV.2.2.2.2.2
      have h5s : 5 < cs.size := by rw [hV.1]; omega
      have g5 : wr.cell? ⟨gl, i * 13 + 5, none⟩ = some cs[5] := (hcell 5 (by omega)).trans (Array.getElem?_eq_getElem h5s)
      have gf : wr.frozen? ⟨gl, i * 13 + 5, none⟩ = false := hL.frozenAt _
      generalize cs[5]'h5s = x5 at g5
      have hglb := hlb gl rfl
      have hnb : gl ≠ b := fun e => own_blk hL hR (by decide) (by rw [e]; rfl)
      have hE := HE.out
      rw [lostS, ht] at hE
      dsimp only at hE
      have HE2 := hide hE
      have c3 := hR.c3
      have hw1 : IntKind.i64.wrap ((i : Int) + 1) = (i : Int) + 1 := wrapE _ (by omega) (by omega)
      clear hE HE hcell hcs hV hsm hlb
      by_cases o58 : t.op = 58
      · have hlt : labT t = t.text := by unfold labT; rw [if_pos (.inl o58)]
        rw [hlt] at g6
        rw [o58] at g0
        have hlab : isLab ls t.text i = true := by unfold isLab; rw [ht]; simp [o58]
        obtain ⟨j, hj1, hj2⟩ := firstL_hit hlab
        have hj3 := firstL_up hj1 ls.length (by omega)
        have hlk := hM.look htx false
        rw [if_neg (by simp), hj3] at hlk
        simp only [Option.getD_some] at hlk
        by_cases hji : j < i
        · have hdj : decide ((j : Int) < (i : Nat)) = true := by rw [decide_eq_true_iff]; omega
          have hlo : lostB ls t i = true := by
            unfold lostB
            rw [hj3]
            simp [o58]
            omega
          have hEE := HE2.out
          rw [hlo, if_pos rfl] at hEE
          have HE3 := hide hEE
          clear hEE HE2 hj1 hj3 hlab hlo
          go_wp2_with fail
          refine wp_region_any (by kernel_rfl) ?_
          change wpAny _ _ _ _ _ _ _ (World.drew _)
          refine wpAny_take (i := 0) (v := .pointer (some ⟨b, 0, none⟩)) rfl (by kernel_rfl) (by kernel_rfl) (by kernel_rfl) (fun _ _ _ h => h) (Or.inl ⟨by rfl, by intro w; go_simp⟩) ?_
          refine wpAny_take (i := 1) (v := .pointer (some ⟨b, 0, none⟩)) rfl (by kernel_rfl) (by kernel_rfl) (by kernel_rfl) (fun _ _ _ h => h) (Or.inl ⟨by rfl, by intro w; go_simp⟩) ?_
          refine wpAny_take (i := 2) (v := .pointer (some ⟨b, 0, none⟩)) rfl (by kernel_rfl) (by kernel_rfl) (by kernel_rfl) (fun _ _ _ h => h) (Or.inl ⟨by rfl, by intro w; go_simp⟩) ?_
          refine wpAny_take (i := 3) (v := .pointer (some ⟨gl, i * 13, none⟩)) rfl (by kernel_rfl) (by kernel_rfl) (by kernel_rfl) (fun _ _ _ h => h) (Or.inl ⟨by rfl, by intro w; go_simp⟩) ?_
          refine wpAny_take (i := 4) (v := .pointer (some ⟨gl, i * 13, none⟩)) rfl (by kernel_rfl) (by kernel_rfl) (by kernel_rfl) (fun _ _ _ h => h) (Or.inl ⟨by rfl, by intro w; go_simp⟩) ?_
          refine wpAny_take (i := 5) (v := .pointer (some ⟨gl, i * 13 + 1, none⟩)) rfl (by kernel_rfl) (by kernel_rfl) (by kernel_rfl) (fun _ _ _ h => h) (Or.inl ⟨by rfl, by intro w; go_simp⟩) ?_
          refine wpAny_ready (rs := [6]) (by kernel_rfl) (by simp) ?_
          refine AllReady.cons rfl (fun K hK => ?_) AllReady.nil
          go_simp
          refine hK _ _ ?_
          clear hK K
          refine wpAny_ready (rs := [7]) (by kernel_rfl) (by simp) ?_
          refine AllReady.cons rfl (fun K hK => ?_) AllReady.nil
          go_simp
          refine (giveUp_any b s at_ 4 t.pos _ (SR.rd hR.drew)).mono ?_
          rintro e w3 ⟨rfl, rfl⟩
          exact ⟨rfl, hB.drew, .inr ⟨t.pos, HE3.out.symm, rfl⟩⟩
        · have hdj : decide ((j : Int) < (i : Nat)) = false := by rw [decide_eq_false_iff_not]; omega
          have hlo : lostB ls t i = false := by
            unfold lostB
            rw [hj3]
            have hji2 : j = i := by omega
            simp [o58, hji2]
          have hEE := HE2.out
          rw [hlo, if_neg (by simp)] at hEE
          have HE3 := hide hEE
          clear hEE HE2 hj1 hj3 hlab hlo
          go_wp2_with fail
          go_roundg k
          case measure => omega
          case rel => exact ⟨i + 1, css', by go_num, by omega, hR, hL, hA, hM, hB, HE3.out⟩
      · by_cases obt : t.op = 98 ∨ t.op = 116
        · have hlt : labT t = t.text := by unfold labT; rw [if_pos (.inr obt)]
          rw [hlt] at g6
          have hlo : lostB ls t i = (decide (t.text.size ≠ 0) && decide (firstL ls t.text ls.length = none)) := by
            unfold lostB
            rcases obt with o | o <;> simp [o]
          have hpt := ptarget_any b gl (i * 13) mm m ls.length cl s at_ 4 t.pos t.text (some ⟨gl, 0, none⟩) ov _ wr hR g1 g6 hM htx
          have HPT := hide hpt
          clear hpt
          have hne2 : gl ≠ mm := by
            rcases hL.2 with ⟨hq, _⟩ | ⟨g, cap, cur, hq, _, hg, _⟩
            · cases hq
            · cases hq
              exact hM.not_cells hg
          have hst := fun v : Int => (hL.stored (i * 13 + 5) (.int .i64 v)).1
          rcases obt with o | o
          all_goals
            rw [o] at g0
            go_wp2_with fail
            refine HPT.out.mono ?_
            rintro e w3 hT
            rcases hT with ⟨hno, ⟨v, rfl⟩, rfl⟩ | ⟨hyes, rfl, rfl⟩
            · have hEE := HE2.out
              have hlo2 : lostB ls t i = false := by
                rw [hlo]
                rw [Bool.eq_false_iff]
                intro hq
                simp only [Bool.and_eq_true, decide_eq_true_iff] at hq
                exact hno hq
              rw [hlo2, if_neg (by simp)] at hEE
              have HE3 := hide hEE
              clear hEE HE2
              go_wp2_with fail
              go_roundg k
              case measure => omega
              case rel =>
                refine ⟨i + 1, css'.modify i (·.setIfInBounds 5 (.int .i64 v)), by go_num, by omega, hR.other (p := ⟨gl, i * 13 + 5, none⟩) hnb _, ?_, hA.modify i _ (fun x y hxy => hxy.set5 rfl), hM.agree (Below.heap_setCell _ _ _ _ (fun e => hne2 e.symm)), hB.setCell hglb _, HE3.out⟩
                have := hst v
                rw [flatC_set hz i 5 _ (by omega)] at this
                exact this
            · have hEE := HE2.out
              have hlo2 : lostB ls t i = true := by
                rw [hlo]
                simp only [Bool.and_eq_true, decide_eq_true_iff]
                exact hyes
              rw [hlo2, if_pos rfl] at hEE
              exact ⟨rfl, hB.drew, .inr ⟨t.pos, hEE.symm, rfl⟩⟩
        · have n98 : ¬ t.op = 98 := fun e => obt (.inl e)
          have n116 : ¬ t.op = 116 := fun e => obt (.inr e)
          have hlo : lostB ls t i = false := by
            unfold lostB
            simp [o58, n98, n116]
          have hEE := HE2.out
          rw [hlo, if_neg (by simp)] at hEE
          have HE3 := hide hEE
          clear hEE HE2 hlo
          go_wp2_with fail
          go_roundg k
          case measure => omega
          case rel => exact ⟨i + 1, css', by go_num, by omega, hR, hL, hA, hM, hB, HE3.out⟩
    · have hd : decide ((i : Int) < (ls.length : Nat)) = false := by rw [decide_eq_false_iff_not]; omega
      have hgk : gk = 0 := by omega
      subst hgk
      go_wp2_with fail
      refine bodyPost_end (results_none rfl _ _ _) rfl ?_
      exact ⟨hB, .inl ⟨HE.out.symm, rfl, css', hR, hL, hA⟩⟩
end Go.Proofs.YtmjdaifalgpdnaaGreat
