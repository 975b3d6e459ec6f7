import Derived.Test.YtmjdaifalgpdnaaGreatPscR
import Derived.Shelf.Abstract
namespace Go.Proofs.YtmjdaifalgpdnaaGreat
open Go.RowKit

/-- The error of a script and its place. -/
def errS (s : ByteArray) : Int × Int := if 1000 < s.size then (1, 0) else if (scrS s).2.bad = true then (3, ((scrS s).2.i : Nat)) else match lostS (scrS s).1 (scrS s).1.length 0 with | some p => (4, (p : Nat)) | none => (0, 0)

theorem ret_com {w : World} {k1 k2 : Nat} {v a0 a1 : Value} {fn : Func} {p q : Tmp} (hres : fn.results = #[.cell p 44, .cell q 46]) {tmps : Array Value} (hp : tmps.getD p undef = .pointer (some ⟨k1, 0, none⟩)) (hq : tmps.getD q undef = .pointer (some ⟨k2, 0, none⟩)) (h1 : Blk w k1 #[v] 44) (h2 : Blk w k2 #[a0, a1] 46) :
    (results fn tmps).run Tryz.prog w = .ok (.tuple #[v, .agg #[a0, a1]]) w := by
  have c0 : w.cell? ⟨k1, 0, none⟩ = some v := h1.cell 0 rfl
  have d0 : w.cell? ⟨k2, 0, none⟩ = some a0 := h2.cell 0 rfl
  have d1 : w.cell? ⟨k2, 1, none⟩ = some a1 := h2.cell 1 rfl
  have hp' : tmps[p]?.getD undef = .pointer (some ⟨k1, 0, none⟩) := by simpa using hp
  have hq' : tmps[q]?.getD undef = .pointer (some ⟨k2, 0, none⟩) := by simpa using hq
  simp [results, hres, hp', hq', go_sem, c0, d0, d1]

theorem Kp.toBelow {b : Nat} {w w1 w2 : World} (h0 : Below w.heap.size w w1) (h : Kp b w1 w2) (hb : w.heap.size ≤ b) : Below w.heap.size w w2 :=
  h0.trans ⟨h.os, h.tape, h.output, h.size, fun k hk => h.block k (Nat.lt_of_lt_of_le hk h0.size) (by omega)⟩
theorem Kp.toBelow' {b : Nat} {w w1 w2 : World} (h0 : Below w.heap.size w w1) (h : Kp b w1 w2) (hb : w.heap.size ≤ b) : Below w.heap.size w w2 := Kp.toBelow h0 h hb

/-- What commandsOf does. -/
def ComPost (w : World) (s : ByteArray) (e : Ending) (w' : World) : Prop :=
  Below w.heap.size w w' ∧ ∃ cv, e = .returned (.tuple #[cv, .agg #[.int .i64 (errS s).1, .int .i64 (errS s).2]]) ∧ ((errS s).1 = 0 → ∃ css, w'.ownsRow 0 81 13 cv (scrS s).1.length (flatC css) ∧ All2 PCmdV css (scrS s).1 ∧ (∀ k, cv.ownBlock = some k → w.heap.size ≤ k)) ∧ ∃ pa n cap, cv = .slice pa n cap

set_option maxRecDepth 100000 in
set_option maxHeartbeats 1000000 in
theorem commandsOf_any (s : ByteArray) (w : World) : Calls Tryz.prog 12 #[.string s] w fun e w' => ComPost w s e w' := by
  have hmf : ∀ (fn : Fn) (first cap : Array Value) (w : World), (Instr.makeFunc fn first cap).run Tryz.prog w = .ok (.func fn first cap) w := fun _ _ _ _ => rfl
  have hb1 : Below w.heap.size w (((w.alloc (.cells #[.string s] 9)).alloc (.cells #[.slice none 0 0] 44)).alloc (.cells #[.int .i64 0, .int .i64 0] 46)) := (((Below.refl _ w).alloc (Nat.le_refl _) _).alloc (by simp) _).alloc (by simp; omega) _
  have hs1 : (((w.alloc (.cells #[.string s] 9)).alloc (.cells #[.slice none 0 0] 44)).alloc (.cells #[.int .i64 0, .int .i64 0] 46)).heap.size = w.heap.size + 3 := by simp
  have B0 : Blk (((w.alloc (.cells #[.string s] 9)).alloc (.cells #[.slice none 0 0] 44)).alloc (.cells #[.int .i64 0, .int .i64 0] 46)) w.heap.size #[.string s] 9 := ((Blk.new w _ _).alloc _).alloc _
  have B1 : Blk (((w.alloc (.cells #[.string s] 9)).alloc (.cells #[.slice none 0 0] 44)).alloc (.cells #[.int .i64 0, .int .i64 0] 46)) (w.heap.size + 1) #[.slice none 0 0] 44 := (Blk.newAt (by simp)).alloc _
  have B2 : Blk (((w.alloc (.cells #[.string s] 9)).alloc (.cells #[.slice none 0 0] 44)).alloc (.cells #[.int .i64 0, .int .i64 0] 46)) (w.heap.size + 2) #[.int .i64 0, .int .i64 0] 46 := Blk.newAt (by simp)
  by_cases hlen : 1000 < s.size
  · have hd : decide ((1000 : Int) < (s.size : Nat)) = true := by rw [decide_eq_true_iff]; omega
    have hE : errS s = (1, 0) := by unfold errS; rw [if_pos hlen]
    have HE := hide (And.intro hE (And.intro hb1 (And.intro B1 B2)))
    clear hE hb1 B0 B1 B2 hs1 hlen
    go_enter Tryz.func12, Tryz.ntmps12
    go_wp2_with fail
    obtain ⟨hE, -, -, -⟩ := HE.out
    refine bodyPost_ret (ret_com rfl rfl rfl (v := .slice none 0 0) (a0 := .int .i64 1) (a1 := .int .i64 0) (k1 := w.heap.size + 1) (k2 := w.heap.size + 1 + 1) ((Blk.newAt (by simp)).alloc _) (Blk.newAt (by simp))) rfl ?_
    refine ⟨(((Below.refl _ w).alloc (Nat.le_refl _) _).alloc (by simp) _).alloc (by simp; omega) _, .slice none 0 0, ?_, ?_, none, 0, 0, rfl⟩
    · rw [hE]
    · rw [hE]; intro h; cases h
  · have hd : decide ((1000 : Int) < (s.size : Nat)) = false := by rw [decide_eq_false_iff_not]; omega
    have hcall := caught_any 21 #[.pointer (some ⟨w.heap.size, 0, none⟩), .pointer (some ⟨w.heap.size + 1, 0, none⟩)] (((w.alloc (.cells #[.string s] 9)).alloc (.cells #[.slice none 0 0] 44)).alloc (.cells #[.int .i64 0, .int .i64 0] 46))
      (fun w' => Kp (w.heap.size + 1) ((((w.alloc (.cells #[.string s] 9)).alloc (.cells #[.slice none 0 0] 44)).alloc (.cells #[.int .i64 0, .int .i64 0] 46)).alloc (.cells #[.int .i64 0, .int .i64 0] 46)) w' ∧ errS s = (0, 0) ∧ ∃ cv css, Blk w' (w.heap.size + 1) #[cv] 44 ∧ w'.ownsRow 0 81 13 cv (scrS s).1.length (flatC css) ∧ All2 PCmdV css (scrS s).1 ∧ (∀ k, cv.ownBlock = some k → w.heap.size + 4 ≤ k))
      (fun en pl w' => Kp (w.heap.size + 1) ((((w.alloc (.cells #[.string s] 9)).alloc (.cells #[.slice none 0 0] 44)).alloc (.cells #[.int .i64 0, .int .i64 0] 46)).alloc (.cells #[.int .i64 0, .int .i64 0] 46)) w' ∧ errS s = (en, pl) ∧ en ≠ 0 ∧ ∃ pa n cap, Blk w' (w.heap.size + 1) #[.slice pa n cap] 44)
      (enters_of Tryz.func21 (by kernel_rfl) rfl)
      ((commandsOf1_any s w.heap.size (w.heap.size + 1) (.slice none 0 0) _ (by omega) (B0.alloc _) (B1.alloc _)).mono (by
        rintro r w' ⟨hk, h⟩
        refine ⟨(Blk.newAt (by rw [hs1])).kp hk (by omega), ?_⟩
        rcases h with ⟨hb, rfl, hV⟩ | ⟨hb, pl, hl, rfl, hV⟩ | ⟨hb, hl, cv, css, rfl, hV, hL, hA, hlb⟩
        · exact .inr ⟨3, _, rfl, hk, by unfold errS; rw [if_neg hlen, if_pos hb], by decide, _, _, _, hV⟩
        · exact .inr ⟨4, _, rfl, hk, by unfold errS; rw [if_neg hlen, if_neg (by rw [hb]; simp), hl], by decide, _, _, _, hV⟩
        · refine .inl ⟨rfl, hk, by unfold errS; rw [if_neg hlen, if_neg (by rw [hb]; simp), hl], cv, css, hV, hL, hA, fun k hk' => ?_⟩
          have := hlb k hk'
          have hs4 : ((((w.alloc (.cells #[.string s] 9)).alloc (.cells #[.slice none 0 0] 44)).alloc (.cells #[.int .i64 0, .int .i64 0] 46)).alloc (.cells #[.int .i64 0, .int .i64 0] 46)).heap.size = w.heap.size + 4 := by simp
          omega))
    have HL := hide (And.intro hb1 (And.intro hs1 B2))
    clear hb1 B0 B1 B2 hs1 hlen
    go_enter Tryz.func12, Tryz.ntmps12
    go_wp2_with fail
    refine hcall.mono ?_
    clear hcall
    have fin : ∀ (w0 w3 : World) (v : Value) (en pl : Int), Kp (w.heap.size + 1) ((((w.alloc (.cells #[.string s] 9)).alloc (.cells #[.slice none 0 0] 44)).alloc (.cells #[.int .i64 0, .int .i64 0] 46)).alloc (.cells #[.int .i64 0, .int .i64 0] 46)) w0 → Kp (((w.alloc (.cells #[.string s] 9)).alloc (.cells #[.slice none 0 0] 44)).alloc (.cells #[.int .i64 0, .int .i64 0] 46)).heap.size w0 w3 → Blk w0 (w.heap.size + 1) #[v] 44 → Below w.heap.size w w3 ∧ Blk w3 (w.heap.size + 1) #[v] 44 ∧ Blk w3 (w.heap.size + 2) #[.int .i64 0, .int .i64 0] 46 ∧ Kp (w.heap.size + 3) w0 w3 := by
      intro w0 w3 v en pl hk0 hk3 hV
      obtain ⟨hb1, hs1, B2⟩ := HL.out
      have hb2 : Below w.heap.size w w0 := Kp.toBelow (hb1.alloc (by rw [hs1]; omega) _) hk0 (by omega)
      have hb3 : Below w.heap.size w w3 := Kp.toBelow' hb2 hk3 (by rw [hs1]; omega)
      rw [hs1] at hk3
      exact ⟨hb3, hV.kp hk3 (by omega), ((B2.alloc _).kp hk0 (by omega)).kp hk3 (by omega), hk3⟩
    have HFIN := hide fin
    clear fin
    rintro r w3 (⟨w0, ⟨hk0, hE, cv, css, hvb, hL, hA, hlb⟩, rfl, hk3⟩ | ⟨w0, en, pl, ⟨hk0, hE, hen, pa, n, cap, hvb⟩, rfl, hk3⟩)
    · obtain ⟨hb3, V3, F3, hk3'⟩ := HFIN.out w0 w3 cv 0 0 hk0 hk3 hvb
      have L3 := own_kp hL hk3' (fun k hk' => by have := hlb k hk'; omega)
      obtain ⟨pa, cap, rfl, hcap⟩ := own_form L3
      have f0 : w3.cell? ⟨w.heap.size + 2, 0, none⟩ = some (.int .i64 0) := F3.cell 0 rfl
      have f1 : w3.cell? ⟨w.heap.size + 2, 1, none⟩ = some (.int .i64 0) := F3.cell 1 rfl
      have ff := F3.fz
      have v0 : w3.cell? ⟨w.heap.size + 1, 0, none⟩ = some (.slice pa (scrS s).1.length cap) := V3.cell 0 rfl
      have vf := V3.fz
      have HX := hide (And.intro hE (And.intro hb3 (And.intro V3 (And.intro F3 (And.intro L3 (And.intro hA hlb))))))
      clear hk0 hE hvb hL hA hlb hk3 hk3' hb3 L3 HL HFIN V3 F3
      go_wp2_with fail
      go_region
      all_goals
        go_wp2_with fail
        obtain ⟨hE, hb3, V3, F3, L3, hA, hlb⟩ := HX.out
        have n12 : w.heap.size + 1 ≠ w.heap.size + 1 + 1 := by omega
        have n21 : w.heap.size + 1 + 1 ≠ w.heap.size + 1 := by omega
        have F9 := ((((F3.set 0 (.int .i64 0) rfl).set 1 (.int .i64 0) rfl).other (p := ⟨w.heap.size + 1, 0, none⟩) n12 (.slice pa (scrS s).1.length cap)).set 0 (.int .i64 0) rfl).set 1 (.int .i64 0) rfl
        have V9 := ((((V3.other (p := ⟨w.heap.size + 1 + 1, 0, none⟩) n21 (.int .i64 0)).other (p := ⟨w.heap.size + 1 + 1, 1, none⟩) n21 (.int .i64 0)).set 0 (.slice pa (scrS s).1.length cap) rfl).other (p := ⟨w.heap.size + 1 + 1, 0, none⟩) n21 (.int .i64 0)).other (p := ⟨w.heap.size + 1 + 1, 1, none⟩) n21 (.int .i64 0)
        have B9 := ((((hb3.setCell (show w.heap.size ≤ (⟨w.heap.size + 1 + 1, 0, none⟩ : Addr).block from (show w.heap.size ≤ w.heap.size + 1 + 1 by omega)) (.int .i64 0)).setCell (show w.heap.size ≤ (⟨w.heap.size + 1 + 1, 1, none⟩ : Addr).block from (show w.heap.size ≤ w.heap.size + 1 + 1 by omega)) (.int .i64 0)).setCell (show w.heap.size ≤ (⟨w.heap.size + 1, 0, none⟩ : Addr).block from (show w.heap.size ≤ w.heap.size + 1 by omega)) (.slice pa (scrS s).1.length cap)).setCell (show w.heap.size ≤ (⟨w.heap.size + 1 + 1, 0, none⟩ : Addr).block from (show w.heap.size ≤ w.heap.size + 1 + 1 by omega)) (.int .i64 0)).setCell (show w.heap.size ≤ (⟨w.heap.size + 1 + 1, 1, none⟩ : Addr).block from (show w.heap.size ≤ w.heap.size + 1 + 1 by omega)) (.int .i64 0)
        refine bodyPost_ret (ret_com rfl rfl rfl (V9.drewN 1) (F9.drewN 1)) rfl ?_
        refine ⟨B9.drew, _, by rw [hE], fun _ => ⟨css, ?_, hA, fun k hk => by have := hlb k hk; omega⟩, _, _, _, rfl⟩
        have ne1 : (Value.slice pa (scrS s).1.length cap).ownBlock ≠ some (w.heap.size + 1) := fun e => by have := hlb _ e; omega
        have ne2 : (Value.slice pa (scrS s).1.length cap).ownBlock ≠ some (w.heap.size + 1 + 1) := fun e => by have := hlb _ e; omega
        exact World.ownsRow.drew (own_set (own_set (own_set (own_set (own_set L3 (p := ⟨w.heap.size + 1 + 1, 0, none⟩) ne2 _) (p := ⟨w.heap.size + 1 + 1, 1, none⟩) ne2 _) (p := ⟨w.heap.size + 1, 0, none⟩) ne1 _) (p := ⟨w.heap.size + 1 + 1, 0, none⟩) ne2 _) (p := ⟨w.heap.size + 1 + 1, 1, none⟩) ne2 _)
    · obtain ⟨hb3, V3, F3, hk3'⟩ := HFIN.out w0 w3 (.slice pa n cap) en pl hk0 hk3 hvb
      have f0 : w3.cell? ⟨w.heap.size + 2, 0, none⟩ = some (.int .i64 0) := F3.cell 0 rfl
      have f1 : w3.cell? ⟨w.heap.size + 2, 1, none⟩ = some (.int .i64 0) := F3.cell 1 rfl
      have ff := F3.fz
      have v0 : w3.cell? ⟨w.heap.size + 1, 0, none⟩ = some (.slice pa n cap) := V3.cell 0 rfl
      have vf := V3.fz
      have HX := hide (And.intro hE (And.intro hb3 (And.intro V3 (And.intro F3 hen))))
      clear hk0 hE hvb hk3 hk3' hb3 HL HFIN V3 F3 hen
      go_wp2_with fail
      go_region
      all_goals
        go_wp2_with fail
        obtain ⟨hE, hb3, V3, F3, hen⟩ := HX.out
        have n12 : w.heap.size + 1 ≠ w.heap.size + 1 + 1 := by omega
        have n21 : w.heap.size + 1 + 1 ≠ w.heap.size + 1 := by omega
        have F9 := ((((F3.set 0 (.int .i64 en) rfl).set 1 (.int .i64 pl) rfl).other (p := ⟨w.heap.size + 1, 0, none⟩) n12 (.slice pa n cap)).set 0 (.int .i64 en) rfl).set 1 (.int .i64 pl) rfl
        have V9 := ((((V3.other (p := ⟨w.heap.size + 1 + 1, 0, none⟩) n21 (.int .i64 en)).other (p := ⟨w.heap.size + 1 + 1, 1, none⟩) n21 (.int .i64 pl)).set 0 (.slice pa n cap) rfl).other (p := ⟨w.heap.size + 1 + 1, 0, none⟩) n21 (.int .i64 en)).other (p := ⟨w.heap.size + 1 + 1, 1, none⟩) n21 (.int .i64 pl)
        have B9 := ((((hb3.setCell (show w.heap.size ≤ (⟨w.heap.size + 1 + 1, 0, none⟩ : Addr).block from (show w.heap.size ≤ w.heap.size + 1 + 1 by omega)) (.int .i64 en)).setCell (show w.heap.size ≤ (⟨w.heap.size + 1 + 1, 1, none⟩ : Addr).block from (show w.heap.size ≤ w.heap.size + 1 + 1 by omega)) (.int .i64 pl)).setCell (show w.heap.size ≤ (⟨w.heap.size + 1, 0, none⟩ : Addr).block from (show w.heap.size ≤ w.heap.size + 1 by omega)) (.slice pa n cap)).setCell (show w.heap.size ≤ (⟨w.heap.size + 1 + 1, 0, none⟩ : Addr).block from (show w.heap.size ≤ w.heap.size + 1 + 1 by omega)) (.int .i64 en)).setCell (show w.heap.size ≤ (⟨w.heap.size + 1 + 1, 1, none⟩ : Addr).block from (show w.heap.size ≤ w.heap.size + 1 + 1 by omega)) (.int .i64 pl)
        refine bodyPost_ret (ret_com rfl rfl rfl (V9.drewN 1) (F9.drewN 1)) rfl ?_
        refine ⟨B9.drew, _, by rw [hE], fun h => ?_, _, _, _, rfl⟩
        rw [hE] at h
        exact absurd h hen

set_option maxRecDepth 100000 in
set_option maxHeartbeats 1000000 in
/-- Check. -/
theorem check_any (s : ByteArray) (w : World) : Calls Tryz.prog 9 #[.string s] w fun e w' => e = .returned (.tuple #[.int .i64 (errS s).1, .int .i64 (errS s).2]) ∧ Below w.heap.size w w' := by
  go_enter Tryz.func9, Tryz.ntmps9
  go_wp2_with fail
  refine (commandsOf_any s w).mono ?_
  rintro e w1 ⟨hB, cv, rfl, -, pa, n, cap, rfl⟩
  have G := Blk.new w1 #[.int .i64 (errS s).1, .int .i64 (errS s).2] 46
  have g0 : (w1.alloc (.cells #[.int .i64 (errS s).1, .int .i64 (errS s).2] 46)).cell? ⟨w1.heap.size, 0, none⟩ = some (.int .i64 (errS s).1) := G.cell 0 rfl
  have g1 : (w1.alloc (.cells #[.int .i64 (errS s).1, .int .i64 (errS s).2] 46)).cell? ⟨w1.heap.size, 1, none⟩ = some (.int .i64 (errS s).2) := G.cell 1 rfl
  have B2 := hB.alloc hB.size (.cells #[.int .i64 (errS s).1, .int .i64 (errS s).2] 46)
  go_wp2_with fail
  go_region
  all_goals
    go_wp2_with fail
    refine bodyPost_ret (res_tmp2 rfl _ _ _) rfl ?_
    exact ⟨rfl, B2.drew⟩
end Go.Proofs.YtmjdaifalgpdnaaGreat
