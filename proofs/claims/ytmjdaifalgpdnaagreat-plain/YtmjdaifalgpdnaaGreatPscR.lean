import Derived.Test.YtmjdaifalgpdnaaGreatPscP
import Derived.Defers
import Derived.Recover
namespace Go.Proofs.YtmjdaifalgpdnaaGreat
open Go.RowKit

theorem size_ext (s : ByteArray) (a b : Nat) : (s.extract a b).size ≤ s.size := by rw [ByteArray.size_extract]; omega
theorem word_small (s : ByteArray) (st : St) : (wordS s st).1.size ≤ s.size := by
  unfold wordS
  split
  · exact Nat.zero_le _
  · exact size_ext _ _ _
theorem restT_small (s : ByteArray) (op : Int) (st : St) : (restT s op st).size ≤ s.size := by
  unfold restT
  split
  · exact word_small s st
  · split
    · unfold spacedS
      split
      · exact Nat.zero_le _
      · exact word_small s _
    · exact Nat.zero_le _
theorem command_small (s : ByteArray) (n nest : Nat) (full : Bool) (st : St) : (commandS s n nest full st).1.text.size ≤ s.size := by
  unfold commandS
  dsimp only
  split
  · exact Nat.zero_le _
  · split
    · exact Nat.zero_le _
    · exact restT_small s _ _
theorem commands_small (s : ByteArray) (n : Nat) : ∀ (k : Nat) (l : List CmT) (nest : Nat) (st : St), (∀ t ∈ l, t.text.size ≤ s.size) → ∀ t ∈ (commandsS s n k l nest st).1.1, t.text.size ≤ s.size
  | 0, l, nest, st, h => h
  | k + 1, l, nest, st, h => by
    rw [commandsS]
    split
    · exact h
    · split
      · exact commands_small s n k l nest _ h
      · split
        · exact commands_small s n k l nest _ h
        · split
          · exact h
          · refine commands_small s n k _ _ _ (fun t ht => ?_)
            simp only [List.mem_append, List.mem_singleton] at ht
            rcases ht with ht | rfl
            · exact h t ht
            · exact command_small s n nest _ _
theorem all_small (s : ByteArray) (n k : Nat) (st : St) : ∀ t ∈ (allS s n k st).1, t.text.size ≤ s.size := commands_small s n k [] 0 st (fun t ht => by cases ht)

/-- A whole script, read. -/
def scrS (s : ByteArray) : List CmT × St := allS s (2 * s.size + 2) (s.size + 1) ⟨0, false, 0⟩

/-- What readScript does. -/
def ScrPost (w : World) (s : ByteArray) (e : Ending) (w' : World) : Prop :=
  Below w.heap.size w w' ∧ (((scrS s).2.bad = true ∧ e = .panicked (gaveUp 3 (scrS s).2.i)) ∨ ((scrS s).2.bad = false ∧ ∃ pl : Nat, lostS (scrS s).1 (scrS s).1.length 0 = some pl ∧ e = .panicked (gaveUp 4 pl)) ∨ ((scrS s).2.bad = false ∧ lostS (scrS s).1 (scrS s).1.length 0 = none ∧ ∃ cv css, e = .returned cv ∧ w'.ownsRow 0 81 13 cv (scrS s).1.length (flatC css) ∧ All2 PCmdV css (scrS s).1 ∧ (∀ k, cv.ownBlock = some k → w.heap.size ≤ k)))

set_option maxRecDepth 100000 in
set_option maxHeartbeats 1600000 in
theorem preadScript_any (s : ByteArray) (w : World) (hs : s.size ≤ 1048576) :
    Calls Tryz.prog 22 #[.string s] w fun e w' => ScrPost w s e w' := by
  have h1 : SR (w.alloc (.cells #[.string s, .int .i64 0, .int .i64 3, .slice none 0 0, .slice none 0 0] 100)) w.heap.size s 0 3 (.slice none 0 0) (.slice none 0 0) := Blk.new w _ _
  have B1 : Below w.heap.size w (w.alloc (.cells #[.string s, .int .i64 0, .int .i64 3, .slice none 0 0, .slice none 0 0] 100)) := (Below.refl _ w).alloc (Nat.le_refl _) _
  have r1 : Rws (w.alloc (.cells #[.string s, .int .i64 0, .int .i64 3, .slice none 0 0, .slice none 0 0] 100)) w.heap.size (.slice none 0 0) (.slice none 0 0) [] [] [] 0 := ⟨World.ownsRow_nil _ _ _ _, All2.nil, World.ownsRow_nil _ _ _ _, fun k hk => (by cases hk), fun k hk => (by cases hk), fun j hj => (by cases hj), by simp, by simp⟩
  have HS : Hid (scrS s = allS s (2 * s.size + 2) (s.size + 1) ⟨0, false, 0⟩) := rfl
  have HSM := hide (all_small s (2 * s.size + 2) (s.size + 1) ⟨0, false, 0⟩)
  go_enter Tryz.func22, Tryz.ntmps22
  go_wp2_with fail
  go_loopg [] (s.size + 1) (fun k w' => ∃ (cur : St) (cv ov : Value) (ls : List CmT) (css : List (Array Value)) (js : List Nat), SR w' w.heap.size s cur.i 3 cv ov ∧ Rws w' w.heap.size cv ov ls css js ls.length ∧ cur.bad = false ∧ cur.i ≤ s.size ∧ s.size - cur.i < k ∧ Below w.heap.size w w' ∧ Hid (commandsS s (2 * s.size + 2) k ls js.length cur = commandsS s (2 * s.size + 2) (s.size + 1) [] 0 ⟨0, false, 0⟩))
  case atStart => exact ⟨⟨0, false, 0⟩, _, _, [], [], [], h1, r1, rfl, Nat.zero_le _, by simp, B1, rfl⟩
  case round =>
    obtain ⟨cur, cv, ov, ls, css, js, hR, hr, hcb, hci, hck, hB, HE⟩ := hrel
    obtain ⟨k, rfl⟩ : ∃ k, gk = k + 1 := ⟨gk - 1, by omega⟩
    have e1 := hR.c1
    by_cases hil : cur.i < s.size
    · have hd : decide ((cur.i : Int) < s.size) = true := by rw [decide_eq_true_iff]; omega
      go_wp2_with fail
      refine (pline_any (2 * s.size + 2) w.heap.size w.heap.size s cur 3 cv ov ls css js wr hR hr (Nat.le_refl _) hcb hs hil (by omega)).mono ?_
      rintro e w2 ⟨hB2, hT⟩
      have hB3 := hB.trans hB2
      rcases hT with ⟨rfl, cv', ov', css', ls', js', st', hR2, hr2, hb2, hi2, hadv, hge, hst⟩ | ⟨pl, rfl, hst⟩
      · have hE := HE.out
        rw [hst k] at hE
        have HE2 := hide hE
        have HR2 := hide hr2
        clear hE HE hst hr hr2
        go_wp2_with fail
        go_roundg k
        case measure => omega
        case rel => exact ⟨st', cv', ov', ls', css', js', hR2, HR2.out, hb2, hi2, by omega, hB3, HE2.out⟩
      · refine ⟨rfl, hB3, .inl ?_⟩
        have h9 := hst k
        rw [HE.out] at h9
        rw [HS.out]
        unfold allS
        dsimp only
        split
        · exact ⟨rfl, by show _ = Ending.panicked (gaveUp 3 (((commandsS s (2 * s.size + 2) (s.size + 1) [] 0 ⟨0, false, 0⟩).2.i : Nat) : Int)); rw [h9.2]⟩
        · exact ⟨h9.1, by rw [h9.2]⟩
    · have hd : decide ((cur.i : Int) < s.size) = false := by rw [decide_eq_false_iff_not]; omega
      have hE := HE.out
      rw [commandsS, if_pos (.inr (by omega))] at hE
      have hA : scrS s = (ls, if 0 < js.length then spoil cur else cur) := by
        rw [HS.out]
        unfold allS
        rw [← hE]
      have HA := hide hA
      clear hE HE hA HS
      obtain ⟨po, co, rfl, hco⟩ := own_form hr.O
      have c4 := hR.c4
      by_cases hj : js.length = 0
      · have hdj : decide ((0 : Int) < (js.length : Nat)) = false := by rw [decide_eq_false_iff_not]; omega
        rw [if_neg (by omega)] at HA
        have hsm : ∀ t ∈ ls, t.text.size ≤ 1048576 := fun t ht => by
          have h8 := HSM.out t
          have h7 : (allS s (2 * s.size + 2) (s.size + 1) ⟨0, false, 0⟩).1 = ls := by
            have : scrS s = allS s (2 * s.size + 2) (s.size + 1) ⟨0, false, 0⟩ := rfl
            rw [← this, HA.out]
          rw [h7] at h8
          have := h8 ht
          omega
        have hpf := pfind_any w.heap.size w.heap.size s cur.i 3 cv (.slice po js.length co) ls css wr hR hr.L hr.A hr.l60 hsm (Nat.le_refl _) hr.lb
        have HPF := hide (And.intro hpf hr.lb)
        clear hpf hsm hr
        go_wp2_with fail
        refine HPF.out.1.mono ?_
        rintro e w2 ⟨hB2, hT⟩
        have hB3 := hB.trans hB2
        rcases hT with ⟨hl, rfl, css', hR2, hL2, hA2⟩ | ⟨pl, hl, rfl⟩
        · have c3 := hR2.c3
          go_wp2_with fail
          go_ret
          refine ⟨hB3, .inr (.inr ?_)⟩
          rw [HA.out]
          exact ⟨hcb, hl, cv, css', rfl, hL2, hA2, HPF.out.2⟩
        · refine ⟨rfl, hB3, .inr (.inl ?_)⟩
          rw [HA.out]
          exact ⟨hcb, pl, hl, rfl⟩
      · have hdj : decide ((0 : Int) < (js.length : Nat)) = true := by rw [decide_eq_true_iff]; omega
        rw [if_pos (by omega)] at HA
        clear hr
        go_wp2_with fail
        refine wp_region_any (by kernel_rfl) ?_
        change wpAny _ _ _ _ _ _ _ (World.drew _)
        refine wpAny_take (i := 0) (v := .pointer (some ⟨w.heap.size, 0, none⟩)) rfl (by kernel_rfl) (by kernel_rfl) (by kernel_rfl) (fun _ _ _ h => h) (Or.inl ⟨by rfl, by intro w; go_simp⟩) ?_
        refine wpAny_take (i := 1) (v := .pointer (some ⟨w.heap.size, 0, none⟩)) rfl (by kernel_rfl) (by kernel_rfl) (by kernel_rfl) (fun _ _ _ h => h) (Or.inl ⟨by rfl, by intro w; go_simp⟩) ?_
        refine wpAny_take (i := 2) (v := .pointer (some ⟨w.heap.size, 0, none⟩)) rfl (by kernel_rfl) (by kernel_rfl) (by kernel_rfl) (fun _ _ _ h => h) (Or.inl ⟨by rfl, by intro w; go_simp⟩) ?_
        refine wpAny_take (i := 3) (v := .pointer (some ⟨w.heap.size, 0, none⟩)) rfl (by kernel_rfl) (by kernel_rfl) (by kernel_rfl) (fun _ _ _ h => h) (Or.inl ⟨by rfl, by intro w; go_simp⟩) ?_
        refine wpAny_take (i := 4) (v := .pointer (some ⟨w.heap.size, 0, none⟩)) rfl (by kernel_rfl) (by kernel_rfl) (by kernel_rfl) (fun _ _ _ h => h) (Or.inl ⟨by rfl, by intro w; go_simp⟩) ?_
        refine wpAny_take (i := 5) (v := .pointer (some ⟨w.heap.size, 0, none⟩)) rfl (by kernel_rfl) (by kernel_rfl) (by kernel_rfl) (fun _ _ _ h => h) (Or.inl ⟨by rfl, by intro w; go_simp⟩) ?_
        refine wpAny_take (i := 6) (v := .pointer (some ⟨w.heap.size, 1, none⟩)) rfl (by kernel_rfl) (by kernel_rfl) (by kernel_rfl) (fun _ _ _ h => h) (Or.inl ⟨by rfl, by intro w; go_simp⟩) ?_
        refine wpAny_ready (rs := [7]) (by kernel_rfl) (by simp) ?_
        refine AllReady.cons rfl (fun K hK => ?_) AllReady.nil
        go_simp
        refine hK _ _ ?_
        clear hK K
        refine wpAny_ready (rs := [8]) (by kernel_rfl) (by simp) ?_
        refine AllReady.cons rfl (fun K hK => ?_) AllReady.nil
        go_simp
        refine (giveUp_any w.heap.size s cur.i 3 _ _ (SR.rd hR.drew)).mono ?_
        rintro e w3 ⟨rfl, rfl⟩
        refine ⟨rfl, hB.drew, .inl ?_⟩
        rw [HA.out]
        exact ⟨rfl, rfl⟩
end Go.Proofs.YtmjdaifalgpdnaaGreat

namespace Go.Proofs.YtmjdaifalgpdnaaGreat
open Go.RowKit

theorem assert_fault (en pl : Int) (w : World) : (Instr.typeAssert (.iface 46 (.agg #[.int .i64 en, .int .i64 pl])) 20 46 true).run Tryz.prog w = .ok (.tuple #[.agg #[.int .i64 en, .int .i64 pl], .bool true]) w := by kernel_rfl

set_option maxRecDepth 100000 in
set_option maxHeartbeats 800000 in
theorem catch_panicking (p : Nat) (a0 a1 : Value) (en pl : Int) (w : World) (h : Blk w p #[a0, a1] 46) :
    CallsD Tryz.prog 34 #[.pointer (some ⟨p, 0, none⟩)] (.panicking (gaveUp en pl)) w fun e u' w' =>
      e = .returned (.tuple #[]) ∧ u' = .panicking [{ v := .iface 46 (.agg #[.int .i64 en, .int .i64 pl]), recovered := true }] ∧ Blk w' p #[.int .i64 en, .int .i64 pl] 46 ∧ Kp p w w' := by
  have hta := assert_fault en pl
  have h' := h.alloc (.cells #[.int .i64 en, .int .i64 pl] 46)
  have d0 : (w.alloc (.cells #[.int .i64 en, .int .i64 pl] 46)).cell? ⟨p, 0, none⟩ = some a0 := h'.cell 0 rfl
  have d1 : (w.alloc (.cells #[.int .i64 en, .int .i64 pl] 46)).cell? ⟨p, 1, none⟩ = some a1 := h'.cell 1 rfl
  have df := h'.fz
  refine callsD_of_wpS Tryz.func34 rfl fun c₀ cs hu => ?_
  apply wpS_seq
  apply wpS_region
  simp [wpOpsS, go_sem, recoverD, hu, Tryz.ntmps34, Exit.thenS, gaveUp]
  refine wpS_of_wp ?_
  have HU := hide hu
  clear hu
  simp only [Array.replicate_succ, Array.replicate_zero, List.push_toArray, List.append_toArray, List.nil_append, List.cons_append, List.setIfInBounds_toArray, List.set_cons_succ, List.set_cons_zero]
  go_wp2_with fail
  have hb : Blk (((w.alloc (.cells #[.int .i64 en, .int .i64 pl] 46)).setCell ⟨p, 0, none⟩ (.int .i64 en)).setCell ⟨p, 1, none⟩ (.int .i64 pl)) p #[.int .i64 en, .int .i64 pl] 46 := (h'.set 0 (.int .i64 en) rfl).set 1 (.int .i64 pl) rfl
  have hk : Kp p w (((w.alloc (.cells #[.int .i64 en, .int .i64 pl] 46)).setCell ⟨p, 0, none⟩ (.int .i64 en)).setCell ⟨p, 1, none⟩ (.int .i64 pl)) := (((Kp.refl p w).alloc _).set _ _).set _ _
  simp [bodyPostS, results, Tryz.results34]
  exact ⟨hb, hk⟩

set_option maxRecDepth 100000 in
set_option maxHeartbeats 800000 in
theorem catch_idle (p : Nat) (w : World) :
    CallsD Tryz.prog 34 #[.pointer (some ⟨p, 0, none⟩)] .returning w fun e u' w' => e = .returned (.tuple #[]) ∧ u' = .returning ∧ w' = w := by
  refine callsD_of_wpS Tryz.func34 rfl fun c₀ cs hu => ?_
  apply wpS_seq
  apply wpS_region
  simp [wpOpsS, go_sem, recoverD, hu, Tryz.ntmps34, Exit.thenS]
  refine wpS_of_wp ?_
  have HU := hide hu
  clear hu
  simp only [Array.replicate_succ, Array.replicate_zero, List.push_toArray, List.append_toArray, List.nil_append, List.cons_append, List.setIfInBounds_toArray, List.set_cons_succ, List.set_cons_zero]
  go_wp2_with fail
  have hu := HU.out
  cases c₀
  simp_all [bodyPostS, results, Tryz.results34]

/-- A fault that is handed back out of its variable. -/
theorem ret_fault {w : World} {k : Nat} {a0 a1 : Value} {fn : Func} {p : Tmp} (hres : fn.results = #[.cell p 46]) {tmps : Array Value} (ht : tmps.getD p undef = .pointer (some ⟨k, 0, none⟩)) (h : Blk w k #[a0, a1] 46) :
    (results fn tmps).run Tryz.prog w = .ok (.agg #[a0, a1]) w := by
  have c0 : w.cell? ⟨k, 0, none⟩ = some a0 := h.cell 0 rfl
  have c1 : w.cell? ⟨k, 1, none⟩ = some a1 := h.cell 1 rfl
  have ht' : tmps[p]?.getD undef = .pointer (some ⟨k, 0, none⟩) := by simpa using ht
  simp [results, hres, ht', go_sem, c0, c1]

/-- caught: the work comes to its end, or gives up. -/
theorem caught_any (F : FuncId) (caps : Array Value) (w : World) (R1 : World → Prop) (R2 : Int → Int → World → Prop)
    (hF : ∀ (a : Array Value) (w : World), (callFunc F a).run Tryz.prog w = .ok (.enter F a) w)
    (h : Calls Tryz.prog F caps (w.alloc (.cells #[.int .i64 0, .int .i64 0] 46)) fun e w' => Blk w' w.heap.size #[.int .i64 0, .int .i64 0] 46 ∧ ((e = .returned (.tuple #[]) ∧ R1 w') ∨ ∃ en pl, e = .panicked (gaveUp en pl) ∧ R2 en pl w')) :
    Calls Tryz.prog 20 #[.func (.func F) #[] caps] w fun e w' => (∃ w0, R1 w0 ∧ e = .returned (.agg #[.int .i64 0, .int .i64 0]) ∧ Kp w.heap.size w0 w') ∨ (∃ w0 en pl, R2 en pl w0 ∧ e = .returned (.agg #[.int .i64 en, .int .i64 pl]) ∧ Kp w.heap.size w0 w') := by
  have hmf : ∀ (fn : Fn) (first cap : Array Value) (w : World), (Instr.makeFunc fn first cap).run Tryz.prog w = .ok (.func fn first cap) w := fun _ _ _ _ => rfl
  have H := hide h
  clear h
  go_enter_defers Tryz.func20, Tryz.ntmps20
  go_wp2_with fail
  refine H.out.mono ?_
  rintro e w1 ⟨hB, ⟨rfl, h1⟩ | ⟨en, pl, rfl, h2⟩⟩
  · have c0 := hB.cell 0 rfl
    have c1 := hB.cell 1 rfl
    have cf := hB.fz
    go_wp2_with fail
    refine leaves_cons (f := 34) (args := #[.pointer (some ⟨w.heap.size, 0, none⟩)]) (by simp) (by simp [go_sem]) ?_
    refine (catch_idle w.heap.size _).mono ?_
    rintro e u' w2 ⟨rfl, rfl, rfl⟩
    have hB2 := (hB.set 0 (.int .i64 0) rfl).set 1 (.int .i64 0) rfl
    simp only
    exact ⟨_, ret_fault Tryz.results20 rfl hB2, .inl ⟨w1, h1, rfl, ((Kp.refl _ w1).set _ _).set _ _⟩⟩
  · go_wp2_with fail
    refine leaves_cons (f := 34) (args := #[.pointer (some ⟨w.heap.size, 0, none⟩)]) (by simp) (by simp [go_sem]) ?_
    refine (catch_panicking w.heap.size _ _ en pl _ hB).mono ?_
    rintro e u' w2 ⟨rfl, rfl, hB2, hk⟩
    simp only [settle, List.dropWhile, Leaves]
    exact ⟨_, ret_fault Tryz.results20 rfl hB2, .inr ⟨w1, en, pl, h2, rfl, hk⟩⟩

set_option maxRecDepth 100000 in
set_option maxHeartbeats 1000000 in
/-- What commandsOf hands to caught. -/
theorem commandsOf1_any (s : ByteArray) (eb vb : Nat) (v : Value) (w : World) (hs : s.size ≤ 1048576) (he : Blk w eb #[.string s] 9) (hv : Blk w vb #[v] 44) :
    Calls Tryz.prog 21 #[.pointer (some ⟨eb, 0, none⟩), .pointer (some ⟨vb, 0, none⟩)] w fun e w' => Kp vb w w' ∧ (((scrS s).2.bad = true ∧ e = .panicked (gaveUp 3 (scrS s).2.i) ∧ Blk w' vb #[v] 44) ∨ ((scrS s).2.bad = false ∧ ∃ pl : Nat, lostS (scrS s).1 (scrS s).1.length 0 = some pl ∧ e = .panicked (gaveUp 4 pl) ∧ Blk w' vb #[v] 44) ∨ ((scrS s).2.bad = false ∧ lostS (scrS s).1 (scrS s).1.length 0 = none ∧ ∃ cv css, e = .returned (.tuple #[]) ∧ Blk w' vb #[cv] 44 ∧ w'.ownsRow 0 81 13 cv (scrS s).1.length (flatC css) ∧ All2 PCmdV css (scrS s).1 ∧ (∀ k, cv.ownBlock = some k → w.heap.size ≤ k))) := by
  have e0 : w.cell? ⟨eb, 0, none⟩ = some (.string s) := he.cell 0 rfl
  have v0 : w.cell? ⟨vb, 0, none⟩ = some v := hv.cell 0 rfl
  have vf := hv.fz
  have hvl := hv.lt
  go_enter Tryz.func21, Tryz.ntmps21
  go_wp2_with fail
  refine (preadScript_any s w hs).mono ?_
  rintro e w2 ⟨k2, hT⟩
  have V2 := hv.below k2
  rcases hT with ⟨hb, rfl⟩ | ⟨hb, pl, hl, rfl⟩ | ⟨hb, hl, cv, css, rfl, hL, hA, hlb⟩
  · exact ⟨rfl, Kp.below k2, .inl ⟨hb, rfl, V2⟩⟩
  · exact ⟨rfl, Kp.below k2, .inr (.inl ⟨hb, pl, hl, rfl, V2⟩)⟩
  · have v2 : w2.cell? ⟨vb, 0, none⟩ = some v := V2.cell 0 rfl
    have vf2 := V2.fz
    obtain ⟨pa, cap, rfl, hcap⟩ := own_form hL
    have HX := hide (And.intro hb (And.intro hl (And.intro hL (And.intro hA hlb))))
    clear hb hl hL hA hlb
    go_wp2_with fail
    refine bodyPost_end (results_none rfl _ _ _) rfl ?_
    obtain ⟨hb, hl, hL, hA, hlb⟩ := HX.out
    refine ⟨(Kp.below k2).set _ _, .inr (.inr ⟨hb, hl, _, css, rfl, V2.set 0 _ rfl, own_set hL (fun e => ?_) _, hA, hlb⟩)⟩
    have := hlb _ e
    simp at this
    omega
end Go.Proofs.YtmjdaifalgpdnaaGreat
