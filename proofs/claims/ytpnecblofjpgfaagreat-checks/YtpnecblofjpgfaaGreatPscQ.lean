import Derived.Test.YtpnecblofjpgfaaGreatPscP
namespace Go.Proofs.YtpnecblofjpgfaaGreat
open Go.RowKit

theorem size_ext (s : ByteArray) (a b : Nat) : (s.extract a b).size ≤ s.size := by rw [ByteArray.size_extract]; omega
theorem word_small (s : ByteArray) (st : St) : (wordS s st).1.size ≤ s.size := by
  unfold wordS
  split
  · exact Nat.zero_le _
  · exact size_ext _ _ _
theorem restT_small (s : ByteArray) (op : Int) (st : St) : (restT s op st).size ≤ s.size := by
  unfold restT
  split
  · exact word_small s st
  · split
    · unfold spacedS
      split
      · exact Nat.zero_le _
      · exact word_small s _
    · exact Nat.zero_le _
theorem command_small (s : ByteArray) (n nest : Nat) (full : Bool) (st : St) : (commandS s n nest full st).1.text.size ≤ s.size := by
  unfold commandS
  dsimp only
  split
  · exact Nat.zero_le _
  · split
    · exact Nat.zero_le _
    · exact restT_small s _ _
theorem commands_small (s : ByteArray) (n : Nat) : ∀ (k : Nat) (l : List CmT) (nest : Nat) (st : St), (∀ t ∈ l, t.text.size ≤ s.size) → ∀ t ∈ (commandsS s n k l nest st).1.1, t.text.size ≤ s.size
  | 0, l, nest, st, h => h
  | k + 1, l, nest, st, h => by
    rw [commandsS]
    split
    · exact h
    · split
      · exact commands_small s n k l nest _ h
      · split
        · exact commands_small s n k l nest _ h
        · split
          · exact h
          · refine commands_small s n k _ _ _ (fun t ht => ?_)
            simp only [List.mem_append, List.mem_singleton] at ht
            rcases ht with ht | rfl
            · exact h t ht
            · exact command_small s n nest _ _
theorem all_small (s : ByteArray) (n k : Nat) (st : St) : ∀ t ∈ (allS s n k st).1, t.text.size ≤ s.size := commands_small s n k [] 0 st (fun t ht => by cases ht)

/-- A whole script, read. -/
def scrS (s : ByteArray) : List CmT × St := allS s (2 * s.size + 2) (s.size + 1) ⟨0, false, 0⟩

/-- What readScript does. -/
def ScrPost (w : World) (s : ByteArray) (e : Ending) (w' : World) : Prop :=
  Below w.heap.size w w' ∧ (((scrS s).2.bad = true ∧ e = .panicked (gaveUp 3 (scrS s).2.i)) ∨ ((scrS s).2.bad = false ∧ ∃ pl : Nat, lostS (scrS s).1 (scrS s).1.length 0 = some pl ∧ e = .panicked (gaveUp 4 pl)) ∨ ((scrS s).2.bad = false ∧ lostS (scrS s).1 (scrS s).1.length 0 = none ∧ ∃ cv css, e = .returned cv ∧ w'.ownsRow 0 67 13 cv (scrS s).1.length (flatC css) ∧ All2 PCmdV css (scrS s).1 ∧ (∀ k, cv.ownBlock = some k → w.heap.size ≤ k)))

set_option maxRecDepth 100000 in
set_option maxHeartbeats 1600000 in
theorem preadScript_any (s : ByteArray) (w : World) (hs : s.size ≤ 1048576) :
    Calls Tryz.prog 17 #[.string s] w fun e w' => ScrPost w s e w' := by
  have h1 : SR (w.alloc (.cells #[.string s, .int .i64 0, .int .i64 3, .slice none 0 0, .slice none 0 0] 78)) w.heap.size s 0 3 (.slice none 0 0) (.slice none 0 0) := Blk.new w _ _
  have B1 : Below w.heap.size w (w.alloc (.cells #[.string s, .int .i64 0, .int .i64 3, .slice none 0 0, .slice none 0 0] 78)) := (Below.refl _ w).alloc (Nat.le_refl _) _
  have r1 : Rws (w.alloc (.cells #[.string s, .int .i64 0, .int .i64 3, .slice none 0 0, .slice none 0 0] 78)) w.heap.size (.slice none 0 0) (.slice none 0 0) [] [] [] 0 := ⟨World.ownsRow_nil _ _ _ _, All2.nil, World.ownsRow_nil _ _ _ _, fun k hk => (by cases hk), fun k hk => (by cases hk), fun j hj => (by cases hj), by simp, by simp⟩
  have HS : Hid (scrS s = allS s (2 * s.size + 2) (s.size + 1) ⟨0, false, 0⟩) := rfl
  have HSM := hide (all_small s (2 * s.size + 2) (s.size + 1) ⟨0, false, 0⟩)
  go_enter Tryz.func17, Tryz.ntmps17
  go_wp2_with fail
  go_loopg [] (s.size + 1) (fun k w' => ∃ (cur : St) (cv ov : Value) (ls : List CmT) (css : List (Array Value)) (js : List Nat), SR w' w.heap.size s cur.i 3 cv ov ∧ Rws w' w.heap.size cv ov ls css js ls.length ∧ cur.bad = false ∧ cur.i ≤ s.size ∧ s.size - cur.i < k ∧ Below w.heap.size w w' ∧ Hid (commandsS s (2 * s.size + 2) k ls js.length cur = commandsS s (2 * s.size + 2) (s.size + 1) [] 0 ⟨0, false, 0⟩))
  case atStart => exact ⟨⟨0, false, 0⟩, _, _, [], [], [], h1, r1, rfl, Nat.zero_le _, by simp, B1, rfl⟩
  case round =>
    obtain ⟨cur, cv, ov, ls, css, js, hR, hr, hcb, hci, hck, hB, HE⟩ := hrel
    obtain ⟨k, rfl⟩ : ∃ k, gk = k + 1 := ⟨gk - 1, by omega⟩
    have e1 := hR.c1
    by_cases hil : cur.i < s.size
    · have hd : decide ((cur.i : Int) < s.size) = true := by rw [decide_eq_true_iff]; omega
      go_wp2_with fail
      refine (pline_any (2 * s.size + 2) w.heap.size w.heap.size s cur 3 cv ov ls css js wr hR hr (Nat.le_refl _) hcb hs hil (by omega)).mono ?_
      rintro e w2 ⟨hB2, hT⟩
      have hB3 := hB.trans hB2
      rcases hT with ⟨rfl, cv', ov', css', ls', js', st', hR2, hr2, hb2, hi2, hadv, hge, hst⟩ | ⟨pl, rfl, hst⟩
      · have hE := HE.out
        rw [hst k] at hE
        have HE2 := hide hE
        have HR2 := hide hr2
        clear hE HE hst hr hr2
        go_wp2_with fail
        go_roundg k
        case measure => omega
        case rel => exact ⟨st', cv', ov', ls', css', js', hR2, HR2.out, hb2, hi2, by omega, hB3, HE2.out⟩
      · refine ⟨rfl, hB3, .inl ?_⟩
        have h9 := hst k
        rw [HE.out] at h9
        rw [HS.out]
        unfold allS
        dsimp only
        split
        · exact ⟨rfl, by show _ = Ending.panicked (gaveUp 3 (((commandsS s (2 * s.size + 2) (s.size + 1) [] 0 ⟨0, false, 0⟩).2.i : Nat) : Int)); rw [h9.2]⟩
        · exact ⟨h9.1, by rw [h9.2]⟩
    · have hd : decide ((cur.i : Int) < s.size) = false := by rw [decide_eq_false_iff_not]; omega
      have hE := HE.out
      rw [commandsS, if_pos (.inr (by omega))] at hE
      have hA : scrS s = (ls, if 0 < js.length then spoil cur else cur) := by
        rw [HS.out]
        unfold allS
        rw [← hE]
      have HA := hide hA
      clear hE HE hA HS
      obtain ⟨po, co, rfl, hco⟩ := own_form hr.O
      have c4 := hR.c4
      by_cases hj : js.length = 0
      · have hdj : decide ((0 : Int) < (js.length : Nat)) = false := by rw [decide_eq_false_iff_not]; omega
        rw [if_neg (by omega)] at HA
        have hsm : ∀ t ∈ ls, t.text.size ≤ 1048576 := fun t ht => by
          have h8 := HSM.out t
          have h7 : (allS s (2 * s.size + 2) (s.size + 1) ⟨0, false, 0⟩).1 = ls := by
            have : scrS s = allS s (2 * s.size + 2) (s.size + 1) ⟨0, false, 0⟩ := rfl
            rw [← this, HA.out]
          rw [h7] at h8
          have := h8 ht
          omega
        have hpf := pfind_any w.heap.size w.heap.size s cur.i 3 cv (.slice po js.length co) ls css wr hR hr.L hr.A hr.l60 hsm (Nat.le_refl _) hr.lb
        have HPF := hide (And.intro hpf hr.lb)
        clear hpf hsm hr
        go_wp2_with fail
        refine HPF.out.1.mono ?_
        rintro e w2 ⟨hB2, hT⟩
        have hB3 := hB.trans hB2
        rcases hT with ⟨hl, rfl, css', hR2, hL2, hA2⟩ | ⟨pl, hl, rfl⟩
        · have c3 := hR2.c3
          go_wp2_with fail
          go_ret
          refine ⟨hB3, .inr (.inr ?_)⟩
          rw [HA.out]
          exact ⟨hcb, hl, cv, css', rfl, hL2, hA2, HPF.out.2⟩
        · refine ⟨rfl, hB3, .inr (.inl ?_)⟩
          rw [HA.out]
          exact ⟨hcb, pl, hl, rfl⟩
      · have hdj : decide ((0 : Int) < (js.length : Nat)) = true := by rw [decide_eq_true_iff]; omega
        rw [if_pos (by omega)] at HA
        clear hr
        go_wp2_with fail
        refine wp_region_any (by kernel_rfl) ?_
        change wpAny _ _ _ _ _ _ _ (World.drew _)
        refine wpAny_take (i := 0) (v := .pointer (some ⟨w.heap.size, 0, none⟩)) rfl (by kernel_rfl) (by kernel_rfl) (by kernel_rfl) (fun _ _ _ h => h) (Or.inl ⟨by rfl, by intro w; go_simp⟩) ?_
        refine wpAny_take (i := 1) (v := .pointer (some ⟨w.heap.size, 0, none⟩)) rfl (by kernel_rfl) (by kernel_rfl) (by kernel_rfl) (fun _ _ _ h => h) (Or.inl ⟨by rfl, by intro w; go_simp⟩) ?_
        refine wpAny_take (i := 2) (v := .pointer (some ⟨w.heap.size, 0, none⟩)) rfl (by kernel_rfl) (by kernel_rfl) (by kernel_rfl) (fun _ _ _ h => h) (Or.inl ⟨by rfl, by intro w; go_simp⟩) ?_
        refine wpAny_take (i := 3) (v := .pointer (some ⟨w.heap.size, 0, none⟩)) rfl (by kernel_rfl) (by kernel_rfl) (by kernel_rfl) (fun _ _ _ h => h) (Or.inl ⟨by rfl, by intro w; go_simp⟩) ?_
        refine wpAny_take (i := 4) (v := .pointer (some ⟨w.heap.size, 0, none⟩)) rfl (by kernel_rfl) (by kernel_rfl) (by kernel_rfl) (fun _ _ _ h => h) (Or.inl ⟨by rfl, by intro w; go_simp⟩) ?_
        refine wpAny_take (i := 5) (v := .pointer (some ⟨w.heap.size, 0, none⟩)) rfl (by kernel_rfl) (by kernel_rfl) (by kernel_rfl) (fun _ _ _ h => h) (Or.inl ⟨by rfl, by intro w; go_simp⟩) ?_
        refine wpAny_take (i := 6) (v := .pointer (some ⟨w.heap.size, 1, none⟩)) rfl (by kernel_rfl) (by kernel_rfl) (by kernel_rfl) (fun _ _ _ h => h) (Or.inl ⟨by rfl, by intro w; go_simp⟩) ?_
        refine wpAny_ready (rs := [7]) (by kernel_rfl) (by simp) ?_
        refine AllReady.cons rfl (fun K hK => ?_) AllReady.nil
        go_simp
        refine hK _ _ ?_
        clear hK K
        refine wpAny_ready (rs := [8]) (by kernel_rfl) (by simp) ?_
        refine AllReady.cons rfl (fun K hK => ?_) AllReady.nil
        go_simp
        refine (giveUp_any w.heap.size s cur.i 3 _ _ (SR.rd hR.drew)).mono ?_
        rintro e w3 ⟨rfl, rfl⟩
        refine ⟨rfl, hB.drew, .inl ?_⟩
        rw [HA.out]
        exact ⟨rfl, rfl⟩
end Go.Proofs.YtpnecblofjpgfaaGreat
