import Derived.Test.YtmjdaifalgpdnaaGreatRefD
import Derived.Deep.LoopGhost
namespace Go.Proofs.YtmjdaifalgpdnaaGreat
open Go.RowKit

theorem setLoop_stop {s : ByteArray} {ps : ByteArray} {st : St} (h : ¬ (st.bad = false ∧ (ps.size = 0 ∨ isB s st 93 = false))) (k : Nat) : setLoop s k ps st = (ps, st) := by
  cases k
  · rfl
  · rw [setLoop, if_neg h]

theorem setLoop_go {s : ByteArray} {ps : ByteArray} {st : St} (h : st.bad = false ∧ (ps.size = 0 ∨ isB s st 93 = false)) (k : Nat) : setLoop s (k + 1) ps st = setLoop s k (ps ++ (itemS s st).1) (itemS s st).2 := by
  rw [setLoop, if_pos h]

theorem bsize_append (a c : ByteArray) : (a ++ c).size = a.size + c.size := ByteArray.size_append

set_option maxHeartbeats 1600000 in
theorem set_any (b : Nat) (s : ByteArray) (st : St) (n : Nat) (w : World) (h : RD w b s st) (hs : s.size ≤ 1048576) (hi : st.i ≤ s.size) (hn : s.size + 1 < st.i + n) :
    Calls Tryz.prog 93 #[.pointer (some ⟨b, 0, none⟩)] w fun e w' =>
      e = .returned (.agg #[.int .i64 0, .slice none 0 0, .bool (setS s n st).1.1, .string (setS s n st).1.2, .int .i64 1, .int .i64 1]) ∧ RD w' b s (setS s n st).2 ∧ Kp b w w' := by
  have h1 := h.c1
  have h2 := h.c2
  have hf := h.fz
  have hbl := h.lt
  cases hng : isB s st 94
  · have HN : Hid (isB s st 94 = false) := hng
    have HS : Hid (setS s n st = ((false, (setLoop s n ⟨#[]⟩ st).1), eatIf s 93 (setLoop s n ⟨#[]⟩ st).2)) := by simp [Hid, setS, hng]
    clear hng
    go_enter Tryz.func93, Tryz.ntmps93
    go_wp2_with fail
    refine (is_of HN.out ((h.alloc _).alloc _) hs).mono ?_
    rintro e w1 ⟨rfl, m, rfl⟩
    go_wp2_with fail
    go_loopg [4] n (fun k t w' => ∃ ps st', RD w' b s st' ∧ Blk w' w.heap.size #[.int .i64 0, .slice none 0 0, .bool false, .string ⟨#[]⟩, .int .i64 0, .int .i64 0] 151 ∧ Blk w' (w.heap.size + 1) #[.int .i64 0, .slice none 0 0, .bool false, .string ps, .int .i64 1, .int .i64 1] 151 ∧ Kp b w w' ∧ st'.i ≤ s.size ∧ ps.size ≤ 2 * st'.i ∧ (st'.bad = true ∨ s.size + 1 < st'.i + k) ∧ setLoop s n ⟨#[]⟩ st = setLoop s k ps st')
    case atStart =>
      refine ⟨⟨#[]⟩, st, ?_, ?_, ?_, ?_, hi, ?_, ?_, rfl⟩
      · exact (((h.alloc _).alloc _).drewN m)
      · exact ((Blk.new _ _ _).alloc _).drewN m
      · exact (Blk.newAt (by simp)).drewN m
      · exact (((Kp.refl b w).alloc _).alloc _).drewN m
      · exact Nat.zero_le _
      · right; omega
    case round =>
      obtain ⟨ps, st', hR, hB0, hB1, hK, hi', hps, hbd, hL⟩ := hrel
      have HL : Hid (_ = _) := hL
      clear hL h1 h2 hf
      have r1 := hR.c1
      have r2 := hR.c2
      have rf := hR.fz
      obtain ⟨c0, c1, c2, c3, c4, c5, cf⟩ := hB1.six
      obtain ⟨d0, d1, d2, d3, d4, d5, df⟩ := hB0.six
      cases hb : st'.bad
      · have HB : Hid (st'.bad = false) := hb
        rw [hb] at r2
        have hbd' : s.size + 1 < st'.i + gk := by rcases hbd with h | h; (rw [hb] at h; cases h); exact h
        clear hb hbd
        obtain ⟨k', rfl⟩ : ∃ k', gk = k' + 1 := ⟨gk - 1, by omega⟩
        have hcs := item_cases s st'
        have hle := item_le s st' hi'
        have htz : (itemS s st').1.size ≤ 2 := by rcases hcs with h | h; (rw [h.1]; decide); omega
        have hadd : ∀ w, (Op.stringOp .add ps (itemS s st').1).run Tryz.prog w = .ok (.string (ps ++ (itemS s st').1)) w := fun w => run_string_add_sum w _ _ (by omega)
        by_cases hz : ps.size = 0
        · have HC : Hid (st'.bad = false ∧ (ps.size = 0 ∨ isB s st' 93 = false)) := ⟨HB.out, .inl hz⟩
          have dz : ((ps.size : Int) == 0) = true := by simp [hz]
          have HZ : Hid (ps.size = 0) := hz
          clear hz
          go_wp2_with fail
          refine (item_any b s st' _ hR hs).mono ?_
          rintro e w1 ⟨rfl, hR1, hK1⟩
          have hB2 := hB0.kp hK1 (by omega)
          have hB3 := hB1.kp hK1 (by omega)
          have e3 := hB3.cell 3 rfl
          have ef := hB3.fz
          simp only [List.getElem_toArray, List.getElem_cons_succ, List.getElem_cons_zero] at e3
          go_wp2_with fail
          go_roundg k'
          case measure => omega
          case rel =>
            refine ⟨_, _, hR1.other (by simp; omega) _, hB2.other (by simp) _, hB3.set 3 _ rfl, (hK.trans hK1).setNew (by simp) _, hle, ?_, ?_, ?_⟩
            · rw [bsize_append]; rcases hcs with h | h
              · rw [h.1]; show ps.size + 0 ≤ _; have := HZ.out; omega
              · omega
            · rcases hcs with h | h
              · left; exact h.2.1
              · right; omega
            · rw [HL.out, setLoop_go HC.out]
        · have dz : ((ps.size : Int) == 0) = false := by simp [hz]
          have HZ : Hid (¬ ps.size = 0) := hz
          clear hz
          cases hcl : isB s st' 93
          · have HC : Hid (st'.bad = false ∧ (ps.size = 0 ∨ isB s st' 93 = false)) := ⟨HB.out, .inr hcl⟩
            have HI : Hid (isB s st' 93 = false) := hcl
            clear hcl
            go_wp2_with fail
            refine (is_of HI.out hR hs).mono ?_
            rintro e w1 ⟨rfl, m2, rfl⟩
            go_wp2_with fail
            refine (item_any b s st' _ (hR.drewN m2) hs).mono ?_
            rintro e w1 ⟨rfl, hR1, hK1⟩
            have hB2 := (hB0.drewN m2).kp hK1 (by omega)
            have hB3 := (hB1.drewN m2).kp hK1 (by omega)
            have e3 := hB3.cell 3 rfl
            have ef := hB3.fz
            simp only [List.getElem_toArray, List.getElem_cons_succ, List.getElem_cons_zero] at e3
            go_wp2_with fail
            go_roundg k'
            case measure => omega
            case rel =>
              refine ⟨_, _, hR1.other (by simp; omega) _, hB2.other (by simp) _, hB3.set 3 _ rfl, ((hK.drewN m2).trans hK1).setNew (by simp) _, hle, ?_, ?_, ?_⟩
              · rw [bsize_append]; rcases hcs with h | h
                · rw [h.1]; show ps.size + 0 ≤ _; omega
                · omega
              · rcases hcs with h | h
                · left; exact h.2.1
                · right; omega
              · rw [HL.out, setLoop_go HC.out]
          · have HI : Hid (isB s st' 93 = true) := hcl
            have HC : Hid (¬ (st'.bad = false ∧ (ps.size = 0 ∨ isB s st' 93 = false))) := by intro h; rcases h.2 with h | h; exact HZ.out h; rw [hcl] at h; cases h
            clear hcl
            go_wp2_with fail
            refine (is_of HI.out hR hs).mono ?_
            rintro e w1 ⟨rfl, m2, rfl⟩
            go_wp2_with fail
            refine (eat_any b s st' _ _ (hR.drewN m2) hs).mono ?_
            rintro e w1 ⟨rfl, hR1, hK1⟩
            have hB2 := (hB0.drewN m2).kp hK1 (by omega)
            have hB3 := (hB1.drewN m2).kp hK1 (by omega)
            obtain ⟨e0, e1, e2, e3, e4, e5, ef⟩ := hB3.six
            obtain ⟨f0, f1, f2, f3, f4, f5, ff⟩ := hB2.six
            go_wp2_with fail
            refine bodyPost_ret (ret_part Tryz.results93 rfl (hB2.put6 _ _ _ _ _ _)) rfl ⟨?_, ?_, ?_⟩
            · rw [HS.out, HL.out, setLoop_stop HC.out]
            · rw [HS.out, HL.out, setLoop_stop HC.out]; simp only [eatIf, HB.out]; exact hR1.put6 (by omega) _ _ _ _ _ _
            · exact ((hK.drewN m2).trans hK1).put6 (Nat.le_refl _) _ _ _ _ _ _
      · have HB : Hid (st'.bad = true) := hb
        have HC : Hid (¬ (st'.bad = false ∧ (ps.size = 0 ∨ isB s st' 93 = false))) := by intro h; rw [hb] at h; cases h.1
        rw [hb] at r2
        clear hb hbd
        go_wp2_with fail
        refine bodyPost_ret (ret_part Tryz.results93 rfl (hB0.put6 _ _ _ _ _ _)) rfl ⟨?_, ?_, ?_⟩
        · rw [HS.out, HL.out, setLoop_stop HC.out]
        · rw [HS.out, HL.out, setLoop_stop HC.out]; simp only [eatIf, HB.out]; exact hR.put6 (by omega) _ _ _ _ _ _
        · exact hK.put6 (Nat.le_refl _) _ _ _ _ _ _
  · have HN : Hid (isB s st 94 = true) := hng
    have hlt : st.i < s.size := peekOk_lt (isB_ok hng)
    have HS : Hid (setS s n st = ((true, (setLoop s n ⟨#[]⟩ (adv st)).1), eatIf s 93 (setLoop s n ⟨#[]⟩ (adv st)).2)) := by simp [Hid, setS, hng]
    clear hng
    go_enter Tryz.func93, Tryz.ntmps93
    go_wp2_with fail
    refine (is_of HN.out ((h.alloc _).alloc _) hs).mono ?_
    rintro e w1 ⟨rfl, m, rfl⟩
    go_wp2_with fail
    go_loopg [4] n (fun k t w' => ∃ ps st', RD w' b s st' ∧ Blk w' w.heap.size #[.int .i64 0, .slice none 0 0, .bool false, .string ⟨#[]⟩, .int .i64 0, .int .i64 0] 151 ∧ Blk w' (w.heap.size + 1) #[.int .i64 0, .slice none 0 0, .bool true, .string ps, .int .i64 1, .int .i64 1] 151 ∧ Kp b w w' ∧ st'.i ≤ s.size ∧ ps.size ≤ 2 * st'.i ∧ (st'.bad = true ∨ s.size + 1 < st'.i + k) ∧ setLoop s n ⟨#[]⟩ (adv st) = setLoop s k ps st')
    case atStart =>
      refine ⟨⟨#[]⟩, adv st, ?_, ?_, ?_, ?_, ?_, ?_, ?_, rfl⟩
      · exact ((((h.alloc _).alloc _).drewN m).other (by simp; omega) _).adv rfl
      · exact ((((Blk.new _ _ _).alloc _).drewN m).other (by simp) _).other (by simp; omega) _
      · exact (((Blk.newAt (by simp)).drewN m).set 2 _ rfl).other (by simp; omega) _
      · exact (((((Kp.refl b w).alloc _).alloc _).drewN m).setNew (by simp) _).set _ _
      · simp [adv]; omega
      · exact Nat.zero_le _
      · right; simp [adv]; omega
    case round =>
      obtain ⟨ps, st', hR, hB0, hB1, hK, hi', hps, hbd, hL⟩ := hrel
      have HL : Hid (_ = _) := hL
      clear hL h1 h2 hf
      have r1 := hR.c1
      have r2 := hR.c2
      have rf := hR.fz
      obtain ⟨c0, c1, c2, c3, c4, c5, cf⟩ := hB1.six
      obtain ⟨d0, d1, d2, d3, d4, d5, df⟩ := hB0.six
      cases hb : st'.bad
      · have HB : Hid (st'.bad = false) := hb
        rw [hb] at r2
        have hbd' : s.size + 1 < st'.i + gk := by rcases hbd with h | h; (rw [hb] at h; cases h); exact h
        clear hb hbd
        obtain ⟨k', rfl⟩ : ∃ k', gk = k' + 1 := ⟨gk - 1, by omega⟩
        have hcs := item_cases s st'
        have hle := item_le s st' hi'
        have htz : (itemS s st').1.size ≤ 2 := by rcases hcs with h | h; (rw [h.1]; decide); omega
        have hadd : ∀ w, (Op.stringOp .add ps (itemS s st').1).run Tryz.prog w = .ok (.string (ps ++ (itemS s st').1)) w := fun w => run_string_add_sum w _ _ (by omega)
        by_cases hz : ps.size = 0
        · have HC : Hid (st'.bad = false ∧ (ps.size = 0 ∨ isB s st' 93 = false)) := ⟨HB.out, .inl hz⟩
          have dz : ((ps.size : Int) == 0) = true := by simp [hz]
          have HZ : Hid (ps.size = 0) := hz
          clear hz
          go_wp2_with fail
          refine (item_any b s st' _ hR hs).mono ?_
          rintro e w1 ⟨rfl, hR1, hK1⟩
          have hB2 := hB0.kp hK1 (by omega)
          have hB3 := hB1.kp hK1 (by omega)
          have e3 := hB3.cell 3 rfl
          have ef := hB3.fz
          simp only [List.getElem_toArray, List.getElem_cons_succ, List.getElem_cons_zero] at e3
          go_wp2_with fail
          go_roundg k'
          case measure => omega
          case rel =>
            refine ⟨_, _, hR1.other (by simp; omega) _, hB2.other (by simp) _, hB3.set 3 _ rfl, (hK.trans hK1).setNew (by simp) _, hle, ?_, ?_, ?_⟩
            · rw [bsize_append]; rcases hcs with h | h
              · rw [h.1]; show ps.size + 0 ≤ _; have := HZ.out; omega
              · omega
            · rcases hcs with h | h
              · left; exact h.2.1
              · right; omega
            · rw [HL.out, setLoop_go HC.out]
        · have dz : ((ps.size : Int) == 0) = false := by simp [hz]
          have HZ : Hid (¬ ps.size = 0) := hz
          clear hz
          cases hcl : isB s st' 93
          · have HC : Hid (st'.bad = false ∧ (ps.size = 0 ∨ isB s st' 93 = false)) := ⟨HB.out, .inr hcl⟩
            have HI : Hid (isB s st' 93 = false) := hcl
            clear hcl
            go_wp2_with fail
            refine (is_of HI.out hR hs).mono ?_
            rintro e w1 ⟨rfl, m2, rfl⟩
            go_wp2_with fail
            refine (item_any b s st' _ (hR.drewN m2) hs).mono ?_
            rintro e w1 ⟨rfl, hR1, hK1⟩
            have hB2 := (hB0.drewN m2).kp hK1 (by omega)
            have hB3 := (hB1.drewN m2).kp hK1 (by omega)
            have e3 := hB3.cell 3 rfl
            have ef := hB3.fz
            simp only [List.getElem_toArray, List.getElem_cons_succ, List.getElem_cons_zero] at e3
            go_wp2_with fail
            go_roundg k'
            case measure => omega
            case rel =>
              refine ⟨_, _, hR1.other (by simp; omega) _, hB2.other (by simp) _, hB3.set 3 _ rfl, ((hK.drewN m2).trans hK1).setNew (by simp) _, hle, ?_, ?_, ?_⟩
              · rw [bsize_append]; rcases hcs with h | h
                · rw [h.1]; show ps.size + 0 ≤ _; omega
                · omega
              · rcases hcs with h | h
                · left; exact h.2.1
                · right; omega
              · rw [HL.out, setLoop_go HC.out]
          · have HI : Hid (isB s st' 93 = true) := hcl
            have HC : Hid (¬ (st'.bad = false ∧ (ps.size = 0 ∨ isB s st' 93 = false))) := by intro h; rcases h.2 with h | h; exact HZ.out h; rw [hcl] at h; cases h
            clear hcl
            go_wp2_with fail
            refine (is_of HI.out hR hs).mono ?_
            rintro e w1 ⟨rfl, m2, rfl⟩
            go_wp2_with fail
            refine (eat_any b s st' _ _ (hR.drewN m2) hs).mono ?_
            rintro e w1 ⟨rfl, hR1, hK1⟩
            have hB2 := (hB0.drewN m2).kp hK1 (by omega)
            have hB3 := (hB1.drewN m2).kp hK1 (by omega)
            obtain ⟨e0, e1, e2, e3, e4, e5, ef⟩ := hB3.six
            obtain ⟨f0, f1, f2, f3, f4, f5, ff⟩ := hB2.six
            go_wp2_with fail
            refine bodyPost_ret (ret_part Tryz.results93 rfl (hB2.put6 _ _ _ _ _ _)) rfl ⟨?_, ?_, ?_⟩
            · rw [HS.out, HL.out, setLoop_stop HC.out]
            · rw [HS.out, HL.out, setLoop_stop HC.out]; simp only [eatIf, HB.out]; exact hR1.put6 (by omega) _ _ _ _ _ _
            · exact ((hK.drewN m2).trans hK1).put6 (Nat.le_refl _) _ _ _ _ _ _
      · have HB : Hid (st'.bad = true) := hb
        have HC : Hid (¬ (st'.bad = false ∧ (ps.size = 0 ∨ isB s st' 93 = false))) := by intro h; rw [hb] at h; cases h.1
        rw [hb] at r2
        clear hb hbd
        go_wp2_with fail
        refine bodyPost_ret (ret_part Tryz.results93 rfl (hB0.put6 _ _ _ _ _ _)) rfl ⟨?_, ?_, ?_⟩
        · rw [HS.out, HL.out, setLoop_stop HC.out]
        · rw [HS.out, HL.out, setLoop_stop HC.out]; simp only [eatIf, HB.out]; exact hR.put6 (by omega) _ _ _ _ _ _
        · exact hK.put6 (Nat.le_refl _) _ _ _ _ _ _

end Go.Proofs.YtmjdaifalgpdnaaGreat
