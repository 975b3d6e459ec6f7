import Derived.Test.YtmjdaifalgpdnaaGreatPriB
import Derived.Deep.CutBlock
namespace Go.Proofs.YtmjdaifalgpdnaaGreat
open Go.RowKit

/-- What stands behind a command's letter. -/
def restS (s : ByteArray) (n : Nat) (op : Int) (st : St) : St :=
  if op = 97 ∨ op = 105 ∨ op = 99 then (if (eatS s 32 st).bad = true then eatS s 32 st else { eatS s 32 st with i := lineE s (s.size + 1) (eatS s 32 st).i }) else
  if op = 58 then (wordS s st).2 else
  if op = 98 ∨ op = 116 then (if isB s st 32 then (spacedS s st).2 else st) else
  if op = 113 ∨ op = 81 then (if amongB s st digitsL then (digitS s 48 st).2 else st) else
  if op = 115 then substS s n st else
  if op = 119 then (spacedS s st).2 else
  if op = 121 then (tableS s (s.size + 2) st).2 else st
/-- The label behind : b t. -/
def restT (s : ByteArray) (op : Int) (st : St) : ByteArray := if op = 58 then (wordS s st).1 else if isB s st 32 then (spacedS s st).1 else ⟨#[]⟩

section
variable {s : ByteArray} {op : Int} {st st' : St} {cs : Array Value}
theorem rt17 {x : ByteArray} (hV : RfV cs zF) (hz : cs.size = 31) (h : st'.bad = false → x.size ≤ s.size ∧ restX op { zF with text := x } = s.extract st.i st'.i) : RT s op st st' (cs.setIfInBounds 17 (.string x)) := fun hb =>
  ⟨_, hV.set17 hz x, Int.le_refl 0, (by show (0 : Int) < 100000; decide), (h hb).1, Nat.zero_le _, Nat.zero_le _, (h hb).2⟩
theorem rt0 (hV : RfV cs zF) (h : restX op zF = ⟨#[]⟩) : RT s op st st cs := fun _ =>
  ⟨_, hV, Int.le_refl 0, (by show (0 : Int) < 100000; decide), Nat.zero_le _, Nat.zero_le _, Nat.zero_le _, by rw [h, ext_nil]⟩
theorem rtBad (h : st'.bad = true) : RT s op st st' cs := fun hb => by rw [h] at hb; cases hb
theorem ext_size (s : ByteArray) (a b : Nat) : (s.extract a b).size ≤ s.size := by rw [ByteArray.size_extract]; omega
theorem pl_line (hop : op = 97 ∨ op = 105 ∨ op = 99) (hb : (eatS s 32 st).bad = false) :
    (s.extract (eatS s 32 st).i (lineE s (s.size + 1) (eatS s 32 st).i)).size ≤ s.size ∧ restX op { zF with text := s.extract (eatS s 32 st).i (lineE s (s.size + 1) (eatS s 32 st).i) } = s.extract st.i (lineE s (s.size + 1) (eatS s 32 st).i) := by
  refine ⟨ext_size _ _ _, ?_⟩
  obtain ⟨h1, h2⟩ := eat_not hb
  have hl := peekOk_lt (isB_ok h1)
  rw [h2]
  have h3 := lineE_le s (s.size + 1) (adv st).i (by simp [adv]; omega)
  unfold restX
  rw [if_pos (by omega)]
  show (⟨#[byteOf 32]⟩ : ByteArray) ++ _ = _
  rw [← is_byte h1]
  exact ext_app s (Nat.le_succ _) h3.1
theorem pl_word (hi : st.i ≤ s.size) (hb : (wordS s st).2.bad = false) : (wordS s st).1.size ≤ s.size ∧ restX 58 { zF with text := (wordS s st).1 } = s.extract st.i (wordS s st).2.i := by
  have h1 := word_text hi hb
  refine ⟨by rw [h1.1]; exact ext_size _ _ _, ?_⟩
  unfold restX
  rw [if_neg (by omega), if_pos rfl]
  exact h1.1
theorem spaced_size (hb : (spacedS s st).2.bad = false) : (spacedS s st).1.size ≤ s.size := by
  have h6 := spaced_text hb
  have h11 : ((⟨#[32]⟩ : ByteArray) ++ (spacedS s st).1).size = (s.extract st.i (spacedS s st).2.i).size := by rw [h6.1]
  rw [ByteArray.size_append, ByteArray.size_extract] at h11
  omega
theorem pl_bt (hop : op = 98 ∨ op = 116) (hb : (spacedS s st).2.bad = false) : (spacedS s st).1.size ≤ s.size ∧ restX op { zF with text := (spacedS s st).1 } = s.extract st.i (spacedS s st).2.i := by
  have h1 := spaced_text hb
  refine ⟨spaced_size hb, ?_⟩
  unfold restX
  rw [if_neg (by omega), if_neg (by omega), if_pos hop, if_neg h1.2]
  exact h1.1
theorem pl_w (hb : (spacedS s st).2.bad = false) : (spacedS s st).1.size ≤ s.size ∧ restX 119 { zF with text := (spacedS s st).1 } = s.extract st.i (spacedS s st).2.i := by
  have h1 := spaced_text hb
  refine ⟨spaced_size hb, ?_⟩
  unfold restX
  rw [if_pos (by omega)]
  exact h1.1
theorem pl_y (hb : (tableS s (s.size + 2) st).2.bad = false) : (tableS s (s.size + 2) st).1.size ≤ s.size ∧ restX 121 { zF with text := (tableS s (s.size + 2) st).1 } = s.extract st.i (tableS s (s.size + 2) st).2.i := by
  have h1 := table_text (by omega) hb
  refine ⟨h1.2, ?_⟩
  unfold restX
  rw [if_neg (by omega), if_neg (by omega), if_neg (by omega), if_neg (by omega), if_neg (by omega), if_pos rfl]
  exact h1.1
theorem rtQ (hop : op = 113 ∨ op = 81) (hV : RfV cs zF) (hz : cs.size = 31) (h : amongB s st digitsL = true) : RT s op st (digitS s 48 st).2 ((cs.setIfInBounds 19 (.bool true)).setIfInBounds 18 (.int .i64 (digitS s 48 st).1)) := fun _ => by
  obtain ⟨h1, h2, h3⟩ := among_dig0 h
  refine ⟨_, (hV.set19 hz true).set18 (by simp [hz]) _, ?_⟩
  rw [digit_of h1 h2 h3]
  refine ⟨by dsimp only; omega, by dsimp only; omega, Nat.zero_le _, Nat.zero_le _, Nat.zero_le _, ?_⟩
  unfold restX
  rw [if_neg (by omega), if_neg (by omega), if_neg (by omega), if_pos hop, if_pos rfl]
  exact dec_one h1 h2 h3
theorem rtS {n : Nat} (hn : 2 * (s.size - st.i) + 2 ≤ n) (hV : (substS s n st).bad = false → RfV cs (substF s n st)) : RT s 115 st (substS s n st) cs := fun hb => by
  have h1 := subst_text hn hb
  exact ⟨_, hV hb, h1.2.1, h1.2.2.1, h1.2.2.2.1, h1.2.2.2.2.1, h1.2.2.2.2.2, h1.1⟩
end

theorem setCells_other {g k : Nat} {c : Array Value} {t : TypeId} (hk : g ≠ k) : ∀ (l : List Value) (i : Nat) (w : World), Blk w k c t → Blk (w.setCells g i l) k c t
  | [], _, _, h => h
  | _ :: l, i, _, h => setCells_other hk l (i + 1) _ (h.other hk _)

set_option maxRecDepth 100000 in
set_option maxHeartbeats 1600000 in
theorem rest_any (n b : Nat) (s : ByteArray) (st : St) (cs : Array Value) (op : Int) (w : World) (h : RD w b s st) (hs : s.size ≤ 1048576) (hi : st.i ≤ s.size) (hz : cs.size = 31) (h1 : cs.all (·.oneCell') = true) (hn : 2 * (s.size - st.i) + 2 ≤ n) (hn' : n ≤ 4000000)
    (hop : cs[0]? = some (.int .u8 op)) (hrep : cs[26]? = some (.slice none 0 0)) (hV : RfV cs zF) :
    Calls Tryz.prog 42 #[.pointer (some ⟨b, 0, none⟩), .agg cs] w fun e w' => ∃ cs', e = .returned (.agg cs') ∧ Kpt cs cs' ∧ ((op = 58 ∨ op = 98 ∨ op = 116) → cs'[17]? = some (.string (restT s op st))) ∧ RT s op st (restS s n op st) cs' ∧ RD w' b s (restS s n op st) ∧ Kp b w w' := by
  have htx : cs[17]? = some (.string ⟨#[]⟩) := hV.e17
  have hbl := h.lt
  have hR0 := (h.alloc (.cells cs 62)).alloc (.cells zeroC 62)
  have hK0 : Kp b w ((w.alloc (.cells cs 62)).alloc (.cells zeroC 62)) := ((Kp.refl b w).alloc _).alloc _
  have hC0 : Blk ((w.alloc (.cells cs 62)).alloc (.cells zeroC 62)) w.heap.size cs 62 := (Blk.new _ _ _).alloc _
  have hZ0 : Blk ((w.alloc (.cells cs 62)).alloc (.cells zeroC 62)) (w.heap.size + 1) zeroC 62 := Blk.newAt (by simp)
  have hP0 : Kpt cs cs := ⟨hz, h1, fun _ _ => rfl, _, htx⟩
  have HP0 := hide (And.intro hP0 (And.intro hrep htx))
  go_enter Tryz.func42, Tryz.ntmps42
  have q0 := hC0.cell 0 hop
  go_upto_region 1 with fail
  generalize hw0 : (w.alloc (.cells cs 62)).alloc (.cells zeroC 62) = w0 at hR0 hK0 hC0 hZ0 q0
  unfold zeroC at hw0
  rw [hw0]
  clear hw0
  obtain ⟨cb, hcb⟩ : ∃ cb, cb = w.heap.size := ⟨_, rfl⟩
  have hcb1 : w.heap.size ≤ cb := by omega
  have hcbb : b < cb := by omega
  rw [← hcb] at hC0 hZ0 q0 ⊢
  have HCB := hide hcb
  clear hcb
  have ne1 : cb ≠ b := by omega
  have ne2 : cb ≠ cb + 1 := by omega
  have hcl := hC0.lt
  have hzl := hZ0.lt
  have q17 := hC0.cell 17 htx
  have qf := hC0.fz
  have r2 := hR0.c2
  go_upto_block 0 with fail
  go_cut [] (fun wc => ∃ cs' : Array Value, RD wc b s (restS s n op st) ∧ Kp b w wc ∧ Blk wc cb cs' 62 ∧ Kpt cs cs' ∧ ((op = 58 ∨ op = 98 ∨ op = 116) → cs'[17]? = some (.string (restT s op st))) ∧ RT s op st (restS s n op st) cs' ∧ Blk wc (cb + 1) zeroC 62)
  case first =>
    by_cases ha : op = 97 ∨ op = 105 ∨ op = 99
    · have HE := hide (show restS s n op st = (if (eatS s 32 st).bad = true then eatS s 32 st else { eatS s 32 st with i := lineE s (s.size + 1) (eatS s 32 st).i }) by unfold restS; rw [if_pos ha])
      have HT : Hid (¬ (op = 58 ∨ op = 98 ∨ op = 116)) := by intro h; omega
      clear q17 r2
      rcases ha with rfl | rfl | rfl
      all_goals
        go_wp2_with fail
        refine (eat_any b s st 32 w0 hR0 hs).mono ?_
        rintro e w1 ⟨rfl, hR1, hK1⟩
        have hC1 := hC0.kp hK1 (by omega)
        have hZ1 := hZ0.kp hK1 (by omega)
        have r2 := hR1.c2
        have hle := eat_le s 32 st hi
        cases hb : (eatS s 32 st).bad
        · rw [hb] at r2
          have HB := hide hb
          clear hb
          go_wp2_with fail
          refine (line_any (s.size + 1) b s (eatS s 32 st) w1 hR1 hs hle (by omega)).mono ?_
          rintro e w2 ⟨rfl, hR2, hK2⟩
          have hC2 := hC1.kp hK2 (by omega)
          have hZ2 := hZ1.kp hK2 (by omega)
          have q2 := hC2.cell 17 htx
          have qf2 := hC2.fz
          go_wp2_with fail
          go_meet
          case rel => exact ⟨_, by rw [HE.out, if_neg (by rw [HB.out]; simp)]; exact hR2.other ne1 _, (hK0.trans (hK1.trans hK2)).setNew hcb1 _, hC2.set 17 _ rfl, hP0.set17 _, fun h => absurd h HT.out, by rw [HE.out, if_neg (by rw [HB.out]; simp)]; exact rt17 hV hz (fun _ => pl_line (by omega) HB.out), hZ2.other ne2 _⟩
        · rw [hb] at r2
          have HB := hide hb
          clear hb
          go_wp2_with fail
          go_meet
          case rel => exact ⟨cs, by rw [HE.out, if_pos HB.out]; exact hR1, hK0.trans hK1, hC1, hP0, fun h => absurd h HT.out, by rw [HE.out, if_pos HB.out]; exact rtBad HB.out, hZ1⟩
    · by_cases hc : op = 58
      · have HE := hide (show restS s n op st = (wordS s st).2 by unfold restS; rw [if_neg ha, if_pos hc])
        clear ha q17 r2
        subst hc
        go_wp2_with fail
        refine (word_any b s st w0 hR0 hs hi).mono ?_
        rintro e w2 ⟨rfl, hR2, hK2⟩
        have hC2 := hC0.kp hK2 (by omega)
        have hZ2 := hZ0.kp hK2 (by omega)
        have q2 := hC2.cell 17 htx
        have qf2 := hC2.fz
        go_wp2_with fail
        go_meet
        case rel => exact ⟨_, by rw [HE.out]; exact hR2.other ne1 _, (hK0.trans hK2).setNew hcb1 _, hC2.set 17 _ rfl, hP0.set17 _, fun _ => by rw [Array.getElem?_setIfInBounds_self_of_lt (by omega)]; rfl, by rw [HE.out]; exact rt17 hV hz (fun hb => pl_word hi hb), hZ2.other ne2 _⟩
      · by_cases hb2 : op = 98 ∨ op = 116
        · have HE := hide (show restS s n op st = (if isB s st 32 then (spacedS s st).2 else st) by unfold restS; rw [if_neg ha, if_neg hc, if_pos hb2])
          have HT : Hid (restT s op st = if isB s st 32 then (spacedS s st).1 else ⟨#[]⟩) := by unfold restT; rw [if_neg hc]; exact rfl
          clear ha hc q17 r2
          rcases hb2 with rfl | rfl
          all_goals
            go_wp2_with fail
            refine (is_any b s st 32 w0 hR0 hs).mono ?_
            rintro e w1 ⟨rfl, hw1⟩
            replace hw1 : Same w0 w1 := hw1
            have hR1 := hw1.rd hR0
            have hK1 := hw1.kp hK0
            have hC1 := hw1.blk hC0
            have hZ1 := hw1.blk hZ0
            clear hw1
            cases hx : isB s st 32
            · have HX := hide hx
              clear hx
              go_wp2_with fail
              go_meet
              case rel => exact ⟨cs, by rw [HE.out, HX.out]; exact hR1, hK1, hC1, hP0, fun _ => by rw [HT.out, HX.out]; exact htx, by rw [HE.out, HX.out]; exact rt0 hV rfl, hZ1⟩
            · have HX := hide hx
              clear hx
              go_wp2_with fail
              refine (spaced_any b s st w1 hR1 hs hi).mono ?_
              rintro e w2 ⟨rfl, hR2, hK2⟩
              have hC2 := hC1.kp hK2 (by omega)
              have hZ2 := hZ1.kp hK2 (by omega)
              have q2 := hC2.cell 17 htx
              have qf2 := hC2.fz
              go_wp2_with fail
              go_meet
              case rel => exact ⟨_, by rw [HE.out, HX.out]; exact hR2.other ne1 _, (hK1.trans hK2).setNew hcb1 _, hC2.set 17 _ rfl, hP0.set17 _, fun _ => by rw [Array.getElem?_setIfInBounds_self_of_lt (by omega), HT.out, HX.out]; rfl, by rw [HE.out, HX.out]; exact rt17 hV hz (fun hb => pl_bt (by omega) hb), hZ2.other ne2 _⟩
        · have HT : Hid (¬ (op = 58 ∨ op = 98 ∨ op = 116)) := by intro h; omega
          by_cases hq : op = 113 ∨ op = 81
          · have HE := hide (show restS s n op st = (if amongB s st digitsL then (digitS s 48 st).2 else st) by unfold restS; rw [if_neg ha, if_neg hc, if_neg hb2, if_pos hq])
            clear ha hc hb2 q17 r2
            rcases hq with rfl | rfl
            all_goals
              go_wp2_with fail
              refine (among_digits b s rfl hR0 hs).mono ?_
              rintro e w1 ⟨rfl, hw1⟩
              replace hw1 : Same w0 w1 := hw1
              have hR1 := hw1.rd hR0
              have hK1 := hw1.kp hK0
              have hC1 := hw1.blk hC0
              have hZ1 := hw1.blk hZ0
              clear hw1
              cases hx : amongB s st digitsL
              · have HX := hide hx
                clear hx
                go_wp2_with fail
                go_meet
                case rel => exact ⟨cs, by rw [HE.out, HX.out]; exact hR1, hK1, hC1, hP0, fun h => absurd h HT.out, by rw [HE.out, HX.out]; exact rt0 hV rfl, hZ1⟩
              · have HX := hide hx
                clear hx
                have q19 := hC1.cell 19 (Array.getElem?_eq_getElem (by omega))
                have qf1 := hC1.fz
                go_wp2_with fail
                refine (digit_any b s st 48 _ (hR1.other ne1 _) hs).mono ?_
                rintro e w2 ⟨rfl, hR2, hK2⟩
                have hC2 := (hC1.set 19 (.bool true) rfl).kp hK2 (by omega)
                have hZ2 := (hZ1.other (p := ⟨cb, 19, none⟩) ne2 (.bool true)).kp hK2 (by omega)
                have hP2 := hP0.set 19 (by omega) (v := .bool true) rfl
                have hks := hP2.size
                have q18 := hC2.cell 18 (Array.getElem?_eq_getElem (by omega))
                have qf2 := hC2.fz
                clear q19 qf1
                go_wp2_with fail
                go_meet
                case rel => exact ⟨_, by rw [HE.out, HX.out]; exact hR2.other ne1 _, ((hK1.setNew (p := ⟨cb, 19, none⟩) hcb1 (.bool true)).trans hK2).setNew hcb1 _, hC2.set 18 _ rfl, hP2.set 18 (by omega) rfl, fun h => absurd h HT.out, by rw [HE.out, HX.out]; exact rtQ (by omega) hV hz HX.out, hZ2.other ne2 _⟩
          · by_cases hss : op = 115
            · have HE := hide (show restS s n op st = substS s n st by unfold restS; rw [if_neg ha, if_neg hc, if_neg hb2, if_neg hq, if_pos hss])
              clear ha hc hb2 hq q17 r2
              subst hss
              obtain ⟨d, hd1, hd2⟩ := rowCmd
              have hi1 : (Tryz.prog.info? 62).map (·.size) = some cs.toList.length := by rw [infoCmd, Array.length_toList, hz]
              have hrg := range_cmd hC0
              go_wp2_with (refine wpList_load_mid rfl 62 _ rfl cb 0 rfl cs.toList d hrg hd1 hd2 hi1 ?_; rw [Array.toArray_toList])
              refine (subst_any n b s st cs w0 hR0 hs hi hz h1 hn hn' hrep hV).mono ?_
              rintro e w2 ⟨cs2, rfl, hP2, hS2, hR2, hK2⟩
              have HS2 := hide hS2
              clear hS2
              have hC2 := hC0.kp hK2 (by omega)
              have hZ2 := hZ0.kp hK2 (by omega)
              have hks := hP2.size
              have hi2 : (Tryz.prog.info? 62).map (·.size) = some cs2.size := by rw [infoCmd, hks]
              have hth := there_cmd (n := cs2.size) hC2 (by rw [hks, hz])
              have h1' := hP2.one
              go_wp2_with (refine wpList_store_mid rfl 62 _ _ rfl cb 0 cs2 rfl rfl hth hi2 h1' ?_)
              go_meet
              case rel => exact ⟨cs2, by rw [HE.out]; exact setCells_rd ne1 _ _ _ hR2, setCells_kp hcb1 _ _ _ (hK0.trans hK2), setCells_all hC2 cs2 (by rw [hks, hz]), hP2, fun h => absurd h HT.out, by rw [HE.out]; exact rtS hn HS2.out, setCells_other ne2 _ _ _ hZ2⟩
            · by_cases hw : op = 119
              · have HE := hide (show restS s n op st = (spacedS s st).2 by unfold restS; rw [if_neg ha, if_neg hc, if_neg hb2, if_neg hq, if_neg hss, if_pos hw])
                clear ha hc hb2 hq hss q17 r2
                subst hw
                go_wp2_with fail
                refine (spaced_any b s st w0 hR0 hs hi).mono ?_
                rintro e w2 ⟨rfl, hR2, hK2⟩
                have hC2 := hC0.kp hK2 (by omega)
                have hZ2 := hZ0.kp hK2 (by omega)
                have q2 := hC2.cell 17 htx
                have qf2 := hC2.fz
                go_wp2_with fail
                go_meet
                case rel => exact ⟨_, by rw [HE.out]; exact hR2.other ne1 _, (hK0.trans hK2).setNew hcb1 _, hC2.set 17 _ rfl, hP0.set17 _, fun h => absurd h HT.out, by rw [HE.out]; exact rt17 hV hz (fun hb => pl_w hb), hZ2.other ne2 _⟩
              · by_cases hy : op = 121
                · have HE := hide (show restS s n op st = (tableS s (s.size + 2) st).2 by unfold restS; rw [if_neg ha, if_neg hc, if_neg hb2, if_neg hq, if_neg hss, if_neg hw, if_pos hy])
                  clear ha hc hb2 hq hss hw q17 r2
                  subst hy
                  go_wp2_with fail
                  refine (table_any (s.size + 2) b s st w0 hR0 hs hi (by omega)).mono ?_
                  rintro e w2 ⟨rfl, hR2, hK2⟩
                  have hC2 := hC0.kp hK2 (by omega)
                  have hZ2 := hZ0.kp hK2 (by omega)
                  have q2 := hC2.cell 17 htx
                  have qf2 := hC2.fz
                  go_wp2_with fail
                  go_meet
                  case rel => exact ⟨_, by rw [HE.out]; exact hR2.other ne1 _, (hK0.trans hK2).setNew hcb1 _, hC2.set 17 _ rfl, hP0.set17 _, fun h => absurd h HT.out, by rw [HE.out]; exact rt17 hV hz (fun hb => pl_y hb), hZ2.other ne2 _⟩
                · have HE := hide (show restS s n op st = st by unfold restS; rw [if_neg ha, if_neg hc, if_neg hb2, if_neg hq, if_neg hss, if_neg hw, if_neg hy])
                  have n1 : ¬ op = 97 := by omega
                  have n2 : ¬ op = 105 := by omega
                  have n3 : ¬ op = 99 := by omega
                  have n4 : ¬ op = 98 := by omega
                  have n5 : ¬ op = 116 := by omega
                  have n6 : ¬ op = 113 := by omega
                  have n7 : ¬ op = 81 := by omega
                  have HZ := hide (show restX op zF = ⟨#[]⟩ by unfold restX; rw [if_neg (by omega), if_neg hc, if_neg hb2, if_neg hq, if_neg hss, if_neg hy])
                  clear ha hb2 hq q17 r2
                  go_wp2_with fail
                  go_meet
                  case rel => exact ⟨cs, by rw [HE.out]; exact hR0, hK0, hC0, hP0, fun h => absurd h HT.out, by rw [HE.out]; exact rt0 hV HZ.out, hZ0⟩
  case rest =>
    obtain ⟨cs', hR9, hK9, hC9, hP9, hT9, hV9, hZ9⟩ := hcut
    have hks := hP9.size
    obtain ⟨d, hd1, hd2⟩ := rowCmd
    have hi1 : (Tryz.prog.info? 62).map (·.size) = some cs'.toList.length := by rw [infoCmd, Array.length_toList, hks]
    have hi2 : (Tryz.prog.info? 62).map (·.size) = some cs'.size := by rw [infoCmd, hks]
    have hrg := range_cmd hC9
    have hth := there_cmd (n := cs'.size) hZ9 (by rw [hks]; rfl)
    have h1' := hP9.one
    have HT9 := hide hT9
    have HV9 := hide hV9
    clear hV9 hT9 q0 q17 qf r2 hR0 hK0 hC0 hZ0
    go_wp2_with (first | (refine wpList_load_mid rfl 62 _ rfl cb 0 rfl cs'.toList d hrg hd1 hd2 hi1 ?_; rw [Array.toArray_toList]) | (refine wpList_store_mid rfl 62 _ _ rfl (cb + 1) 0 cs' rfl rfl hth hi2 h1' ?_))
    refine bodyPost_ret (ret_cmd rfl rfl (setCells_all hZ9 cs' (by rw [hks]; rfl)) hks) rfl ?_
    exact ⟨cs', rfl, hP9, HT9.out, HV9.out, setCells_rd (by omega) _ _ _ hR9, setCells_kp (by omega) _ _ _ hK9⟩
end Go.Proofs.YtmjdaifalgpdnaaGreat

namespace Go.Proofs.YtmjdaifalgpdnaaGreat
open Go.RowKit

/-- Onwards, and within the text. -/
def On (s : ByteArray) (a b : St) : Prop := a.i ≤ b.i ∧ b.i ≤ s.size
theorem On.refl {s : ByteArray} {a : St} (h : a.i ≤ s.size) : On s a a := ⟨Nat.le_refl _, h⟩
theorem On.trans {s : ByteArray} {a b c : St} (h : On s a b) (k : On s b c) : On s a c := ⟨Nat.le_trans h.1 k.1, k.2⟩
theorem On.eat {s : ByteArray} {a : St} (c : Int) (h : a.i ≤ s.size) : On s a (eatS s c a) := ⟨eat_ge s c a, eat_le s c a h⟩
theorem On.eatIf {s : ByteArray} {a : St} (c : Int) (h : a.i ≤ s.size) : On s a (eatIf s c a) := ⟨eatIf_ge s c a, eatIf_le s c a h⟩
theorem On.adv {s : ByteArray} {a : St} (h : a.i < s.size) : On s a (adv a) := ⟨by simp [Go.Proofs.YtmjdaifalgpdnaaGreat.adv], by simp [Go.Proofs.YtmjdaifalgpdnaaGreat.adv]; omega⟩
theorem On.spoil {s : ByteArray} {a : St} (h : a.i ≤ s.size) : On s a (spoil a) := ⟨Nat.le_refl _, h⟩
theorem On.advIf {s : ByteArray} {a : St} (c : Int) (h : a.i ≤ s.size) : On s a (advIf s c a) := by
  unfold Go.Proofs.YtmjdaifalgpdnaaGreat.advIf
  split
  · next hc => exact On.adv (peekOk_lt (isB_ok hc))
  · exact On.refl h
theorem On.word {s : ByteArray} {a : St} (h : a.i ≤ s.size) : On s a (wordS s a).2 := by
  have h1 := wordL_le s 8 a h
  unfold wordS
  split
  · exact On.spoil h
  · exact ⟨h1.1, h1.2.1⟩
theorem On.spaced {s : ByteArray} {a : St} (h : a.i ≤ s.size) : On s a (spacedS s a).2 := by
  have h1 := On.eat 32 h
  unfold spacedS
  split
  · exact h1
  · exact h1.trans (On.word h1.2)
theorem On.digit {s : ByteArray} {a : St} (lo : Int) (h : a.i ≤ s.size) : On s a (digitS s lo a).2 := ⟨digit_ge s lo a, digit_le s lo a h⟩
theorem On.repl {s : ByteArray} (g : Nat) : ∀ (n : Nat) (a : St), a.i ≤ s.size → On s a (replL s g n a)
  | 0, _, h => On.refl h
  | n + 1, a, h => by
    rw [replL]
    split
    · exact On.refl h
    · have h1 := piece_le s g a h
      exact On.trans ⟨h1.1, h1.2.1⟩ (On.repl g n _ h1.2.1)
theorem repl_end {s : ByteArray} (g : Nat) : ∀ (n : Nat) (a : St), a.i ≤ s.size → s.size - a.i + 1 < n → (replL s g n a).bad = true ∨ isB s (replL s g n a) 47 = true
  | 0, _, _, h => by omega
  | n + 1, a, h, hn => by
    rw [replL]
    split
    · assumption
    · have h1 := piece_le s g a h
      rcases h1.2.2 with hb | hl
      · cases n with
        | zero => omega
        | succ n => rw [replL, if_pos (.inl hb)]; exact .inl hb
      · exact repl_end g n _ h1.2.1 (by omega)
theorem On.flags {s : ByteArray} {a : St} (n0 : Int) (t0 : ByteArray) (h : a.i ≤ s.size) : On s a (flagsS s n0 t0 a).2 := by
  have h1 : On s a (if amongB s a digits1L then digitS s 49 a else (n0, a)).2 := by
    split
    · exact On.digit 49 h
    · exact On.refl h
  unfold flagsS
  generalize (if amongB s a digits1L then digitS s 49 a else (n0, a)) = d at *
  have h2 := h1.trans (On.advIf 103 h1.2)
  have h3 := h2.trans (On.advIf 112 h2.2)
  have h4 := h3.trans (On.advIf 119 h3.2)
  dsimp only
  split
  · exact h4.trans (On.spaced h4.2)
  · exact h4
theorem On.subst {s : ByteArray} {a : St} {n : Nat} (h : a.i ≤ s.size) (hn : 2 * (s.size - a.i) + 2 ≤ n) : On s a (substS s n a) := by
  have h1 := On.eat 47 h
  unfold substS
  split
  · exact h1
  · have h2 := pattern_le s n _ h1.2
    have h3 := On.repl (patternS s n (eatS s 47 a)).1.1 n _ h2.2
    have h4 := h1.trans (On.trans ⟨h2.1, h2.2⟩ h3)
    have h5 := repl_end (patternS s n (eatS s 47 a)).1.1 n _ h2.2
    dsimp only
    split
    · exact h4
    · next hb =>
      by_cases hx : s.size - (patternS s n (eatS s 47 a)).2.i + 1 < n
      · rcases h5 hx with h6 | h6
        · exact absurd h6 hb
        · have h7 := On.adv (s := s) (peekOk_lt (isB_ok h6))
          exact h4.trans (h7.trans (On.flags _ _ h7.2))
      · exfalso
        have := h1.1
        have := h2.1
        omega
theorem On.from {s : ByteArray} : ∀ (n : Nat) (f : ByteArray) (a : St), a.i ≤ s.size → On s a (fromL s n f a).2
  | 0, _, _, h => On.refl h
  | n + 1, f, a, h => by
    rw [fromL]
    split
    · exact On.refl h
    · split
      · exact On.trans (On.spoil h) (On.from n f _ h)
      · next hc =>
        have hl : a.i < s.size := by
          simp only [not_or] at hc
          exact peekOk_lt (by simpa using hc.1)
        exact (On.adv hl).trans (On.from n _ _ (On.adv hl).2)
theorem On.to {s : ByteArray} (m : Nat) : ∀ (n : Nat) (f : ByteArray) (a : St), a.i ≤ s.size → On s a (toL s m n f a).2
  | 0, _, _, h => On.refl h
  | n + 1, f, a, h => by
    rw [toL]
    split
    · exact On.refl h
    · split
      · exact On.trans (On.spoil h) (On.to m n f _ h)
      · next hc =>
        have hl : a.i < s.size := by
          simp only [not_or] at hc
          exact peekOk_lt (by simpa using hc.1)
        exact (On.adv hl).trans (On.to m n _ _ (On.adv hl).2)
theorem On.table {s : ByteArray} {a : St} (n : Nat) (h : a.i ≤ s.size) : On s a (tableS s n a).2 := by
  have h1 := On.eat 47 h
  have h2 := h1.trans (On.from n ⟨#[]⟩ _ h1.2)
  have h3 := h2.trans (On.eatIf 47 h2.2)
  have h4 := h3.trans (On.to (fromL s n ⟨#[]⟩ (eatS s 47 a)).1.size n ⟨#[]⟩ _ h3.2)
  exact h4.trans (On.eatIf 47 h4.2)
theorem On.rest {s : ByteArray} {a : St} {n : Nat} (op : Int) (h : a.i ≤ s.size) (hn : 2 * (s.size - a.i) + 2 ≤ n) : On s a (restS s n op a) := by
  have h1 := On.eat 32 h
  have h2 := lineE_le s (s.size + 1) (eatS s 32 a).i h1.2
  unfold restS
  split
  · split
    · exact h1
    · exact h1.trans h2
  split
  · exact On.word h
  split
  · split
    · exact On.spaced h
    · exact On.refl h
  split
  · split
    · exact On.digit 48 h
    · exact On.refl h
  split
  · exact On.subst h hn
  split
  · exact On.spaced h
  split
  · exact On.table _ h
  · exact On.refl h

def addrsX (A B : AdT) : ByteArray := if B.kind = 0 then addrX A.kind A.num A.text else addrX A.kind A.num A.text ++ ⟨#[44]⟩ ++ addrX B.kind B.num B.text
/-- A command's printed text. -/
def textX (op : Int) (A B : AdT) (nt : Bool) (f : Rf) : ByteArray := (if nt = true then addrsX A B ++ ⟨#[33]⟩ else addrsX A B) ++ ⟨#[byteOf op]⟩ ++ restX op f

structure FdV (cs : Array Value) (A B : AdT) (nt : Bool) (f : Rf) : Prop where
  e2 : cs[2]? = some (.int .u8 A.kind)
  e3 : cs[3]? = some (.int .i64 A.num)
  e8 : cs[8]? = some (.string A.text)
  e9 : cs[9]? = some (.int .u8 B.kind)
  e10 : cs[10]? = some (.int .i64 B.num)
  e15 : cs[15]? = some (.string B.text)
  e16 : cs[16]? = some (.bool nt)
  rv : RfV cs f

def AdB (m : Nat) (A : AdT) : Prop := 0 ≤ A.num ∧ A.num < 100000 ∧ A.text.size ≤ m
/-- Both addresses are what stands there. -/
def ADR (s : ByteArray) (st st2 : St) (A B : AdT) : Prop := st2.bad = false → AdB s.size A ∧ AdB s.size B ∧ addrsX A B = s.extract st.i st2.i

theorem addr_size (s : ByteArray) (n : Nat) (st : St) : (addrS s n st).1.text.size ≤ s.size := by
  unfold addrS
  split
  · exact Nat.zero_le _
  · split
    · show (patternS s n (adv st)).1.2.size ≤ s.size
      unfold patternS
      split
      · exact Nat.zero_le _
      · exact ext_size _ _ _
    · split
      · exact Nat.zero_le _
      · exact Nat.zero_le _
theorem adr_one (s : ByteArray) (n : Nat) (st : St) : ADR s st (addrS s n st).2 (addrS s n st).1 ⟨0, 0, ⟨#[]⟩⟩ := fun hb =>
  ⟨⟨addr_num.1, addr_num.2, addr_size s n st⟩, ⟨Int.le_refl 0, (by show (0 : Int) < 100000; decide), Nat.zero_le _⟩, by unfold addrsX; rw [if_pos rfl]; exact addr_text hb⟩
theorem adr_two {s : ByteArray} {n : Nat} {st q : St} {A : AdT} (hA : ADR s st q A ⟨0, 0, ⟨#[]⟩⟩) (hb : q.bad = false) (hq : st.i ≤ q.i) (h : isB s q 44 = true) (hle : (adv q).i ≤ (addrS s n (adv q)).2.i) (hk : (addrS s n (adv q)).1.kind ≠ 0) : ADR s st (addrS s n (adv q)).2 A (addrS s n (adv q)).1 := fun hb2 => by
  obtain ⟨h1, _, h3⟩ := hA hb
  refine ⟨h1, ⟨addr_num.1, addr_num.2, addr_size s n (adv q)⟩, ?_⟩
  unfold addrsX at h3 ⊢
  rw [if_pos rfl] at h3
  rw [if_neg hk, h3, addr_text hb2]
  show _ ++ (⟨#[byteOf 44]⟩ : ByteArray) ++ _ = _
  rw [← is_byte h, ext_app s hq (Nat.le_succ _)]
  exact ext_app s (by omega) hle
end Go.Proofs.YtmjdaifalgpdnaaGreat
