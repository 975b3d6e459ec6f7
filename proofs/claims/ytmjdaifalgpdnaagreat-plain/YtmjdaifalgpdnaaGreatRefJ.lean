import Derived.Test.YtmjdaifalgpdnaaGreatRefI
import Derived.Deep.DeepCutAuto
namespace Go.Proofs.YtmjdaifalgpdnaaGreat
open Go.RowKit

section
variable {s : ByteArray} {n : Nat} {st : St} {P : Part}
theorem countS_bad (h : st.bad = true) : countS s (P, st) = (P, st) := by simp only [countS]; rw [if_pos h]
theorem countS_star (h : ¬ st.bad = true) (h1 : isB s st 42 = true) : countS s (P, st) = (upd P 0 (-1), adv st) := by simp only [countS]; rw [if_neg h, if_pos h1]
theorem countS_bounds (h : ¬ st.bad = true) (h1 : ¬ isB s st 42 = true) (h2 : isEsc s st 123 = true) : countS s (P, st) = (upd P (boundsS s (adv (adv st))).1.1 (boundsS s (adv (adv st))).1.2, (boundsS s (adv (adv st))).2) := by simp only [countS]; rw [if_neg h, if_neg h1, if_pos h2]
theorem countS_none (h : ¬ st.bad = true) (h1 : ¬ isB s st 42 = true) (h2 : ¬ isEsc s st 123 = true) : countS s (P, st) = (P, st) := by simp only [countS]; rw [if_neg h, if_neg h1, if_neg h2]
theorem partS_bad (h : peekOk s st = false ∨ hasL starL (peekC s st) = true) : partS s (n + 1) st = (emptyP, spoil st) := by rw [partS, if_pos h]
theorem partS_dot (h : ¬ (peekOk s st = false ∨ hasL starL (peekC s st) = true)) (h1 : peekC s st = 46) : partS s (n + 1) st = countS s (.mk 0 [] false ⟨#[byteOf 0, byteOf 255]⟩ 1 1, adv st) := by rw [partS, if_neg h, if_pos h1]
theorem partS_set (h : ¬ (peekOk s st = false ∨ hasL starL (peekC s st) = true)) (h1 : ¬ peekC s st = 46) (h2 : peekC s st = 91) : partS s (n + 1) st = countS s (.mk 0 [] (setS s (s.size + 2) (adv st)).1.1 (setS s (s.size + 2) (adv st)).1.2 1 1, (setS s (s.size + 2) (adv st)).2) := by rw [partS, if_neg h, if_neg h1, if_pos h2]
theorem partS_esc (h : ¬ (peekOk s st = false ∨ hasL starL (peekC s st) = true)) (h1 : ¬ peekC s st = 46) (h2 : ¬ peekC s st = 91) (h3 : peekC s st = 92) : partS s (n + 1) st = countS s (escS s n (adv st)) := by rw [partS, if_neg h, if_neg h1, if_neg h2, if_pos h3]
theorem partS_one (h : ¬ (peekOk s st = false ∨ hasL starL (peekC s st) = true)) (h1 : ¬ peekC s st = 46) (h2 : ¬ peekC s st = 91) (h3 : ¬ peekC s st = 92) : partS s (n + 1) st = countS s (singleP (peekC s st), adv st) := by rw [partS, if_neg h, if_neg h1, if_neg h2, if_neg h3]
end

theorem closing_of {b : Nat} {s : ByteArray} {st : St} {c : Int} {x : Bool} (hx : isEsc s st c = x) {w : World} (h : RD w b s st) (hs : s.size ≤ 1048576) (hi : st.i ≤ s.size) :
    Calls Tryz.prog 86 #[.pointer (some ⟨b, 0, none⟩), .int .u8 c] w fun e w' => e = .returned (.bool x) ∧ ∃ n, w' = w.drewN n := by
  subst hx; exact closing_any b s st c w h hs hi

set_option maxHeartbeats 3200000 in
theorem part_any (n : Nat) (ih : EscC n) : PartC (n + 1) := by
  intro b s st w h hs hi hg hn hn'
  have IH := hide ih
  clear ih
  have hbl := h.lt
  have h1 := h.c1
  have h2 := h.c2
  have h3 := h.c3
  have hf := h.fz
  have p1 := peekC_lo s st
  have p2 := peekC_hi s st
  cases hp : peekOk s st
  · have HP : Hid (peekOk s st = false) := hp
    clear hp
    have HE : Hid (partS s (n + 1) st = (emptyP, spoil st)) := partS_bad (.inl HP.out)
    go_enter Tryz.func87, Tryz.ntmps87
    go_wp2_with fail
    refine (peek_of rfl HP.out (h.alloc _) hs).mono ?_
    rintro e w1 ⟨rfl, m, rfl⟩
    go_wp2_with fail
    refine bodyPost_ret (ret_part Tryz.results87 rfl ((((Blk.new w _ 151).drewN m).other (by simp; omega) _).put6 _ _ _ _ _ _)) rfl ⟨_, rfl, ?_, ?_, ?_⟩
    · rw [HE.out]; exact partV_plain _ _ _ _ _ _
    · rw [HE.out]; exact (((h.alloc _).drewN m).spoil).put6 (by omega) _ _ _ _ _ _
    · exact ((((Kp.refl b w).alloc _).drewN m).set _ _).put6 (by simp) _ _ _ _ _ _
  have hlt := peekOk_lt hp
  have HP : Hid (peekOk s st = true) := hp
  clear hp
  generalize hpc : peekC s st = pc at *
  have HC : Hid (peekC s st = pc) := hpc
  clear hpc
  cases hh : hasL starL pc
  · have HH : Hid (hasL starL pc = false) := hh
    clear hh
    have HN : Hid (¬ (peekOk s st = false ∨ hasL starL (peekC s st) = true)) := by rw [Hid, HP.out, HC.out, HH.out]; simp
    go_enter Tryz.func87, Tryz.ntmps87
    go_wp2_with fail
    refine (peek_of HC.out HP.out (h.alloc _) hs).mono ?_
    rintro e w1 ⟨rfl, m, rfl⟩
    go_wp2_with fail
    refine (has_star _ _).mono ?_
    rintro e w1 ⟨rfl, rfl⟩
    rw [HH.out]
    go_wp2_with fail
    refine (single_of pc _ p1 p2).mono ?_
    rintro e w1 ⟨rfl, hb⟩
    have R1 := ((((h.alloc _).drewN m).adv rfl).below hb).alloc (.cells #[.int .i64 0, .slice none 0 0, .bool false, .string ⟨#[byteOf pc, byteOf pc]⟩, .int .i64 1, .int .i64 1] 151)
    have K1 := (((((Kp.refl b w).alloc (.cells #[.int .i64 0, .slice none 0 0, .bool false, .string ⟨#[]⟩, .int .i64 0, .int .i64 0] 151)).drewN m).set 1 (.int .i64 ((st.i : Int) + 1))).trans (Kp.below (b := b) hb)).alloc (.cells #[.int .i64 0, .slice none 0 0, .bool false, .string ⟨#[byteOf pc, byteOf pc]⟩, .int .i64 1, .int .i64 1] 151)
    have B1 := ((((Blk.new w #[.int .i64 0, .slice none 0 0, .bool false, .string ⟨#[]⟩, .int .i64 0, .int .i64 0] 151).drewN m).other (p := ⟨b, 1, none⟩) (by simp; omega) (.int .i64 ((st.i : Int) + 1))).below hb).alloc (.cells #[.int .i64 0, .slice none 0 0, .bool false, .string ⟨#[byteOf pc, byteOf pc]⟩, .int .i64 1, .int .i64 1] 151)
    have C1 := Blk.new w1 #[.int .i64 0, .slice none 0 0, .bool false, .string ⟨#[byteOf pc, byteOf pc]⟩, .int .i64 1, .int .i64 1] 151
    have hsz : w.heap.size < w1.heap.size := by have := hb.size; simp [World.setCell, World.drewN] at this; omega
    clear h h1 h2 h3 hf hb
    generalize hr1 : w1.heap.size = r1 at *
    obtain ⟨y0, y1, y2, y3, y4, y5, yf⟩ := C1.six
    go_upto_if 31 with fail
    go_cut [] (fun wc => ∃ (g9 : Nat) (kids : List Part) (neg9 : Bool) (ps9 : ByteArray) (mn9 mx9 : Int) (st9 : St) (ka : Option Addr) (kl kc : Nat) (xs : List Value), RD wc b s st9 ∧ Kp b w wc ∧ Blk wc w.heap.size #[.int .i64 0, .slice none 0 0, .bool false, .string ⟨#[]⟩, .int .i64 0, .int .i64 0] 151 ∧ Blk wc r1 #[.int .i64 g9, .slice ka kl kc, .bool neg9, .string ps9, .int .i64 mn9, .int .i64 mx9] 151 ∧ Row (fun k => r1 < k) wc (.slice ka kl kc) kids.length xs ∧ KRep (fun k => r1 < k) wc kids xs ∧ st9.i ≤ s.size ∧ Hid (partS s (n + 1) st = countS s (.mk g9 kids neg9 ps9 mn9 mx9, st9)))
    case first =>
      by_cases hd : pc = 46
      · have hc1 : (pc == 46) = true := by simp [hd]
        have HD := hide hd
        clear hd
        go_wp2_with fail
        refine (pair_any 0 255 _ (by omega) (by omega) (by omega) (by omega)).mono ?_
        rintro e w2 ⟨rfl, hb2⟩
        have C2 := C1.below hb2
        obtain ⟨z0, z1, z2, z3, z4, z5, zf⟩ := C2.six
        go_wp2_with fail
        go_meet
        case rel =>
          exact ⟨0, [], false, ⟨#[byteOf 0, byteOf 255]⟩, 1, 1, adv st, none, 0, 0, [], (R1.below hb2).other (by simp; omega) _, (K1.trans (Kp.below (b := b) hb2)).setNew (by simp; omega) _, (B1.below hb2).other (by simp; omega) _, C2.set 3 _ rfl, Row.nil _ _, by simp only [KRep], by simp [adv]; omega, partS_dot HN.out (by rw [HC.out]; exact HD.out)⟩
      by_cases he : pc = 91
      · have hc1 : (pc == 46) = false := by simp [hd]
        have hc2 : (pc == 91) = true := by simp [he]
        have HD := hide hd
        have HE := hide he
        clear hd he
        go_wp2_with fail
        refine (set_any b s (adv st) (s.size + 2) _ R1 hs (by simp [adv]; omega) (by simp [adv]; omega)).mono ?_
        rintro e w2 ⟨rfl, R2, K2⟩
        have C2 := C1.kp K2 (by omega)
        obtain ⟨z0, z1, z2, z3, z4, z5, zf⟩ := C2.six
        go_wp2_with fail
        go_meet
        case rel =>
          exact ⟨0, [], _, _, 1, 1, _, none, 0, 0, [], R2.put6 (by omega) _ _ _ _ _ _, (K1.trans K2).put6 (by omega) _ _ _ _ _ _, (B1.kp K2 (by omega)).putOther6 (by omega) _ _ _ _ _ _, C2.put6 _ _ _ _ _ _, Row.nil _ _, by simp only [KRep], (Fwd.set (s.size + 2) (by simp [adv]; omega)).2.1, partS_set HN.out (by rw [HC.out]; exact HD.out) (by rw [HC.out]; exact HE.out)⟩
      by_cases hf' : pc = 92
      · have hc1 : (pc == 46) = false := by simp [hd]
        have hc2 : (pc == 91) = false := by simp [he]
        have hc3 : (pc == 92) = true := by simp [hf']
        have HD := hide hd
        have HE := hide he
        have HF := hide hf'
        clear hd he hf'
        go_wp2_with fail
        refine (IH.out b s (adv st) _ R1 hs (by simp [adv]; omega) hg (by simp [adv]; omega) (by omega)).mono ?_
        rintro e w2 ⟨v, rfl, hPV, R2, K2⟩
        have hi9 : (escS s n (adv st)).2.i ≤ s.size := ((fwd_all s n).2.1 _ (by simp [adv]; omega)).2.1
        have HQ : Hid (partS s (n + 1) st = countS s (escS s n (adv st))) := partS_esc HN.out (by rw [HC.out]; exact HD.out) (by rw [HC.out]; exact HE.out) (by rw [HC.out]; exact HF.out)
        generalize hq : escS s n (adv st) = q at *
        clear hq
        obtain ⟨⟨gg, kids, neg9, ps9, mn9, mx9⟩, st9⟩ := q
        dsimp only at R2 hi9 hPV
        obtain ⟨ka, kl, kc, xs, rfl, hRow, hKR⟩ := hPV
        have C2 := C1.kp K2 (by omega)
        have hRow9 := hRow.mono (ok' := fun k => r1 < k) (fun k hk _ => by simp [hr1] at hk; omega)
        have hKR9 := KRep.mono (ok' := fun k => r1 < k) (fun k hk _ => by simp [hr1] at hk; omega) _ _ hKR
        clear hRow hKR
        obtain ⟨z0, z1, z2, z3, z4, z5, zf⟩ := C2.six
        go_wp2_with fail
        go_meet
        case rel =>
          have hA2 := (Agree.refl (fun k => r1 < k) w2).put6 (k := r1) (by omega) (.int .i64 gg) (.slice ka kl kc) (.bool neg9) (.string ps9) (.int .i64 mn9) (.int .i64 mx9)
          exact ⟨gg, kids, neg9, ps9, mn9, mx9, st9, ka, kl, kc, xs, R2.put6 (by omega) _ _ _ _ _ _, (K1.trans K2).put6 (by omega) _ _ _ _ _ _, (B1.kp K2 (by omega)).putOther6 (by omega) _ _ _ _ _ _, C2.put6 _ _ _ _ _ _, hRow9.agree hA2, KRep.agree hA2 _ _ hKR9, hi9, HQ⟩
      · have hc1 : (pc == 46) = false := by simp [hd]
        have hc2 : (pc == 91) = false := by simp [he]
        have hc3 : (pc == 92) = false := by simp [hf']
        have HD := hide hd
        have HE := hide he
        have HF := hide hf'
        clear hd he hf'
        go_wp2_with fail
        go_meet
        case rel =>
          exact ⟨0, [], false, ⟨#[byteOf pc, byteOf pc]⟩, 1, 1, adv st, none, 0, 0, [], R1, K1, B1, C1, Row.nil _ _, by simp only [KRep], by simp [adv]; omega, by have := partS_one (n := n) HN.out (by rw [HC.out]; exact HD.out) (by rw [HC.out]; exact HE.out) (by rw [HC.out]; exact HF.out); rw [HC.out] at this; exact this⟩
    case rest =>
      obtain ⟨g9, kids, neg9, ps9, mn9, mx9, st9, ka, kl, kc, xs, R9, K9, B9, C9, hRow9, hKR9, hi9, HE⟩ := hcut
      clear R1 K1 B1 C1
      have A9 := Agree.refl (fun k => r1 < k) wc
      cases hx : st9.bad
      · have t1 := R9.c1
        have t2 := R9.c2
        have tf := R9.fz
        obtain ⟨x0, x1, x2, x3, x4, x5, xf⟩ := B9.six
        obtain ⟨y0, y1, y2, y3, y4, y5, yf⟩ := C9.six
        rw [hx] at t2
        have HX : Hid (¬ st9.bad = true) := by simp [Hid, hx]
        clear hx
        cases hst : isB s st9 42
        · have HS : Hid (¬ isB s st9 42 = true) := by simp [Hid, hst]
          have HS' : Hid (isB s st9 42 = false) := hst
          clear hst
          cases hcl : isEsc s st9 123
          · have HQ : Hid (isEsc s st9 123 = false) := hcl
            clear hcl
            go_wp2_with fail
            refine (is_of HS'.out R9 hs).mono ?_
            rintro e w1 ⟨rfl, m1, rfl⟩
            go_wp2_with fail
            refine (closing_of HQ.out (R9.drewN m1) hs hi9).mono ?_
            rintro e w1 ⟨rfl, m2, rfl⟩
            go_wp2_with fail
            refine bodyPost_ret (ret_part Tryz.results87 rfl ((B9.drewN (m1 + m2)).put6 _ _ _ _ _ _)) rfl ⟨_, rfl, ?_, ?_, ?_⟩
            · rw [HE.out, countS_none HX.out HS.out (by rw [HQ.out]; decide)]
              have hA := (A9.drewN (m1 + m2)).put6 (k := w.heap.size) (by omega) (.int .i64 g9) (.slice ka kl kc) (.bool neg9) (.string ps9) (.int .i64 mn9) (.int .i64 mx9)
              exact ⟨ka, kl, kc, xs, rfl, (hRow9.agree hA).mono (fun k hk _ => by omega), KRep.mono (fun k hk _ => by omega) _ _ (KRep.agree hA _ _ hKR9)⟩
            · rw [HE.out, countS_none HX.out HS.out (by rw [HQ.out]; decide)]; exact (R9.drewN (m1 + m2)).put6 (by omega) _ _ _ _ _ _
            · exact (K9.drewN (m1 + m2)).put6 (Nat.le_refl _) _ _ _ _ _ _
          · have HQ : Hid (isEsc s st9 123 = true) := hcl
            have hl9 := isEsc_lt hcl
            clear hcl
            go_wp2_with fail
            refine (is_of HS'.out R9 hs).mono ?_
            rintro e w1 ⟨rfl, m1, rfl⟩
            go_wp2_with fail
            refine (closing_of HQ.out (R9.drewN m1) hs hi9).mono ?_
            rintro e w1 ⟨rfl, m2, rfl⟩
            go_wp2_with fail
            refine (bounds_any b s (adv (adv st9)) _ _ _ _ _ _ _ _ _ ((R9.drewN (m1 + m2)).set1 ((st9.i : Int) + 2) (st9.i + 2) (by simp)) hs (show st9.i + 1 + 1 ≤ s.size from by omega)).mono ?_
            rintro e w1 ⟨rfl, RA, KA⟩
            have BA := ((B9.drewN (m1 + m2)).other (p := ⟨b, 1, none⟩) (by simp; omega) (.int .i64 ((st9.i : Int) + 2))).kp KA (by omega)
            have CA := ((C9.drewN (m1 + m2)).other (p := ⟨b, 1, none⟩) (by simp; omega) (.int .i64 ((st9.i : Int) + 2))).kp KA (by omega)
            have AA := ((A9.drewN (m1 + m2)).set (p := ⟨b, 1, none⟩) (by simp; omega) (.int .i64 ((st9.i : Int) + 2))).kp KA (by omega)
            have K8 := ((K9.drewN (m1 + m2)).set 1 (.int .i64 ((st9.i : Int) + 2))).trans KA
            obtain ⟨p0, p1, p2, p3, p4, p5, pf⟩ := BA.six
            obtain ⟨q0, q1, q2, q3, q4, q5, qf⟩ := CA.six
            go_wp2_with fail
            refine bodyPost_ret (ret_part Tryz.results87 rfl ((BA.putOther6 (k := r1) (by omega) (.int .i64 g9) (.slice ka kl kc) (.bool neg9) (.string ps9) (.int .i64 (boundsS s (adv (adv st9))).1.1) (.int .i64 (boundsS s (adv (adv st9))).1.2)).put6 _ _ _ _ _ _)) rfl ⟨_, rfl, ?_, ?_, ?_⟩
            · rw [HE.out, countS_bounds HX.out HS.out HQ.out]
              have hA := (AA.put6 (k := r1) (by omega) (.int .i64 g9) (.slice ka kl kc) (.bool neg9) (.string ps9) (.int .i64 (boundsS s (adv (adv st9))).1.1) (.int .i64 (boundsS s (adv (adv st9))).1.2)).put6 (k := w.heap.size) (by omega) (.int .i64 g9) (.slice ka kl kc) (.bool neg9) (.string ps9) (.int .i64 (boundsS s (adv (adv st9))).1.1) (.int .i64 (boundsS s (adv (adv st9))).1.2)
              exact ⟨ka, kl, kc, xs, rfl, (hRow9.agree hA).mono (fun k hk _ => by omega), KRep.mono (fun k hk _ => by omega) _ _ (KRep.agree hA _ _ hKR9)⟩
            · rw [HE.out, countS_bounds HX.out HS.out HQ.out]; exact (RA.put6 (k := r1) (by omega) (.int .i64 g9) (.slice ka kl kc) (.bool neg9) (.string ps9) (.int .i64 (boundsS s (adv (adv st9))).1.1) (.int .i64 (boundsS s (adv (adv st9))).1.2)).put6 (by omega) _ _ _ _ _ _
            · exact (K8.put6 (k := r1) (by omega) (.int .i64 g9) (.slice ka kl kc) (.bool neg9) (.string ps9) (.int .i64 (boundsS s (adv (adv st9))).1.1) (.int .i64 (boundsS s (adv (adv st9))).1.2)).put6 (Nat.le_refl _) _ _ _ _ _ _
        · have HS : Hid (isB s st9 42 = true) := hst
          have hl9 := peekOk_lt (isB_ok hst)
          clear hst
          go_wp2_with fail
          refine (is_of HS.out R9 hs).mono ?_
          rintro e w1 ⟨rfl, m1, rfl⟩
          go_wp2_with fail
          refine bodyPost_ret (ret_part Tryz.results87 rfl (((((B9.drewN m1).other (p := ⟨b, 1, none⟩) (by simp; omega) (.int .i64 ((st9.i : Int) + 1))).other (p := ⟨r1, 4, none⟩) (by simp; omega) (.int .i64 0)).other (p := ⟨r1, 5, none⟩) (by simp; omega) (.int .i64 (-1))).put6 _ _ _ _ _ _)) rfl ⟨_, rfl, ?_, ?_, ?_⟩
          · rw [HE.out, countS_star HX.out HS.out]
            have hA := ((((A9.drewN m1).set (p := ⟨b, 1, none⟩) (by simp; omega) (.int .i64 ((st9.i : Int) + 1))).set (p := ⟨r1, 4, none⟩) (by simp) (.int .i64 0)).set (p := ⟨r1, 5, none⟩) (by simp) (.int .i64 (-1))).put6 (k := w.heap.size) (by omega) (.int .i64 g9) (.slice ka kl kc) (.bool neg9) (.string ps9) (.int .i64 0) (.int .i64 (-1))
            exact ⟨ka, kl, kc, xs, rfl, (hRow9.agree hA).mono (fun k hk _ => by omega), KRep.mono (fun k hk _ => by omega) _ _ (KRep.agree hA _ _ hKR9)⟩
          · rw [HE.out, countS_star HX.out HS.out]; exact ((((R9.drewN m1).adv (i := (st9.i : Int) + 1) rfl).other (p := ⟨r1, 4, none⟩) (by simp; omega) (.int .i64 0)).other (p := ⟨r1, 5, none⟩) (by simp; omega) (.int .i64 (-1))).put6 (by omega) _ _ _ _ _ _
          · exact ((((K9.drewN m1).set 1 (.int .i64 ((st9.i : Int) + 1))).setNew (p := ⟨r1, 4, none⟩) (by simp; omega) (.int .i64 0)).setNew (p := ⟨r1, 5, none⟩) (by simp; omega) (.int .i64 (-1))).put6 (Nat.le_refl _) _ _ _ _ _ _
      · have t1 := R9.c1
        have t2 := R9.c2
        have tf := R9.fz
        obtain ⟨x0, x1, x2, x3, x4, x5, xf⟩ := B9.six
        obtain ⟨y0, y1, y2, y3, y4, y5, yf⟩ := C9.six
        rw [hx] at t2
        have HX : Hid (st9.bad = true) := hx
        clear hx
        go_wp2_with fail
        refine bodyPost_ret (ret_part Tryz.results87 rfl (B9.put6 _ _ _ _ _ _)) rfl ⟨_, rfl, ?_, ?_, ?_⟩
        · rw [HE.out, countS_bad HX.out]
          have hA := A9.put6 (k := w.heap.size) (by omega) (.int .i64 g9) (.slice ka kl kc) (.bool neg9) (.string ps9) (.int .i64 mn9) (.int .i64 mx9)
          exact ⟨ka, kl, kc, xs, rfl, (hRow9.agree hA).mono (fun k hk _ => by omega), KRep.mono (fun k hk _ => by omega) _ _ (KRep.agree hA _ _ hKR9)⟩
        · rw [HE.out, countS_bad HX.out]; exact R9.put6 (by omega) _ _ _ _ _ _
        · exact K9.put6 (Nat.le_refl _) _ _ _ _ _ _
  · have HH : Hid (hasL starL pc = true) := hh
    clear hh
    have HE : Hid (partS s (n + 1) st = (emptyP, spoil st)) := partS_bad (.inr (by rw [HC.out]; exact HH.out))
    go_enter Tryz.func87, Tryz.ntmps87
    go_wp2_with fail
    refine (peek_of HC.out HP.out (h.alloc _) hs).mono ?_
    rintro e w1 ⟨rfl, m, rfl⟩
    go_wp2_with fail
    refine (has_star _ _).mono ?_
    rintro e w1 ⟨rfl, rfl⟩
    rw [HH.out]
    go_wp2_with fail
    refine bodyPost_ret (ret_part Tryz.results87 rfl ((((Blk.new w _ 151).drewN m).other (by simp; omega) _).put6 _ _ _ _ _ _)) rfl ⟨_, rfl, ?_, ?_, ?_⟩
    · rw [HE.out]; exact partV_plain _ _ _ _ _ _
    · rw [HE.out]; exact (((h.alloc _).drewN m).spoil).put6 (by omega) _ _ _ _ _ _
    · exact ((((Kp.refl b w).alloc _).drewN m).set _ _).put6 (by simp) _ _ _ _ _ _

end Go.Proofs.YtmjdaifalgpdnaaGreat
