import Derived.Test.YtmjdaifalgpdnaaGreatRefH
namespace Go.Proofs.YtmjdaifalgpdnaaGreat
open Go.RowKit

theorem hide {p : Prop} (h : p) : Hid p := h

def PartsC (n : Nat) : Prop := ∀ (b : Nat) (s : ByteArray) (st : St) (inner : Bool) (w : World), RD w b s st → s.size ≤ 1048576 → st.i ≤ s.size → st.g ≤ 9 → 2 * (s.size - st.i) + 2 ≤ n → n ≤ 4000000 →
  Calls Tryz.prog 79 #[.pointer (some ⟨b, 0, none⟩), .bool inner] w fun e w' => ∃ ka kl kc xs, e = .returned (.slice ka kl kc) ∧
    Row (fun k => w.heap.size ≤ k) w' (.slice ka kl kc) (partsS s inner n st []).1.length xs ∧ KRep (fun k => w.heap.size ≤ k) w' (partsS s inner n st []).1 xs ∧ RD w' b s (partsS s inner n st []).2 ∧ Kp b w w'

def EscC (n : Nat) : Prop := ∀ (b : Nat) (s : ByteArray) (st : St) (w : World), RD w b s st → s.size ≤ 1048576 → st.i ≤ s.size → st.g ≤ 9 → 2 * (s.size - st.i) + 1 ≤ n → n ≤ 4000000 →
  Calls Tryz.prog 94 #[.pointer (some ⟨b, 0, none⟩)] w fun e w' => ∃ v, e = .returned v ∧ PartV (fun k => w.heap.size ≤ k) w' (escS s n st).1 v ∧ RD w' b s (escS s n st).2 ∧ Kp b w w'

def PartC (n : Nat) : Prop := ∀ (b : Nat) (s : ByteArray) (st : St) (w : World), RD w b s st → s.size ≤ 1048576 → st.i ≤ s.size → st.g ≤ 9 → 2 * (s.size - st.i) + 1 ≤ n → n ≤ 4000000 →
  Calls Tryz.prog 87 #[.pointer (some ⟨b, 0, none⟩)] w fun e w' => ∃ v, e = .returned v ∧ PartV (fun k => w.heap.size ≤ k) w' (partS s n st).1 v ∧ RD w' b s (partS s n st).2 ∧ Kp b w w'

theorem single_of (c : Int) (w : World) (hc : 0 ≤ c) (hc' : c < 256) :
    Calls Tryz.prog 91 #[.int .u8 c] w fun e w' => e = .returned (.agg #[.int .i64 0, .slice none 0 0, .bool false, .string ⟨#[byteOf c, byteOf c]⟩, .int .i64 1, .int .i64 1]) ∧ Below w.heap.size w w' := single_any c w hc hc'

theorem Row.nil (ok : Nat → Prop) (w : World) : Row ok w (.slice none 0 0) 0 [] := ⟨World.ownsRow_nil _ _ _ _, fun k h => by cases h⟩
theorem partV_plain (ok : Nat → Prop) (w : World) (neg : Bool) (ps : ByteArray) (mn mx : Int) : PartV ok w (.mk 0 [] neg ps mn mx) (.agg #[.int .i64 0, .slice none 0 0, .bool neg, .string ps, .int .i64 mn, .int .i64 mx]) :=
  ⟨none, 0, 0, [], rfl, Row.nil ok w, by simp only [KRep]⟩

theorem has_esc (c : Int) (w : World) : Calls Tryz.prog 41 #[.string ⟨#[46, 91, 93, 42, 94, 36, 92, 47, 110, 40]⟩, .int .u8 c] w fun e w' => e = .returned (.bool (hasL escL c)) ∧ w' = w :=
  has_any ⟨#[46, 91, 93, 42, 94, 36, 92, 47, 110, 40]⟩ c w (by decide)
theorem has_star (c : Int) (w : World) : Calls Tryz.prog 41 #[.string ⟨#[42, 47, 94, 36, 10]⟩, .int .u8 c] w fun e w' => e = .returned (.bool (hasL starL c)) ∧ w' = w :=
  has_any ⟨#[42, 47, 94, 36, 10]⟩ c w (by decide)

set_option maxHeartbeats 1600000 in
theorem esc_any (n : Nat) (ih : PartsC n) : EscC (n + 1) := by
  intro b s st w h hs hi hg hn hn'
  have IH := hide ih
  clear ih
  have hbl := h.lt
  have h1 := h.c1
  have h2 := h.c2
  have h3 := h.c3
  have hf := h.fz
  have p1 := peekC_lo s st
  have p2 := peekC_hi s st
  cases hp : peekOk s st
  · have HP : Hid (peekOk s st = false) := hp
    clear hp
    have HE : Hid (escS s (n + 1) st = (emptyP, spoil st)) := by simp [Hid, escS, HP.out]
    go_enter Tryz.func94, Tryz.ntmps94
    go_wp2_with fail
    refine (peek_of rfl HP.out (h.alloc _) hs).mono ?_
    rintro e w1 ⟨rfl, m, rfl⟩
    go_wp2_with fail
    refine bodyPost_ret (ret_part Tryz.results94 rfl ((((Blk.new w _ 151).drewN m).other (by simp; omega) _).put6 _ _ _ _ _ _)) rfl ⟨_, rfl, ?_, ?_, ?_⟩
    · rw [HE.out]; exact partV_plain _ _ _ _ _ _
    · rw [HE.out]; exact (((h.alloc _).drewN m).spoil).put6 (by omega) _ _ _ _ _ _
    · exact ((((Kp.refl b w).alloc _).drewN m).set _ _).put6 (by simp) _ _ _ _ _ _
  have hlt := peekOk_lt hp
  have HP : Hid (peekOk s st = true) := hp
  clear hp
  generalize hpc : peekC s st = pc at *
  have HC : Hid (peekC s st = pc) := hpc
  clear hpc
  cases hh : hasL escL pc
  · have HH : Hid (hasL escL pc = false) := hh
    clear hh
    have HE : Hid (escS s (n + 1) st = (emptyP, spoil st)) := by simp [Hid, escS, HP.out, HC.out, HH.out]
    go_enter Tryz.func94, Tryz.ntmps94
    go_wp2_with fail
    refine (peek_of HC.out HP.out (h.alloc _) hs).mono ?_
    rintro e w1 ⟨rfl, m, rfl⟩
    go_wp2_with fail
    refine (has_esc _ _).mono ?_
    rintro e w1 ⟨rfl, rfl⟩
    rw [HH.out]
    go_wp2_with fail
    refine bodyPost_ret (ret_part Tryz.results94 rfl ((((Blk.new w _ 151).drewN m).other (by simp; omega) _).put6 _ _ _ _ _ _)) rfl ⟨_, rfl, ?_, ?_, ?_⟩
    · rw [HE.out]; exact partV_plain _ _ _ _ _ _
    · rw [HE.out]; exact (((h.alloc _).drewN m).spoil).put6 (by omega) _ _ _ _ _ _
    · exact ((((Kp.refl b w).alloc _).drewN m).set _ _).put6 (by simp) _ _ _ _ _ _
  have HH : Hid (hasL escL pc = true) := hh
  clear hh
  by_cases hc : pc = 110
  · have HE : Hid (escS s (n + 1) st = (singleP 10, adv st)) := escS_n (by rw [HP.out, HC.out, HH.out]; simp; omega) (by rw [HC.out]; exact hc)
    have hc1 : (pc == 40) = false := by simp [hc]
    have hc2 : (pc == 110) = true := by simp [hc]
    have HCC := hide hc
    clear hc
    go_enter Tryz.func94, Tryz.ntmps94
    go_wp2_with fail
    refine (peek_of HC.out HP.out (h.alloc _) hs).mono ?_
    rintro e w1 ⟨rfl, m, rfl⟩
    go_wp2_with fail
    refine (has_esc _ _).mono ?_
    rintro e w1 ⟨rfl, rfl⟩
    rw [HH.out]
    go_wp2_with fail
    refine (single_of 10 _ (by omega) (by omega)).mono ?_
    rintro e w1 ⟨rfl, hb⟩
    have hB := ((((Blk.new w #[.int .i64 0, .slice none 0 0, .bool false, .string ⟨#[]⟩, .int .i64 0, .int .i64 0] 151).drewN m).other (p := ⟨b, 1, none⟩) (by simp; omega) (.int .i64 ((st.i : Int) + 1))).below hb)
    obtain ⟨c0, c1, c2, c3, c4, c5, cf⟩ := hB.six
    go_wp2_with fail
    refine bodyPost_ret (ret_part Tryz.results94 rfl (hB.put6 _ _ _ _ _ _)) rfl ⟨_, rfl, ?_, ?_, ?_⟩
    · rw [HE.out]; exact partV_plain _ _ _ _ _ _
    · rw [HE.out]; exact (((((h.alloc _).drewN m)).adv rfl).below hb).put6 (by omega) _ _ _ _ _ _
    · exact (((((Kp.refl b w).alloc _).drewN m).set _ _).trans (Kp.below hb)).put6 (by simp) _ _ _ _ _ _
  by_cases hd : pc = 40
  · by_cases h9 : 9 ≤ st.g
    · have HE : Hid (escS s (n + 1) st = (emptyP, spoil st)) := escS_bad (by rw [HC.out]; exact .inr (.inr ⟨hd, h9⟩))
      have hc1 : (pc == 40) = true := by simp [hd]
      have HDD := hide hd
      clear hd hc
      go_enter Tryz.func94, Tryz.ntmps94
      go_wp2_with fail
      refine (peek_of HC.out HP.out (h.alloc _) hs).mono ?_
      rintro e w1 ⟨rfl, m, rfl⟩
      go_wp2_with fail
      refine (has_esc _ _).mono ?_
      rintro e w1 ⟨rfl, rfl⟩
      rw [HH.out]
      go_wp2_with fail
      refine bodyPost_ret (ret_part Tryz.results94 rfl ((((Blk.new w _ 151).drewN m).other (by simp; omega) _).put6 _ _ _ _ _ _)) rfl ⟨_, rfl, ?_, ?_, ?_⟩
      · rw [HE.out]; exact partV_plain _ _ _ _ _ _
      · rw [HE.out]; exact (((h.alloc _).drewN m).spoil).put6 (by omega) _ _ _ _ _ _
      · exact ((((Kp.refl b w).alloc _).drewN m).set _ _).put6 (by simp) _ _ _ _ _ _
    · have HE : Hid (escS s (n + 1) st = (.mk (st.g + 1) (partsS s true n (opened st) []).1 false ⟨#[]⟩ 1 1, eatIf s 41 (eatIf s 92 (partsS s true n (opened st) []).2))) := escS_open (by rw [HP.out, HC.out, HH.out]; simp; omega) (by rw [HC.out]; exact hc) (by rw [HC.out]; simp [hd])
      have hc1 : (pc == 40) = true := by simp [hd]
      have hc2 : (pc == 110) = false := by simp [hd]
      have hc3 : (pc != 40) = false := by simp [hd]
      have HDD := hide hd
      clear hd hc
      go_enter Tryz.func94, Tryz.ntmps94
      go_wp2_with fail
      refine (peek_of HC.out HP.out (h.alloc _) hs).mono ?_
      rintro e w1 ⟨rfl, m, rfl⟩
      go_wp2_with fail
      refine (has_esc _ _).mono ?_
      rintro e w1 ⟨rfl, rfl⟩
      rw [HH.out]
      go_wp2_with fail
      refine (IH.out b s (opened st) true _ (((((h.alloc _).drewN m).adv rfl).set3 _ (st.g + 1) (by simp)).alloc _) hs (by simp [opened]; omega) (by simp [opened]; omega) (by simp [opened]; omega) (by omega)).mono ?_
      rintro e w1 ⟨ka, kl, kc, xs, rfl, hRow, hKR, hR1, hK1⟩
      have hB0 := (((((Blk.new w #[.int .i64 0, .slice none 0 0, .bool false, .string ⟨#[]⟩, .int .i64 0, .int .i64 0] 151).drewN m).other (p := ⟨b, 1, none⟩) (by simp; omega) (.int .i64 ((st.i : Int) + 1))).other (p := ⟨b, 3, none⟩) (by simp; omega) (.int .i64 ((st.g : Int) + 1))).alloc (.cells #[.int .i64 ((st.g : Int) + 1), .slice none 0 0, .bool false, .string ⟨#[]⟩, .int .i64 1, .int .i64 1] 151)).kp hK1 (by omega)
      have hB1 := (Blk.newAt (w := ((((w.alloc (.cells #[.int .i64 0, .slice none 0 0, .bool false, .string ⟨#[]⟩, .int .i64 0, .int .i64 0] 151)).drewN m).setCell ⟨b, 1, none⟩ (.int .i64 ((st.i : Int) + 1))).setCell ⟨b, 3, none⟩ (.int .i64 ((st.g : Int) + 1)))) (k := w.heap.size + 1) (c := #[.int .i64 ((st.g : Int) + 1), .slice none 0 0, .bool false, .string ⟨#[]⟩, .int .i64 1, .int .i64 1]) (t := 151) (by simp [World.setCell, World.drewN])).kp hK1 (by omega)
      have hK2 : Kp b w w1 := ((((((Kp.refl b w).alloc _).drewN m).set _ _).set _ _).alloc _).trans hK1
      have hRow2 : Row (fun k => w.heap.size + 2 ≤ k) w1 (.slice ka kl kc) (partsS s true n (opened st) []).1.length xs := hRow.mono (fun k hk _ => by simpa [World.setCell, World.drewN] using hk)
      have hKR2 : KRep (fun k => w.heap.size + 2 ≤ k) w1 (partsS s true n (opened st) []).1 xs := KRep.mono (fun k hk _ => by simpa [World.setCell, World.drewN] using hk) _ _ hKR
      clear hRow hKR hK1 h h1 h2 h3 hf
      generalize hps : partsS s true n (opened st) [] = ps at *
      obtain ⟨kids, st1⟩ := ps
      dsimp only at hR1 hRow2 hKR2
      have HPS := hide hps
      clear hps
      replace HE : Hid (escS s (n + 1) st = (Part.mk (st.g + 1) kids false ⟨#[]⟩ 1 1, eatIf s 41 (eatIf s 92 st1))) := HE
      have R9 := hR1.other (p := ⟨w.heap.size + 1, 1, none⟩) (by simp; omega) (.slice ka kl kc)
      have K9 := hK2.setNew (p := ⟨w.heap.size + 1, 1, none⟩) (by simp) (.slice ka kl kc)
      have B9 := hB0.other (p := ⟨w.heap.size + 1, 1, none⟩) (by simp) (.slice ka kl kc)
      have C9 := hB1.set 1 (.slice ka kl kc) rfl
      have A9 := (Agree.refl (fun k => w.heap.size + 2 ≤ k) w1).set (p := ⟨w.heap.size + 1, 1, none⟩) (by simp) (.slice ka kl kc)
      obtain ⟨l0, l1, l2, l3, l4, l5, lf⟩ := hB1.six
      cases hx : st1.bad
      · have t2 := R9.c2
        rw [hx] at t2
        have tf := R9.fz
        have HX : Hid (st1.bad = false) := hx
        clear hx
        obtain ⟨x0, x1, x2, x3, x4, x5, xf⟩ := B9.six
        obtain ⟨y0, y1, y2, y3, y4, y5, yf⟩ := C9.six
        go_wp2_with fail
        refine (eat_any b s st1 _ _ R9 hs).mono ?_
        rintro e w1 ⟨rfl, RA, KA⟩
        have BA := B9.kp KA (by omega)
        have BB := C9.kp KA (by omega)
        have AA := A9.kp KA (by omega)
        obtain ⟨p0, p1, p2, p3, p4, p5, pf⟩ := BA.six
        obtain ⟨q0, q1, q2, q3, q4, q5, qf⟩ := BB.six
        cases hy : (eatS s 92 st1).bad
        · have u2 := RA.c2
          rw [hy] at u2
          have uf := RA.fz
          have HY : Hid ((eatS s 92 st1).bad = false) := hy
          clear hy
          go_wp2_with fail
          refine (eat_any b s (eatS s 92 st1) _ _ RA hs).mono ?_
          rintro e w1 ⟨rfl, RC, KC⟩
          have BC := BA.kp KC (by omega)
          have BD := BB.kp KC (by omega)
          have AC := AA.kp KC (by omega)
          obtain ⟨m0, m1, m2, m3, m4, m5, mf⟩ := BC.six
          obtain ⟨n0, n1, n2, n3, n4, n5, nf⟩ := BD.six
          go_wp2_with fail
          refine bodyPost_ret (ret_part Tryz.results94 rfl (BC.put6 _ _ _ _ _ _)) rfl ⟨_, rfl, ?_, ?_, ?_⟩
          · rw [HE.out]
            have hA := AC.put6 (k := w.heap.size) (by omega) (.int .i64 ((st.g : Int) + 1)) (.slice ka kl kc) (.bool false) (.string ⟨#[]⟩) (.int .i64 1) (.int .i64 1)
            exact ⟨ka, kl, kc, xs, rfl, (hRow2.agree hA).mono (fun k hk _ => by omega), KRep.mono (fun k hk _ => by omega) _ _ (KRep.agree hA _ _ hKR2)⟩
          · rw [HE.out]; simp only [eatIf_ok HX.out, eatIf_ok HY.out]; exact RC.put6 (by omega) _ _ _ _ _ _
          · exact ((K9.trans KA).trans KC).put6 (by simp) _ _ _ _ _ _
        · have u2 := RA.c2
          rw [hy] at u2
          have uf := RA.fz
          have HY : Hid ((eatS s 92 st1).bad = true) := hy
          clear hy
          go_wp2_with fail
          refine bodyPost_ret (ret_part Tryz.results94 rfl (BA.put6 _ _ _ _ _ _)) rfl ⟨_, rfl, ?_, ?_, ?_⟩
          · rw [HE.out]
            have hA := AA.put6 (k := w.heap.size) (by omega) (.int .i64 ((st.g : Int) + 1)) (.slice ka kl kc) (.bool false) (.string ⟨#[]⟩) (.int .i64 1) (.int .i64 1)
            exact ⟨ka, kl, kc, xs, rfl, (hRow2.agree hA).mono (fun k hk _ => by omega), KRep.mono (fun k hk _ => by omega) _ _ (KRep.agree hA _ _ hKR2)⟩
          · rw [HE.out]; simp only [eatIf_ok HX.out, eatIf_bad HY.out]; exact RA.put6 (by omega) _ _ _ _ _ _
          · exact (K9.trans KA).put6 (by simp) _ _ _ _ _ _
      · have t2 := R9.c2
        rw [hx] at t2
        have tf := R9.fz
        have HX : Hid (st1.bad = true) := hx
        clear hx
        obtain ⟨x0, x1, x2, x3, x4, x5, xf⟩ := B9.six
        obtain ⟨y0, y1, y2, y3, y4, y5, yf⟩ := C9.six
        go_wp2_with fail
        refine bodyPost_ret (ret_part Tryz.results94 rfl (B9.put6 _ _ _ _ _ _)) rfl ⟨_, rfl, ?_, ?_, ?_⟩
        · rw [HE.out]
          have hA := A9.put6 (k := w.heap.size) (by omega) (.int .i64 ((st.g : Int) + 1)) (.slice ka kl kc) (.bool false) (.string ⟨#[]⟩) (.int .i64 1) (.int .i64 1)
          exact ⟨ka, kl, kc, xs, rfl, (hRow2.agree hA).mono (fun k hk _ => by omega), KRep.mono (fun k hk _ => by omega) _ _ (KRep.agree hA _ _ hKR2)⟩
        · rw [HE.out]; simp only [eatIf_bad HX.out]; exact R9.put6 (by omega) _ _ _ _ _ _
        · exact K9.put6 (by simp) _ _ _ _ _ _
  · have HE : Hid (escS s (n + 1) st = (singleP pc, adv st)) := by have := escS_one (s := s) (n := n) (st := st) (by rw [HP.out, HC.out, HH.out]; simp; omega) (by rw [HC.out]; exact hc) (by rw [HC.out]; exact hd); rw [HC.out] at this; exact this
    have hc1 : (pc == 40) = false := by simp [hd]
    have hc3 : (pc != 40) = true := by simp [hd]
    have hc2 : (pc == 110) = false := by simp [hc]
    have HCC := hide hc
    have HDD := hide hd
    clear hc hd
    go_enter Tryz.func94, Tryz.ntmps94
    go_wp2_with fail
    refine (peek_of HC.out HP.out (h.alloc _) hs).mono ?_
    rintro e w1 ⟨rfl, m, rfl⟩
    go_wp2_with fail
    refine (has_esc _ _).mono ?_
    rintro e w1 ⟨rfl, rfl⟩
    rw [HH.out]
    go_wp2_with fail
    refine (single_of pc _ p1 p2).mono ?_
    rintro e w1 ⟨rfl, hb⟩
    have hB := ((((Blk.new w #[.int .i64 0, .slice none 0 0, .bool false, .string ⟨#[]⟩, .int .i64 0, .int .i64 0] 151).drewN m).other (p := ⟨b, 1, none⟩) (by simp; omega) (.int .i64 ((st.i : Int) + 1))).below hb)
    obtain ⟨c0, c1, c2, c3, c4, c5, cf⟩ := hB.six
    go_wp2_with fail
    refine bodyPost_ret (ret_part Tryz.results94 rfl (hB.put6 _ _ _ _ _ _)) rfl ⟨_, rfl, ?_, ?_, ?_⟩
    · rw [HE.out]; exact partV_plain _ _ _ _ _ _
    · rw [HE.out]; exact (((((h.alloc _).drewN m)).adv rfl).below hb).put6 (by omega) _ _ _ _ _ _
    · exact (((((Kp.refl b w).alloc _).drewN m).set _ _).trans (Kp.below hb)).put6 (by simp) _ _ _ _ _ _

end Go.Proofs.YtmjdaifalgpdnaaGreat
