import Derived.Test.YtmjdaifalgpdnaaGreatProI
namespace Go.Proofs.YtmjdaifalgpdnaaGreat
open Go.RowKit

/-- A group, behind its bracket, as the document reads it. -/
def openT (s : ByteArray) (n at_ g : Nat) : Part × St :=
  (.mk (g + 1) (partsS s true n ⟨at_, false, g + 1⟩ []).1 false ⟨#[]⟩ 1 1, eatIf s 41 (eatIf s 92 (partsS s true n ⟨at_, false, g + 1⟩ []).2))

def PGroupC (n : Nat) : Prop := ∀ (b : Nat) (s : ByteArray) (at_ : Nat) (en : Int) (pv : Value) (g : Nat) (ps : List PP) (w : World), ER w b s at_ en pv g → Flat w pv ps → pv.ownBlock ≠ some b → s.size ≤ 1048576 → at_ ≤ s.size → g < 9 → ps.length ≤ at_ → 2 * (s.size - at_) + 2 ≤ n →
  Calls Tryz.prog 114 #[.pointer (some ⟨b, 0, none⟩)] w fun e w' => AtomPost w b s en pv ps (openT s n at_ g) e w'

def escB : ByteArray := ⟨#[46, 91, 93, 42, 94, 36, 92, 47, 110, 40]⟩

set_option maxRecDepth 100000 in
set_option maxHeartbeats 800000 in
theorem group_full (b : Nat) (s : ByteArray) (at_ : Nat) (en : Int) (pv : Value) (w : World) (h : ER w b s at_ en pv 9) (hs : s.size ≤ 1048576) (ha : at_ ≤ s.size) :
    Calls Tryz.prog 114 #[.pointer (some ⟨b, 0, none⟩)] w fun e w' => e = .panicked (gaveUp en ((at_ : Int) - 1)) ∧ Kp b w w' := by
  have hbl := h.lt
  have h1 := (h.alloc (.cells #[.pointer (some ⟨b, 0, none⟩)] 158)).alloc (.cells #[.int .u64 0, .int .u64 0, .int .u64 0, .int .u64 0, .int .i64 0, .int .i64 0, .int .i64 0, .int .i64 0, .int .i64 0] 167)
  have c4 : ((w.alloc (.cells #[.pointer (some ⟨b, 0, none⟩)] 158)).alloc (.cells #[.int .u64 0, .int .u64 0, .int .u64 0, .int .u64 0, .int .i64 0, .int .i64 0, .int .i64 0, .int .i64 0, .int .i64 0] 167)).cell? ⟨b, 4, none⟩ = some (.int .i64 9) := Blk.cell h1 4 rfl
  go_enter Tryz.func114, Tryz.ntmps114
  go_wp2_with fail
  refine (refuse_any b s at_ en _ h1.rd hs ha).mono ?_
  rintro e w1 ⟨rfl, rfl⟩
  exact ⟨rfl, rfl, ((Kp.refl b w).alloc _).alloc _⟩

set_option maxRecDepth 100000 in
set_option maxHeartbeats 1600000 in
theorem pesc_any (n : Nat) (ih : PGroupC n) : PEscC (n + 1) := by
  intro b s at_ en pv g ps w h hfl hpb hs ha hg hpl hn
  have IH := hide ih
  clear ih
  have hbl := h.lt
  have hB := Blk.new w #[.int .u64 0, .int .u64 0, .int .u64 0, .int .u64 0, .int .i64 0, .int .i64 0, .int .i64 0, .int .i64 0, .int .i64 0] 167
  have h1 := h.alloc (.cells #[.int .u64 0, .int .u64 0, .int .u64 0, .int .u64 0, .int .i64 0, .int .i64 0, .int .i64 0, .int .i64 0, .int .i64 0] 167)
  have f1 := hfl.alloc (.cells #[.int .u64 0, .int .u64 0, .int .u64 0, .int .u64 0, .int .i64 0, .int .i64 0, .int .i64 0, .int .i64 0, .int .i64 0] 167)
  have k1 := (Kp.refl b w).alloc (.cells #[.int .u64 0, .int .u64 0, .int .u64 0, .int .u64 0, .int .i64 0, .int .i64 0, .int .i64 0, .int .i64 0, .int .i64 0] 167)
  have hpl2 := hfl.lt
  have hpn : pv.ownBlock ≠ some w.heap.size := fun e => by have := hpl2 _ e; omega
  have HPL := hide (And.intro hpl2 (And.intro hpn hpb))
  clear hpl2 hpn hpb
  have hrd := h1.rd
  by_cases hlt : at_ < s.size
  · have hpc : peekC s ⟨at_, false, g⟩ = ((s[at_]'hlt).toNat : Int) := by simp [peekC, hlt]
    have hpo : peekOk s ⟨at_, false, g⟩ = true := by simp [peekOk, hlt]
    have hb1 := (s[at_]'hlt).toNat_lt
    have hnx : nextOf s at_ escB = hasL escL (peekC s ⟨at_, false, g⟩) := by rw [nextOf_peek s at_ g, hpo]; rfl
    cases hnv : hasL escL (peekC s ⟨at_, false, g⟩)
    · have HE : Hid (escS s (n + 1) ⟨at_, false, g⟩ = (emptyP, ⟨at_, true, g⟩)) := by rw [Hid, escS_bad (.inr (.inl hnv))]; rfl
      rw [hnv] at hnx
      have HN := hide hnx
      clear hnx hnv hpc hpo
      go_enter Tryz.func109, Tryz.ntmps109
      go_wp2_with fail
      refine (takeOneOf_bad b s at_ en escB _ hrd hs hlt HN.out).mono ?_
      rintro e w1 ⟨rfl, k2⟩
      refine ⟨rfl, ?_⟩
      rw [HE.out]
      exact ⟨Kq.of_kp (k1.trans k2), .inr ⟨rfl, rfl⟩⟩
    · rw [hnv] at hnx
      have HN := hide hnx
      have HPO := hide (And.intro hpo hnv)
      have HPC := hide hpc
      clear hnx hnv hpc hpo
      by_cases hd : (s[at_].toNat : Int) = 110
      · have HE : Hid (escS s (n + 1) ⟨at_, false, g⟩ = (.mk 0 [] false ⟨#[byteOf 10, byteOf 10]⟩ 1 1, ⟨at_ + 1, false, g⟩)) := by rw [Hid, escS_n (by rw [HPO.out.1, HPO.out.2, HPC.out]; simp; omega) (by rw [HPC.out]; exact hd)]; rfl
        have hc1 : ((s[at_].toNat : Int) == 110) = true := by simp [hd]
        have HD := hide hd
        clear hd
        go_enter Tryz.func109, Tryz.ntmps109
        go_wp2_with fail
        refine (takeOneOf_ok b s at_ en escB _ hrd hs hlt HN.out).mono ?_
        rintro e w1 ⟨rfl, hm⟩
        have h2 := h1.moved hm
        have k2 := k1.trans hm.kp
        have B2 := hB.kp hm.kp (by omega)
        have f2 := f1.kp hm.kp HPL.out.2.2
        go_wp2_with fail
        refine (oneByte_of (c := 10) (by omega)).mono ?_
        rintro e w3 ⟨X, rfl, hX, hb⟩
        have B3 := B2.below hb
        have h3 := h2.below hb
        have f3 := f2.kp (Kp.below (b := b) hb) HPL.out.2.2
        have k3 := k2.trans (Kp.below (b := b) hb)
        have HX := hide hX
        clear hX
        obtain ⟨c0, c1, c2, c3, c4, c5, c6, c7, c8, cf⟩ := B3.nine
        go_wp2_with fail
        refine bodyPost_ret (ret_part98 Tryz.results109 rfl (B3.put9 _ _ _ _ _ _ _ _ _)) rfl ?_
        rw [HE.out]
        refine ⟨kq_put9 (Kq.of_kp k3) (Nat.le_refl _) _ _ _ _ _ _ _ _ _, .inl ⟨rfl, X, 0, 0, pv, [], rfl, ?_, ?_, ?_, HPL.out.2.2, Fresh.refl _ _, ?_⟩⟩
        · rw [LayA, if_pos rfl]
          exact ⟨rfl, rfl, HX.out.congr (fun c hc => by rw [oneB_single _ (by omega) (by omega), Bool.eq_iff_iff]; simp; omega)⟩
        · rw [List.append_nil]; exact f3.put9 HPL.out.2.1 _ _ _ _ _ _ _ _ _
        · exact h3.put9 (by omega) _ _ _ _ _ _ _ _ _
        · rw [List.append_nil]; show ps.length ≤ at_ + 1; omega
      by_cases he : (s[at_].toNat : Int) = 40
      · by_cases h9 : 9 ≤ g
        · obtain rfl : g = 9 := by omega
          have HE : Hid (escS s (n + 1) ⟨at_, false, 9⟩ = (emptyP, ⟨at_, true, 9⟩)) := by rw [Hid, escS_bad (.inr (.inr ⟨by rw [HPC.out]; exact he, Nat.le_refl _⟩))]; rfl
          have hc1 : ((s[at_].toNat : Int) == 110) = false := by simpa using hd
          have hc2 : ((s[at_].toNat : Int) == 40) = true := by simp [he]
          have HD := hide he
          clear hd he
          go_enter Tryz.func109, Tryz.ntmps109
          go_wp2_with fail
          refine (takeOneOf_ok b s at_ en escB _ hrd hs hlt HN.out).mono ?_
          rintro e w1 ⟨rfl, hm⟩
          have h2 := h1.moved hm
          have k2 := k1.trans hm.kp
          have B2 := hB.kp hm.kp (by omega)
          have f2 := f1.kp hm.kp HPL.out.2.2
          go_wp2_with fail
          refine (group_full b s (at_ + 1) en pv _ h2 hs (by omega)).mono ?_
          rintro e w3 ⟨rfl, k3⟩
          refine ⟨rfl, ?_⟩
          rw [HE.out]
          exact ⟨Kq.of_kp (k2.trans k3), .inr ⟨rfl, by rw [show (((at_ + 1 : Nat) : Int) - 1) = (at_ : Int) from by omega]⟩⟩
        · have HE : Hid (escS s (n + 1) ⟨at_, false, g⟩ = openT s n (at_ + 1) g) := by rw [Hid, escS_open (by rw [HPO.out.1, HPO.out.2, HPC.out]; simp; omega) (by rw [HPC.out]; exact hd) (by rw [HPC.out]; simp [he])]; rfl
          have hc1 : ((s[at_].toNat : Int) == 110) = false := by simpa using hd
          have hc2 : ((s[at_].toNat : Int) == 40) = true := by simp [he]
          have HD := hide he
          clear hd he
          go_enter Tryz.func109, Tryz.ntmps109
          go_wp2_with fail
          refine (takeOneOf_ok b s at_ en escB _ hrd hs hlt HN.out).mono ?_
          rintro e w1 ⟨rfl, hm⟩
          have h2 := h1.moved hm
          have k2 := k1.trans hm.kp
          have B2 := hB.kp hm.kp (by omega)
          have f2 := f1.kp hm.kp HPL.out.2.2
          go_wp2_with fail
          refine (IH.out b s (at_ + 1) en pv g ps _ h2 f2 HPL.out.2.2 hs (by omega) (by omega) (by omega) (by omega)).mono ?_
          rintro e w3 ⟨k3, hT⟩
          generalize openT s n (at_ + 1) g = q at *
          have k4 : Kq b pv.ownBlock w w3 := (Kq.of_kp (row := pv.ownBlock) k2).trans k3 (.inl rfl)
          rcases hT with ⟨hbd, W, group, inner, pv', ks, rfl, hlay, f3, h3, hpb3, hfr, hln⟩ | ⟨hbd, rfl⟩
          · have B3 := B2.kq k3 (by omega) (fun e => HPL.out.2.1 e.symm)
            have hw2 := B2.lt
            have hpn3 : pv'.ownBlock ≠ some w.heap.size := by
              intro e
              rcases hfr with e2 | e2
              · exact HPL.out.2.1 (e2.symm.trans e)
              · have := e2 _ e; omega
            have hfr2 : Fresh w pv.ownBlock pv'.ownBlock := (Fresh.refl w _).trans hfr k2.size
            have HX := hide (And.intro hlay (And.intro hln (And.intro hpb3 (And.intro hpn3 hfr2))))
            clear hlay hln hpb3 hpn3 hfr2 hfr
            obtain ⟨c0, c1, c2, c3, c4, c5, c6, c7, c8, cf⟩ := B3.nine
            go_wp2_with fail
            refine bodyPost_ret (ret_part98 Tryz.results109 rfl (B3.put9 _ _ _ _ _ _ _ _ _)) rfl ?_
            rw [HE.out]
            obtain ⟨hlay, hln, hpb3, hpn3, hfr2⟩ := HX.out
            exact ⟨kq_put9 k4 (Nat.le_refl _) _ _ _ _ _ _ _ _ _, .inl ⟨hbd, W, group, inner, pv', ks, rfl, hlay, f3.put9 hpn3 _ _ _ _ _ _ _ _ _, h3.put9 (by omega) _ _ _ _ _ _ _ _ _, hpb3, hfr2, hln⟩⟩
          · refine ⟨rfl, ?_⟩
            rw [HE.out]
            exact ⟨k4, .inr ⟨hbd, rfl⟩⟩
      · have HE : Hid (escS s (n + 1) ⟨at_, false, g⟩ = (.mk 0 [] false ⟨#[byteOf (s[at_].toNat : Int), byteOf (s[at_].toNat : Int)]⟩ 1 1, ⟨at_ + 1, false, g⟩)) := by rw [Hid, escS_one (by rw [HPO.out.1, HPO.out.2, HPC.out]; simp; omega) (by rw [HPC.out]; exact hd) (by rw [HPC.out]; exact he), HPC.out]; rfl
        have hc1 : ((s[at_].toNat : Int) == 110) = false := by simpa using hd
        have hc2 : ((s[at_].toNat : Int) == 40) = false := by simpa using he
        clear hd he
        go_enter Tryz.func109, Tryz.ntmps109
        go_wp2_with fail
        refine (takeOneOf_ok b s at_ en escB _ hrd hs hlt HN.out).mono ?_
        rintro e w1 ⟨rfl, hm⟩
        have h2 := h1.moved hm
        have k2 := k1.trans hm.kp
        have B2 := hB.kp hm.kp (by omega)
        have f2 := f1.kp hm.kp HPL.out.2.2
        go_wp2_with fail
        refine (oneByte_of (c := s[at_].toNat) (by omega)).mono ?_
        rintro e w3 ⟨X, rfl, hX, hb⟩
        have B3 := B2.below hb
        have h3 := h2.below hb
        have f3 := f2.kp (Kp.below (b := b) hb) HPL.out.2.2
        have k3 := k2.trans (Kp.below (b := b) hb)
        have HX := hide hX
        clear hX
        obtain ⟨c0, c1, c2, c3, c4, c5, c6, c7, c8, cf⟩ := B3.nine
        go_wp2_with fail
        refine bodyPost_ret (ret_part98 Tryz.results109 rfl (B3.put9 _ _ _ _ _ _ _ _ _)) rfl ?_
        rw [HE.out]
        refine ⟨kq_put9 (Kq.of_kp k3) (Nat.le_refl _) _ _ _ _ _ _ _ _ _, .inl ⟨rfl, X, 0, 0, pv, [], rfl, ?_, ?_, ?_, HPL.out.2.2, Fresh.refl _ _, ?_⟩⟩
        · rw [LayA, if_pos rfl]
          exact ⟨rfl, rfl, HX.out.congr (fun c hc => by rw [oneB_single _ (by omega) (by omega), Bool.eq_iff_iff]; simp; omega)⟩
        · rw [List.append_nil]; exact f3.put9 HPL.out.2.1 _ _ _ _ _ _ _ _ _
        · exact h3.put9 (by omega) _ _ _ _ _ _ _ _ _
        · rw [List.append_nil]; show ps.length ≤ at_ + 1; omega
  · obtain rfl : at_ = s.size := by omega
    have HE : Hid (escS s (n + 1) ⟨s.size, false, g⟩ = (emptyP, ⟨s.size, true, g⟩)) := by rw [Hid, escS_bad (.inl (by simp [peekOk]))]; rfl
    go_enter Tryz.func109, Tryz.ntmps109
    go_wp2_with fail
    refine (takeOneOf_end b s en escB _ hrd).mono ?_
    rintro e w1 ⟨rfl, m, rfl⟩
    refine ⟨rfl, ?_⟩
    rw [HE.out]
    exact ⟨Kq.of_kp (k1.drewN m), .inr ⟨rfl, rfl⟩⟩

end Go.Proofs.YtmjdaifalgpdnaaGreat
