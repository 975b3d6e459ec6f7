import Derived.Test.YtmjdaifalgpdnaaGreatProC
namespace Go.Proofs.YtmjdaifalgpdnaaGreat
open Go.RowKit

theorem inPairs_two (x y c : Int) (hx : 0 ≤ x) (hx' : x < 256) (hy : 0 ≤ y) (hy' : y < 256) : inPairs (ByteArray.mk #[byteOf x, byteOf y]).data.toList c = (decide (x ≤ c) && decide (c ≤ y)) := by
  show ((decide (((byteOf x).toNat : Int) ≤ c) && decide (c ≤ ((byteOf y).toNat : Int))) || false) = _
  rw [byteOf_toNat hx hx', byteOf_toNat hy hy', Bool.or_false]

def neverB : ByteArray := ⟨#[92, 93, 47, 45, 10]⟩

theorem Holds4.congr {W : Nat → Nat} {M N : Nat → Bool} (h : Holds4 W M) (e : ∀ c, c < 256 → M c = N c) : Holds4 W N := ⟨h.1, fun c hc => by rw [h.2 c hc, e c hc]⟩

theorem takeIf_one (b : Nat) (s : ByteArray) (at_ : Nat) (en : Int) (c : UInt8) (w : World) (h : RdC w b s at_ en) (hs : s.size ≤ 1048576) (ha : at_ ≤ s.size) (hx : nextW s at_ ⟨#[c]⟩ = true) :
    Calls Tryz.prog 58 #[.pointer (some ⟨b, 0, none⟩), .string ⟨#[c]⟩] w fun e w' => e = .returned (.bool true) ∧ Moved w b ((at_ + 1 : Nat) : Int) w' :=
  (takeIf_yes b s at_ en ⟨#[c]⟩ w h hs ha (by show 1 ≤ _; omega) hx).mono fun _ _ hp => hp
theorem takeIf_two (b : Nat) (s : ByteArray) (at_ : Nat) (en : Int) (c d : UInt8) (w : World) (h : RdC w b s at_ en) (hs : s.size ≤ 1048576) (ha : at_ ≤ s.size) (hx : nextW s at_ ⟨#[c, d]⟩ = true) :
    Calls Tryz.prog 58 #[.pointer (some ⟨b, 0, none⟩), .string ⟨#[c, d]⟩] w fun e w' => e = .returned (.bool true) ∧ Moved w b ((at_ + 2 : Nat) : Int) w' :=
  (takeIf_yes b s at_ en ⟨#[c, d]⟩ w h hs ha (by show 2 ≤ _; omega) hx).mono fun _ _ hp => hp

/-- What item hands back: the set that its pair spans. -/
def GoodItem (ps : ByteArray) (e : Ending) : Prop := ∃ v, e = .returned v ∧ SetV v (fun c => inPairs ps.data.toList c)

set_option maxHeartbeats 1600000 in
theorem pitem_any (b : Nat) (s : ByteArray) (at_ : Nat) (en : Int) (pv : Value) (g : Nat) (w : World) (h : ER w b s at_ en pv g) (hs : s.size ≤ 1048576) (ha : at_ ≤ s.size) :
    Calls Tryz.prog 112 #[.pointer (some ⟨b, 0, none⟩)] w fun e w' => Took w b s en pv g (itemS s ⟨at_, false, g⟩).2 (GoodItem (itemS s ⟨at_, false, g⟩).1) e w' := by
  have hbl := h.lt
  have hB := Blk.new w #[.int .u64 0, .int .u64 0, .int .u64 0, .int .u64 0] 165
  have h1 := h.alloc (.cells #[.int .u64 0, .int .u64 0, .int .u64 0, .int .u64 0] 165)
  have hk1 := (Kp.refl b w).alloc (.cells #[.int .u64 0, .int .u64 0, .int .u64 0, .int .u64 0] 165)
  have hrd := h1.rd
  by_cases hlt : at_ < s.size
  · have hpc : peekC s ⟨at_, false, g⟩ = ((s[at_]'hlt).toNat : Int) := by simp [peekC, hlt]
    have hpo : peekOk s ⟨at_, false, g⟩ = true := by simp [peekOk, hlt]
    have hb1 := (s[at_]'hlt).toNat_lt
    have hnx : nextOf s at_ neverB = hasL neverL (peekC s ⟨at_, false, g⟩) := by rw [nextOf_peek s at_ g, hpo]; rfl
    cases hnv : hasL neverL (peekC s ⟨at_, false, g⟩)
    · rw [hnv] at hnx
      have HN := hide hnx
      have HC : Hid (¬ (peekOk s ⟨at_, false, g⟩ = false ∨ hasL neverL (peekC s ⟨at_, false, g⟩) = true)) := by rw [Hid, hpo, hnv]; simp
      have HPC := hide hpc
      have hdash := nextW_one s (at_ + 1) g 45
      have h45 : (((45 : UInt8).toNat : Nat) : Int) = 45 := rfl
      rw [h45] at hdash
      clear hnx hnv hpc hpo
      cases hds : isB s ⟨at_ + 1, false, g⟩ 45
      · rw [hds] at hdash
        have HD := hide hdash
        have HE : Hid (itemS s ⟨at_, false, g⟩ = (⟨#[byteOf (s[at_].toNat : Int), byteOf (s[at_].toNat : Int)]⟩, ⟨at_ + 1, false, g⟩)) := by
          rw [Hid, itemS, if_neg HC.out, if_pos (show isB s (adv ⟨at_, false, g⟩) 45 = false from hds), HPC.out]; rfl
        clear hdash hds
        go_enter Tryz.func112, Tryz.ntmps112
        go_wp2_with fail
        refine (takeOther_ok b s at_ en neverB _ hrd hs hlt HN.out).mono ?_
        rintro e w1 ⟨rfl, hm⟩
        have h2 := h1.moved hm
        have k2 := hk1.trans hm.kp
        have B2 := hB.kp hm.kp (by omega)
        go_wp2_with fail
        refine (takeIf_no b s (at_ + 1) en ⟨#[45]⟩ _ h2.rd hs (by omega) (by decide) HD.out).mono ?_
        rintro e w1 ⟨rfl, m, rfl⟩
        go_wp2_with fail
        refine (oneByte_any (s[at_].toNat) (by omega) _).mono ?_
        rintro e w3 ⟨v, rfl, ⟨W, rfl, hW⟩, hb⟩
        have B3 := (B2.drewN m).below hb
        have h3 := (h2.drewN m).below hb
        have k3 := (k2.drewN m).trans (Kp.below (b := b) hb)
        have HW := hide hW
        clear hW
        obtain ⟨c0, c1, c2, c3, cf⟩ := B3.four
        unfold ucells
        go_wp2_with fail
        refine bodyPost_ret (ret_four Tryz.results112 rfl (B3.put4 _ _ _ _)) rfl ?_
        rw [HE.out]
        refine ⟨k3.put4 (Nat.le_refl _) _ _ _ _, .inl ⟨rfl, ⟨_, rfl, W, rfl, HW.out.congr (fun c hc => ?_)⟩, ?_⟩⟩
        · rw [inPairs_two _ _ _ (by omega) (by omega) (by omega) (by omega), Bool.eq_iff_iff]; simp; omega
        · exact (((h3.other (by simp; omega) _).other (by simp; omega) _).other (by simp; omega) _).other (by simp; omega) _
      · rw [hds] at hdash
        have HD := hide hdash
        have HNI : Hid (¬ isB s (adv ⟨at_, false, g⟩) 45 = false) := by
          have e : isB s (adv ⟨at_, false, g⟩) 45 = true := hds
          rw [Hid, e]; simp
        have hlt1 : at_ + 1 < s.size := peekOk_lt (isB_ok hds)
        clear hdash hds
        by_cases hlt2 : at_ + 2 < s.size
        · have hpc2 : peekC s ⟨at_ + 2, false, g⟩ = ((s[at_ + 2]'hlt2).toNat : Int) := by simp [peekC, hlt2]
          have hpo2 : peekOk s ⟨at_ + 2, false, g⟩ = true := by simp [peekOk, hlt2]
          have hb2 := (s[at_ + 2]'hlt2).toNat_lt
          have hnx2 : nextOf s (at_ + 2) neverB = hasL neverL (peekC s ⟨at_ + 2, false, g⟩) := by rw [nextOf_peek s (at_ + 2) g, hpo2]; rfl
          cases hnv2 : hasL neverL (peekC s ⟨at_ + 2, false, g⟩)
          · rw [hnv2] at hnx2
            have HN2 := hide hnx2
            by_cases hcmp : (s[at_ + 2].toNat : Int) < (s[at_].toNat : Int)
            · have HE : Hid (itemS s ⟨at_, false, g⟩ = (⟨#[]⟩, ⟨at_ + 2, true, g⟩)) := by
                rw [Hid, itemS, if_neg HC.out, if_neg HNI.out, if_pos (.inr (.inr (by rw [show adv (adv ⟨at_, false, g⟩) = ⟨at_ + 2, false, g⟩ from rfl, hpc2, HPC.out]; exact hcmp)))]; rfl
              clear hnx2 hnv2 hpc2 hpo2
              go_enter Tryz.func112, Tryz.ntmps112
              go_wp2_with fail
              refine (takeOther_ok b s at_ en neverB _ hrd hs hlt HN.out).mono ?_
              rintro e w1 ⟨rfl, hm⟩
              have h2 := h1.moved hm
              have k2 := hk1.trans hm.kp
              go_wp2_with fail
              refine (takeIf_one b s (at_ + 1) en 45 _ h2.rd hs (by omega) HD.out).mono ?_
              rintro e w2 ⟨rfl, hm2⟩
              have h3 := h2.moved hm2
              have k3 := k2.trans hm2.kp
              go_wp2_with fail
              refine (takeOther_ok b s (at_ + 2) en neverB _ h3.rd hs hlt2 HN2.out).mono ?_
              rintro e w3 ⟨rfl, hm3⟩
              go_wp2_with fail
              refine (refuse_any b s (at_ + 3) en _ (h3.moved hm3).rd hs (by omega)).mono ?_
              rintro e w4 ⟨rfl, rfl⟩
              refine ⟨rfl, ?_⟩
              rw [HE.out]
              exact ⟨k3.trans hm3.kp, .inr ⟨rfl, by rw [show (((at_ + 3 : Nat) : Int) - 1) = ((at_ + 2 : Nat) : Int) from by omega]⟩⟩
            · have HE : Hid (itemS s ⟨at_, false, g⟩ = (⟨#[byteOf (s[at_].toNat : Int), byteOf (s[at_ + 2].toNat : Int)]⟩, ⟨at_ + 3, false, g⟩)) := by
                rw [Hid, itemS, if_neg HC.out, if_neg HNI.out, if_neg (by rw [show adv (adv ⟨at_, false, g⟩) = ⟨at_ + 2, false, g⟩ from rfl, hpc2, HPC.out, hpo2, ← hpc2, hnv2, hpc2]; simp; omega), show adv (adv ⟨at_, false, g⟩) = ⟨at_ + 2, false, g⟩ from rfl, hpc2, HPC.out]; rfl
              clear hnx2 hnv2 hpc2 hpo2
              go_enter Tryz.func112, Tryz.ntmps112
              go_wp2_with fail
              refine (takeOther_ok b s at_ en neverB _ hrd hs hlt HN.out).mono ?_
              rintro e w1 ⟨rfl, hm⟩
              have h2 := h1.moved hm
              have k2 := hk1.trans hm.kp
              have B2 := hB.kp hm.kp (by omega)
              go_wp2_with fail
              refine (takeIf_one b s (at_ + 1) en 45 _ h2.rd hs (by omega) HD.out).mono ?_
              rintro e w2 ⟨rfl, hm2⟩
              have h3 := h2.moved hm2
              have k3 := k2.trans hm2.kp
              go_wp2_with fail
              refine (takeOther_ok b s (at_ + 2) en neverB _ h3.rd hs hlt2 HN2.out).mono ?_
              rintro e w3 ⟨rfl, hm3⟩
              have h4 := h3.moved hm3
              have k4 := k3.trans hm3.kp
              have B4 := (B2.kp hm2.kp (by omega)).kp hm3.kp (by omega)
              go_wp2_with fail
              refine (byteRange_any (s[at_].toNat) (s[at_ + 2].toNat) (by omega) (by omega) _).mono ?_
              rintro e w5 ⟨v, rfl, ⟨W, rfl, hW⟩, hb⟩
              have B5 := B4.below hb
              have h5 := h4.below hb
              have k5 := k4.trans (Kp.below (b := b) hb)
              have HW := hide hW
              clear hW
              obtain ⟨c0, c1, c2, c3, cf⟩ := B5.four
              unfold ucells
              go_wp2_with fail
              refine bodyPost_ret (ret_four Tryz.results112 rfl (B5.put4 _ _ _ _)) rfl ?_
              rw [HE.out]
              refine ⟨k5.put4 (Nat.le_refl _) _ _ _ _, .inl ⟨rfl, ⟨_, rfl, W, rfl, HW.out.congr (fun c hc => ?_)⟩, ?_⟩⟩
              · rw [inPairs_two _ _ _ (by omega) (by omega) (by omega) (by omega), Bool.eq_iff_iff]; simp
              · exact (((h5.other (by simp; omega) _).other (by simp; omega) _).other (by simp; omega) _).other (by simp; omega) _
          · have HE : Hid (itemS s ⟨at_, false, g⟩ = (⟨#[]⟩, ⟨at_ + 2, true, g⟩)) := by
              rw [Hid, itemS, if_neg HC.out, if_neg HNI.out, if_pos (.inr (.inl hnv2))]; rfl
            rw [hnv2] at hnx2
            have HN2 := hide hnx2
            clear hnx2 hnv2 hpc2 hpo2
            go_enter Tryz.func112, Tryz.ntmps112
            go_wp2_with fail
            refine (takeOther_ok b s at_ en neverB _ hrd hs hlt HN.out).mono ?_
            rintro e w1 ⟨rfl, hm⟩
            have h2 := h1.moved hm
            have k2 := hk1.trans hm.kp
            go_wp2_with fail
            refine (takeIf_one b s (at_ + 1) en 45 _ h2.rd hs (by omega) HD.out).mono ?_
            rintro e w2 ⟨rfl, hm2⟩
            have h3 := h2.moved hm2
            have k3 := k2.trans hm2.kp
            go_wp2_with fail
            refine (takeOther_bad b s (at_ + 2) en neverB _ h3.rd hs HN2.out).mono ?_
            rintro e w1 ⟨rfl, n, rfl⟩
            refine ⟨rfl, ?_⟩
            rw [HE.out]
            exact ⟨k3.drewN n, .inr ⟨rfl, rfl⟩⟩
        · have e2 : at_ + 2 = s.size := by omega
          have HE : Hid (itemS s ⟨at_, false, g⟩ = (⟨#[]⟩, ⟨at_ + 2, true, g⟩)) := by
            rw [Hid, itemS, if_neg HC.out, if_neg HNI.out, if_pos (.inl (show (!false && decide (at_ + 2 < s.size)) = false from by rw [decide_eq_false (by omega)]; rfl))]; rfl
          go_enter Tryz.func112, Tryz.ntmps112
          go_wp2_with fail
          refine (takeOther_ok b s at_ en neverB _ hrd hs hlt HN.out).mono ?_
          rintro e w1 ⟨rfl, hm⟩
          have h2 := h1.moved hm
          have k2 := hk1.trans hm.kp
          go_wp2_with fail
          refine (takeIf_one b s (at_ + 1) en 45 _ h2.rd hs (by omega) HD.out).mono ?_
          rintro e w2 ⟨rfl, hm2⟩
          have h3 : ER w2 b s s.size en pv g := by
            have := h2.moved hm2
            rw [show at_ + 1 + 1 = s.size from e2] at this; exact this
          go_wp2_with fail
          refine (takeOther_end b s en neverB _ h3.rd hs).mono ?_
          rintro e w1 ⟨rfl, n, rfl⟩
          refine ⟨rfl, ?_⟩
          rw [HE.out]
          refine ⟨(k2.trans hm2.kp).drewN n, .inr ⟨rfl, ?_⟩⟩
          rw [← e2]
    · have HE : Hid (itemS s ⟨at_, false, g⟩ = (⟨#[]⟩, ⟨at_, true, g⟩)) := by rw [Hid, itemS, if_pos (.inr hnv)]; rfl
      rw [hnv] at hnx
      have HN := hide hnx
      clear hnx hnv hpc hpo
      go_enter Tryz.func112, Tryz.ntmps112
      go_wp2_with fail
      refine (takeOther_bad b s at_ en neverB _ hrd hs HN.out).mono ?_
      rintro e w1 ⟨rfl, n, rfl⟩
      refine ⟨rfl, ?_⟩
      rw [HE.out]
      exact ⟨hk1.drewN n, .inr ⟨rfl, rfl⟩⟩
  · obtain rfl : at_ = s.size := by omega
    have HE : Hid (itemS s ⟨s.size, false, g⟩ = (⟨#[]⟩, ⟨s.size, true, g⟩)) := by rw [Hid, itemS, if_pos (by simp [peekOk])]; rfl
    go_enter Tryz.func112, Tryz.ntmps112
    go_wp2_with fail
    refine (takeOther_end b s en neverB _ hrd hs).mono ?_
    rintro e w1 ⟨rfl, n, rfl⟩
    refine ⟨rfl, ?_⟩
    rw [HE.out]
    exact ⟨hk1.drewN n, .inr ⟨rfl, rfl⟩⟩

end Go.Proofs.YtmjdaifalgpdnaaGreat
