import Derived.Test.YtpnecblofjpgfaaGreatDoorProE
namespace Go.Proofs.YtpnecblofjpgfaaGreatDoor
open Go.RowKit

theorem nextOf_one (s : ByteArray) (at_ g : Nat) (c : UInt8) : nextOf s at_ ⟨#[c]⟩ = isB s ⟨at_, false, g⟩ (c.toNat : Int) := by
  rw [nextOf_peek s at_ g]
  unfold isB
  congr 1
  show (((c.toNat : Int) == peekC s ⟨at_, false, g⟩) || false) = _
  rw [Bool.or_false, Bool.eq_iff_iff]
  simp only [beq_iff_eq]
  exact eq_comm

/-- takeOneOf at a single byte: as the document's eat. -/
theorem eat1_any (b : Nat) (s : ByteArray) (at_ : Nat) (en : Int) (pv : Value) (g : Nat) (c : UInt8) (cc : Int) (hcc : (c.toNat : Int) = cc) (w : World) (h : ER w b s at_ en pv g) (hs : s.size ≤ 1048576) (ha : at_ ≤ s.size) :
    Calls Tryz.prog 93 #[.pointer (some ⟨b, 0, none⟩), .string ⟨#[c]⟩] w fun e w' => Took w b s en pv g (eatS s cc ⟨at_, false, g⟩) (fun e => ∃ x, e = .returned (.int .u8 x)) e w' := by
  subst hcc
  have hn := nextOf_one s at_ g c
  by_cases hlt : at_ < s.size
  · cases hb : isB s ⟨at_, false, g⟩ (c.toNat : Int)
    · rw [hb] at hn
      refine (takeOneOf_bad b s at_ en ⟨#[c]⟩ w h.rd hs hlt hn).mono ?_
      rintro e w' ⟨rfl, hk⟩
      rw [eatS, hb]
      exact ⟨hk, .inr ⟨rfl, rfl⟩⟩
    · rw [hb] at hn
      refine (takeOneOf_ok b s at_ en ⟨#[c]⟩ w h.rd hs hlt hn).mono ?_
      rintro e w' ⟨rfl, hm⟩
      rw [eatS, hb]
      exact ⟨hm.kp, .inl ⟨rfl, ⟨_, rfl⟩, h.moved hm⟩⟩
  · obtain rfl : at_ = s.size := by omega
    refine (takeOneOf_end b s en ⟨#[c]⟩ w h.rd).mono ?_
    rintro e w' ⟨rfl, n, rfl⟩
    have hb : isB s ⟨s.size, false, g⟩ (c.toNat : Int) = false := by simp [isB, peekOk]
    rw [eatS, hb]
    exact ⟨(Kp.refl b w).drewN n, .inr ⟨rfl, rfl⟩⟩

/-- A part's count, as the document reads it. -/
def cntS (s : ByteArray) (st : St) : (Int × Int) × St :=
  if isB s st 42 = true then ((0, -1), adv st) else if isEsc s st 123 = true then boundsS s (adv (adv st)) else ((1, 1), st)

def mxV (mx : Int) : Int := if mx < 0 then 9223372036854775807 else mx
theorem mxV_any : mxV (-1) = 9223372036854775807 := rfl
theorem mxV_of {x : Int} (h : 0 ≤ x) : mxV x = x := by unfold mxV; rw [if_neg (by omega)]

theorem takeIf_of2 {b : Nat} {s : ByteArray} {at_ : Nat} {en : Int} {pv : Value} {g : Nat} {c d : UInt8} {x : Bool} (hx : nextW s at_ ⟨#[c, d]⟩ = x) {w : World} (h : ER w b s at_ en pv g) (hs : s.size ≤ 1048576) (ha : at_ ≤ s.size) :
    Calls Tryz.prog 31 #[.pointer (some ⟨b, 0, none⟩), .string ⟨#[c, d]⟩] w fun e w' => e = .returned (.bool x) ∧ ER w' b s (if x then at_ + 2 else at_) en pv g ∧ Kp b w w' := by
  cases x
  · refine (takeIf_no b s at_ en ⟨#[c, d]⟩ w h.rd hs ha (by show 2 ≤ _; omega) hx).mono ?_
    rintro e w' ⟨rfl, n, rfl⟩
    exact ⟨rfl, h.drewN n, (Kp.refl b w).drewN n⟩
  · refine (takeIf_two b s at_ en c d w h.rd hs ha hx).mono ?_
    rintro e w' ⟨rfl, hm⟩
    exact ⟨rfl, h.moved hm, hm.kp⟩

theorem st_eta (st : St) (g : Nat) (hb : st.bad = false) (hg : st.g = g) : st = ⟨st.i, false, g⟩ := by
  obtain ⟨i, b, g'⟩ := st
  dsimp only at hb hg; subst hb; subst hg; rfl

def GoodCount (mn mx : Int) (e : Ending) : Prop := e = .returned (.tuple #[.int .i64 mn, .int .i64 (mxV mx)])

set_option maxRecDepth 100000 in
set_option maxHeartbeats 1600000 in
theorem pcount_any (b : Nat) (s : ByteArray) (at_ : Nat) (en : Int) (pv : Value) (g : Nat) (w : World) (h : ER w b s at_ en pv g) (hs : s.size ≤ 1048576) (ha : at_ ≤ s.size) :
    Calls Tryz.prog 72 #[.pointer (some ⟨b, 0, none⟩)] w fun e w' => Took w b s en pv g (cntS s ⟨at_, false, g⟩).2 (GoodCount (cntS s ⟨at_, false, g⟩).1.1 (cntS s ⟨at_, false, g⟩).1.2) e w' := by
  have n1 := nextW_one s at_ g 42
  have n2 := nextW_two s at_ g 123
  rw [show (((42 : UInt8).toNat : Nat) : Int) = 42 from rfl] at n1
  rw [show (((123 : UInt8).toNat : Nat) : Int) = 123 from rfl] at n2
  cases hst : isB s ⟨at_, false, g⟩ 42
  · cases hes : isEsc s ⟨at_, false, g⟩ 123
    · rw [hst] at n1
      rw [hes] at n2
      have N1 := hide n1
      have N2 := hide n2
      have HE : Hid (cntS s ⟨at_, false, g⟩ = ((1, 1), ⟨at_, false, g⟩)) := by rw [Hid, cntS, if_neg (by rw [hst]; simp), if_neg (by rw [hes]; simp)]
      clear n1 n2 hst hes
      go_enter Tryz.func72, Tryz.ntmps72
      go_wp2_with fail
      refine (takeIf_of N1.out h hs ha).mono ?_
      rintro e w1 ⟨rfl, h1, k1⟩
      simp only [Bool.false_eq_true, if_false] at h1
      go_wp2_with fail
      refine (takeIf_of2 N2.out h1 hs ha).mono ?_
      rintro e w2 ⟨rfl, h2, k2⟩
      simp only [Bool.false_eq_true, if_false] at h2
      go_wp2_with fail
      go_ret2
      rw [HE.out]
      exact ⟨k1.trans k2, .inl ⟨rfl, rfl, h2⟩⟩
    · rw [hst] at n1
      rw [hes] at n2
      have N1 := hide n1
      have N2 := hide n2
      have hlt := isEsc_lt hes
      dsimp only at hlt
      have HE : Hid (cntS s ⟨at_, false, g⟩ = boundsS s ⟨at_ + 2, false, g⟩) := by rw [Hid, cntS, if_neg (by rw [hst]; simp), if_pos hes]; rfl
      clear n1 n2 hst hes
      have d1 := digit_lo s ⟨at_ + 2, false, g⟩
      have d2 := digit_hi s 48 ⟨at_ + 2, false, g⟩
      have d3 := digit_le s 48 ⟨at_ + 2, false, g⟩ (by show at_ + 2 ≤ s.size; omega)
      have d4 := digit_g s 48 ⟨at_ + 2, false, g⟩
      go_enter Tryz.func72, Tryz.ntmps72
      go_wp2_with fail
      refine (takeIf_of N1.out h hs ha).mono ?_
      rintro e w1 ⟨rfl, h1, k1⟩
      simp only [Bool.false_eq_true, if_false] at h1
      go_wp2_with fail
      refine (takeIf_of2 N2.out h1 hs ha).mono ?_
      rintro e w2 ⟨rfl, h2, k2⟩
      simp only [if_true] at h2
      go_wp2_with fail
      refine (pdigit_any b s (at_ + 2) en pv g 0 _ h2 hs (by omega) (by omega) (by omega)).mono ?_
      rintro e w3 ⟨k3, hT⟩
      rw [show (48 : Int) + 0 = 48 from rfl] at hT
      have HE2 : Hid (boundsS s ⟨at_ + 2, false, g⟩ = _) := boundsS.eq_1 s ⟨at_ + 2, false, g⟩
      generalize digitS s 48 ⟨at_ + 2, false, g⟩ = dd at *
      obtain ⟨mn, st1⟩ := dd
      dsimp only at hT d1 d2 d3 d4 HE2
      rcases hT with ⟨hb1, he1, h3⟩ | ⟨hb1, rfl⟩
      · subst he1
        obtain ⟨i1, bd1, g1⟩ := st1
        dsimp only at hb1 d4 h3 d3
        subst hb1
        subst d4
        have n3 := nextW_one s i1 g1 44
        rw [show (((44 : UInt8).toNat : Nat) : Int) = 44 from rfl] at n3
        have k4 := (k1.trans k2).trans k3
        cases hcm : isB s ⟨i1, false, g1⟩ 44
        · rw [hcm] at n3
          have N3 := hide n3
          have HT : Hid (cntS s ⟨at_, false, g1⟩ = ((mn, mn), eatIf s 125 (eatIf s 92 ⟨i1, false, g1⟩))) := by rw [Hid, HE.out, HE2.out, if_neg (by rw [hcm]; simp)]
          clear n3 hcm HE HE2
          go_wp2_with fail
          refine (takeIf_of N3.out h3 hs d3).mono ?_
          rintro e w5 ⟨rfl, h5, k5⟩
          simp only [Bool.false_eq_true, if_false] at h5
          have k6 := k4.trans k5
          go_wp2_with fail
          refine (eat1_any b s i1 en pv g1 92 92 rfl _ h5 hs (by omega)).mono ?_
          rintro e w8 ⟨k8, hT8⟩
          have f1 := eat_le s 92 ⟨i1, false, g1⟩ (by show i1 ≤ s.size; omega)
          have f2 := eat_g s 92 ⟨i1, false, g1⟩
          rw [eatIf_ok (show (⟨i1, false, g1⟩ : St).bad = false from rfl)] at HT
          generalize eatS s 92 ⟨i1, false, g1⟩ = st8 at *
          rcases hT8 with ⟨hb8, ⟨x8, rfl⟩, h8⟩ | ⟨hb8, rfl⟩
          · obtain ⟨i8, bd8, g8⟩ := st8
            dsimp only at hb8 f1 f2 h8
            subst hb8
            subst f2
            go_wp2_with fail
            refine (eat1_any b s i8 en pv g8 125 125 rfl _ h8 hs f1).mono ?_
            rintro e w9 ⟨k9, hT9⟩
            rw [eatIf_ok (show (⟨i8, false, g8⟩ : St).bad = false from rfl)] at HT
            generalize eatS s 125 ⟨i8, false, g8⟩ = st9 at *
            rcases hT9 with ⟨hb9, ⟨x9, rfl⟩, h9⟩ | ⟨hb9, rfl⟩
            · go_wp2_with fail
              go_ret2
              rw [HT.out]
              exact ⟨(k6.trans k8).trans k9, .inl ⟨hb9, by rw [GoodCount]; exact tup2 rfl (by rw [mxV_of d1]; rfl), h9⟩⟩
            · refine ⟨rfl, ?_⟩
              rw [HT.out]
              exact ⟨(k6.trans k8).trans k9, .inr ⟨hb9, rfl⟩⟩
          · refine ⟨rfl, ?_⟩
            rw [HT.out]
            dsimp only
            rw [eatIf_bad hb8]
            exact ⟨k6.trans k8, .inr ⟨hb8, rfl⟩⟩
        · rw [hcm] at n3
          have N3 := hide n3
          have hl3 : i1 < s.size := peekOk_lt (isB_ok hcm)
          have n4 := nextW_one s (i1 + 1) g1 92
          rw [show (((92 : UInt8).toNat : Nat) : Int) = 92 from rfl] at n4
          cases hbs : isB s ⟨i1 + 1, false, g1⟩ 92
          · rw [hbs] at n4
            have N4 := hide n4
            have HX : Hid (cntS s ⟨at_, false, g1⟩ = ((mn, (digitS s (48 + mn) ⟨i1 + 1, false, g1⟩).1), eatIf s 125 (eatIf s 92 (digitS s (48 + mn) ⟨i1 + 1, false, g1⟩).2))) := by
              rw [Hid, HE.out, HE2.out, if_pos ⟨rfl, hcm⟩, if_neg (show ¬ isB s (adv ⟨i1, false, g1⟩) 92 = true from by rw [show isB s (adv ⟨i1, false, g1⟩) 92 = false from hbs]; simp)]; rfl
            have q1 := digit_lo2 s mn d1 ⟨i1 + 1, false, g1⟩
            have q2 := digit_le s (48 + mn) ⟨i1 + 1, false, g1⟩ (by show i1 + 1 ≤ s.size; omega)
            have q3 := digit_g s (48 + mn) ⟨i1 + 1, false, g1⟩
            clear n3 n4 hcm hbs HE HE2
            go_wp2_with fail
            refine (takeIf_of N3.out h3 hs d3).mono ?_
            rintro e w5 ⟨rfl, h5, k5⟩
            simp only [if_true] at h5
            have k6 := k4.trans k5
            go_wp2_with fail
            refine (isNext_of N4.out h5.rd hs (by omega) (by show 1 ≤ _; omega)).mono ?_
            rintro e w6 ⟨rfl, n6, rfl⟩
            have h6 := h5.drewN n6
            have k7 := k6.drewN n6
            go_wp2_with fail
            refine (pdigit_any b s (i1 + 1) en pv g1 mn _ h6 hs (by omega) d1 d2).mono ?_
            rintro e w7 ⟨k8, hT⟩
            generalize digitS s (48 + mn) ⟨i1 + 1, false, g1⟩ = dd at *
            obtain ⟨mx, st5⟩ := dd
            dsimp only at hT q1 q2 q3 HX
            rcases hT with ⟨hb5, he5, h7⟩ | ⟨hb5, rfl⟩
            · subst he5
              obtain ⟨i5, bd5, g5⟩ := st5
              dsimp only at hb5 q2 q3 h7
              subst hb5
              subst q3
              have k10 := k7.trans k8
              have HT : Hid (cntS s ⟨at_, false, g5⟩ = ((mn, mx), eatIf s 125 (eatIf s 92 ⟨i5, false, g5⟩))) := HX
              go_wp2_with fail
              refine (eat1_any b s i5 en pv g5 92 92 rfl _ h7 hs (by omega)).mono ?_
              rintro e w8 ⟨k8, hT8⟩
              have f1 := eat_le s 92 ⟨i5, false, g5⟩ (by show i5 ≤ s.size; omega)
              have f2 := eat_g s 92 ⟨i5, false, g5⟩
              rw [eatIf_ok (show (⟨i5, false, g5⟩ : St).bad = false from rfl)] at HT
              generalize eatS s 92 ⟨i5, false, g5⟩ = st8 at *
              rcases hT8 with ⟨hb8, ⟨x8, rfl⟩, h8⟩ | ⟨hb8, rfl⟩
              · obtain ⟨i8, bd8, g8⟩ := st8
                dsimp only at hb8 f1 f2 h8
                subst hb8
                subst f2
                go_wp2_with fail
                refine (eat1_any b s i8 en pv g8 125 125 rfl _ h8 hs f1).mono ?_
                rintro e w9 ⟨k9, hT9⟩
                rw [eatIf_ok (show (⟨i8, false, g8⟩ : St).bad = false from rfl)] at HT
                generalize eatS s 125 ⟨i8, false, g8⟩ = st9 at *
                rcases hT9 with ⟨hb9, ⟨x9, rfl⟩, h9⟩ | ⟨hb9, rfl⟩
                · go_wp2_with fail
                  go_ret2
                  rw [HT.out]
                  exact ⟨(k10.trans k8).trans k9, .inl ⟨hb9, by rw [GoodCount]; exact tup2 rfl (by rw [mxV_of q1]; rfl), h9⟩⟩
                · refine ⟨rfl, ?_⟩
                  rw [HT.out]
                  exact ⟨(k10.trans k8).trans k9, .inr ⟨hb9, rfl⟩⟩
              · refine ⟨rfl, ?_⟩
                rw [HT.out]
                dsimp only
                rw [eatIf_bad hb8]
                exact ⟨k10.trans k8, .inr ⟨hb8, rfl⟩⟩
            · refine ⟨rfl, ?_⟩
              rw [HX.out]
              dsimp only
              rw [eatIf_bad hb5, eatIf_bad hb5]
              exact ⟨k7.trans k8, .inr ⟨hb5, rfl⟩⟩
          · rw [hbs] at n4
            have N4 := hide n4
            have HT : Hid (cntS s ⟨at_, false, g1⟩ = ((mn, -1), eatIf s 125 (eatIf s 92 ⟨i1 + 1, false, g1⟩))) := by rw [Hid, HE.out, HE2.out, if_pos ⟨rfl, hcm⟩, if_pos (show isB s (adv ⟨i1, false, g1⟩) 92 = true from hbs)]; rfl
            clear n3 n4 hcm hbs HE HE2
            go_wp2_with fail
            refine (takeIf_of N3.out h3 hs d3).mono ?_
            rintro e w5 ⟨rfl, h5, k5⟩
            simp only [if_true] at h5
            have k6 := k4.trans k5
            go_wp2_with fail
            refine (isNext_of N4.out h5.rd hs (by omega) (by show 1 ≤ _; omega)).mono ?_
            rintro e w6 ⟨rfl, n6, rfl⟩
            have h6 := h5.drewN n6
            have k7 := k6.drewN n6
            go_wp2_with fail
            refine (eat1_any b s (i1 + 1) en pv g1 92 92 rfl _ h6 hs (by omega)).mono ?_
            rintro e w8 ⟨k8, hT8⟩
            have f1 := eat_le s 92 ⟨(i1 + 1), false, g1⟩ (by show (i1 + 1) ≤ s.size; omega)
            have f2 := eat_g s 92 ⟨(i1 + 1), false, g1⟩
            rw [eatIf_ok (show (⟨(i1 + 1), false, g1⟩ : St).bad = false from rfl)] at HT
            generalize eatS s 92 ⟨(i1 + 1), false, g1⟩ = st8 at *
            rcases hT8 with ⟨hb8, ⟨x8, rfl⟩, h8⟩ | ⟨hb8, rfl⟩
            · obtain ⟨i8, bd8, g8⟩ := st8
              dsimp only at hb8 f1 f2 h8
              subst hb8
              subst f2
              go_wp2_with fail
              refine (eat1_any b s i8 en pv g8 125 125 rfl _ h8 hs f1).mono ?_
              rintro e w9 ⟨k9, hT9⟩
              rw [eatIf_ok (show (⟨i8, false, g8⟩ : St).bad = false from rfl)] at HT
              generalize eatS s 125 ⟨i8, false, g8⟩ = st9 at *
              rcases hT9 with ⟨hb9, ⟨x9, rfl⟩, h9⟩ | ⟨hb9, rfl⟩
              · go_wp2_with fail
                go_ret2
                rw [HT.out]
                exact ⟨(k7.trans k8).trans k9, .inl ⟨hb9, rfl, h9⟩⟩
              · refine ⟨rfl, ?_⟩
                rw [HT.out]
                exact ⟨(k7.trans k8).trans k9, .inr ⟨hb9, rfl⟩⟩
            · refine ⟨rfl, ?_⟩
              rw [HT.out]
              dsimp only
              rw [eatIf_bad hb8]
              exact ⟨k7.trans k8, .inr ⟨hb8, rfl⟩⟩
      · refine ⟨rfl, ?_⟩
        rw [HE.out, HE2.out, if_neg (by rw [hb1]; simp)]
        have e1 : eatIf s 125 (eatIf s 92 st1) = st1 := by rw [eatIf_bad hb1, eatIf_bad hb1]
        dsimp only
        rw [e1]
        exact ⟨(k1.trans k2).trans k3, .inr ⟨hb1, rfl⟩⟩
  · rw [hst] at n1
    have N1 := hide n1
    have HE : Hid (cntS s ⟨at_, false, g⟩ = ((0, -1), ⟨at_ + 1, false, g⟩)) := by rw [Hid, cntS, if_pos hst]; rfl
    clear n1 n2 hst
    go_enter Tryz.func72, Tryz.ntmps72
    go_wp2_with fail
    refine (takeIf_of N1.out h hs ha).mono ?_
    rintro e w1 ⟨rfl, h1, k1⟩
    simp only [if_true] at h1
    go_wp2_with fail
    go_ret2
    rw [HE.out]
    exact ⟨k1, .inl ⟨rfl, rfl, h1⟩⟩

end Go.Proofs.YtpnecblofjpgfaaGreatDoor
