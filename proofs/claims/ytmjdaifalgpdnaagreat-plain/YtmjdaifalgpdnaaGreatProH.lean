import Derived.Test.YtmjdaifalgpdnaaGreatProE
import Derived.Defers
import Derived.Recover
namespace Go.Proofs.YtmjdaifalgpdnaaGreat
open Go.RowKit

theorem nextOf_one (s : ByteArray) (at_ g : Nat) (c : UInt8) : nextOf s at_ ⟨#[c]⟩ = isB s ⟨at_, false, g⟩ (c.toNat : Int) := by
  rw [nextOf_peek s at_ g]
  unfold isB
  congr 1
  show (((c.toNat : Int) == peekC s ⟨at_, false, g⟩) || false) = _
  rw [Bool.or_false, Bool.eq_iff_iff]
  simp only [beq_iff_eq]
  exact eq_comm

/-- takeOneOf at a single byte: as the document's eat. -/
theorem eat1_any (b : Nat) (s : ByteArray) (at_ : Nat) (en : Int) (pv : Value) (g : Nat) (c : UInt8) (cc : Int) (hcc : (c.toNat : Int) = cc) (w : World) (h : ER w b s at_ en pv g) (hs : s.size ≤ 1048576) (ha : at_ ≤ s.size) :
    Calls Tryz.prog 46 #[.pointer (some ⟨b, 0, none⟩), .string ⟨#[c]⟩] w fun e w' => Took w b s en pv g (eatS s cc ⟨at_, false, g⟩) (fun e => ∃ x, e = .returned (.int .u8 x)) e w' := by
  subst hcc
  have hn := nextOf_one s at_ g c
  by_cases hlt : at_ < s.size
  · cases hb : isB s ⟨at_, false, g⟩ (c.toNat : Int)
    · rw [hb] at hn
      refine (takeOneOf_bad b s at_ en ⟨#[c]⟩ w h.rd hs hlt hn).mono ?_
      rintro e w' ⟨rfl, hk⟩
      rw [eatS, hb]
      exact ⟨hk, .inr ⟨rfl, rfl⟩⟩
    · rw [hb] at hn
      refine (takeOneOf_ok b s at_ en ⟨#[c]⟩ w h.rd hs hlt hn).mono ?_
      rintro e w' ⟨rfl, hm⟩
      rw [eatS, hb]
      exact ⟨hm.kp, .inl ⟨rfl, ⟨_, rfl⟩, h.moved hm⟩⟩
  · obtain rfl : at_ = s.size := by omega
    refine (takeOneOf_end b s en ⟨#[c]⟩ w h.rd).mono ?_
    rintro e w' ⟨rfl, n, rfl⟩
    have hb : isB s ⟨s.size, false, g⟩ (c.toNat : Int) = false := by simp [isB, peekOk]
    rw [eatS, hb]
    exact ⟨(Kp.refl b w).drewN n, .inr ⟨rfl, rfl⟩⟩

/-- A part's count, as the document reads it. -/
def cntS (s : ByteArray) (st : St) : (Int × Int) × St :=
  if isB s st 42 = true then ((0, -1), adv st) else if isEsc s st 123 = true then boundsS s (adv (adv st)) else ((1, 1), st)

def mxV (mx : Int) : Int := if mx < 0 then 9223372036854775807 else mx
theorem mxV_any : mxV (-1) = 9223372036854775807 := rfl
theorem mxV_of {x : Int} (h : 0 ≤ x) : mxV x = x := by unfold mxV; rw [if_neg (by omega)]

theorem takeIf_of2 {b : Nat} {s : ByteArray} {at_ : Nat} {en : Int} {pv : Value} {g : Nat} {c d : UInt8} {x : Bool} (hx : nextW s at_ ⟨#[c, d]⟩ = x) {w : World} (h : ER w b s at_ en pv g) (hs : s.size ≤ 1048576) (ha : at_ ≤ s.size) :
    Calls Tryz.prog 58 #[.pointer (some ⟨b, 0, none⟩), .string ⟨#[c, d]⟩] w fun e w' => e = .returned (.bool x) ∧ ER w' b s (if x then at_ + 2 else at_) en pv g ∧ Kp b w w' := by
  cases x
  · refine (takeIf_no b s at_ en ⟨#[c, d]⟩ w h.rd hs ha (by show 2 ≤ _; omega) hx).mono ?_
    rintro e w' ⟨rfl, n, rfl⟩
    exact ⟨rfl, h.drewN n, (Kp.refl b w).drewN n⟩
  · refine (takeIf_two b s at_ en c d w h.rd hs ha hx).mono ?_
    rintro e w' ⟨rfl, hm⟩
    exact ⟨rfl, h.moved hm, hm.kp⟩

theorem st_eta (st : St) (g : Nat) (hb : st.bad = false) (hg : st.g = g) : st = ⟨st.i, false, g⟩ := by
  obtain ⟨i, b, g'⟩ := st
  dsimp only at hb hg; subst hb; subst hg; rfl

def GoodCount (mn mx : Int) (e : Ending) : Prop := e = .returned (.tuple #[.int .i64 mn, .int .i64 (mxV mx)])

set_option maxRecDepth 100000 in
set_option maxHeartbeats 1600000 in
theorem pcount_any (b : Nat) (s : ByteArray) (at_ : Nat) (en : Int) (pv : Value) (g : Nat) (w : World) (h : ER w b s at_ en pv g) (hs : s.size ≤ 1048576) (ha : at_ ≤ s.size) :
    Calls Tryz.prog 105 #[.pointer (some ⟨b, 0, none⟩)] w fun e w' => Took w b s en pv g (cntS s ⟨at_, false, g⟩).2 (GoodCount (cntS s ⟨at_, false, g⟩).1.1 (cntS s ⟨at_, false, g⟩).1.2) e w' := by
  have n1 := nextW_one s at_ g 42
  have n2 := nextW_two s at_ g 123
  rw [show (((42 : UInt8).toNat : Nat) : Int) = 42 from rfl] at n1
  rw [show (((123 : UInt8).toNat : Nat) : Int) = 123 from rfl] at n2
  cases hst : isB s ⟨at_, false, g⟩ 42
  · cases hes : isEsc s ⟨at_, false, g⟩ 123
    · rw [hst] at n1
      rw [hes] at n2
      have N1 := hide n1
      have N2 := hide n2
      have HE : Hid (cntS s ⟨at_, false, g⟩ = ((1, 1), ⟨at_, false, g⟩)) := by rw [Hid, cntS, if_neg (by rw [hst]; simp), if_neg (by rw [hes]; simp)]
      clear n1 n2 hst hes
      go_enter Tryz.func105, Tryz.ntmps105
      go_wp2_with fail
      refine (takeIf_of N1.out h hs ha).mono ?_
      rintro e w1 ⟨rfl, h1, k1⟩
      simp only [Bool.false_eq_true, if_false] at h1
      go_wp2_with fail
      refine (takeIf_of2 N2.out h1 hs ha).mono ?_
      rintro e w2 ⟨rfl, h2, k2⟩
      simp only [Bool.false_eq_true, if_false] at h2
      go_wp2_with fail
      go_ret2
      rw [HE.out]
      exact ⟨k1.trans k2, .inl ⟨rfl, rfl, h2⟩⟩
    · rw [hst] at n1
      rw [hes] at n2
      have N1 := hide n1
      have N2 := hide n2
      have hlt := isEsc_lt hes
      dsimp only at hlt
      have HE : Hid (cntS s ⟨at_, false, g⟩ = boundsS s ⟨at_ + 2, false, g⟩) := by rw [Hid, cntS, if_neg (by rw [hst]; simp), if_pos hes]; rfl
      clear n1 n2 hst hes
      have d1 := digit_lo s ⟨at_ + 2, false, g⟩
      have d2 := digit_hi s 48 ⟨at_ + 2, false, g⟩
      have d3 := digit_le s 48 ⟨at_ + 2, false, g⟩ (by show at_ + 2 ≤ s.size; omega)
      have d4 := digit_g s 48 ⟨at_ + 2, false, g⟩
      go_enter Tryz.func105, Tryz.ntmps105
      go_wp2_with fail
      refine (takeIf_of N1.out h hs ha).mono ?_
      rintro e w1 ⟨rfl, h1, k1⟩
      simp only [Bool.false_eq_true, if_false] at h1
      go_wp2_with fail
      refine (takeIf_of2 N2.out h1 hs ha).mono ?_
      rintro e w2 ⟨rfl, h2, k2⟩
      simp only [if_true] at h2
      go_wp2_with fail
      refine (pdigit_any b s (at_ + 2) en pv g 0 _ h2 hs (by omega) (by omega) (by omega)).mono ?_
      rintro e w3 ⟨k3, hT⟩
      rw [show (48 : Int) + 0 = 48 from rfl] at hT
      have HE2 : Hid (boundsS s ⟨at_ + 2, false, g⟩ = _) := boundsS.eq_1 s ⟨at_ + 2, false, g⟩
      generalize digitS s 48 ⟨at_ + 2, false, g⟩ = dd at *
      obtain ⟨mn, st1⟩ := dd
      dsimp only at hT d1 d2 d3 d4 HE2
      rcases hT with ⟨hb1, he1, h3⟩ | ⟨hb1, rfl⟩
      · subst he1
        obtain ⟨i1, bd1, g1⟩ := st1
        dsimp only at hb1 d4 h3 d3
        subst hb1
        subst d4
        have n3 := nextW_one s i1 g1 44
        rw [show (((44 : UInt8).toNat : Nat) : Int) = 44 from rfl] at n3
        have k4 := (k1.trans k2).trans k3
        cases hcm : isB s ⟨i1, false, g1⟩ 44
        · rw [hcm] at n3
          have N3 := hide n3
          have HT : Hid (cntS s ⟨at_, false, g1⟩ = ((mn, mn), eatIf s 125 (eatIf s 92 ⟨i1, false, g1⟩))) := by rw [Hid, HE.out, HE2.out, if_neg (by rw [hcm]; simp)]
          clear n3 hcm HE HE2
          go_wp2_with fail
          refine (takeIf_of N3.out h3 hs d3).mono ?_
          rintro e w5 ⟨rfl, h5, k5⟩
          simp only [Bool.false_eq_true, if_false] at h5
          have k6 := k4.trans k5
          go_wp2_with fail
          refine (eat1_any b s i1 en pv g1 92 92 rfl _ h5 hs (by omega)).mono ?_
          rintro e w8 ⟨k8, hT8⟩
          have f1 := eat_le s 92 ⟨i1, false, g1⟩ (by show i1 ≤ s.size; omega)
          have f2 := eat_g s 92 ⟨i1, false, g1⟩
          rw [eatIf_ok (show (⟨i1, false, g1⟩ : St).bad = false from rfl)] at HT
          generalize eatS s 92 ⟨i1, false, g1⟩ = st8 at *
          rcases hT8 with ⟨hb8, ⟨x8, rfl⟩, h8⟩ | ⟨hb8, rfl⟩
          · obtain ⟨i8, bd8, g8⟩ := st8
            dsimp only at hb8 f1 f2 h8
            subst hb8
            subst f2
            go_wp2_with fail
            refine (eat1_any b s i8 en pv g8 125 125 rfl _ h8 hs f1).mono ?_
            rintro e w9 ⟨k9, hT9⟩
            rw [eatIf_ok (show (⟨i8, false, g8⟩ : St).bad = false from rfl)] at HT
            generalize eatS s 125 ⟨i8, false, g8⟩ = st9 at *
            rcases hT9 with ⟨hb9, ⟨x9, rfl⟩, h9⟩ | ⟨hb9, rfl⟩
            · go_wp2_with fail
              go_ret2
              rw [HT.out]
              exact ⟨(k6.trans k8).trans k9, .inl ⟨hb9, by rw [GoodCount]; exact tup2 rfl (by rw [mxV_of d1]; rfl), h9⟩⟩
            · refine ⟨rfl, ?_⟩
              rw [HT.out]
              exact ⟨(k6.trans k8).trans k9, .inr ⟨hb9, rfl⟩⟩
          · refine ⟨rfl, ?_⟩
            rw [HT.out]
            dsimp only
            rw [eatIf_bad hb8]
            exact ⟨k6.trans k8, .inr ⟨hb8, rfl⟩⟩
        · rw [hcm] at n3
          have N3 := hide n3
          have hl3 : i1 < s.size := peekOk_lt (isB_ok hcm)
          have n4 := nextW_one s (i1 + 1) g1 92
          rw [show (((92 : UInt8).toNat : Nat) : Int) = 92 from rfl] at n4
          cases hbs : isB s ⟨i1 + 1, false, g1⟩ 92
          · rw [hbs] at n4
            have N4 := hide n4
            have HX : Hid (cntS s ⟨at_, false, g1⟩ = ((mn, (digitS s (48 + mn) ⟨i1 + 1, false, g1⟩).1), eatIf s 125 (eatIf s 92 (digitS s (48 + mn) ⟨i1 + 1, false, g1⟩).2))) := by
              rw [Hid, HE.out, HE2.out, if_pos ⟨rfl, hcm⟩, if_neg (show ¬ isB s (adv ⟨i1, false, g1⟩) 92 = true from by rw [show isB s (adv ⟨i1, false, g1⟩) 92 = false from hbs]; simp)]; rfl
            have q1 := digit_lo2 s mn d1 ⟨i1 + 1, false, g1⟩
            have q2 := digit_le s (48 + mn) ⟨i1 + 1, false, g1⟩ (by show i1 + 1 ≤ s.size; omega)
            have q3 := digit_g s (48 + mn) ⟨i1 + 1, false, g1⟩
            clear n3 n4 hcm hbs HE HE2
            go_wp2_with fail
            refine (takeIf_of N3.out h3 hs d3).mono ?_
            rintro e w5 ⟨rfl, h5, k5⟩
            simp only [if_true] at h5
            have k6 := k4.trans k5
            go_wp2_with fail
            refine (isNext_of N4.out h5.rd hs (by omega) (by show 1 ≤ _; omega)).mono ?_
            rintro e w6 ⟨rfl, n6, rfl⟩
            have h6 := h5.drewN n6
            have k7 := k6.drewN n6
            go_wp2_with fail
            refine (pdigit_any b s (i1 + 1) en pv g1 mn _ h6 hs (by omega) d1 d2).mono ?_
            rintro e w7 ⟨k8, hT⟩
            generalize digitS s (48 + mn) ⟨i1 + 1, false, g1⟩ = dd at *
            obtain ⟨mx, st5⟩ := dd
            dsimp only at hT q1 q2 q3 HX
            rcases hT with ⟨hb5, he5, h7⟩ | ⟨hb5, rfl⟩
            · subst he5
              obtain ⟨i5, bd5, g5⟩ := st5
              dsimp only at hb5 q2 q3 h7
              subst hb5
              subst q3
              have k10 := k7.trans k8
              have HT : Hid (cntS s ⟨at_, false, g5⟩ = ((mn, mx), eatIf s 125 (eatIf s 92 ⟨i5, false, g5⟩))) := HX
              go_wp2_with fail
              refine (eat1_any b s i5 en pv g5 92 92 rfl _ h7 hs (by omega)).mono ?_
              rintro e w8 ⟨k8, hT8⟩
              have f1 := eat_le s 92 ⟨i5, false, g5⟩ (by show i5 ≤ s.size; omega)
              have f2 := eat_g s 92 ⟨i5, false, g5⟩
              rw [eatIf_ok (show (⟨i5, false, g5⟩ : St).bad = false from rfl)] at HT
              generalize eatS s 92 ⟨i5, false, g5⟩ = st8 at *
              rcases hT8 with ⟨hb8, ⟨x8, rfl⟩, h8⟩ | ⟨hb8, rfl⟩
              · obtain ⟨i8, bd8, g8⟩ := st8
                dsimp only at hb8 f1 f2 h8
                subst hb8
                subst f2
                go_wp2_with fail
                refine (eat1_any b s i8 en pv g8 125 125 rfl _ h8 hs f1).mono ?_
                rintro e w9 ⟨k9, hT9⟩
                rw [eatIf_ok (show (⟨i8, false, g8⟩ : St).bad = false from rfl)] at HT
                generalize eatS s 125 ⟨i8, false, g8⟩ = st9 at *
                rcases hT9 with ⟨hb9, ⟨x9, rfl⟩, h9⟩ | ⟨hb9, rfl⟩
                · go_wp2_with fail
                  go_ret2
                  rw [HT.out]
                  exact ⟨(k10.trans k8).trans k9, .inl ⟨hb9, by rw [GoodCount]; exact tup2 rfl (by rw [mxV_of q1]; rfl), h9⟩⟩
                · refine ⟨rfl, ?_⟩
                  rw [HT.out]
                  exact ⟨(k10.trans k8).trans k9, .inr ⟨hb9, rfl⟩⟩
              · refine ⟨rfl, ?_⟩
                rw [HT.out]
                dsimp only
                rw [eatIf_bad hb8]
                exact ⟨k10.trans k8, .inr ⟨hb8, rfl⟩⟩
            · refine ⟨rfl, ?_⟩
              rw [HX.out]
              dsimp only
              rw [eatIf_bad hb5, eatIf_bad hb5]
              exact ⟨k7.trans k8, .inr ⟨hb5, rfl⟩⟩
          · rw [hbs] at n4
            have N4 := hide n4
            have HT : Hid (cntS s ⟨at_, false, g1⟩ = ((mn, -1), eatIf s 125 (eatIf s 92 ⟨i1 + 1, false, g1⟩))) := by rw [Hid, HE.out, HE2.out, if_pos ⟨rfl, hcm⟩, if_pos (show isB s (adv ⟨i1, false, g1⟩) 92 = true from hbs)]; rfl
            clear n3 n4 hcm hbs HE HE2
            go_wp2_with fail
            refine (takeIf_of N3.out h3 hs d3).mono ?_
            rintro e w5 ⟨rfl, h5, k5⟩
            simp only [if_true] at h5
            have k6 := k4.trans k5
            go_wp2_with fail
            refine (isNext_of N4.out h5.rd hs (by omega) (by show 1 ≤ _; omega)).mono ?_
            rintro e w6 ⟨rfl, n6, rfl⟩
            have h6 := h5.drewN n6
            have k7 := k6.drewN n6
            go_wp2_with fail
            refine (eat1_any b s (i1 + 1) en pv g1 92 92 rfl _ h6 hs (by omega)).mono ?_
            rintro e w8 ⟨k8, hT8⟩
            have f1 := eat_le s 92 ⟨(i1 + 1), false, g1⟩ (by show (i1 + 1) ≤ s.size; omega)
            have f2 := eat_g s 92 ⟨(i1 + 1), false, g1⟩
            rw [eatIf_ok (show (⟨(i1 + 1), false, g1⟩ : St).bad = false from rfl)] at HT
            generalize eatS s 92 ⟨(i1 + 1), false, g1⟩ = st8 at *
            rcases hT8 with ⟨hb8, ⟨x8, rfl⟩, h8⟩ | ⟨hb8, rfl⟩
            · obtain ⟨i8, bd8, g8⟩ := st8
              dsimp only at hb8 f1 f2 h8
              subst hb8
              subst f2
              go_wp2_with fail
              refine (eat1_any b s i8 en pv g8 125 125 rfl _ h8 hs f1).mono ?_
              rintro e w9 ⟨k9, hT9⟩
              rw [eatIf_ok (show (⟨i8, false, g8⟩ : St).bad = false from rfl)] at HT
              generalize eatS s 125 ⟨i8, false, g8⟩ = st9 at *
              rcases hT9 with ⟨hb9, ⟨x9, rfl⟩, h9⟩ | ⟨hb9, rfl⟩
              · go_wp2_with fail
                go_ret2
                rw [HT.out]
                exact ⟨(k7.trans k8).trans k9, .inl ⟨hb9, rfl, h9⟩⟩
              · refine ⟨rfl, ?_⟩
                rw [HT.out]
                exact ⟨(k7.trans k8).trans k9, .inr ⟨hb9, rfl⟩⟩
            · refine ⟨rfl, ?_⟩
              rw [HT.out]
              dsimp only
              rw [eatIf_bad hb8]
              exact ⟨k7.trans k8, .inr ⟨hb8, rfl⟩⟩
      · refine ⟨rfl, ?_⟩
        rw [HE.out, HE2.out, if_neg (by rw [hb1]; simp)]
        have e1 : eatIf s 125 (eatIf s 92 st1) = st1 := by rw [eatIf_bad hb1, eatIf_bad hb1]
        dsimp only
        rw [e1]
        exact ⟨(k1.trans k2).trans k3, .inr ⟨hb1, rfl⟩⟩
  · rw [hst] at n1
    have N1 := hide n1
    have HE : Hid (cntS s ⟨at_, false, g⟩ = ((0, -1), ⟨at_ + 1, false, g⟩)) := by rw [Hid, cntS, if_pos hst]; rfl
    clear n1 n2 hst
    go_enter Tryz.func105, Tryz.ntmps105
    go_wp2_with fail
    refine (takeIf_of N1.out h hs ha).mono ?_
    rintro e w1 ⟨rfl, h1, k1⟩
    simp only [if_true] at h1
    go_wp2_with fail
    go_ret2
    rw [HE.out]
    exact ⟨k1, .inl ⟨rfl, rfl, h1⟩⟩

end Go.Proofs.YtmjdaifalgpdnaaGreat

namespace Go.Proofs.YtmjdaifalgpdnaaGreat
open Go.RowKit

/-- A part of the program's list. -/
structure PP where
  W : Nat → Nat
  group : Int
  inner : Int
  next : Int
  least : Int
  most : Int

def PP.cells (p : PP) : List Value := [.int .u64 (p.W 0 : Nat), .int .u64 (p.W 1 : Nat), .int .u64 (p.W 2 : Nat), .int .u64 (p.W 3 : Nat), .int .i64 p.group, .int .i64 p.inner, .int .i64 p.next, .int .i64 p.least, .int .i64 p.most]
def zeroPP : PP := ⟨fun _ => 0, 0, 0, 0, 0, 0⟩

def allCells : List PP → List Value
  | [] => []
  | p :: ps => p.cells ++ allCells ps
theorem allCells_append : ∀ a b, allCells (a ++ b) = allCells a ++ allCells b
  | [], b => rfl
  | p :: a, b => by simp only [List.cons_append, allCells, allCells_append a b, List.append_assoc]
theorem allCells_len : ∀ a, (allCells a).length = a.length * 9
  | [] => rfl
  | p :: a => by simp only [allCells, List.length_append, allCells_len a, List.length_cons]; simp [PP.cells]; omega

/-- The program's parts in memory. -/
def Flat (w : World) (pv : Value) (ps : List PP) : Prop := w.ownsRow 0 167 9 pv ps.length (allCells ps)

/-- Of what was there nothing has turned but block b and a row. -/
structure Kq (b : Nat) (row : Option Nat) (w w' : World) : Prop where
  os : w'.os = w.os
  tape : w'.tape = w.tape
  output : w'.output = w.output
  size : w.heap.size ≤ w'.heap.size
  block : ∀ k, k < w.heap.size → k ≠ b → some k ≠ row → w'.heap[k]? = w.heap[k]?

/-- The row is as it was, or in new memory. -/
def Fresh (w : World) (row row' : Option Nat) : Prop := row' = row ∨ ∀ k, row' = some k → w.heap.size ≤ k

section
variable {b : Nat} {row row' : Option Nat} {w w1 w2 : World}
theorem Kq.refl (b : Nat) (row : Option Nat) (w : World) : Kq b row w w := ⟨rfl, rfl, rfl, Nat.le_refl _, fun _ _ _ _ => rfl⟩
theorem Kq.of_kp (h : Kp b w w1) : Kq b row w w1 := ⟨h.os, h.tape, h.output, h.size, fun k hk hb _ => h.block k hk hb⟩
theorem Kq.trans (h : Kq b row w w1) (k : Kq b row' w1 w2) (hf : Fresh w row row') : Kq b row w w2 :=
  ⟨k.os.trans h.os, k.tape.trans h.tape, k.output.trans h.output, Nat.le_trans h.size k.size, fun i hi hb hr => by
    refine (k.block i (Nat.lt_of_lt_of_le hi h.size) hb ?_).trans (h.block i hi hb hr)
    rcases hf with e | e
    · rw [e]; exact hr
    · intro he; have := e i he.symm; omega⟩
theorem Kq.trans' (h : Kq b row w w1) (k : Kp b w1 w2) : Kq b row w w2 := h.trans (Kq.of_kp (row := row) k) (.inl rfl)
theorem Fresh.trans {row'' : Option Nat} (h : Fresh w row row') (k : Fresh w1 row' row'') (hs : w.heap.size ≤ w1.heap.size) : Fresh w row row'' := by
  rcases k with e | e
  · rw [e]; exact h
  · right; intro i hi; have := e i hi; omega
theorem Fresh.refl (w : World) (row : Option Nat) : Fresh w row row := .inl rfl
theorem Blk.kq {k : Nat} {c : Array Value} {t : TypeId} (h : Blk w k c t) (hk : Kq b row w w1) (hb : k ≠ b) (hr : some k ≠ row) : Blk w1 k c t := by
  have := hk.block k h.lt hb hr
  unfold Blk at h ⊢
  rw [this]; exact h
theorem Flat.kp {pv : Value} {ps : List PP} (h : Flat w pv ps) (hk : Kp b w w1) (hb : pv.ownBlock ≠ some b) : Flat w1 pv ps := by
  refine ⟨h.1, ?_⟩
  rcases h.2 with hn | ⟨g, cap, cur, rfl, h0, hg, rest⟩
  · exact .inl hn
  · exact .inr ⟨g, cap, cur, rfl, h0, by rw [hk.block g (Array.getElem?_eq_some_iff.1 hg).1 (fun e => hb (by simp [Value.ownBlock, e]))]; exact hg, rest⟩
theorem Flat.alloc {pv : Value} {ps : List PP} (h : Flat w pv ps) (o : Obj) : Flat (w.alloc o) pv ps := World.ownsRow.alloc h o
theorem Flat.set {pv : Value} {ps : List PP} (h : Flat w pv ps) {p : Addr} (hp : pv.ownBlock ≠ some p.block) (u : Value) : Flat (w.setCell p u) pv ps := by
  refine ⟨h.1, ?_⟩
  rcases h.2 with hn | ⟨g, cap, cur, rfl, h0, hg, rest⟩
  · exact .inl hn
  · exact .inr ⟨g, cap, cur, rfl, h0, by rw [Below.heap_setCell _ _ _ _ (fun e => hp (by simp [Value.ownBlock, e]))]; exact hg, rest⟩
theorem Flat.lt {pv : Value} {ps : List PP} (h : Flat w pv ps) : ∀ k, pv.ownBlock = some k → k < w.heap.size := fun k hk => (World.ownsRow.lt h k hk).2
end

def firstIx (lo : Nat) (l : List Part) : Int := if l.isEmpty then -1 else lo

mutual
/-- An atom as the program has laid it: what its part bears, and the parts within, from place lo on. -/
def LayA (lo : Nat) : Part → (Nat → Nat) → Int → Int → List PP → Prop
  | .mk g kids neg ps _ _, W, group, inner, ks =>
    if g = 0 then group = 0 ∧ ks = [] ∧ Holds4 W (fun c => oneB neg ps c) else group = g ∧ inner = firstIx lo kids ∧ LayL lo kids ks
/-- Parts as the program has laid them, from place lo on. -/
def LayL (lo : Nat) : List Part → List PP → Prop
  | [], qs => qs = []
  | x :: xs, qs => ∃ p ks rest, qs = p :: (ks ++ rest) ∧ LayA (lo + 1) x p.W p.group p.inner ks ∧ p.least = x.mn ∧ p.most = mxV x.mx ∧ p.next = firstIx (lo + 1 + ks.length) xs ∧ LayL (lo + 1 + ks.length) xs rest
end

/-- A part's atom, as the document reads it. -/
def atomT (s : ByteArray) (n : Nat) (st : St) : Part × St :=
  if peekOk s st = false ∨ hasL starL (peekC s st) = true then (emptyP, spoil st) else
  if peekC s st = 46 then (.mk 0 [] false ⟨#[byteOf 0, byteOf 255]⟩ 1 1, adv st) else
  if peekC s st = 91 then (.mk 0 [] (setS s (s.size + 2) (adv st)).1.1 (setS s (s.size + 2) (adv st)).1.2 1 1, (setS s (s.size + 2) (adv st)).2) else
  if peekC s st = 92 then escS s n (adv st) else (singleP (peekC s st), adv st)

theorem partS_atomT (s : ByteArray) (n : Nat) (st : St) : partS s (n + 1) st = countS s (atomT s n st) := by
  rw [partS, atomT]
  split
  · rw [countS_bad rfl]
  · rfl

theorem countS_cnt (s : ByteArray) (P : Part) (st : St) (h : st.bad = false) : countS s (P, st) = (if isB s st 42 = true ∨ isEsc s st 123 = true then upd P (cntS s st).1.1 (cntS s st).1.2 else P, (cntS s st).2) := by
  unfold cntS
  cases h1 : isB s st 42
  · cases h2 : isEsc s st 123
    · rw [countS_none (by rw [h]; simp) (by rw [h1]; simp) (by rw [h2]; simp)]; simp
    · rw [countS_bounds (by rw [h]; simp) (by rw [h1]; simp) h2]; simp
  · rw [countS_star (by rw [h]; simp) h1]; simp

theorem oneB_single (c : Int) (h0 : 0 ≤ c) (h1 : c < 256) (z : Nat) : oneB false ⟨#[byteOf c, byteOf c]⟩ z = decide ((z : Int) = c) := by
  unfold oneB
  rw [inPairs_two _ _ _ h0 h1 h0 h1]
  by_cases h : (z : Int) = c
  · simp [h]
  · have : (decide (c ≤ (z : Int)) && decide ((z : Int) ≤ c)) = false := by simp; omega
    rw [this]; simp [h]

theorem oneB_dot (z : Nat) (hz : z < 256) : oneB false ⟨#[byteOf 0, byteOf 255]⟩ z = true := by
  unfold oneB
  rw [inPairs_two 0 255 _ (by omega) (by omega) (by omega) (by omega)]
  have : (decide ((0 : Int) ≤ (z : Int)) && decide ((z : Int) ≤ 255)) = true := by simp; omega
  rw [this]; rfl

end Go.Proofs.YtmjdaifalgpdnaaGreat
