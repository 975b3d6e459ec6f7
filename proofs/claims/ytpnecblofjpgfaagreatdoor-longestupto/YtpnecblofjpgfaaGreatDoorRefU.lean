import Derived.Test.YtpnecblofjpgfaaGreatDoorRefT
import Derived.Deep.DeepCutAuto
namespace Go.Proofs.YtpnecblofjpgfaaGreatDoor
open Go.RowKit

def PartEC (s : ByteArray) (x : Part) : Prop := ∀ (w : World) (v : Value) (n p : Nat), PartV T w x v → p ≤ s.size → n ≤ 2000000 →
  Calls Tryz.prog 30 #[v, .int .i64 n, .string s, .int .i64 p] w fun e w' => Says s w w' e (Copies (AtomR s x) x.mn x.mx n p)

theorem inner_m {N q : Nat} {M V : Nat → Bool} {v : Bool} (h : ∀ z, z ≤ N → M z = (decide (z < q) && V z)) (hv : v = V q) : ∀ z, z ≤ N → put M q v z = (decide (z < q + 1) && V z) := by
  intro z hz
  unfold put
  by_cases hzq : z = q
  · subst hzq; simp [hv]
  · rw [if_neg hzq, h z hz]
    have : decide (z < q) = decide (z < q + 1) := by rw [Bool.eq_iff_iff]; simp; omega
    rw [this]
theorem inner_s {N q : Nat} {V : Nat → Bool} {s2 s3 : Bool} (h : s2 = true ↔ ∃ z, z < q ∧ z ≤ N ∧ V z = true) (hv : s3 = (s2 || V q)) (hq : q ≤ N) : s3 = true ↔ ∃ z, z < q + 1 ∧ z ≤ N ∧ V z = true := by
  rw [hv, Bool.or_eq_true, h]
  constructor
  · rintro (⟨z, h1, h2⟩ | h1)
    · exact ⟨z, by omega, h2⟩
    · exact ⟨q, by omega, hq, h1⟩
  · rintro ⟨z, h1, h2, h3⟩
    by_cases hzq : z = q
    · subst hzq; exact .inr h3
    · exact .inl ⟨z, by omega, h2, h3⟩

set_option maxRecDepth 100000 in
set_option maxHeartbeats 3200000 in
theorem partEnds_any (s : ByteArray) (hs : s.size ≤ 1048576) (G : Nat) (x : Part) (hx : WF G x) (ih : StepC s x) : PartEC s x := by
  intro w v n p hv hp hn
  have IH := hide ih
  clear ih
  have hmk := make_bools s.size hs
  have HV := hide hv
  have hAb : Hid (∀ p q, p ≤ s.size → AtomR s x p q → p ≤ q ∧ q ≤ s.size) := fun p q h1 h2 => AtomR.bound s x p q h1 h2
  obtain ⟨g, kids, neg, ps, mn, mx⟩ := x
  obtain ⟨ka, kl, kc, xs, rfl, hRow, hKR⟩ := hv
  simp only [WF] at hx
  obtain ⟨-, -, m0, m9, x1, x9, -, -⟩ := hx
  clear hRow hKR
  have hp1 : p < s.size + 1 := by omega
  have l0 := (Blk.newAt (w := w.alloc (.cells #[.int .i64 g, .slice ka kl kc, .bool neg, .string ps, .int .i64 mn, .int .i64 mx] 76)) (k := w.heap.size + 1) (c := bcells (s.size + 1) (fun _ => false)) (t := 4) (by simp))
  have l1 := l0.cell p (bcells_get hp1)
  have lf := l0.fz p
  go_enter Tryz.func30, Tryz.ntmps30
  go_wp2_with fail
  go_loopg [9, 10] (mn - n).toNat (fun k l i w' => ∃ (kk gl : Nat) (L : Nat → Bool), l = .slice (some ⟨gl, 0, none⟩) (s.size + 1) (s.size + 1) ∧ i = .int .i64 kk ∧ Blk w' gl (bcells (s.size + 1) L) 4 ∧ w.heap.size < gl ∧ Blk w' w.heap.size #[.int .i64 g, .slice ka kl kc, .bool neg, .string ps, .int .i64 mn, .int .i64 mx] 76 ∧ Below w.heap.size w w' ∧ n ≤ kk ∧ (kk = n ∨ (kk : Int) ≤ mn) ∧ mn ≤ kk + k ∧ (∀ q, Copies (AtomR s (.mk g kids neg ps mn mx)) mn mx n p q ↔ ∃ r, (r ≤ s.size ∧ L r = true) ∧ Copies (AtomR s (.mk g kids neg ps mn mx)) mn mx kk r q))
  case atStart =>
    refine ⟨n, w.heap.size + 1, put (fun _ => false) p true, rfl, rfl, by rw [bcells_set]; exact Blk.newAt (by simp), by omega, (Blk.new _ _ _).alloc _, ((Below.refl _ _).alloc (Nat.le_refl _) _).alloc (by simp) _, Nat.le_refl _, .inl rfl, by omega, ?_⟩
    intro q
    constructor
    · intro h; exact ⟨p, ⟨hp, by simp [put]⟩, h⟩
    · rintro ⟨r, ⟨_, h1⟩, h2⟩
      have : r = p := by
        simp only [put] at h1
        split at h1
        · assumption
        · cases h1
      subst this; exact h2
  case round =>
    obtain ⟨kk, gl, L, rfl, rfl, hBl, hgl, hBx, hBel, hnk, hkn, hmk2, hC⟩ := hrel
    have HC := hide hC
    clear hC l1 lf l0
    obtain ⟨c0, c1, c2, c3, c4, c5, cf⟩ := hBx.six
    by_cases hlt : (kk : Int) < mn
    · go_wp2_with fail
      refine (IH.out _ _ gl L false (HV.out.below hBel) hBl).mono ?_
      rintro e w1 ⟨gc, C, rfl, hBc, hgc, hCC, hb1⟩
      have HCC := hide hCC
      clear hCC
      have hsz := hBel.size
      have hxl := hBx.lt
      go_wp2_with fail
      go_roundg (gk - 1)
      case measure => omega
      case rel =>
        refine ⟨kk + 1, gc, C, rfl, by go_num, hBc, by omega, hBx.below hb1, hBel.trans (hb1.mono hsz), by omega, .inr (by omega), by omega, ?_⟩
        intro q
        rw [HC.out q]
        constructor
        · rintro ⟨r, ⟨h1, h2⟩, h3⟩
          obtain ⟨r', h4, h5⟩ := (Copies.first hlt).1 h3
          have hb := hAb.out r r' h1 h4
          exact ⟨r', ⟨hb.2, (HCC.out r' hb.2).2 ⟨r, h1, h2, h4, .inr rfl⟩⟩, h5⟩
        · rintro ⟨r', ⟨h1, h2⟩, h3⟩
          obtain ⟨r, h4, h5, h6, _⟩ := (HCC.out r' h1).1 h2
          exact ⟨r, ⟨h4, h5⟩, (Copies.first hlt).2 ⟨r', h6, h3⟩⟩
    · go_upto_region 9 with fail
      go_cut [13] (fun m wc => m = .int .i64 kk ∧ wc = wr)
      case first =>
        have HE := hide (And.intro hnk (And.intro hkn hlt))
        clear hnk hkn hlt hmk2
        go_wp2_with fail
        all_goals
          go_meet
          case rel =>
            obtain ⟨hnk, hkn, hlt⟩ := HE.out
            exact ⟨by simp only [Value.int.injEq, true_and]; omega, rfl⟩
      case rest =>
        obtain ⟨rfl, rfl⟩ := hcut
        have hKK : mn ≤ (kk : Int) := by omega
        have hk2 : kk ≤ 2000009 := by omega
        have hcl := cnt_le L (s.size + 1)
        clear c0 c1 c2 c3 c4 c5 cf
        obtain ⟨L0, hL0⟩ : ∃ L0 : Nat → Prop, L0 = fun r => r ≤ s.size ∧ L r = true := ⟨_, rfl⟩
        have HL0 := hide hL0
        have HN : Hid (∀ r, L0 r → r ≤ s.size) := fun r h => by rw [hL0] at h; exact h.1
        have HQ : Hid (∀ q, Copies (AtomR s (.mk g kids neg ps mn mx)) mn mx n p q ↔ ∃ r, L0 r ∧ Copies (AtomR s (.mk g kids neg ps mn mx)) mn mx kk r q) := by rw [Hid, hL0]; exact HC.out
        have HP0 : Hid (PE (AtomR s (.mk g kids neg ps mn mx)) mx s.size kk L0 L L true 0) := PE.start (fun q hq => by rw [hL0]; exact ⟨fun h => ⟨hq, h⟩, fun h => h.2⟩)
        clear hL0 HC
        go_wp2_with fail
        go_loopg [9, 11, 12, 13, 14, 15, 16] (2 * cnt L (s.size + 1) + 1) (fun k l a sm i nx mo q w' => ∃ (gl ga j : Nat) (L B : Nat → Bool) (s1 : Bool), l = .slice (some ⟨gl, 0, none⟩) (s.size + 1) (s.size + 1) ∧ a = .slice (some ⟨ga, 0, none⟩) (s.size + 1) (s.size + 1) ∧ sm = .bool s1 ∧ i = .int .i64 ((kk + j : Nat) : Int) ∧ Blk w' gl (bcells (s.size + 1) L) 4 ∧ Blk w' ga (bcells (s.size + 1) B) 4 ∧ w.heap.size < gl ∧ w.heap.size < ga ∧ Blk w' w.heap.size #[.int .i64 g, .slice ka kl kc, .bool neg, .string ps, .int .i64 mn, .int .i64 mx] 76 ∧ Below w.heap.size w w' ∧ Hid (PE (AtomR s (.mk g kids neg ps mn mx)) mx s.size kk L0 L B s1 j) ∧ j + k ≤ 2 * (s.size + 1) + 1 ∧ 2 * cnt L (s.size + 1) + (if s1 then 1 else 0) ≤ k)
        case atStart =>
          exact ⟨gl, gl, 0, L, L, true, rfl, rfl, rfl, rfl, hBl, hBl, hgl, hgl, hBx, hBel, HP0, by omega, by simp⟩
        case round =>
          obtain ⟨gl2, ga, j, L2, B, s1, rfl, rfl, rfl, rfl, hBl2, hBa, hgl2, hga, hBx2, hBel2, HP, hjk, hck⟩ := hrel
          obtain ⟨c0, c1, c2, c3, c4, c5, cf⟩ := hBx2.six
          clear HP0 hBl hBx hBel hcl
          go_upto_region 10 with fail
          go_cut [51] (fun c wc => c = .bool (s1 && (decide (mx < 0) || decide ((kk : Int) + j < mx))) ∧ wc = wr)
          case first =>
            cases s1
            · go_wp2_with fail
              go_meet
              case rel => exact ⟨by simp, rfl⟩
            · by_cases hx0 : mx < 0
              · go_wp2_with fail
                go_meet
                case rel => exact ⟨by simp [hx0], rfl⟩
              · have hd : decide (mx < 0) = false := by simp; omega
                go_wp2_with fail
                go_meet
                case rel => exact ⟨by simp [hd], rfl⟩
          case rest =>
            obtain ⟨rfl, rfl⟩ := hcut
            cases hcd : (s1 && (decide (mx < 0) || decide ((kk : Int) + j < mx)))
            · have HCD := hide hcd
              clear hcd
              go_wp2_with fail
              go_ret
              refine ⟨gl2, L2, rfl, hBl2, by omega, ?_, hBel2⟩
              intro q hq
              show _ ↔ Copies _ mn mx n p q
              rw [HQ.out q]
              cases s1
              · exact HP.out.done1 hAb.out HN.out hKK rfl q hq
              · have := HCD.out
                simp at this
                exact HP.out.done2 hKK (by omega) (by omega) q hq
            · have HGO : Hid (mx < 0 ∨ (kk : Int) + j < mx) := by simp at hcd; exact hcd.2
              have hs1 : s1 = true := by simp at hcd; exact hcd.1
              subst hs1
              clear hcd
              go_wp2_with fail
              refine (IH.out _ _ ga B true (HV.out.below hBel2) hBa).mono ?_
              rintro e w1 ⟨gc, X, rfl, hBX, hgc, hX, hb1⟩
              have HX := hide hX
              clear hX
              obtain ⟨k0, hk0⟩ : ∃ k0, k0 = gk := ⟨_, rfl⟩
              have HK0 := hide hk0
              clear hk0
              have hl9 := hBl2.lt
              have hx9 := hBx2.lt
              have hs9 := hb1.size
              have hc9 := hBX.lt
              have hBl3 := hBl2.below hb1
              have hBx3 := hBx2.below hb1
              have hBel3 : Below w.heap.size w w1 := hBel2.trans (hb1.mono hBel2.size)
              clear c0 c1 c2 c3 c4 c5 cf hb1 hBl2 hBa hBx2 hBel2
              go_wp2_with fail
              have hM0 : Blk ((w1.alloc (.cells (bcells (s.size + 1) fun _ => false) 4)).alloc (.cells (bcells (s.size + 1) fun _ => false) 4)) w1.heap.size (bcells (s.size + 1) fun _ => false) 4 := (Blk.new _ _ _).alloc _
              have hN0 : Blk ((w1.alloc (.cells (bcells (s.size + 1) fun _ => false) 4)).alloc (.cells (bcells (s.size + 1) fun _ => false) 4)) (w1.heap.size + 1) (bcells (s.size + 1) fun _ => false) 4 := Blk.newAt (by simp)
              have hBl4 := (hBl3.alloc (.cells (bcells (s.size + 1) fun _ => false) 4)).alloc (.cells (bcells (s.size + 1) fun _ => false) 4)
              have hBx4 := (hBx3.alloc (.cells (bcells (s.size + 1) fun _ => false) 4)).alloc (.cells (bcells (s.size + 1) fun _ => false) 4)
              have hBX4 := (hBX.alloc (.cells (bcells (s.size + 1) fun _ => false) 4)).alloc (.cells (bcells (s.size + 1) fun _ => false) 4)
              have hBel4 := (hBel3.alloc hBel3.size (.cells (bcells (s.size + 1) fun _ => false) 4)).alloc (by simp; omega) (.cells (bcells (s.size + 1) fun _ => false) 4)
              generalize (w1.alloc (.cells (bcells (s.size + 1) fun _ => false) 4)).alloc (.cells (bcells (s.size + 1) fun _ => false) 4) = w4 at *
              generalize w1.heap.size = gm at *
              go_loopg [12, 16] (s.size + 1) (fun k sm i w' => ∃ (q : Nat) (M B' : Nat → Bool) (s2 : Bool), sm = .bool s2 ∧ i = .int .i64 q ∧ q + k = s.size + 1 ∧ Blk w' gm (bcells (s.size + 1) M) 4 ∧ Blk w' (gm + 1) (bcells (s.size + 1) B') 4 ∧ Blk w' gl2 (bcells (s.size + 1) L2) 4 ∧ Blk w' w.heap.size #[.int .i64 g, .slice ka kl kc, .bool neg, .string ps, .int .i64 mn, .int .i64 mx] 76 ∧ Blk w' gc (bcells (s.size + 1) X) 4 ∧ Below w.heap.size w w' ∧ Hid ((∀ z, z ≤ s.size → M z = (decide (z < q) && (L2 z || X z))) ∧ (∀ z, z ≤ s.size → B' z = (decide (z < q) && (X z && !L2 z))) ∧ (s2 = true ↔ ∃ z, z < q ∧ z ≤ s.size ∧ (X z && !L2 z) = true)))
              case atStart =>
                exact ⟨0, fun _ => false, fun _ => false, false, rfl, rfl, by omega, hM0, hN0, hBl4, hBx4, hBX4, hBel4, fun z _ => by simp, fun z _ => by simp, by constructor; (intro h; cases h); (rintro ⟨z, h, _⟩; omega)⟩
              case round =>
                obtain ⟨q, M, B', s2, rfl, rfl, hqk, hM5, hN5, hBl5, hBx5, hBX5, hBel5, HI⟩ := hrel
                clear hM0 hN0 hBl4 hBx4 hBX4 hBel4 hBl3 hBx3 hBX hBel3
                by_cases hql : q ≤ s.size
                · have hql1 : q < s.size + 1 := by omega
                  have y1 := hBl5.cell q (bcells_get hql1)
                  have y2 := hBX5.cell q (bcells_get hql1)
                  have y3 := hM5.cell q (bcells_get hql1)
                  have y4 := hN5.cell q (bcells_get hql1)
                  have y5 := hM5.fz q
                  have y6 := hN5.fz q
                  have n1 : ¬ gm = gl2 := by omega
                  have n2 : ¬ gm = gc := by omega
                  have n3 : ¬ gm + 1 = gl2 := by omega
                  have n4 : ¬ gm + 1 = gc := by omega
                  go_upto_region 19 with fail
                  go_cut [] (fun wc => Blk wc gm (bcells (s.size + 1) (put M q (L2 q || X q))) 4 ∧ Blk wc (gm + 1) (bcells (s.size + 1) B') 4 ∧ Blk wc gl2 (bcells (s.size + 1) L2) 4 ∧ Blk wc w.heap.size #[.int .i64 g, .slice ka kl kc, .bool neg, .string ps, .int .i64 mn, .int .i64 mx] 76 ∧ Blk wc gc (bcells (s.size + 1) X) 4 ∧ Below w.heap.size w wc)
                  case first =>
                    cases hL : L2 q <;> cases hX : X q
                    all_goals
                      rw [hL] at y1
                      rw [hX] at y2
                      have HLX := hide (And.intro hL hX)
                      clear hL hX
                      go_wp2_with fail
                      go_meet
                      case rel =>
                        exact ⟨hM5.set q _ ((bcells_set _ _ _ _).trans (by rw [HLX.out.1, HLX.out.2]; rfl)), hN5.other (by simp) _, hBl5.other (by simp; omega) _, hBx5.other (by simp; omega) _, hBX5.other (by simp; omega) _, hBel5.setCell (by simp; omega) _⟩
                  case rest =>
                    obtain ⟨hM6, hN6, hBl6, hBx6, hBX6, hBel6⟩ := hcut
                    clear y1 y2 y3 y4 y5 y6 hM5 hN5 hBl5 hBx5 hBX5 hBel5
                    generalize wc = w6 at *
                    have y1 := hBl6.cell q (bcells_get hql1)
                    have y2 := hBX6.cell q (bcells_get hql1)
                    have y4 := hN6.cell q (bcells_get hql1)
                    have y6 := hN6.fz q
                    go_upto_region 20 with fail
                    go_cut [] (fun wc => Blk wc gm (bcells (s.size + 1) (put M q (L2 q || X q))) 4 ∧ Blk wc (gm + 1) (bcells (s.size + 1) (put B' q (X q && !L2 q))) 4 ∧ Blk wc gl2 (bcells (s.size + 1) L2) 4 ∧ Blk wc w.heap.size #[.int .i64 g, .slice ka kl kc, .bool neg, .string ps, .int .i64 mn, .int .i64 mx] 76 ∧ Blk wc gc (bcells (s.size + 1) X) 4 ∧ Below w.heap.size w wc)
                    case first =>
                      cases hL : L2 q <;> cases hX : X q
                      all_goals
                        rw [hL] at y1
                        rw [hX] at y2
                        have HLX := hide (And.intro hL hX)
                        clear hL hX
                        go_wp2_with fail
                        go_meet
                        case rel =>
                          exact ⟨hM6.other (by simp) _, hN6.set q _ ((bcells_set _ _ _ _).trans (by rw [HLX.out.1, HLX.out.2]; rfl)), hBl6.other (by simp; omega) _, hBx6.other (by simp; omega) _, hBX6.other (by simp; omega) _, hBel6.setCell (by simp; omega) _⟩
                    case rest =>
                      obtain ⟨hM7, hN7, hBl7, hBx7, hBX7, hBel7⟩ := hcut
                      clear y1 y2 y4 y6 hM6 hN6 hBl6 hBx6 hBX6 hBel6
                      generalize wc = w7 at *
                      have y4 := hN7.cell q (bcells_get hql1)
                      have hpq : put B' q (X q && !L2 q) q = (X q && !L2 q) := by simp [put]
                      rw [hpq] at y4
                      generalize hxl : (X q && !L2 q) = xl at *
                      have HXL := hide hxl
                      clear hxl hpq
                      cases s2
                      all_goals
                        go_wp2_with fail
                        go_roundg (gk - 1)
                        case measure => omega
                        case rel =>
                          obtain ⟨i1, i2, i3⟩ := HI.out
                          refine ⟨q + 1, _, _, _, rfl, by go_num, by omega, hM7, hN7, hBl7, hBx7, hBX7, hBel7, inner_m i1 rfl, inner_m i2 HXL.out.symm, by first | exact inner_s (s2 := false) i3 (by rw [HXL.out]; simp) hql | exact inner_s (s2 := true) (by simpa using i3) (by rw [HXL.out]; simp) hql⟩
                · go_wp2_with fail
                  obtain ⟨i1, i2, i3⟩ := HI.out
                  have eM : ∀ z, z ≤ s.size → M z = (L2 z || X z) := fun z hz => by rw [i1 z hz]; simp; intro _; omega
                  have eB : ∀ z, z ≤ s.size → B' z = (X z && !L2 z) := fun z hz => by rw [i2 z hz]; simp; intro _ _; omega
                  have HP' : Hid (PE (AtomR s (.mk g kids neg ps mn mx)) mx s.size kk L0 M B' s2 (j + 1)) := HP.out.next hAb.out HN.out HX.out eM eB (fun h z hz => by
                    cases hb : B' z
                    · rfl
                    · rw [h] at i3
                      have := i3.2 ⟨z, by omega, hz, by rw [← eB z hz]; exact hb⟩
                      cases this) HGO.out
                  have hmono : cnt M (s.size + 1) ≤ cnt L2 (s.size + 1) := cnt_mono _ (fun z hz h => by rw [eM z (by omega), h]; rfl)
                  have hlt2 : s2 = true → cnt M (s.size + 1) < cnt L2 (s.size + 1) := fun h => by
                    obtain ⟨z, h1, h2, h3⟩ := i3.1 h
                    simp only [Bool.and_eq_true, Bool.not_eq_true'] at h3
                    exact cnt_lt _ (fun z hz h => by rw [eM z (by omega), h]; rfl) ⟨z, by omega, h3.2, by rw [eM z h2, h3.1]; simp⟩
                  have hkk := HK0.out
                  have hm2 : 2 * cnt M (s.size + 1) + (if s2 then 1 else 0) < k0 := by
                    cases s2
                    · simp at hck ⊢; omega
                    · have := hlt2 rfl; simp at hck ⊢; omega
                  go_roundg (2 * cnt M (s.size + 1) + (if s2 then 1 else 0))
                  case measure => omega
                  case rel =>
                    exact ⟨gm, gm + 1, j + 1, M, B', s2, rfl, rfl, rfl, by go_num, hM5, hN5, by omega, by omega, hBx5, hBel5, HP', by omega, Nat.le_refl _⟩
end Go.Proofs.YtpnecblofjpgfaaGreatDoor
