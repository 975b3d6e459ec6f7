import Derived.Test.YtjlgccfibkcgbaaProZZB
namespace Go.Proofs.Ytjlgccfibkcgbaa
open Go.RowKit Go.Shelf

theorem best_down {R : Nat → Prop} {q : Nat} (h : R q) (hn : ∀ m, q < m → ¬ R m) : Best R q := by
  refine ⟨h, fun m hm => ?_⟩
  by_cases hc : q < m
  · exact absurd hm (hn m hc)
  · omega

theorem PartV.toT {ok : Nat → Prop} {w : World} {x : Part} {v : Value} (h : PartV ok w x v) : PartV T w x v := by
  obtain ⟨g, kids, neg, ps, mn, mx⟩ := x
  obtain ⟨ka, kl, kc, xs, h1, h2, h3⟩ := h
  exact ⟨ka, kl, kc, xs, h1, h2.mono (fun _ _ _ => trivial), KRep.mono (fun _ _ _ => trivial) _ _ h3⟩

theorem PartV.agree {ok : Nat → Prop} {w w' : World} {x : Part} {v : Value} (h : PartV ok w x v) (ha : Agree ok w w') : PartV ok w' x v := by
  obtain ⟨g, kids, neg, ps, mn, mx⟩ := x
  obtain ⟨ka, kl, kc, xs, h1, h2, h3⟩ := h
  exact ⟨ka, kl, kc, xs, h1, h2.agree ha, KRep.agree ha _ _ h3⟩

theorem Kp.fence {B sb : Nat} {w w' : World} (h : Kp sb w w') (hb : B ≤ sb) : Agree (fun k => k < B) w w' := ⟨h.size, fun k hk hl => h.block k hl (by omega)⟩

/-- What one copy does to the spans. -/
def copB (s : ByteArray) (g : Nat) (kids : List Part) : Nat → Nat → List Int → List Int → Prop :=
  fun l q a b => if g = 0 then b = a else RSeq s kids l q (((clearS kids a).set (2 * g) l).set (2 * g + 1) q) b

/-- seq, from part i on. -/
def PickS (ps : List Part) (i : Nat) : Prop := ∀ (G B kb sb : Nat) (s : ByteArray) (n : Nat) (full : List Int) (p e : Nat) (ka : Option Addr) (kl kc : Nat) (xs : List Value) (w : World), s.size ≤ 1048576 → WFs G ps → 2 * G + 2 ≤ full.length → G ≤ 9 → ps.length ≤ 4000000 → B ≤ kb → B ≤ sb → PkC w kb sb s n full → Row (fun k => k < B) w (.slice ka kl kc) ps.length xs → KRep (fun k => k < B) w ps xs → p ≤ s.size → SeqR s (ps.drop i) p e →
  Calls Try.prog 37 #[.pointer (some ⟨kb, 0, none⟩), .slice ka kl kc, .int .i64 i, .int .i64 p, .int .i64 e] w fun r w' => r = .returned (.tuple #[]) ∧ ∃ ss, RSeq s (ps.drop i) p e full ss ∧ PkC w' kb sb s n ss ∧ Kp sb w w'

/-- copies, from number c on. -/
def PickC (x : Part) : Prop := ∀ (G B kb sb : Nat) (s : ByteArray) (n : Nat) (full : List Int) (c p e : Nat) (v : Value) (w : World), s.size ≤ 1048576 → WF G x → 2 * G + 2 ≤ full.length → G ≤ 9 → B ≤ kb → B ≤ sb → PkC w kb sb s n full → PartV (fun k => k < B) w x v → p ≤ s.size → c ≤ 10 + p → Copies (AtomR s x) x.mn x.mx c p e →
  Calls Try.prog 51 #[.pointer (some ⟨kb, 0, none⟩), v, .int .i64 c, .int .i64 p, .int .i64 e] w fun r w' => r = .returned (.tuple #[]) ∧ ∃ ss, RLoop s x e (copB s x.g x.kids) c p full ss ∧ PkC w' kb sb s n ss ∧ Kp sb w w'

set_option maxHeartbeats 400000 in
theorem pickS_end (ps : List Part) : PickS ps ps.length := by
  intro G B kb sb s n full p e ka kl kc xs w hs hWF hlen hG hps hkb hsb hP hR hK hp hSR
  have hkl := hR.slen
  subst hkl
  have HX := hide (And.intro hP hSR)
  clear hP hSR hR hK hWF
  go_enter Try.func37, Try.ntmps37
  go_wp2_with fail
  refine bodyPost_ret (results_none rfl _ _ _) rfl ?_
  refine ⟨rfl, full, ?_, HX.out.1, Kp.refl _ _⟩
  rw [List.drop_eq_nil_of_le (Nat.le_refl _)]
  simp only [RSeq]

set_option maxRecDepth 100000 in
set_option maxHeartbeats 3200000 in
theorem pickS_step (ps : List Part) (i : Nat) (hi : i < ps.length) (IHp : PickC ps[i]) (IHs : PickS ps (i + 1)) : PickS ps i := by
  intro G B kb sb s n full p e ka kl kc xs w hs hWF hlen hG hps hkb hsb hP hR hK hp hSR
  have hbnd := SeqR.bound s _ p e hp hSR
  have hkl := hR.slen
  subst hkl
  have hd : (i : Int) < ps.length := by omega
  obtain ⟨g, cap, rfl, -, rfl, hcap, hgB, hglt, gg, ka2, kl2, kc2, neg, pps, mn, mx, hPV, c0, c1, c2, c3, c4, c5⟩ := parts_ok hR hK i hi
  have b0 := hP.blk.cell 0 rfl
  have b1 := hP.blk.cell 1 rfl
  have bf := hP.blk.fz 0
  have hkblt := hP.blk.lt
  have hsblt := hP.row.lt
  obtain ⟨R, hRd⟩ : ∃ R : Nat → Prop, R = fun m => Copies (AtomR s ps[i]) ps[i].mn ps[i].mx 0 p m ∧ SeqR s (ps.drop (i + 1)) m e := ⟨_, rfl⟩
  have HRd := hide hRd
  have hRb : Hid (∀ m, R m → p ≤ m ∧ m ≤ e) := by
    intro m hm
    rw [hRd] at hm
    have h1 := Copies.bound (N := s.size) (fun p q hp ha => AtomR.bound s ps[i] p q hp ha) hm.1 hp
    have h2 := SeqR.bound s _ m e h1.2 hm.2
    omega
  have hEx : Hid (∃ m, R m) := by
    rw [List.drop_eq_getElem_cons hi] at hSR
    simp only [SeqR] at hSR
    rw [hRd]
    exact hSR
  have HX := hide (And.intro hP (And.intro hR (And.intro hK (And.intro hWF (And.intro hPV (And.intro IHp (And.intro IHs (And.intro (partEs_all s hs G ps hWF i hi) (And.intro (seqC_all s hs G ps hWF hps) (And.intro hSR (WFs.at ps i hi hWF)))))))))))
  clear hP hR hK hWF hPV IHp IHs hRd hSR
  go_enter Try.func37, Try.ntmps37
  go_wp2_with fail
  go_region_held3 (fun w' => w'.cell? ⟨kb, 0, none⟩ = some (.string s) ∧ w'.cell? ⟨g, i * 6, none⟩ = some (.int .i64 gg) ∧ w'.cell? ⟨g, i * 6 + 1, none⟩ = some (.slice ka2 kl2 kc2) ∧ w'.cell? ⟨g, i * 6 + 2, none⟩ = some (.bool neg) ∧ w'.cell? ⟨g, i * 6 + 3, none⟩ = some (.string pps) ∧ w'.cell? ⟨g, i * 6 + 4, none⟩ = some (.int .i64 mn) ∧ w'.cell? ⟨g, i * 6 + 5, none⟩ = some (.int .i64 mx)) (go_keep)
    (first | (go_at_call 28; refine (HX.out.2.2.2.2.2.2.2.1 _ _ 0 p (HX.out.2.2.2.2.1.toT.below ((Below.refl _ _).drew)) hp (by omega)).mono ?_; rintro e1 w1 ⟨gc, C, rfl, hBc, hgc, hC, hb1⟩; have a0 := (hb1.cell (p := ⟨kb, 0, none⟩) hkblt).trans b0; have a1 := (hb1.cell (p := ⟨g, i * 6, none⟩) hglt).trans c0; have a2 := (hb1.cell (p := ⟨g, i * 6 + 1, none⟩) hglt).trans c1; have a3 := (hb1.cell (p := ⟨g, i * 6 + 2, none⟩) hglt).trans c2; have a4 := (hb1.cell (p := ⟨g, i * 6 + 3, none⟩) hglt).trans c3; have a5 := (hb1.cell (p := ⟨g, i * 6 + 4, none⟩) hglt).trans c4; have a6 := (hb1.cell (p := ⟨g, i * 6 + 5, none⟩) hglt).trans c5))
  replace hb1 : Below w.heap.size w w1 := ((Below.refl w.heap.size w).drew).trans hb1
  clear a0 a1 a2 a3 a4 a5 a6
  have HC := hide hC
  clear hC
  go_wp2_with fail
  go_loopg [11, 12] (e + 1) (fun k qq rr w' => ∃ q : Nat, qq = .int .i64 q ∧ p ≤ q ∧ q ≤ e ∧ q < k ∧ Blk w' gc (bcells (s.size + 1) C) 4 ∧ Below w.heap.size w w' ∧ Hid (∀ m, q < m → ¬ R m))
  case atStart =>
    exact ⟨e, rfl, hbnd.1, Nat.le_refl _, by omega, hBc, hb1, fun m hm hR => by have := hRb.out m hR; omega⟩
  case round =>
    obtain ⟨q, rfl, hpq, hqe, hqk, hBc2, hBel, HN⟩ := hrel
    clear hBc hb1
    have hql1 : q < s.size + 1 := by omega
    have y1 := hBc2.cell q (bcells_get hql1)
    have hdown : Hid (¬ R q → p + 1 ≤ q ∧ ∀ m, q - 1 < m → ¬ R m) := by
      intro hnq
      have hall : ∀ m, q ≤ m → ¬ R m := fun m hm => by
        by_cases he : m = q
        · subst he; exact hnq
        · exact HN.out m (by omega)
      obtain ⟨m, hm⟩ := hEx.out
      have := hRb.out m hm
      refine ⟨?_, fun m' h => hall m' (by omega)⟩
      by_cases hc : q ≤ m
      · exact absurd hm (hall m hc)
      · omega
    cases hCq : C q
    · rw [hCq] at y1
      have hnR : ¬ R q := by
        intro h
        rw [HRd.out] at h
        have := (HC.out q (by omega)).2 h.1
        rw [hCq] at this
        cases this
      have hq1 := (hdown.out hnR).1
      have HD := hide (hdown.out hnR).2
      clear hCq hnR
      go_wp2_with fail
      go_roundg (gk - 1)
      case measure => omega
      case rel => exact ⟨q - 1, by simp only [Value.int.injEq, true_and]; omega, by omega, by omega, by omega, hBc2, hBel, HD.out⟩
    · rw [hCq] at y1
      have HCq := hide hCq
      clear hCq
      have hbS : Below w.heap.size w wr := hBel
      have d0 := (hBel.cell (p := ⟨g, i * 6, none⟩) hglt).trans c0
      have k0 := (hBel.cell (p := ⟨kb, 0, none⟩) hkblt).trans b0
      have kf := (hBel.frozen (p := ⟨kb, 0, none⟩) hkblt).trans bf
      go_wp2_with fail
      refine (HX.out.2.2.2.2.2.2.2.2.1 _ _ _ _ xs (i + 1) q ((HX.out.2.1.mono (fun _ _ _ => trivial)).below hBel) (KRep.below (KRep.mono (fun _ _ _ => trivial) _ _ HX.out.2.2.1) hBel) (by omega) (by omega)).mono ?_
      rintro e2 w2 ⟨gr, F, rfl, hBr, hgr, hF, hb2⟩
      have hel1 : e < s.size + 1 := by omega
      have y2 := hBr.cell e (bcells_get hel1)
      have hsz := hBel.size
      have hBel2 : Below w.heap.size w w2 := hBel.trans (hb2.mono hBel.size)
      have hBc3 := hBc2.below hb2
      cases hFe : F e
      · rw [hFe] at y2
        have hnR : ¬ R q := by
          intro h
          rw [HRd.out] at h
          have := (hF e (by omega)).2 h.2
          rw [hFe] at this
          cases this
        have hq1 := (hdown.out hnR).1
        have HD := hide (hdown.out hnR).2
        clear hFe hnR hF
        go_wp2_with fail
        go_roundg (gk - 1)
        case measure => omega
        case rel => exact ⟨q - 1, by simp only [Value.int.injEq, true_and]; omega, by omega, by omega, by omega, hBc3, hBel2, HD.out⟩
      · rw [hFe] at y2
        have hRq : R q := by
          rw [HRd.out]
          exact ⟨(HC.out q (by omega)).1 HCq.out, (hF e (by omega)).1 hFe⟩
        have HB : Hid (Best R q) := best_down hRq HN.out
        clear hFe hF hRq
        have d0 := (hBel2.cell (p := ⟨g, i * 6, none⟩) hglt).trans c0
        have d1 := (hBel2.cell (p := ⟨g, i * 6 + 1, none⟩) hglt).trans c1
        have d2 := (hBel2.cell (p := ⟨g, i * 6 + 2, none⟩) hglt).trans c2
        have d3 := (hBel2.cell (p := ⟨g, i * 6 + 3, none⟩) hglt).trans c3
        have d4 := (hBel2.cell (p := ⟨g, i * 6 + 4, none⟩) hglt).trans c4
        have d5 := (hBel2.cell (p := ⟨g, i * 6 + 5, none⟩) hglt).trans c5
        clear c0 c1 c2 c3 c4 c5 b0 b1 bf k0 kf y1 hBr hBc2 hBc3 hdown
        go_wp2_with fail
        have hkp2 : Kp sb w w2 := Kp.below hBel2
        have hag2 := hkp2.fence hsb
        obtain ⟨hP, hR, hK, hWF, hPV, IHp, IHs, -, -, -, hW⟩ := HX.out
        refine (IHp G B kb sb s n full 0 p q _ _ hs hW hlen hG hkb hsb (hP.kp hBel2) (hPV.agree hag2) hp (by omega) (by have := HB.out.1; rw [HRd.out] at this; exact this.1)).mono ?_
        rintro e3 w3 ⟨rfl, ss1, hL, hP3, hk3⟩
        have HY := hide (And.intro hL (And.intro hP3 hk3))
        have hl3 := hP3.len
        have hl0 := hP.len
        have hkp3 := hkp2.trans hk3
        have hag3 := hkp3.fence hsb
        have hcall := IHs G B kb sb s n ss1 q e _ _ _ xs w3 hs hWF (by omega) hG hps hkb hsb hP3 (hR.agree hag3) (KRep.agree hag3 _ _ hK) (by omega) (by have := HB.out.1; rw [HRd.out] at this; exact this.2)
        rw [show ((i + 1 : Nat) : Int) = (i : Int) + 1 from rfl] at hcall
        have HC2 := hide (And.intro hcall hkp3)
        clear hcall hL hP3 hk3 hkp3 hag3 hP hR hK hWF hPV IHp IHs hW hag2 hkp2 d0 d1 d2 d3 d4 d5 y2 hBel hBel2 hb2 hbS hl3 hl0
        go_wp2_with fail
        refine HC2.out.1.mono ?_
        rintro e4 w4 ⟨rfl, ss, hS4, hP4, hk4⟩
        have HZ := hide (And.intro hS4 (And.intro hP4 hk4))
        clear hS4 hP4 hk4
        go_wp2_with fail
        refine bodyPost_ret (results_none rfl _ _ _) rfl ?_
        refine ⟨rfl, ss, ?_, HZ.out.2.1, HC2.out.2.trans HZ.out.2.2⟩
        rw [List.drop_eq_getElem_cons hi]
        simp only [RSeq]
        have hb := HB.out
        rw [HRd.out] at hb
        refine ⟨q, ss1, hb, ?_, HZ.out.1⟩
        have hL := HY.out.1
        revert hL
        generalize ps[i] = x
        obtain ⟨g', kids, ng, pp, m1, m2⟩ := x
        intro hL
        simp only [RCop]
        exact hL
end Go.Proofs.Ytjlgccfibkcgbaa

namespace Go.Proofs.Ytjlgccfibkcgbaa
open Go.RowKit Go.Shelf

set_option maxRecDepth 100000 in
set_option maxHeartbeats 6400000 in
theorem pickC_all (x : Part) (IHk : PickS x.kids 0) : PickC x := by
  intro G B kb sb s n full c p e v w hs hWF hlen hG hkb hsb hP hPV hp hc hCo
  obtain ⟨N, hN⟩ : ∃ N, (x.mn - c).toNat + (e - p) < N := ⟨_, Nat.lt_succ_self _⟩
  induction N generalizing full c p w with
  | zero => omega
  | succ N ih =>
  have hbnd := hCo.bound (N := s.size) (fun p q hp ha => AtomR.bound s x p q hp ha) hp
  have hAC := atomC_all s hs G x hWF
  have hPC := partEnds_any s hs G x hWF (step_any s hs x hAC)
  have hCL := clear_any x.kids
  obtain ⟨g, kids, neg, ps, mn, mx⟩ := x
  have hPV0 := hPV
  obtain ⟨ka, kl, kc, xs, rfl, hRow, hKR⟩ := hPV
  have hWF0 := hWF
  simp only [WF] at hWF
  obtain ⟨hg1, -, m0, m9, x1, x9, hkl, hWk⟩ := hWF
  simp only [Part.mn, Part.mx, Part.g, Part.kids] at *
  obtain ⟨R, hRd⟩ : ∃ R : Nat → Prop, R = fun m => NextR s (.mk g kids neg ps mn mx) c p m ∧ Copies (AtomR s (.mk g kids neg ps mn mx)) mn mx (c + 1) m e := ⟨_, rfl⟩
  have HRd := hide hRd
  have hRb : Hid (∀ m, R m → p ≤ m ∧ m ≤ e) := by
    intro m hm
    rw [hRd] at hm
    have h1 := AtomR.bound s _ p m hp hm.1.2.1
    have h2 := hm.2.bound (N := s.size) (fun p q hp ha => AtomR.bound s _ p q hp ha) h1.2
    omega
  have b0 := hP.blk.cell 0 rfl
  have b1 := hP.blk.cell 1 rfl
  have bf := hP.blk.fz 0
  have hkblt := hP.blk.lt
  have hsblt := hP.row.lt
  have hBx := Blk.new w #[.int .i64 g, .slice ka kl kc, .bool neg, .string ps, .int .i64 mn, .int .i64 mx] 72
  obtain ⟨c0, c1, c2, c3, c4, c5, cf⟩ := hBx.six
  have hb0 : Below w.heap.size w (w.alloc (.cells #[.int .i64 g, .slice ka kl kc, .bool neg, .string ps, .int .i64 mn, .int .i64 mx] 72)) := (Below.refl _ _).alloc (Nat.le_refl _) _
  by_cases hst : mn ≤ c ∧ p = e
  · obtain ⟨hst, rfl⟩ := hst
    have HX := hide (And.intro hP hb0)
    clear hP hPV0 hRow hKR hWF0 hWk ih hAC hPC hCL IHk hCo hb0
    go_enter Try.func51, Try.ntmps51
    go_wp2_with fail
    refine bodyPost_ret (results_none rfl _ _ _) rfl ?_
    exact ⟨rfl, full, .stop hst, HX.out.1.kp HX.out.2, Kp.below HX.out.2⟩
  · have hmore : ((c : Int) < mn ∨ mx < 0 ∨ (c : Int) < mx) ∧ ∃ m, R m := by
      rw [hRd]
      cases hCo with
      | stop h => exact absurd ⟨h, rfl⟩ hst
      | more h1 h2 h3 h4 => exact ⟨h1, _, ⟨h1, h2, h3⟩, h4⟩
    have hEx := hide hmore.2
    have hcm := hide hmore.1
    have hgo : Hid ((c : Int) < mn ∨ p < e) := by
      by_cases h : (c : Int) < mn
      · exact .inl h
      · exact .inr (by omega)
    have key : decide (mn ≤ (c : Int)) = false ∨ (decide (mn ≤ (c : Int)) = true ∧ (p : Int) ≠ e) := by
      by_cases h : mn ≤ (c : Int)
      · right; exact ⟨by simp [h], by omega⟩
      · left; simp [h]
    have HX := hide (And.intro hP (And.intro hPV0 (And.intro hWk (And.intro hRow (And.intro hKR (And.intro hWF0 (And.intro ih (And.intro hAC (And.intro hPC (And.intro hCL (And.intro IHk hCo)))))))))))
    have HB0 := hide hb0
    clear hP hPV0 hRow hKR hWF0 hWk ih hAC hPC hCL IHk hCo hRd hmore hb0
    go_enter Try.func51, Try.ntmps51
    go_upto_region 1 with fail
    go_cut [21] (fun b wc => b = .bool false ∧ wc = w.alloc (.cells #[.int .i64 g, .slice ka kl kc, .bool neg, .string ps, .int .i64 mn, .int .i64 mx] 72))
    case first =>
      rcases key with h1 | ⟨h1, h2⟩
      · go_wp2_with fail
        go_meet
        case rel => exact ⟨by simp, rfl⟩
      · have h3 : decide ((p : Int) = e) = false := by simp; omega
        go_wp2_with fail
        go_meet
        case rel => exact ⟨by simp [h2], rfl⟩
    case rest =>
      obtain ⟨rfl, rfl⟩ := hcut
      clear key
      have k0 := (HB0.out.cell (p := ⟨kb, 0, none⟩) hkblt).trans b0
      have kf := (HB0.out.frozen (p := ⟨kb, 0, none⟩) hkblt).trans bf
      have hxlt := hBx.lt
      go_wp2_with fail
      generalize w.alloc (.cells #[.int .i64 g, .slice ka kl kc, .bool neg, .string ps, .int .i64 mn, .int .i64 mx] 72) = w0 at *
      have hkb0 : kb < w0.heap.size := by omega
      go_region_held3 (fun w' => w'.cell? ⟨kb, 0, none⟩ = some (.string s) ∧ w'.cell? ⟨w.heap.size, 0, none⟩ = some (.int .i64 g) ∧ w'.cell? ⟨w.heap.size, 1, none⟩ = some (.slice ka kl kc) ∧ w'.cell? ⟨w.heap.size, 2, none⟩ = some (.bool neg) ∧ w'.cell? ⟨w.heap.size, 3, none⟩ = some (.string ps) ∧ w'.cell? ⟨w.heap.size, 4, none⟩ = some (.int .i64 mn) ∧ w'.cell? ⟨w.heap.size, 5, none⟩ = some (.int .i64 mx)) (go_keep)
        (first | (go_at_call 58; refine (HX.out.2.2.2.2.2.2.2.1 _ _ p (HX.out.2.1.toT.below (HB0.out.drew)) hp).mono ?_; rintro e1 w1 ⟨gc, C, rfl, hBc, hgc, hC, hb1⟩; have a0 := (hb1.cell (p := ⟨kb, 0, none⟩) hkb0).trans k0; have a1 := (hb1.cell (p := ⟨w.heap.size, 0, none⟩) hxlt).trans c0; have a2 := (hb1.cell (p := ⟨w.heap.size, 1, none⟩) hxlt).trans c1; have a3 := (hb1.cell (p := ⟨w.heap.size, 2, none⟩) hxlt).trans c2; have a4 := (hb1.cell (p := ⟨w.heap.size, 3, none⟩) hxlt).trans c3; have a5 := (hb1.cell (p := ⟨w.heap.size, 4, none⟩) hxlt).trans c4; have a6 := (hb1.cell (p := ⟨w.heap.size, 5, none⟩) hxlt).trans c5))
      replace hb1 : Below w0.heap.size w0 w1 := ((Below.refl w0.heap.size w0).drew).trans hb1
      have hBx1 := hBx.below hb1
      have hbw : Below w.heap.size w w1 := HB0.out.trans (hb1.mono HB0.out.size)
      have HC := hide hC
      clear hC a0 a1 a2 a3 a4 a5 a6 c0 c1 c2 c3 c4 c5 cf k0 kf hBx
      go_wp2_with fail
      go_loopg [11, 12] (e + 1) (fun k qq rr w' => ∃ q : Nat, qq = .int .i64 q ∧ p ≤ q ∧ q ≤ e ∧ q < k ∧ Blk w' gc (bcells (s.size + 1) C) 4 ∧ Blk w' w.heap.size #[.int .i64 g, .slice ka kl kc, .bool neg, .string ps, .int .i64 mn, .int .i64 mx] 72 ∧ Below w.heap.size w w' ∧ Hid (∀ m, q < m → ¬ R m))
      case atStart =>
        exact ⟨e, rfl, hbnd.1, Nat.le_refl _, by omega, hBc, hBx1, hbw, fun m hm hR => by have := hRb.out m hR; omega⟩
      case round =>
        obtain ⟨q, rfl, hpq, hqe, hqk, hBc2, hBx2, hBel, HN⟩ := hrel
        clear hBc hb1 hBx1 hbw
        obtain ⟨c0, c1, c2, c3, c4, c5, cf⟩ := hBx2.six
        have k0 := (hBel.cell (p := ⟨kb, 0, none⟩) hkblt).trans b0
        have k1 := (hBel.cell (p := ⟨kb, 1, none⟩) hkblt).trans b1
        have hql1 : q < s.size + 1 := by omega
        have y1 := hBc2.cell q (bcells_get hql1)
        have hdown : Hid (¬ R q → p + 1 ≤ q ∧ ∀ m, q - 1 < m → ¬ R m) := by
          intro hnq
          have hall : ∀ m, q ≤ m → ¬ R m := fun m hm => by
            by_cases he : m = q
            · subst he; exact hnq
            · exact HN.out m (by omega)
          obtain ⟨m, hm⟩ := hEx.out
          have := hRb.out m hm
          refine ⟨?_, fun m' h => hall m' (by omega)⟩
          by_cases hc : q ≤ m
          · exact absurd hm (hall m hc)
          · omega
        go_upto_region 6 with fail
        go_cut [49] (fun b wc => b = .bool (C q && (decide (p < q) || decide ((c : Int) < mn))) ∧ wc = wr)
        case first =>
          cases hCq : C q
          · rw [hCq] at y1
            go_wp2_with fail
            go_meet
            case rel => exact ⟨by simp [hCq], rfl⟩
          · rw [hCq] at y1
            by_cases h1 : (p : Int) < q
            · have h1' : p < q := by omega
              go_wp2_with fail
              go_meet
              case rel => exact ⟨by simp [hCq, h1'], rfl⟩
            · have h1' : ¬ p < q := by omega
              have h1d : decide ((p : Int) < q) = false := by simp; omega
              go_wp2_with fail
              go_meet
              case rel => exact ⟨by simp [hCq, h1'], rfl⟩
        case rest =>
          obtain ⟨rfl, rfl⟩ := hcut
          cases ht : (C q && (decide (p < q) || decide ((c : Int) < mn)))
          · have hnR : ¬ R q := by
              intro h
              rw [HRd.out] at h
              obtain ⟨⟨_, h2, h3⟩, _⟩ := h
              have hc := (HC.out q (by omega)).2 h2
              rw [hc] at ht
              simp only [Part.mn] at h3
              simp at ht
              omega
            have hq1 := (hdown.out hnR).1
            have HD := hide (hdown.out hnR).2
            clear ht hnR
            go_wp2_with fail
            go_roundg (gk - 1)
            case measure => omega
            case rel => exact ⟨q - 1, by simp only [Value.int.injEq, true_and]; omega, by omega, by omega, by omega, hBc2, hBx2, hBel, HD.out⟩
          · have hnx : Hid (AtomR s (.mk g kids neg ps mn mx) p q ∧ (p < q ∨ (c : Int) < mn)) := by
              simp at ht
              exact ⟨(HC.out q (by omega)).1 ht.1, ht.2⟩
            clear ht y1
            have hsz := hBel.size
            have hkb2 : kb < wc.heap.size := by omega
            have hxl2 := hBx2.lt
            have hcall := HX.out.2.2.2.2.2.2.2.2.1 wc.drew _ (c + 1) q (HX.out.2.1.toT.below (hBel.drew)) (by omega) (by omega)
            rw [show ((c + 1 : Nat) : Int) = (c : Int) + 1 from rfl] at hcall
            simp only [Part.mn, Part.mx] at hcall
            have HCa := hide hcall
            have v1 : IntKind.i64.wrap ((c : Int) + 1) = (c : Int) + 1 := i64w _ (by omega)
            have HBB := hide (And.intro hBc2 (And.intro hBx2 hBel))
            clear hcall hBc2 hBx2 hBel
            go_wp2_with fail
            go_region_held3 (fun w' => w'.cell? ⟨kb, 0, none⟩ = some (.string s) ∧ w'.cell? ⟨w.heap.size, 0, none⟩ = some (.int .i64 g) ∧ w'.cell? ⟨w.heap.size, 1, none⟩ = some (.slice ka kl kc) ∧ w'.cell? ⟨w.heap.size, 2, none⟩ = some (.bool neg) ∧ w'.cell? ⟨w.heap.size, 3, none⟩ = some (.string ps) ∧ w'.cell? ⟨w.heap.size, 4, none⟩ = some (.int .i64 mn) ∧ w'.cell? ⟨w.heap.size, 5, none⟩ = some (.int .i64 mx)) (go_keep)
              (first | (go_at_call 28; refine HCa.out.mono ?_; rintro e2 w2 ⟨gr, F, rfl, hBr, hgr, hF, hb2⟩; have a0 := (hb2.cell (p := ⟨kb, 0, none⟩) hkb2).trans k0; have a1 := (hb2.cell (p := ⟨w.heap.size, 0, none⟩) hxl2).trans c0; have a2 := (hb2.cell (p := ⟨w.heap.size, 1, none⟩) hxl2).trans c1; have a3 := (hb2.cell (p := ⟨w.heap.size, 2, none⟩) hxl2).trans c2; have a4 := (hb2.cell (p := ⟨w.heap.size, 3, none⟩) hxl2).trans c3; have a5 := (hb2.cell (p := ⟨w.heap.size, 4, none⟩) hxl2).trans c4; have a6 := (hb2.cell (p := ⟨w.heap.size, 5, none⟩) hxl2).trans c5))
            replace hb2 : Below wc.heap.size wc w2 := ((Below.refl wc.heap.size wc).drew).trans hb2
            obtain ⟨hBc2, hBx2, hBel⟩ := HBB.out
            have hBel2 : Below w.heap.size w w2 := hBel.trans (hb2.mono hBel.size)
            have hBx3 := hBx2.below hb2
            have hBc3 := hBc2.below hb2
            have hel1 : e < s.size + 1 := by omega
            have y2 := hBr.cell e (bcells_get hel1)
            clear a0 a1 a2 a3 a4 a5 a6 c0 c1 c2 c3 c4 c5 cf k0 k1 hBc2 hBx2 hBel hb2 hBr HBB HCa
            cases hFe : F e
            · rw [hFe] at y2
              have hnR : ¬ R q := by
                intro h
                rw [HRd.out] at h
                have := (hF e (by omega)).2 h.2
                rw [hFe] at this
                cases this
              have hq1 := (hdown.out hnR).1
              have HD := hide (hdown.out hnR).2
              clear hFe hnR hF
              go_wp2_with fail
              go_roundg (gk - 1)
              case measure => omega
              case rel => exact ⟨q - 1, by simp only [Value.int.injEq, true_and]; omega, by omega, by omega, by omega, hBc3, hBx3, hBel2, HD.out⟩
            · rw [hFe] at y2
              have hRq : R q := by
                rw [HRd.out]
                exact ⟨⟨hcm.out, hnx.out⟩, (hF e (by omega)).1 hFe⟩
              have HB : Hid (Best R q) := best_down hRq HN.out
              have HF : Hid (Copies (AtomR s (.mk g kids neg ps mn mx)) mn mx (c + 1) q e) := (hF e (by omega)).1 hFe
              have hcq : c + 1 ≤ 10 + q := by rcases hnx.out.2 with h | h <;> omega
              have hms : (mn - ((c + 1 : Nat) : Int)).toNat + (e - q) < N := by rcases hnx.out.2 with h | h <;> omega
              clear hFe hF hRq hdown hBc3
              obtain ⟨c0, c1, c2, c3, c4, c5, cf⟩ := hBx3.six
              have hxl3 := hBx3.lt
              obtain ⟨hP, hPV, hWk, hRow, hKR, hWF0, ih, -, -, hCL, IHk, -⟩ := HX.out
              have hkp2 : Kp sb w w2 := Kp.below hBel2
              have hag2 := hkp2.fence hsb
              have hP2 := hP.kp hBel2
              have hxs : w.heap.size ≠ sb := by omega
              by_cases hg0 : g = 0
              · subst hg0
                have hcall := ih full (c + 1) q w2 hlen hP2 (hPV.agree hag2) (by omega) hcq HF.out hms
                rw [show ((c + 1 : Nat) : Int) = (c : Int) + 1 from rfl] at hcall
                have HCa := hide (And.intro hcall hkp2)
                clear hcall hP hPV hWk hRow hKR hWF0 ih hCL IHk hkp2 hag2 hP2 hBx3 hBel2
                go_wp2_with fail
                refine HCa.out.1.mono ?_
                rintro e4 w4 ⟨rfl, ss, hS4, hP4, hk4⟩
                have HZ := hide (And.intro hS4 (And.intro hP4 hk4))
                clear hS4 hP4 hk4
                go_wp2_with fail
                refine bodyPost_ret (results_none rfl _ _ _) rfl ?_
                refine ⟨rfl, ss, ?_, HZ.out.2.1, HCa.out.2.trans HZ.out.2.2⟩
                have hb := HB.out
                rw [HRd.out] at hb
                exact .more hgo.out hb (by simp only [copB, if_pos]) HZ.out.1
              · have hgp : (0 : Int) < g := by omega
                have hcall := hCL G B kb sb s n full ka kl kc xs w2 hWk hlen hG hkl hkb hsb hP2 (hRow.agree hag2) (KRep.agree hag2 _ _ hKR)
                have HCa := hide (And.intro hcall (And.intro hkp2 hBx3))
                clear hcall hP hPV hWk hRow hKR hWF0 ih hCL IHk hkp2 hag2 hP2 hBx3 hBel2
                go_wp2_with fail
                refine HCa.out.1.mono ?_
                rintro e3 w3 ⟨rfl, hP3, hk3⟩
                have hcl : (clearS kids full).length = full.length := (clearS_off kids full).1
                have hBx4 := HCa.out.2.2.kp hk3 hxs
                have hkp3 := HCa.out.2.1.trans hk3
                clear c0 c1 c2 c3 c4 c5 cf y2
                obtain ⟨c0, c1, c2, c3, c4, c5, cf⟩ := hBx4.six
                have d0 := hP3.blk.cell 0 rfl
                have d1 := hP3.blk.cell 1 rfl
                have df := hP3.blk.fz 0
                have hPl := hP3.len
                obtain ⟨i0, hi0⟩ : ∃ i0 : Nat, i0 = 2 * g - 2 := ⟨_, rfl⟩
                have hin : (i0 : Int) < n := by omega
                have hin1 : (i0 : Int) + 1 < n := by omega
                have hin2 : i0 < n := by omega
                have hin3 : i0 + 1 < n := by omega
                have rf := hP3.row.fz
                obtain ⟨y0, r0⟩ := hP3.cell hin2
                obtain ⟨y1, r1⟩ := hP3.cell hin3
                have hne : kb ≠ sb := hP3.ne
                have u1 : IntKind.i64.wrap (2 * (g : Int)) = 2 * (g : Int) := i64w _ (by omega)
                have u2 : IntKind.i64.wrap (2 * (g : Int) - 2) = (i0 : Int) := (i64w _ (by omega)).trans (by omega)
                have u3 : IntKind.i64.wrap (2 * (g : Int) - 1) = (i0 : Int) + 1 := (i64w _ (by omega)).trans (by omega)
                have HI := hide hi0
                have HY := hide (And.intro hP3 (And.intro hk3 (And.intro hkp3 hBx4)))
                clear hi0 hP3 hk3 hkp3 hBx4
                go_wp2_with fail
                go_region
                go_wp2_with fail
                go_region
                go_wp2_with fail
                obtain ⟨hP3, hk3, hkp3, hBx4⟩ := HY.out
                obtain ⟨hP, hPV, hWk, hRow, hKR, hWF0, ih, -, -, hCL, IHk, -⟩ := HX.out
                have e0 : 2 * g - 2 = i0 := HI.out.symm
                have e1 : 2 * g + 1 - 2 = i0 + 1 := by omega
                have hP4 := (hP3.set (2 * g) (by omega) (p : Int)).set (2 * g + 1) (by omega) (q : Int)
                rw [e0, e1] at hP4
                have hk4 : Kp sb w3 ((w3.setCell ⟨sb, i0, none⟩ (.int .i64 p)).setCell ⟨sb, i0 + 1, none⟩ (.int .i64 q)).drew.drew := ((((Kp.refl sb w3).set i0 (.int .i64 p)).set (i0 + 1) (.int .i64 q)).drew).drew
                have hP5 : PkC ((w3.setCell ⟨sb, i0, none⟩ (.int .i64 p)).setCell ⟨sb, i0 + 1, none⟩ (.int .i64 q)).drew.drew kb sb s n (((clearS kids full).set (2 * g) p).set (2 * g + 1) q) := ⟨hP4.blk, hP4.row, hP4.len, hP4.ne⟩
                have hkp4 := hkp3.trans hk4
                have hag4 := hkp4.fence hsb
                have hSq : SeqR s (kids.drop 0) p q := by
                  have := hnx.out.1
                  simp only [AtomR] at this
                  rw [if_neg hg0] at this
                  exact this
                have hcall := IHk G B kb sb s n _ p q ka kl kc xs _ hs hWk (by simp only [List.length_set]; omega) hG hkl hkb hsb hP5 (hRow.agree hag4) (KRep.agree hag4 _ _ hKR) hp hSq
                have HCb := hide (And.intro hcall (And.intro hkp4 (hBx4.kp hk4 hxs)))
                clear hcall hP hPV hWk hRow hKR hWF0 ih hCL IHk hP3 hk3 hkp3 hBx4 hP4 hk4 hP5 hkp4 hag4 e0 e1
                refine HCb.out.1.mono ?_
                rintro e5 w5 ⟨rfl, ss1, hS5, hP5, hk5⟩
                have hkp5 := HCb.out.2.1.trans hk5
                have hBx5 := HCb.out.2.2.kp hk5 hxs
                clear c0 c1 c2 c3 c4 c5 cf d0 d1 df rf r0 r1
                obtain ⟨c0, c1, c2, c3, c4, c5, cf⟩ := hBx5.six
                obtain ⟨hP, hPV, hWk, hRow, hKR, hWF0, ih, -, -, hCL, IHk, -⟩ := HX.out
                have hl5 := hP5.len
                have hcall := ih ss1 (c + 1) q w5 (by omega) hP5 (hPV.agree (hkp5.fence hsb)) (by omega) hcq HF.out hms
                rw [show ((c + 1 : Nat) : Int) = (c : Int) + 1 from rfl] at hcall
                have HCc := hide (And.intro hcall (And.intro hkp5 hS5))
                clear hcall hP hPV hWk hRow hKR hWF0 ih hCL IHk hS5 hP5 hk5 hkp5 hBx5
                go_wp2_with fail
                refine HCc.out.1.mono ?_
                rintro e6 w6 ⟨rfl, ss, hS6, hP6, hk6⟩
                have HZ := hide (And.intro hS6 (And.intro hP6 hk6))
                clear hS6 hP6 hk6
                go_wp2_with fail
                refine bodyPost_ret (results_none rfl _ _ _) rfl ?_
                refine ⟨rfl, ss, ?_, HZ.out.2.1, HCc.out.2.1.trans HZ.out.2.2⟩
                have hb := HB.out
                rw [HRd.out] at hb
                refine .more hgo.out hb ?_ HZ.out.1
                simp only [copB]
                rw [if_neg hg0]
                exact HCc.out.2.2

theorem pickS_from (ps : List Part) (IH : ∀ k (h : k < ps.length), PickC ps[k]) : ∀ d i, i + d = ps.length → PickS ps i
  | 0, i, h => by
    have : i = ps.length := by omega
    subst this; exact pickS_end ps
  | d + 1, i, h => pickS_step ps i (by omega) (IH i (by omega)) (pickS_from ps IH d (i + 1) (by omega))

mutual
theorem pickC_any : ∀ x : Part, PickC x
  | .mk g kids neg ps mn mx => pickC_all (.mk g kids neg ps mn mx) (pickS_from kids (pick_at kids) kids.length 0 (by omega))
theorem pick_at : ∀ (l : List Part) (k : Nat) (h : k < l.length), PickC l[k]
  | [], k, h => by simp at h
  | x :: _, 0, _ => pickC_any x
  | _ :: xs, k + 1, h => pick_at xs k (by simpa using h)
end

/-- seq, whole. -/
theorem seq_any (ps : List Part) : PickS ps 0 := pickS_from ps (pick_at ps) ps.length 0 (by omega)
end Go.Proofs.Ytjlgccfibkcgbaa

namespace Go.Proofs.Ytjlgccfibkcgbaa
open Go.RowKit Go.Shelf

/-- All numbers above lo, up to hi, are there. -/
def Cov (lo hi : Nat) (gs : List Nat) : Prop := ∀ g, lo < g → g ≤ hi → g ∈ gs

theorem Cov.nil (lo : Nat) (gs : List Nat) : Cov lo lo gs := fun g h1 h2 => by omega
theorem Cov.app {lo mid hi : Nat} {a b : List Nat} (h : Cov lo mid a) (k : Cov mid hi b) : Cov lo hi (a ++ b) := fun g h1 h2 => by
  by_cases hc : g ≤ mid
  · exact List.mem_append_left _ (h g h1 hc)
  · exact List.mem_append_right _ (k g (by omega) h2)
theorem Cov.cons {lo hi : Nat} {a : List Nat} (h : Cov (lo + 1) hi a) : Cov lo hi ((lo + 1) :: a) := fun g h1 h2 => by
  by_cases hc : g = lo + 1
  · subst hc; exact List.mem_cons_self
  · exact List.mem_cons_of_mem _ (h g (by omega) h2)

theorem cov_all (s : ByteArray) (n : Nat) :
    (∀ st, Cov st.g (partS s n st).2.g (grpsP (partS s n st).1)) ∧ (∀ st, Cov st.g (escS s n st).2.g (grpsP (escS s n st).1)) ∧ (∀ inner st l lo, Cov lo st.g (grpsL l) → Cov lo (partsS s inner n st l).2.g (grpsL (partsS s inner n st l).1)) := by
  have he : ∀ st : St, Cov st.g (spoil st).g (grpsP emptyP) := fun st => Cov.nil _ _
  have hs : ∀ (st : St) (c : Int), Cov st.g (adv st).g (grpsP (singleP c)) := fun st c => Cov.nil _ _
  induction n with
  | zero =>
    refine ⟨fun st => ?_, fun st => ?_, fun inner st l lo h => ?_⟩
    · simp only [partS]; exact he st
    · simp only [escS]; exact he st
    · simp only [partsS]; exact h
  | succ n ih =>
    obtain ⟨ihp, ihe, ihs⟩ := ih
    refine ⟨fun st => ?_, fun st => ?_, fun inner st l lo h => ?_⟩
    · rw [partS]
      split
      · exact he st
      · rw [count_g, grps_count]
        split
        · exact Cov.nil _ _
        · split
          · simp only [set_g]; exact Cov.nil _ _
          · split
            · exact ihe (adv st)
            · exact hs st _
    · rw [escS]
      split
      · exact he st
      · split
        · exact hs st _
        · split
          · exact hs st _
          · simp only [grpsP, eatIf_g]
            rw [if_neg (by omega)]
            exact Cov.cons (ihs true (opened st) [] (st.g + 1) (Cov.nil _ _))
    · rw [partsS]
      split
      · exact h
      · refine ihs inner _ _ lo ?_
        rw [grpsL_app]
        simp only [grpsL, List.append_nil]
        exact h.app (ihp st)

/-- Every group of an expression is there. -/
theorem ex_cov (s : ByteArray) : Cov 0 (exS s).1.groups (grpsL (exS s).1.parts) := by
  have h := (cov_all s (2 * s.size + 2)).2.2 false (advIf s 94 (zeroed ⟨0, false, 0⟩)) [] (advIf s 94 (zeroed ⟨0, false, 0⟩)).g (Cov.nil _ _)
  have hg : (advIf s 94 (zeroed ⟨0, false, 0⟩)).g = 0 := by unfold advIf; split <;> rfl
  rw [hg] at h
  have hg2 : (exS s).1.groups = (partsS s false (2 * s.size + 2) (advIf s 94 (zeroed ⟨0, false, 0⟩)) []).2.g := rfl
  rw [hg2]
  exact h

/-- What clear makes of the new spans. -/
theorem clear_span0 {ps : List Part} {G p q : Nat} (h1 : ∀ g, g ∈ grpsL ps → 0 < g) (h2 : Cov 0 G (grpsL ps)) : clearS ps ((p : Int) :: (q : Int) :: List.replicate (2 * G) 0) = span0 p q G := by
  have ho := clearS_off ps ((p : Int) :: (q : Int) :: List.replicate (2 * G) 0)
  have hb := clearS_bare ps ((p : Int) :: (q : Int) :: List.replicate (2 * G) 0)
  have hl : (clearS ps ((p : Int) :: (q : Int) :: List.replicate (2 * G) 0)).length = 2 * G + 2 := by rw [ho.1]; simp
  refine ext_getD (by rw [hl]; simp [span0]) fun k hk => ?_
  rw [hl] at hk
  rcases k with _ | _ | k
  · rw [ho.2 0 (fun h => by have := h1 _ h; omega)]; rfl
  · rw [ho.2 1 (fun h => by have := h1 _ h; omega)]; rfl
  · have hm : (k + 2) / 2 ∈ grpsL ps := h2 _ (by omega) (by omega)
    rw [hb (k + 2) hm (by rw [hl]; exact hk)]
    have : k < 2 * G := by omega
    simp [span0, this]
end Go.Proofs.Ytjlgccfibkcgbaa
