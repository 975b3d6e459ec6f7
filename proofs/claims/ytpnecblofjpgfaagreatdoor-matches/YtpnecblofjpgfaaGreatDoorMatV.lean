import Derived.Test.YtpnecblofjpgfaaGreatDoorMatT
namespace Go.Proofs.YtpnecblofjpgfaaGreatDoor
open Go.RowKit Go.Shelf

/-- What setting spans leaves. -/
def SpanP (C : MC) (w : World) (sv : Value) (sb : Nat) (ss : List Int) (R : List Int → Prop) (r : Ending) (w' : World) : Prop :=
  ∃ ss' D', r = .returned (.tuple #[]) ∧ R ss' ∧ Ints w' sv ss' ∧ ss'.length = ss.length ∧ MS C w' D' ∧ Kq C.mm (some sb) w w'

def SpanLC (C : MC) (Gm : Nat) (ps : List Part) : Prop := ∀ (i : Int) (p e : Nat) (sv : Value) (sb : Nat) (ss : List Int) (w : World) (D : DataW Value), AtW C i ps → WFs Gm ps → 2 * Gm + 2 ≤ ss.length → ss.length ≤ 1000 → p ≤ C.s.size → e ≤ C.s.size → SeqR C.s ps p e → MS C w D → Ints w sv ss → sv.ownBlock = some sb →
  Calls Tryz.prog 44 #[.pointer (some ⟨C.mb, 0, none⟩), sv, .int .i64 i, .int .i64 (p : Nat), .int .i64 (e : Nat)] w (SpanP C w sv sb ss (SpanR C.s ps p e ss))

def SpanCC (C : MC) (Gm : Nat) (x : Part) : Prop := ∀ (xs : List Part) (j : Nat) (p e : Nat) (sv : Value) (sb : Nat) (ss : List Int) (w : World) (D : DataW Value), AtW C (j : Int) (x :: xs) → WF Gm x → 2 * Gm + 2 ≤ ss.length → ss.length ≤ 1000 → p ≤ C.s.size → e ≤ C.s.size → Copies (AtomR C.s x) x.mn x.mx 0 p e → MS C w D → Ints w sv ss → sv.ownBlock = some sb →
  Calls Tryz.prog 61 #[.pointer (some ⟨C.mb, 0, none⟩), sv, .int .i64 (j : Nat), .int .i64 (p : Nat), .int .i64 (e : Nat)] w (SpanP C w sv sb ss (SpanC C.s x p e ss))

set_option maxRecDepth 100000 in
set_option maxHeartbeats 2000000 in
theorem spanCopies_any (C : MC) (ok : C.Ok) (Gm : Nat) (hGm : Gm ≤ 9) (x : Part) (ih : SpanLC C Gm x.kids) : SpanCC C Gm x := by
  intro xs j p e sv sb ss w D hA hwf hlen hlen2 hp he hc h hI hsb
  obtain ⟨j', P, hj', hjl, hP, -, hin⟩ := hA.cons
  obtain rfl : j = j' := by omega
  obtain ⟨g, cap, hpv, hgl, hcap⟩ := h.parts hP.get
  have hji : (j : Int) < (C.all.length : Nat) := by omega
  have hfew := ok.few
  have hsm := ok.small
  have hfl := h.flat
  rw [hpv] at hfl
  obtain ⟨d0, d1, d2, d3, d4, d5, d6, d7, d8⟩ := part_cells hfl hP.get
  rw [hP.least] at d7
  have mm0 : w.cell? ⟨C.mb, 0, none⟩ = some (.pointer (some ⟨C.xb, 0, none⟩)) := h.m.cell 0 rfl
  have xx2 : w.cell? ⟨C.xb, 2, none⟩ = some (.slice (some ⟨g, 0, none⟩) C.all.length cap) := by rw [← hpv]; exact h.x.cell 2 rfl
  obtain ⟨sb', cap2, rfl, hsl, hsc⟩ := hI.lay (by omega)
  obtain rfl : sb = sb' := by cases hsb; rfl
  by_cases hg : x.g = 0
  · obtain ⟨hg0, hW⟩ := hP.plain hg
    rw [hg0] at d4
    have HH := hide (And.intro h hI)
    clear h hI hA hin hP hfl hW hc hwf
    go_enter Tryz.func61, Tryz.ntmps61
    go_wp2_with fail
    refine bodyPost_ret (results_none rfl _ _ _) rfl ?_
    obtain ⟨h, hI⟩ := HH.out
    have hb1 := (Below.refl w.heap.size w).alloc (Nat.le_refl _) (.cells #[.int .u64 (P.W 0 : Nat), .int .u64 (P.W 1 : Nat), .int .u64 (P.W 2 : Nat), .int .u64 (P.W 3 : Nat), .int .i64 0, .int .i64 P.inner, .int .i64 P.next, .int .i64 x.mn, .int .i64 P.most] 104)
    refine ⟨ss, D, rfl, ?_, hI.agree (fun k hk => hb1.block k (hI.lt k hk)), rfl, h.below hb1, Kq.of_kp (Kp.below hb1)⟩
    obtain ⟨g', kids, neg, ps, mn, mx⟩ := x
    simp only [Part.g] at hg
    simp only [SpanC, hg, if_true]
  · obtain ⟨hg0, -⟩ := hP.group hg
    rw [hg0] at d4
    have hgd : ((x.g : Int) == 0) = false := by simp; omega
    have hb1 := (Below.refl w.heap.size w).alloc (Nat.le_refl _) (.cells #[.int .u64 (P.W 0 : Nat), .int .u64 (P.W 1 : Nat), .int .u64 (P.W 2 : Nat), .int .u64 (P.W 3 : Nat), .int .i64 (x.g : Int), .int .i64 P.inner, .int .i64 P.next, .int .i64 x.mn, .int .i64 P.most] 104)
    have B1 := Blk.new w #[.int .u64 (P.W 0 : Nat), .int .u64 (P.W 1 : Nat), .int .u64 (P.W 2 : Nat), .int .u64 (P.W 3 : Nat), .int .i64 (x.g : Int), .int .i64 P.inner, .int .i64 P.next, .int .i64 x.mn, .int .i64 P.most] 104
    have hgx : x.g ≤ Gm ∧ WFs Gm x.kids := by
      obtain ⟨g', kids, neg, ps, mn, mx⟩ := x
      simp only [WF] at hwf
      exact ⟨hwf.1, hwf.2.2.2.2.2.2.2⟩
    obtain ⟨m0, m9, x9, hmm⟩ := hA.counts
    have HH := hide (And.intro h (And.intro hI (And.intro hA (And.intro (hin hg) (And.intro hb1 (And.intro B1 (And.intro hc hgx)))))))
    clear h hI hA hin hP hfl hb1 B1 hc hwf
    go_enter Tryz.func61, Tryz.ntmps61
    go_wp2_with fail
    generalize hw0 : w.alloc (.cells #[.int .u64 (P.W 0 : Nat), .int .u64 (P.W 1 : Nat), .int .u64 (P.W 2 : Nat), .int .u64 (P.W 3 : Nat), .int .i64 (x.g : Int), .int .i64 P.inner, .int .i64 P.next, .int .i64 x.mn, .int .i64 P.most] 104) = w0 at *
    have HW0 := hide hw0
    clear hw0 d0 d1 d2 d3 d4 d5 d6 d7 d8 mm0 xx2
    go_loopg [3, 11, 12] (e - p) (fun k bg md la w' => ∃ (q n l : Nat) (lv : Int) (D' : DataW Value), bg = .int .i64 (q : Nat) ∧ md = .int .i64 (n : Nat) ∧ la = .int .i64 lv ∧ p ≤ q ∧ q ≤ e ∧ q + k = e ∧ n ≤ q ∧ (0 < n → lv = (l : Int)) ∧
      Hid (Copies (AtomR C.s x) x.mn x.mx n q e ∧ (∀ n' l', LoopR C.s x e n q l n' l' → LoopR C.s x e 0 p p n' l') ∧ MS C w' D' ∧ Kp C.mm w0 w'))
    case atStart =>
      obtain ⟨h, hI, hA, hin, hb1, B1, hc, hgx⟩ := HH.out
      have hpe := hc.low (fun p q ha => AtomR.low C.s x p q ha)
      exact ⟨p, 0, p, e, D, rfl, rfl, rfl, Nat.le_refl _, hpe, by omega, by omega, fun h => by omega, hc, fun _ _ h => h, h.below hb1, Kp.refl _ _⟩
    case round =>
      obtain ⟨q, n, l, lv, D', rfl, rfl, rfl, hpq, hqe, hqk, hnq, hlv, HI⟩ := hrel
      by_cases hlt : q < e
      · have hlti : (q : Int) < (e : Int) := by omega
        have hmd : x.mx < 0 ∨ ((n + 1 : Nat) : Int) ≤ x.mx := by
          have hc := HI.out.1
          cases hc with
          | stop _ => omega
          | more h1 _ _ _ => omega
        go_wp2_with fail
        refine (only_any C ok q (by omega) _ D' HI.out.2.2.1).mono ?_
        rintro e1 w1 ⟨y1, rfl, hy1, hb1⟩
        obtain ⟨gy, cy, rfl, -, -⟩ := hy1.form
        have H1 := hide (And.intro hy1 hb1)
        clear hy1 hb1
        go_wp2_with fail
        refine (atomEnds_any C ok x xs (kidsE_all C ok x) j HH.out.2.2.1 _ _ _ D' (HI.out.2.2.1.below H1.out.2) H1.out.1).mono ?_
        rintro e2 w2 ⟨y2, D2, rfl, hy2, h2, K2⟩
        obtain ⟨gy2, cy2, rfl, -, -⟩ := hy2.form
        have H2 := hide (And.intro hy2 (And.intro h2 ((Kp.below (b := C.mm) H1.out.2).trans K2)))
        clear hy2 h2 K2
        go_wp2_with fail
        rw [show ((n : Int) + 1) = ((n + 1 : Nat) : Int) from by omega]
        refine (copiesTo_any C ok x xs j HH.out.2.2.1 (n + 1) hmd e he _ D2 H2.out.2.1).mono ?_
        rintro e3 w3 ⟨y3, D3, rfl, hy3, h3, K3⟩
        obtain ⟨gy3, cy3, rfl, -, -⟩ := hy3.form
        have H3 := hide (And.intro hy3 (And.intro h3 (And.intro (H2.out.2.2.trans K3) (H2.out.1.kp H2.out.2.1 K3))))
        clear hy3 h3 K3
        go_wp2_with fail
        refine (among_any _ _ _ C.s.size _ _ hsm H3.out.2.2.2 H3.out.1).mono ?_
        rintro e4 w4 ⟨y4, rfl, hy4, hb4⟩
        obtain ⟨gy4, cy4, rfl, -, -⟩ := hy4.form
        have H4 := hide (And.intro hy4 hb4)
        clear hy4 hb4
        go_wp2_with fail
        refine (last_any _ _ C.s.size _ hsm H4.out.1).mono ?_
        rintro e5 w5 ⟨r, rfl, hr, rfl⟩
        have hbest : ∃ m : Nat, r = (m : Int) ∧ Best (fun m => AtomR C.s x q m ∧ Copies (AtomR C.s x) x.mn x.mx (n + 1) m e) m := by
          rcases hr with ⟨_, h0⟩ | ⟨m, hm, hb⟩
          · obtain ⟨m, h1, h2⟩ := copies_next HI.out.1 hlt
            exact absurd ⟨⟨q, rfl, h1⟩, h2⟩ (h0 m)
          · refine ⟨m, hm, ⟨?_, ?_⟩, fun m' hm' => hb.2 m' ⟨⟨q, rfl, hm'.1⟩, hm'.2⟩⟩
            · obtain ⟨⟨q', rfl, h1⟩, _⟩ := hb.1; exact h1
            · exact hb.1.2
        obtain ⟨m, rfl, hbest⟩ := hbest
        obtain ⟨hqm, hgr⟩ := greedy HI.out.1 hlt hbest
        have hme := hgr.1.2.low (fun p q ha => AtomR.low C.s x p q ha)
        have HG := hide (And.intro hgr hbest)
        clear hr hgr hbest
        go_wp2_with fail
        go_roundg (e - m)
        case measure => omega
        case rel =>
          refine ⟨m, n + 1, q, (q : Int), D3, rfl, by go_num, rfl, by omega, hme, by omega, by omega, fun _ => rfl, HG.out.1.1.2, fun n' l' hL => HI.out.2.1 n' l' (.more (.inr hlt) HG.out.1 hL), H3.out.2.1.below H4.out.2, (HI.out.2.2.2.trans H3.out.2.2.1).trans (Kp.below H4.out.2)⟩
      · obtain rfl : q = e := by omega
        have hqn : q ≤ 60000 := by omega
        have B0 : Blk wr w.heap.size #[.int .u64 (P.W 0 : Nat), .int .u64 (P.W 1 : Nat), .int .u64 (P.W 2 : Nat), .int .u64 (P.W 3 : Nat), .int .i64 (x.g : Int), .int .i64 P.inner, .int .i64 P.next, .int .i64 x.mn, .int .i64 P.most] 104 := HH.out.2.2.2.2.2.1.kpm (HH.out.1.below HH.out.2.2.2.2.1) HI.out.2.2.2
        have c4 : wr.cell? ⟨w.heap.size, 4, none⟩ = some (.int .i64 (x.g : Int)) := B0.cell 4 rfl
        have c5 : wr.cell? ⟨w.heap.size, 5, none⟩ = some (.int .i64 P.inner) := B0.cell 5 rfl
        have c7 : wr.cell? ⟨w.heap.size, 7, none⟩ = some (.int .i64 x.mn) := B0.cell 7 rfl
        have HB0 := hide B0
        clear B0
        have HL := hide (loop_end HI.out.1 l)
        go_upto_if 49 with fail
        go_cut [11, 12] (fun md la wc => ∃ (n' l' : Nat) (lv' : Int), md = .int .i64 (n' : Nat) ∧ la = .int .i64 lv' ∧ (0 < n' → lv' = (l' : Int)) ∧ n' ≤ 60009 ∧ Hid (LoopR C.s x q 0 p p n' l') ∧ wc = wr)
        case first =>
          by_cases hnm : (n : Int) < x.mn
          · have HR := hide (HI.out.2.1 _ _ (HL.out.1 hnm).1)
            obtain ⟨mn, hmn⟩ : ∃ mn : Nat, x.mn = (mn : Int) := ⟨x.mn.toNat, by omega⟩
            have HMN := hide hmn
            go_wp2_with fail
            go_meet
            case rel =>
              refine ⟨x.mn.toNat, q, (q : Int), ?_, rfl, fun _ => rfl, by omega, HR, rfl⟩
              rw [HMN.out, Int.toNat_natCast]
          · have HR := hide (HI.out.2.1 _ _ (HL.out.2 hnm))
            have hd : decide ((n : Int) < x.mn) = false := by simpa using hnm
            go_wp2_with fail
            go_meet
            case rel => exact ⟨n, l, lv, rfl, rfl, hlv, by omega, HR, rfl⟩
        case rest =>
          obtain ⟨n', l', lv', rfl, rfl, hlv', hn', HR, rfl⟩ := hcut
          clear HL hlv c7
          by_cases hn0 : n' = 0
          · subst hn0
            go_wp2_with fail
            refine bodyPost_end (results_none rfl _ _ _) rfl ?_
            obtain ⟨h, hI, hA, hin, hb1, B1, hc, hgx⟩ := HH.out
            have K0 := (Kp.below (b := C.mm) hb1).trans HI.out.2.2.2
            refine ⟨ss, D', rfl, ?_, hI.agree (fun k hk => ?_), rfl, HI.out.2.2.1, Kq.of_kp K0⟩
            · have hR := HR.out
              obtain ⟨g', kids, neg, ps, mn, mx⟩ := x
              simp only [Part.g] at hg
              simp only [SpanC, hg, if_false]
              exact ⟨0, l', hR, by simp⟩
            · obtain ⟨c, hc⟩ := hI.typed k hk
              exact K0.block k (hI.lt k hk) (h.notMap hc)
          · have hlv2 := hlv' (by omega)
            subst hlv2
            clear hlv'
            have d3 : decide ((0 : Int) < (n' : Int)) = true := by simp; omega
            obtain ⟨h, hI, hA, hin, hb1, B1, hc, hgx⟩ := HH.out
            have K0 := (Kp.below (b := C.mm) hb1).trans HI.out.2.2.2
            have hkI : Ints wc (.slice (some ⟨sb, 0, none⟩) ss.length cap2) ss := hI.agree (fun k hk => by
              obtain ⟨c, hc⟩ := hI.typed k hk
              exact K0.block k (hI.lt k hk) (h.notMap hc))
            have hne8 : w.heap.size ≠ sb := by omega
            have hgN : x.g ≤ 9 := by omega
            obtain ⟨i0, hi0⟩ : ∃ i0 : Nat, i0 = 2 * x.g := ⟨_, rfl⟩
            obtain ⟨i1, hi1⟩ : ∃ i1 : Nat, i1 = 2 * x.g + 1 := ⟨_, rfl⟩
            have w0' : IntKind.i64.wrap (2 * (x.g : Int)) = (i0 : Int) := by rw [wrapE (2 * (x.g : Int)) (by omega) (by omega)]; omega
            have w1' : IntKind.i64.wrap ((i0 : Int) + 1) = (i1 : Int) := by rw [wrapE ((i0 : Int) + 1) (by omega) (by omega)]; omega
            have s0 := hkI.cell (i := i0) (by omega)
            have s1 := hkI.cell (i := i1) (by omega)
            have sf0 := hkI.fz i0
            have sf1 := hkI.fz i1
            have l0 : (i0 : Int) < (ss.length : Nat) := by omega
            have l1 : (i1 : Int) < (ss.length : Nat) := by omega
            have hne : i0 ≠ i1 := by omega
            have HI01 := hide (And.intro hi0 hi1)
            obtain ⟨cc, hcc⟩ := hkI.typed sb rfl
            have hlast : AtomR C.s x l' q := by
              rcases HR.out.last with ⟨h1, _⟩ | ⟨_, h2⟩
              · omega
              · exact h2
            have hge := (HR.out.ge hp (Nat.le_refl _))
            obtain ⟨W8, hW8⟩ : ∃ W8, W8 = ((wc.setCell ⟨sb, i0, none⟩ (.int .i64 (l' : Nat))).setCell ⟨sb, i1, none⟩ (.int .i64 (q : Nat))).drew := ⟨_, rfl⟩
            have hI8 : Ints W8 (.slice (some ⟨sb, 0, none⟩) ss.length cap2) ((ss.set i0 l').set i1 q) := by
              rw [hW8]
              exact ((hkI.put (i := i0) (by omega) (l' : Nat)).put (i := i1) (by rw [List.length_set]; omega) (q : Nat)).agree fun _ _ => rfl
            obtain ⟨cc1, hcc1⟩ := (hkI.put (i := i0) (by omega) (l' : Nat)).typed sb rfl
            have h8 : MS C W8 D' := by
              rw [hW8]
              exact ((HI.out.2.2.1.setInt hcc i0 (.int .i64 (l' : Nat))).setInt hcc1 i1 (.int .i64 (q : Nat))).drew
            have K8 : Kq C.mm (some sb) w W8 := by
              rw [hW8]
              exact kq_drew (kq_setRow (kq_setRow (Kq.of_kp K0) (.inl rfl) i0 _) (.inl rfl) i1 _)
            have t0 : (wc.setCell ⟨sb, i0, none⟩ (.int .i64 (l' : Nat))).drew.cell? ⟨w.heap.size, 4, none⟩ = some (.int .i64 (x.g : Int)) := by
              rw [← c4]
              show World.cell? (wc.setCell _ _) _ = _
              simp only [World.cell?, Below.heap_setCell wc ⟨sb, i0, none⟩ (.int .i64 (l' : Nat)) w.heap.size hne8]
            have t1 : ((wc.setCell ⟨sb, i0, none⟩ (.int .i64 (l' : Nat))).setCell ⟨sb, i1, none⟩ (.int .i64 (q : Nat))).drew.cell? ⟨w.heap.size, 4, none⟩ = some (.int .i64 (x.g : Int)) := by
              rw [← t0]
              show World.cell? (World.setCell _ _ _) _ = World.cell? (wc.setCell _ _) _
              simp only [World.cell?, Below.heap_setCell (wc.setCell ⟨sb, i0, none⟩ (.int .i64 (l' : Nat))) ⟨sb, i1, none⟩ (.int .i64 (q : Nat)) w.heap.size hne8]
            have t5 : ((wc.setCell ⟨sb, i0, none⟩ (.int .i64 (l' : Nat))).setCell ⟨sb, i1, none⟩ (.int .i64 (q : Nat))).drew.cell? ⟨w.heap.size, 5, none⟩ = some (.int .i64 P.inner) := by
              rw [← c5]
              show World.cell? (World.setCell _ _ _) _ = World.cell? wc _
              simp only [World.cell?, Below.heap_setCell (wc.setCell ⟨sb, i0, none⟩ (.int .i64 (l' : Nat))) ⟨sb, i1, none⟩ (.int .i64 (q : Nat)) w.heap.size hne8, Below.heap_setCell wc ⟨sb, i0, none⟩ (.int .i64 (l' : Nat)) w.heap.size hne8]
            have hcall8 := hide (ih P.inner l' q _ sb _ W8 D' hin hgx.2 (by rw [List.length_set, List.length_set]; exact hlen) (by rw [List.length_set, List.length_set]; exact hlen2) hge.2 he ((atomR_group hg l' q).1 hlast) h8 hI8 rfl)
            have HW8 := hide K8
            rw [hW8] at hcall8 HW8
            clear h hI hA hin hb1 B1 hc hgx K0 hkI hi0 hi1 hcc hlast hge hI8 hcc1 h8 K8 hW8 HI HB0
            generalize ss.getD i0 0 = y0 at *
            generalize ss.getD i1 0 = y1 at *
            go_wp2_with fail
            go_region_held3 (fun w' => w'.cell? ⟨w.heap.size, 4, none⟩ = some (.int .i64 (x.g : Int))) (first | go_keep | exact t0 | exact t1) (fail)
            go_wp2_with fail
            refine hcall8.out.mono ?_
            rintro r w9 ⟨ss', D9, rfl, hS9, hI9, hl9, hm9, hF9⟩
            go_wp2_with fail
            refine bodyPost_end (results_none rfl _ _ _) rfl ?_
            refine ⟨ss', D9, rfl, ?_, hI9, by rw [hl9, List.length_set, List.length_set], hm9, HW8.out.trans hF9 (.inl rfl)⟩
            obtain ⟨h0, h1⟩ := HI01.out
            subst h0 h1
            have hR := HR.out
            obtain ⟨g', kids, neg, ps, mn, mx⟩ := x
            simp only [Part.g] at hg
            simp only [SpanC, hg, if_false]
            exact ⟨n', l', hR, by rw [if_neg hn0]; exact hS9⟩
end Go.Proofs.YtpnecblofjpgfaaGreatDoor

namespace Go.Proofs.YtpnecblofjpgfaaGreatDoor
open Go.RowKit Go.Shelf

set_option maxRecDepth 100000 in
set_option maxHeartbeats 2000000 in
theorem spanList_any (C : MC) (ok : C.Ok) (Gm : Nat) (ps : List Part) (ih : ∀ x, x ∈ ps → SpanCC C Gm x) : SpanLC C Gm ps := by
  intro i p e sv sb ss w D hA hwf hlen hlen2 hp he hs h hI hsb
  have hfew := ok.few
  have hsm := ok.small
  obtain ⟨sb', cap2, rfl, hsl, hsc⟩ := hI.lay (by omega)
  obtain rfl : sb = sb' := by cases hsb; rfl
  have HH := hide (And.intro hA (And.intro hwf (And.intro hs (And.intro h hI))))
  clear hA hwf hs h hI
  go_enter Tryz.func44, Tryz.ntmps44
  go_wp2_with fail
  go_loopg [2, 3, 10] ps.length (fun k ii bg md w' => ∃ (l : List Part) (i' : Int) (q : Nat) (ss1 : List Int) (D' : DataW Value), ii = .int .i64 i' ∧ bg = .int .i64 (q : Nat) ∧ l.length ≤ k ∧ q ≤ e ∧
    Hid (AtW C i' l ∧ WFs Gm l ∧ (∀ x, x ∈ l → SpanCC C Gm x) ∧ SeqR C.s l q e ∧ (∀ ss', SpanR C.s l q e ss1 ss' → SpanR C.s ps p e ss ss') ∧ Ints w' (.slice (some ⟨sb, 0, none⟩) ss.length cap2) ss1 ∧ ss1.length = ss.length ∧ MS C w' D' ∧ Kq C.mm (some sb) w w'))
  case atStart =>
    obtain ⟨hA, hwf, hs, h, hI⟩ := HH.out
    exact ⟨ps, i, p, ss, D, rfl, rfl, Nat.le_refl _, SeqR.low _ _ _ _ hs, hA, hwf, ih, hs, fun _ h => h, hI, rfl, h, Kq.refl _ _ _⟩
  case round =>
    obtain ⟨l, i', q, ss1, D', rfl, rfl, hlk, hqe, HI⟩ := hrel
    clear HH
    cases l with
    | nil =>
      have hi := HI.out.1.at_.nil
      subst hi
      go_wp2_with fail
      refine bodyPost_end (results_none rfl _ _ _) rfl ?_
      obtain ⟨h1, h2, h3, h4, h5, h6, h7, h8, h9⟩ := HI.out
      exact ⟨ss1, D', rfl, h5 ss1 (by simp only [SpanR]), h6, h7, h8, h9⟩
    | cons x xs =>
      obtain ⟨j, P, rfl, hjl, hP, hnx, -⟩ := HI.out.1.cons
      obtain ⟨g, cap, hpv, hgl, hcap⟩ := HI.out.2.2.2.2.2.2.2.1.parts hP.get
      have hji : (j : Int) < (C.all.length : Nat) := by omega
      have hne : ((j : Int) == -1) = false := by simp
      have hlk' : xs.length + 1 ≤ gk := by simpa using hlk
      clear hlk
      have HN := hide (And.intro hnx (And.intro hP hpv))
      clear hnx hP hpv
      go_upto_if 27 with fail
      go_cut [10] (fun md wc => ∃ (m : Nat) (D2 : DataW Value), md = .int .i64 (m : Nat) ∧ m ≤ e ∧ Hid (Best (fun m => Copies (AtomR C.s x) x.mn x.mx 0 q m ∧ SeqR C.s xs m e) m ∧ MS C wc D2 ∧ Kp C.mm wr wc))
      case first =>
        by_cases hlt : q < e
        · have hlti : (q : Int) < (e : Int) := by omega
          have h := HI.out.2.2.2.2.2.2.2.1
          have mm0 : wr.cell? ⟨C.mb, 0, none⟩ = some (.pointer (some ⟨C.xb, 0, none⟩)) := h.m.cell 0 rfl
          have xx2 : wr.cell? ⟨C.xb, 2, none⟩ = some (.slice (some ⟨g, 0, none⟩) C.all.length cap) := by rw [← HN.out.2.2]; exact h.x.cell 2 rfl
          have hfl := h.flat
          rw [HN.out.2.2] at hfl
          obtain ⟨-, -, -, -, -, -, d6, -, -⟩ := part_cells hfl HN.out.2.1.get
          have HM := hide h
          clear h hfl
          go_wp2_with fail
          go_region_held3 (fun w' => w'.cell? ⟨C.mb, 0, none⟩ = some (.pointer (some ⟨C.xb, 0, none⟩)) ∧ w'.cell? ⟨C.xb, 2, none⟩ = some (.slice (some ⟨g, 0, none⟩) C.all.length cap) ∧ w'.cell? ⟨g, j * 9 + 6, none⟩ = some (.int .i64 P.next)) (go_keep)
            (first
              | (go_at_call 38; refine (only_any C ok q (by omega) _ D' HM.out.drew).mono ?_; rintro e1 w1 ⟨y1, rfl, hy1, hb1⟩; have l1 := cell_below hb1 mm0; have l2 := cell_below hb1 xx2; have l3 := cell_below hb1 d6; have h1 := HM.out.drew.below hb1; obtain ⟨gy1, cy1, rfl, -, -⟩ := hy1.form)
              | (go_at_call 58; refine (mpartEnds_any C ok x xs (kidsE_all C ok x) j HI.out.1 _ _ _ D' h1 hy1).mono ?_; rintro e2 w2 ⟨y2, D2, rfl, hy2, h2, K2⟩; have o1 := cell_kp h1 K2 l1; have o2 := cell_kp h1 K2 l2; have o3 := cell_kp h1 K2 l3; obtain ⟨gy2, cy2, rfl, -, -⟩ := hy2.form)
              | (go_at_call 60; refine (to_all C ok xs P.next e _ D2 HN.out.1 he h2).mono ?_; rintro e3 w3 ⟨y3, D3, rfl, hy3, h3, K3⟩; have p1 := cell_kp h2 K3 o1; have p2 := cell_kp h2 K3 o2; have p3 := cell_kp h2 K3 o3; obtain ⟨gy3, cy3, rfl, -, -⟩ := hy3.form)
              | (go_at_call 40; refine (among_any _ _ _ C.s.size _ _ hsm (hy2.kp h2 K3) hy3).mono ?_; rintro e4 w4 ⟨y4, rfl, hy4, hb4⟩; have q1 := cell_below hb4 p1; have q2 := cell_below hb4 p2; have q3 := cell_below hb4 p3; obtain ⟨gy4, cy4, rfl, -, -⟩ := hy4.form)
              | (go_at_call 43; refine (last_any _ _ C.s.size _ hsm hy4).mono ?_; rintro e5 w5 ⟨r, rfl, hr, rfl⟩))
          have hbest : ∃ m : Nat, r = (m : Int) ∧ Best (fun m => Copies (AtomR C.s x) x.mn x.mx 0 q m ∧ SeqR C.s xs m e) m := by
            rcases hr with ⟨_, h0⟩ | ⟨m, hm, hb⟩
            · have hsq := HI.out.2.2.2.1
              simp only [SeqR] at hsq
              obtain ⟨m, h1, h2⟩ := hsq
              exact absurd ⟨⟨q, rfl, h1⟩, h2⟩ (h0 m)
            · refine ⟨m, hm, ⟨?_, hb.1.2⟩, fun m' hm' => hb.2 m' ⟨⟨q, rfl, hm'.1⟩, hm'.2⟩⟩
              obtain ⟨⟨q', rfl, h1⟩, _⟩ := hb.1; exact h1
          obtain ⟨m, rfl, hbest⟩ := hbest
          have hme := SeqR.low _ _ _ _ hbest.1.2
          have HB := hide (And.intro hbest (And.intro (h3.below hb4) (((Kp.below (b := C.mm) hb1).undrew.trans K2).trans (K3.trans (Kp.below hb4)))))
          clear hr hbest
          go_wp2_with fail
          go_meet
          case rel => exact ⟨m, D3, rfl, hme, HB⟩
        · obtain rfl : q = e := by omega
          have hd : decide ((q : Int) < (q : Int)) = false := by simp
          go_wp2_with fail
          go_meet
          case rel =>
            have hsq := HI.out.2.2.2.1
            simp only [SeqR] at hsq
            obtain ⟨m, h1, h2⟩ := hsq
            have l1 := h1.low (fun p q ha => AtomR.low C.s x p q ha)
            have l2 := SeqR.low _ _ _ _ h2
            obtain rfl : m = q := by omega
            exact ⟨m, D', rfl, Nat.le_refl _, ⟨⟨h1, h2⟩, fun m' hm' => SeqR.low _ _ _ _ hm'.2⟩, HI.out.2.2.2.2.2.2.2.1, Kp.refl _ _⟩
      case rest =>
        obtain ⟨m, D2, rfl, hme, HB⟩ := hcut
        generalize wc = w2 at *
        obtain ⟨h1, h2, h3, h4, h5, h6, h7, h8, h9⟩ := HI.out
        have hwx : WF Gm x ∧ WFs Gm xs := by simp only [WFs] at h2; exact h2
        have h6' : Ints w2 (.slice (some ⟨sb, 0, none⟩) ss.length cap2) ss1 := h6.agree (fun k hk => by
          obtain ⟨c, hc⟩ := h6.typed k hk
          exact HB.out.2.2.block k (h6.lt k hk) (h8.notMap hc))
        have HS := hide (h3 x (List.mem_cons_self ..) xs j q m _ sb ss1 w2 D2 h1 hwx.1 (by rw [h7]; exact hlen) (by rw [h7]; exact hlen2) (by omega) (by omega) HB.out.1.1.1 HB.out.2.1 h6' rfl)
        clear h1 h2 h3 h4 h5 h6 h7 h8 h9 hwx h6'
        go_wp2_with fail
        refine HS.out.mono ?_
        rintro r w3 ⟨ss3, D3, rfl, hS3, hI3, hl3, hm3, hF3⟩
        have mm0 : w3.cell? ⟨C.mb, 0, none⟩ = some (.pointer (some ⟨C.xb, 0, none⟩)) := hm3.m.cell 0 rfl
        have xx2 : w3.cell? ⟨C.xb, 2, none⟩ = some (.slice (some ⟨g, 0, none⟩) C.all.length cap) := by rw [← HN.out.2.2]; exact hm3.x.cell 2 rfl
        have hfl := hm3.flat
        rw [HN.out.2.2] at hfl
        obtain ⟨-, -, -, -, -, -, d6, -, -⟩ := part_cells hfl HN.out.2.1.get
        have HE := hide (And.intro hS3 (And.intro hI3 (And.intro hl3 (And.intro hm3 hF3))))
        clear hS3 hI3 hl3 hm3 hF3 hfl
        go_wp2_with fail
        go_roundg (gk - 1)
        case measure => omega
        case rel =>
          obtain ⟨h1, h2, h3, h4, h5, h6, h7, h8, h9⟩ := HI.out
          obtain ⟨hS3, hI3, hl3, hm3, hF3⟩ := HE.out
          simp only [WFs] at h2
          refine ⟨xs, P.next, m, ss3, D3, rfl, rfl, by omega, hme, HN.out.1, h2.2, fun y hy => h3 y (List.mem_cons_of_mem _ hy), HB.out.1.1.2, fun ss' hss => h5 ss' ?_, hI3, hl3.trans h7, hm3, (h9.trans (Kq.of_kp HB.out.2.2) (.inl rfl)).trans hF3 (.inl rfl)⟩
          simp only [SpanR]
          exact ⟨m, ss3, HB.out.1, hS3, hss⟩

mutual
theorem span_kids (C : MC) (ok : C.Ok) (Gm : Nat) (hGm : Gm ≤ 9) : ∀ x : Part, SpanCC C Gm x
  | .mk g kids neg ps mn mx => spanCopies_any C ok Gm hGm (.mk g kids neg ps mn mx) (spanList_any C ok Gm kids (fun x hx => span_each C ok Gm hGm kids x hx))
theorem span_each (C : MC) (ok : C.Ok) (Gm : Nat) (hGm : Gm ≤ 9) : ∀ (ps : List Part) (x : Part), x ∈ ps → SpanCC C Gm x
  | [], x, h => by cases h
  | y :: ys, x, h => by
    rcases List.mem_cons.1 h with hxy | h
    · rw [hxy]; exact span_kids C ok Gm hGm y
    · exact span_each C ok Gm hGm ys x h
end
theorem span_list (C : MC) (ok : C.Ok) (Gm : Nat) (hGm : Gm ≤ 9) (ps : List Part) : SpanLC C Gm ps := spanList_any C ok Gm ps (span_each C ok Gm hGm ps)
end Go.Proofs.YtpnecblofjpgfaaGreatDoor
