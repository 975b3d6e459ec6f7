import Derived.Test.YtmjdaifalgpdnaaGreatProL
import Derived.Deep.AppendLies
import Derived.RegionTactic
import Derived.BigRegion
namespace Go.Proofs.YtmjdaifalgpdnaaGreat
open Go.RowKit

theorem ER.setP {w : World} {b : Nat} {s : ByteArray} {at_ g : Nat} {en : Int} {pv : Value} (h : ER w b s at_ en pv g) (pv' : Value) : ER (w.setCell ⟨b, 3, none⟩ pv') b s at_ en pv' g := Blk.set h 3 _ rfl
theorem ER.grown {w w' : World} {b : Nat} {s : ByteArray} {at_ g : Nat} {en : Int} {pv : Value} {row : Option Nat} (h : ER w b s at_ en pv g) (hg : w.grownBy w' row) (hr : row ≠ some b) : ER w' b s at_ en pv g := by
  have := hg.block b h.lt (fun e => hr e.symm)
  unfold ER Blk at h ⊢
  rw [this]; exact h
theorem kq_grown {b : Nat} {row : Option Nat} {W w w' : World} (h : Kq b row W w) (hg : w.grownBy w' row) : Kq b row W w' :=
  ⟨hg.os.trans h.os, hg.tape.trans h.tape, hg.output.trans h.output, Nat.le_trans h.size hg.size, fun k hk hb hr => (hg.block k (Nat.lt_of_lt_of_le hk h.size) hr).trans (h.block k hk hb hr)⟩
theorem kq_set {b : Nat} {row : Option Nat} {W w : World} (h : Kq b row W w) (o : Nat) (u : Value) : Kq b row W (w.setCell ⟨b, o, none⟩ u) :=
  ⟨h.os, h.tape, h.output, by simpa [World.setCell] using h.size, fun k hk hb hr => (Below.heap_setCell _ _ _ _ hb).trans (h.block k hk hb hr)⟩

theorem ER.setK {w : World} {b : Nat} {s : ByteArray} {at_ g : Nat} {en : Int} {pv : Value} (h : ER w b s at_ en pv g) {k : Nat} (hk : k ≠ b) (o : Nat) (u : Value) : ER (w.setCell ⟨k, o, none⟩ u) b s at_ en pv g := h.other hk u
theorem Flat.drew {w : World} {pv : Value} {ps : List PP} (h : Flat w pv ps) : Flat w.drew pv ps := h
theorem ER.drew {w : World} {b : Nat} {s : ByteArray} {at_ g : Nat} {en : Int} {pv : Value} (h : ER w b s at_ en pv g) : ER w.drew b s at_ en pv g := h
theorem kq_setRow {b : Nat} {row : Option Nat} {W w : World} (h : Kq b row W w) {k : Nat} (hk : row = some k ∨ W.heap.size ≤ k) (o : Nat) (u : Value) : Kq b row W (w.setCell ⟨k, o, none⟩ u) :=
  ⟨h.os, h.tape, h.output, by simpa [World.setCell] using h.size, fun i hi hb hr => (Below.heap_setCell _ _ _ _ (by
    intro e
    rcases hk with e2 | e2
    · exact hr (by rw [e2, e])
    · simp at e; omega)).trans (h.block i hi hb hr)⟩
theorem kq_drew {b : Nat} {row : Option Nat} {W w : World} (h : Kq b row W w) : Kq b row W w.drew := ⟨h.os, h.tape, h.output, h.size, h.block⟩

theorem atomT_fwd (s : ByteArray) (n : Nat) (st : St) (h : st.i ≤ s.size) : Fwd s st (atomT s n st).2 := by
  unfold atomT
  split
  · exact Fwd.spoil h
  · next hc =>
    have hlt : st.i < s.size := by
      simp only [not_or] at hc
      exact peekOk_lt (by simpa using hc.1)
    have h1 := Fwd.adv hlt
    split
    · exact h1
    · split
      · exact h1.trans (Fwd.set _ h1.2.1)
      · split
        · exact h1.trans ((fwd_all s n).2.1 _ h1.2.1)
        · exact h1

theorem escS_ones (s : ByteArray) (n : Nat) (st : St) (hb : (escS s n st).2.bad = false) : (escS s n st).1.mn = 1 ∧ (escS s n st).1.mx = 1 := by
  cases n with
  | zero => rw [escS] at hb; cases hb
  | succ n =>
    rw [escS] at hb ⊢
    split
    · next hc => rw [if_pos hc] at hb; cases hb
    · split
      · exact ⟨rfl, rfl⟩
      · split
        · exact ⟨rfl, rfl⟩
        · exact ⟨rfl, rfl⟩

theorem atomT_ones (s : ByteArray) (n : Nat) (st : St) (hb : (atomT s n st).2.bad = false) : (atomT s n st).1.mn = 1 ∧ (atomT s n st).1.mx = 1 := by
  unfold atomT at hb ⊢
  split
  · next hc => rw [if_pos hc] at hb; cases hb
  · next hc =>
    rw [if_neg hc] at hb
    split
    · exact ⟨rfl, rfl⟩
    · next h1 =>
      rw [if_neg h1] at hb
      split
      · exact ⟨rfl, rfl⟩
      · next h2 =>
        rw [if_neg h2] at hb
        split
        · next h3 => rw [if_pos h3] at hb; exact escS_ones s n _ hb
        · exact ⟨rfl, rfl⟩

theorem cnt_g (s : ByteArray) (st : St) : (cntS s st).2.g = st.g := by
  unfold cntS; split
  · rfl
  · split
    · rw [bounds_g]; rfl
    · rfl
theorem Fwd.cnt {s : ByteArray} {st : St} (h : st.i ≤ s.size) : Fwd s st (cntS s st).2 := by
  unfold cntS; split
  · next hc => exact Fwd.adv (peekOk_lt (isB_ok hc))
  · split
    · next hc => exact (Fwd.adv2 (isEsc_lt hc)).trans (Fwd.bounds (Fwd.adv2 (isEsc_lt hc)).2.1)
    · exact Fwd.refl h

/-- A part with its count. -/
theorem counted_ok (s : ByteArray) (P : Part) (st : St) (h : st.bad = false) (h1 : P.mn = 1) (h2 : P.mx = 1) :
    (countS s (P, st)).2 = (cntS s st).2 ∧ (countS s (P, st)).1.mn = (cntS s st).1.1 ∧ (countS s (P, st)).1.mx = (cntS s st).1.2 ∧ ∀ lo W gr inn ks, LayA lo (countS s (P, st)).1 W gr inn ks ↔ LayA lo P W gr inn ks := by
  rw [countS_cnt s P st h]
  obtain ⟨g, kids, neg, ps, mn, mx⟩ := P
  refine ⟨rfl, ?_⟩
  dsimp only
  split
  · exact ⟨rfl, rfl, fun lo W gr inn ks => by simp only [upd, LayA]⟩
  · next hc =>
    simp only [not_or] at hc
    have e : cntS s st = ((1, 1), st) := by unfold cntS; rw [if_neg hc.1, if_neg hc.2]
    rw [e]
    exact ⟨h1, h2, fun _ _ _ _ _ => Iff.rfl⟩

set_option maxRecDepth 100000 in
set_option maxHeartbeats 1000000 in
theorem ppart_any (n : Nat) (ih : PAtomC n) : PPartC (n + 1) := by
  intro b s at_ en pv g ps w h hfl hpb hs ha hg hpl hn
  have IH := hide ih
  clear ih
  have hbl := h.lt
  obtain ⟨i0, hi0, hz0, hz1, hz2⟩ := info_parts info98
  have HI := hide (And.intro hi0 (And.intro hz0 (And.intro hz1 hz2)))
  clear hi0 hz0 hz1 hz2
  have hplt := hfl.lt
  obtain ⟨pa, cap, rfl⟩ := hfl.form
  have HPL := hide (And.intro hplt hpb)
  clear hplt hpb
  have c3 : w.cell? ⟨b, 3, none⟩ = some (.slice pa ps.length cap) := Blk.cell h 3 rfl
  have cf := Blk.fz h
  have f1 := hfl.alloc (.cells #[.int .u64 0, .int .u64 0, .int .u64 0, .int .u64 0, .int .i64 0, .int .i64 0, .int .i64 0, .int .i64 0, .int .i64 0] 167)
  have h1 := h.alloc (.cells #[.int .u64 0, .int .u64 0, .int .u64 0, .int .u64 0, .int .i64 0, .int .i64 0, .int .i64 0, .int .i64 0, .int .i64 0] 167)
  have hbytes : (ps.length + 1) * 72 ≤ 140737488355328 := by omega
  have hml : ps.length + 1 ≤ maxLen := by unfold maxLen; omega
  go_enter Tryz.func100, Tryz.ntmps100
  go_wp2_with (at_builtin; refine wpList_append_lies _ rfl _ _ 147 rfl 0 167 i0 (.agg #[.int .u64 0, .int .u64 0, .int .u64 0, .int .u64 0, .int .i64 0, .int .i64 0, .int .i64 0, .int .i64 0, .int .i64 0]) 9 72 Tryz.underlying147 HI.out.1 HI.out.2.1 HI.out.2.2.1 HI.out.2.2.2 rfl (by decide) (.slice pa ps.length cap) ps.length (allCells ps) rfl f1 ⟨w.heap.size, 0, none⟩ 1 1 zeroPP.cells rfl rfl (blk_news (Blk.newAt rfl)) (by intro u hu; simp [zeroPP, PP.cells] at hu; rcases hu with rfl | rfl <;> rfl) (by decide) hml hbytes (Nat.zero_le _) (w.heap.size + 1) (by simp) ?_; intro g1 cap1 w1 hown1 hgrow1 hat1 hlt1; have hER1 := h1.grown hgrow1 HPL.out.2; have e3 := Blk.cell hER1 3 rfl; have ef := Blk.fz hER1)
  obtain ⟨pv1, hpv1⟩ : ∃ pv1, pv1 = Value.slice (some ⟨g1, 0, none⟩) (ps.length + 1) cap1 := ⟨_, rfl⟩
  have hg1b : g1 ≠ b := by
    rcases hat1 with e | e
    · intro e2; exact HPL.out.2 (by rw [e, e2])
    · omega
  have F1 : Flat w1 pv1 (ps ++ [zeroPP]) := by
    unfold Flat
    rw [hpv1, allCells_append, List.length_append]
    exact hown1
  have hob1 : pv1.ownBlock = some g1 := by rw [hpv1]; rfl
  have hpb1 : pv1.ownBlock ≠ some b := by rw [hob1]; intro e; exact hg1b (by simpa using e)
  have F2 := F1.set (p := ⟨b, 3, none⟩) hpb1 pv1
  have E2 := hER1.setP pv1
  have K2 : Kq b (Value.slice pa ps.length cap).ownBlock w (w1.setCell ⟨b, 3, none⟩ pv1) := kq_set (kq_grown (kq_alloc (Kq.refl _ _ _) _) hgrow1) 3 pv1
  have fr1 : Fresh w (Value.slice pa ps.length cap).ownBlock pv1.ownBlock := by
    rw [hob1]
    rcases hat1 with e | e
    · exact .inl e.symm
    · right; intro k hk; simp at hk; omega
  have hsz1 : (w1.setCell ⟨b, 3, none⟩ pv1).heap.size = w1.heap.size := by simp [World.setCell]
  have hgs : w.heap.size + 1 ≤ w1.heap.size := by have := hgrow1.size; simpa using this
  have hfw := atomT_fwd s n ⟨at_, false, g⟩ ha
  have hon := atomT_ones s n ⟨at_, false, g⟩
  have HE : Hid (partS s (n + 1) ⟨at_, false, g⟩ = countS s (atomT s n ⟨at_, false, g⟩)) := partS_atomT s n ⟨at_, false, g⟩
  rw [← hpv1]
  refine (IH.out b s at_ en pv1 g (ps ++ [zeroPP]) _ E2 F2 hpb1 hs ha hg (by simp; omega) (by omega)).mono ?_
  rintro e w3 ⟨k3, hT⟩
  have k4 : Kq b (Value.slice pa ps.length cap).ownBlock w w3 := K2.trans k3 fr1
  generalize atomT s n ⟨at_, false, g⟩ = q at *
  obtain ⟨P, st1⟩ := q
  dsimp only at hT hfw hon
  clear c3 cf f1 h1 e3 ef hown1 hgrow1 F1 F2 E2 K2 h hfl
  rcases hT with ⟨hbd, W, group, inner, pv2, ks, rfl, hlay, f3, h3, hpb3, hfr, hln⟩ | ⟨hbd, rfl⟩
  · obtain ⟨i1, bd1, gg1⟩ := st1
    dsimp only at hbd hfw h3 hln hon
    subst hbd
    have hone := hon rfl
    have hcok := counted_ok s P ⟨i1, false, gg1⟩ rfl hone.1 hone.2
    have fr2 : Fresh w (Value.slice pa ps.length cap).ownBlock pv2.ownBlock := fr1.trans hfr (by omega)
    have HL := hide (And.intro hlay (And.intro hln (And.intro hpb3 (And.intro fr2 hcok))))
    have hpl3 := f3.lt
    have hi1 := hfw.2.1
    obtain ⟨g2, cap2, hpv2, hg2, hcap2⟩ := f3.some (show 0 < (ps ++ [zeroPP] ++ ks).length from by simp only [List.length_append, List.length_cons, List.length_nil]; omega)
    have HG := hide (And.intro hpl3 (And.intro hpb3 hpv2))
    clear hlay hln hpb3 fr2 hcok hfr hone hon hfw hpl3 hpv2
    have C3 := Blk.new w3 #[.int .u64 (W 0 : Nat), .int .u64 (W 1 : Nat), .int .u64 (W 2 : Nat), .int .u64 (W 3 : Nat), .int .i64 group, .int .i64 inner, .int .i64 0, .int .i64 0, .int .i64 0] 167
    have h4 := h3.alloc (.cells #[.int .u64 (W 0 : Nat), .int .u64 (W 1 : Nat), .int .u64 (W 2 : Nat), .int .u64 (W 3 : Nat), .int .i64 group, .int .i64 inner, .int .i64 0, .int .i64 0, .int .i64 0] 167)
    have f4 := f3.alloc (.cells #[.int .u64 (W 0 : Nat), .int .u64 (W 1 : Nat), .int .u64 (W 2 : Nat), .int .u64 (W 3 : Nat), .int .i64 group, .int .i64 inner, .int .i64 0, .int .i64 0, .int .i64 0] 167)
    have k5 := kq_alloc k4 (.cells #[.int .u64 (W 0 : Nat), .int .u64 (W 1 : Nat), .int .u64 (W 2 : Nat), .int .u64 (W 3 : Nat), .int .i64 group, .int .i64 inner, .int .i64 0, .int .i64 0, .int .i64 0] 167)
    have hk4 := k4.size
    go_wp2_with fail
    refine (pcount_any b s i1 en pv2 gg1 _ h4 hs hi1).mono ?_
    rintro e w5 ⟨k6, hT5⟩
    have C5 := C3.kp k6 (by omega)
    have f5 := f4.kp k6 HG.out.2.1
    have k7 := k5.trans' k6
    rcases hT5 with ⟨hb5, he5, h5⟩ | ⟨hb5, rfl⟩
    · rw [GoodCount] at he5
      subst he5
      obtain ⟨d0, d1, d2, d3, d4, d5, d6, d7, d8, df⟩ := C5.nine
      have C6 := ((C5.set 7 (.int .i64 (cntS s ⟨i1, false, gg1⟩).1.1) (c' := #[.int .u64 (W 0 : Nat), .int .u64 (W 1 : Nat), .int .u64 (W 2 : Nat), .int .u64 (W 3 : Nat), .int .i64 group, .int .i64 inner, .int .i64 0, .int .i64 (cntS s ⟨i1, false, gg1⟩).1.1, .int .i64 0]) rfl).set 8 (.int .i64 (mxV (cntS s ⟨i1, false, gg1⟩).1.2)) (c' := #[.int .u64 (W 0 : Nat), .int .u64 (W 1 : Nat), .int .u64 (W 2 : Nat), .int .u64 (W 3 : Nat), .int .i64 group, .int .i64 inner, .int .i64 0, .int .i64 (cntS s ⟨i1, false, gg1⟩).1.1, .int .i64 (mxV (cntS s ⟨i1, false, gg1⟩).1.2)]) rfl).set 6 (.int .i64 (-1)) (c' := #[.int .u64 (W 0 : Nat), .int .u64 (W 1 : Nat), .int .u64 (W 2 : Nat), .int .u64 (W 3 : Nat), .int .i64 group, .int .i64 inner, .int .i64 (-1), .int .i64 (cntS s ⟨i1, false, gg1⟩).1.1, .int .i64 (mxV (cntS s ⟨i1, false, gg1⟩).1.2)]) rfl
      go_wp2_with fail
      have hne3 : w3.heap.size ≠ b := by omega
      have hp3 : pv2.ownBlock ≠ some w3.heap.size := fun e => by have := HG.out.1 _ e; omega
      have h6 := ((h5.other (p := ⟨w3.heap.size, 7, none⟩) hne3 (.int .i64 (cntS s ⟨i1, false, gg1⟩).1.1)).other (p := ⟨w3.heap.size, 8, none⟩) hne3 (.int .i64 (mxV (cntS s ⟨i1, false, gg1⟩).1.2))).other (p := ⟨w3.heap.size, 6, none⟩) hne3 (.int .i64 (-1))
      have f6 := ((f5.set (p := ⟨w3.heap.size, 7, none⟩) hp3 (.int .i64 (cntS s ⟨i1, false, gg1⟩).1.1)).set (p := ⟨w3.heap.size, 8, none⟩) hp3 (.int .i64 (mxV (cntS s ⟨i1, false, gg1⟩).1.2))).set (p := ⟨w3.heap.size, 6, none⟩) hp3 (.int .i64 (-1))
      have k8 := kq_setNew (kq_setNew (kq_setNew k7 (p := ⟨w3.heap.size, 7, none⟩) hk4 (.int .i64 (cntS s ⟨i1, false, gg1⟩).1.1)) (p := ⟨w3.heap.size, 8, none⟩) hk4 (.int .i64 (mxV (cntS s ⟨i1, false, gg1⟩).1.2))) (p := ⟨w3.heap.size, 6, none⟩) hk4 (.int .i64 (-1))
      clear C5 f5 k7 h5 d0 d1 d2 d3 d4 d5 d6 d7 d8 df
      generalize ((w5.setCell ⟨w3.heap.size, 7, none⟩ (.int .i64 (cntS s ⟨i1, false, gg1⟩).1.1)).setCell ⟨w3.heap.size, 8, none⟩ (.int .i64 (mxV (cntS s ⟨i1, false, gg1⟩).1.2))).setCell ⟨w3.heap.size, 6, none⟩ (.int .i64 (-1)) = w6 at *
      have hA : ps ++ [zeroPP] ++ ks = ps ++ zeroPP :: ks := by simp
      have hpv2 := HG.out.2.2
      rw [hA] at f6 hpv2
      subst hpv2
      have y3 : w6.cell? ⟨b, 3, none⟩ = some (.slice (some ⟨g2, 0, none⟩) (ps ++ zeroPP :: ks).length cap2) := Blk.cell h6 3 rfl
      obtain ⟨d0, d1, d2, d3, d4, d5, d6, d7, d8, df⟩ := C6.nine
      have x0 : w6.cell? ⟨g2, ps.length * 9, none⟩ = some (.int .u64 0) := flat_get f6 (o := 0) (by omega)
      have x1 : w6.cell? ⟨g2, ps.length * 9 + 1, none⟩ = some (.int .u64 0) := flat_get f6 (o := 1) (by omega)
      have x2 : w6.cell? ⟨g2, ps.length * 9 + 2, none⟩ = some (.int .u64 0) := flat_get f6 (o := 2) (by omega)
      have x3 : w6.cell? ⟨g2, ps.length * 9 + 3, none⟩ = some (.int .u64 0) := flat_get f6 (o := 3) (by omega)
      have x4 : w6.cell? ⟨g2, ps.length * 9 + 4, none⟩ = some (.int .i64 0) := flat_get f6 (o := 4) (by omega)
      have x5 : w6.cell? ⟨g2, ps.length * 9 + 5, none⟩ = some (.int .i64 0) := flat_get f6 (o := 5) (by omega)
      have x6 : w6.cell? ⟨g2, ps.length * 9 + 6, none⟩ = some (.int .i64 0) := flat_get f6 (o := 6) (by omega)
      have x7 : w6.cell? ⟨g2, ps.length * 9 + 7, none⟩ = some (.int .i64 0) := flat_get f6 (o := 7) (by omega)
      have x8 : w6.cell? ⟨g2, ps.length * 9 + 8, none⟩ = some (.int .i64 0) := flat_get f6 (o := 8) (by omega)
      have xf : ∀ o, w6.frozen? ⟨g2, o, none⟩ = false := flat_fz f6
      have hlenp : (ps.length : Int) < ((ps ++ zeroPP :: ks).length : Nat) := by simp; omega
      generalize hN : (ps ++ zeroPP :: ks).length = N at *
      have HNN := hide hN
      clear hN hA
      generalize w3.heap.size = rp at *
      go_region
      go_wp2_with fail
      go_ret
      obtain ⟨hlay, hln, hpb3, fr2, hcok⟩ := HL.out
      have hgk : (Value.slice pa ps.length cap).ownBlock = some g2 ∨ w.heap.size ≤ g2 := by
        rcases fr2 with e | e
        · exact .inl (by rw [← e]; rfl)
        · exact .inr (e g2 rfl)
      have hg2b : g2 ≠ b := by
        intro e; apply hpb3; rw [e]; rfl
      have fN := flat_put (q := ⟨W, group, inner, -1, (cntS s ⟨i1, false, gg1⟩).1.1, mxV (cntS s ⟨i1, false, gg1⟩).1.2⟩) (by rw [HNN.out]; exact f6)
      have hN2 : (ps ++ (⟨W, group, inner, -1, (cntS s ⟨i1, false, gg1⟩).1.1, mxV (cntS s ⟨i1, false, gg1⟩).1.2⟩ : PP) :: ks).length = N := by rw [← HNN.out]; simp
      rw [hN2] at fN
      have hcf := Fwd.cnt (s := s) (st := ⟨i1, false, gg1⟩) hi1
      rw [HE.out]
      refine ⟨?_, .inl ⟨?_, .slice (some ⟨g2, 0, none⟩) N cap2, ⟨W, group, inner, -1, (cntS s ⟨i1, false, gg1⟩).1.1, mxV (cntS s ⟨i1, false, gg1⟩).1.2⟩, ks, ?_, ?_, ?_, ?_, rfl, Flat.drew fN, ?_, hpb3, fr2, ?_⟩⟩
      · exact kq_drew (kq_setRow (kq_setRow (kq_setRow (kq_setRow (kq_setRow (kq_setRow (kq_setRow (kq_setRow (kq_setRow k8 hgk _ _) hgk _ _) hgk _ _) hgk _ _) hgk _ _) hgk _ _) hgk _ _) hgk _ _) hgk _ _)
      · rw [hcok.1]; exact hb5
      · exact ret_int rfl
      · rw [hcok.2.2.2]; simpa using hlay
      · exact hcok.2.1.symm
      · rw [hcok.2.2.1]
      · rw [hcok.1, cnt_g]
        exact ER.drew (((((((((h6.setK hg2b _ _).setK hg2b _ _).setK hg2b _ _).setK hg2b _ _).setK hg2b _ _).setK hg2b _ _).setK hg2b _ _).setK hg2b _ _).setK hg2b _ _)
      · rw [hcok.1]
        have e1 : (ps ++ [zeroPP] ++ ks).length = N := by rw [← HNN.out]; simp
        have := hcf.1
        dsimp only at this
        omega
    · refine ⟨rfl, ?_⟩
      rw [HE.out]
      have hx := HL.out.2.2.2.2.1
      refine ⟨k7, .inr ⟨?_, ?_⟩⟩
      · rw [hx]; exact hb5
      · rw [hx]
  · refine ⟨rfl, ?_⟩
    rw [HE.out, countS_bad hbd]
    exact ⟨k4, .inr ⟨hbd, rfl⟩⟩

end Go.Proofs.YtmjdaifalgpdnaaGreat
