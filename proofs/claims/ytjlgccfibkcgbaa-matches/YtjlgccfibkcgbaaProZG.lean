import Derived.Test.YtjlgccfibkcgbaaProZF
import Derived.Deep.RegionHeld3
namespace Go.Proofs.Ytjlgccfibkcgbaa
open Go.RowKit Go.Shelf

/-- What a call that answers a set of ends does. -/
def EndsPost (C : MC) (w : World) (D : DataW Value) (R : Nat → Prop) (e : Ending) (w' : World) : Prop :=
  ∃ v G D', e = .returned (.agg #[v]) ∧ PSet w' v G C.L ∧ (∀ q, G q = true ↔ R q) ∧ MS C w' D' ∧ Step C w D w' D' ∧ ∀ k, v.ownBlock = some k → MRow D k ∨ w.heap.size ≤ k

def ListC (C : MC) (ps : List Part) : Prop := ∀ (i : Int) (p : Nat) (w : World) (D : DataW Value), AtW C i ps → p ≤ C.s.size → MS C w D →
  Calls Try.prog 33 #[.pointer (some ⟨C.mb, 0, none⟩), .int .i64 i, .int .i64 (p : Nat)] w (EndsPost C w D (SeqR C.s ps p))

theorem flat_at {w : World} {g cap : Nat} {all : List PP} (h : Flat w (.slice (some ⟨g, 0, none⟩) all.length cap) all) {j : Nat} {P : PP} (hj : all[j]? = some P) {o : Nat} (ho : o < 9) : w.cell? ⟨g, j * 9 + o, none⟩ = P.cells[o]? := by
  have hlt := (List.getElem?_eq_some_iff.1 hj).1
  have e : all = all.take j ++ P :: all.drop (j + 1) := by
    have h1 := List.take_append_drop j all
    have h2 : all.drop j = P :: all.drop (j + 1) := by
      rw [List.drop_eq_getElem_cons hlt]
      rw [(List.getElem?_eq_some_iff.1 hj).2]
    rw [h2] at h1
    exact h1.symm
  have hl : (all.take j).length = j := by rw [List.length_take]; omega
  generalize all.take j = A at *
  generalize all.drop (j + 1) = B at *
  subst e
  have := flat_get h ho
  rw [hl] at this
  exact this

/-- The cells of a part at its number. -/
theorem part_cells {w : World} {g cap : Nat} {all : List PP} (h : Flat w (.slice (some ⟨g, 0, none⟩) all.length cap) all) {j : Nat} {P : PP} (hj : all[j]? = some P) :
    w.cell? ⟨g, j * 9, none⟩ = some (.int .u64 (P.W 0 : Nat)) ∧ w.cell? ⟨g, j * 9 + 1, none⟩ = some (.int .u64 (P.W 1 : Nat)) ∧ w.cell? ⟨g, j * 9 + 2, none⟩ = some (.int .u64 (P.W 2 : Nat)) ∧ w.cell? ⟨g, j * 9 + 3, none⟩ = some (.int .u64 (P.W 3 : Nat)) ∧
    w.cell? ⟨g, j * 9 + 4, none⟩ = some (.int .i64 P.group) ∧ w.cell? ⟨g, j * 9 + 5, none⟩ = some (.int .i64 P.inner) ∧ w.cell? ⟨g, j * 9 + 6, none⟩ = some (.int .i64 P.next) ∧ w.cell? ⟨g, j * 9 + 7, none⟩ = some (.int .i64 P.least) ∧ w.cell? ⟨g, j * 9 + 8, none⟩ = some (.int .i64 P.most) :=
  ⟨(flat_at h hj (o := 0) (by omega)), flat_at h hj (o := 1) (by omega), flat_at h hj (o := 2) (by omega), flat_at h hj (o := 3) (by omega), flat_at h hj (o := 4) (by omega), flat_at h hj (o := 5) (by omega), flat_at h hj (o := 6) (by omega), flat_at h hj (o := 7) (by omega), flat_at h hj (o := 8) (by omega)⟩

set_option maxRecDepth 100000 in
set_option maxHeartbeats 1000000 in
theorem load96 (w : World) (g o : Nat) (a b c d : Value) (h0 : w.cell? ⟨g, o, none⟩ = some a) (h1 : w.cell? ⟨g, o + 1, none⟩ = some b) (h2 : w.cell? ⟨g, o + 2, none⟩ = some c) (h3 : w.cell? ⟨g, o + 3, none⟩ = some d) :
    (Instr.loadAt 96 (.pointer (some ⟨g, o, none⟩))).run Try.prog w = .ok (.agg #[a, b, c, d]) w := by
  simp [go_sem, h0, h1, h2, h3]

/-- The first sight of the parts. -/
theorem MS.parts {C : MC} {w : World} {D : DataW Value} (h : MS C w D) {j : Nat} {P : PP} (hj : C.all[j]? = some P) : ∃ g cap, C.pv = .slice (some ⟨g, 0, none⟩) C.all.length cap ∧ g < w.heap.size ∧ C.all.length ≤ cap := by
  have := (List.getElem?_eq_some_iff.1 hj).1
  exact Flat.some h.flat (by omega)

theorem MS.setBox {C : MC} {w : World} {D : DataW Value} (h : MS C w D) {k : Nat} (hk : ¬ Used C D k) (o : Nat) (u : Value) : MS C (w.setCell ⟨k, o, none⟩ u) D :=
  h.agree fun j hu => Below.heap_setCell _ _ _ _ (fun e => hk (by rw [show k = j from e.symm]; exact hu))
theorem PSet.form {w : World} {v : Value} {G : Nat → Bool} {L : Nat} (h : PSet w v G L) : ∃ pa n cap, v = .slice pa n cap := by
  obtain ⟨ws, hw, _⟩ := h
  obtain ⟨pa, cap, e⟩ := hw.form
  exact ⟨pa, _, cap, e⟩
theorem PSet.setBox {w : World} {v : Value} {G : Nat → Bool} {L : Nat} (h : PSet w v G L) {k : Nat} (hk : v.ownBlock ≠ some k) (o : Nat) (u : Value) : PSet (w.setCell ⟨k, o, none⟩ u) v G L :=
  h.agree fun j hj => Below.heap_setCell _ _ _ _ (fun e => hk (by rw [show k = j from e.symm]; exact hj))
/-- A block that was laid before the call and is none of the matcher's is none afterwards. -/
theorem Step.unused {C : MC} {w w' : World} {D D' : DataW Value} (h : Step C w D w' D') {k : Nat} (hk : ¬ Used C D k) (hl : k < w.heap.size) : ¬ Used C D' k := by
  rintro (e | e | e | e | e)
  · exact hk (.inl e)
  · exact hk (.inr (.inl e))
  · exact hk (.inr (.inr (.inl e)))
  · exact hk (.inr (.inr (.inr (.inl e))))
  · rcases h.rows k e with e | e
    · exact hk (.inr (.inr (.inr (.inr e))))
    · omega
theorem MS.fresh {C : MC} {w : World} {D : DataW Value} (h : MS C w D) {k : Nat} (hk : w.heap.size ≤ k) : ¬ Used C D k := fun hu => by have := h.usedLt hu; omega

theorem res81 {fn : Func} {a : Tmp} (h : fn.results = #[.cell a 81]) {tmps : Array Value} {b : Nat} (ht : tmps[a]?.getD undef = .pointer (some ⟨b, 0, none⟩)) {w : World} {v : Value} (hc : w.cell? ⟨b, 0, none⟩ = some v) : (results fn tmps).run Try.prog w = .ok (.agg #[v]) w := by
  simp [results, h, go_sem, ht, hc]

/-- Ends in a set that lies in the result's own cell. -/
theorem EndsPost.boxed {C : MC} {w w1 : World} {D D' : DataW Value} {R : Nat → Prop} {v : Value} {G : Nat → Bool} {k : Nat} (hk : w.heap.size ≤ k) (hv : PSet w1 v G C.L) (hG : ∀ q, G q = true ↔ R q) (hm : MS C w1 D') (hu : ¬ Used C D' k) (hst : Step C w D w1 D') (hrow : ∀ j, v.ownBlock = some j → (MRow D j ∨ w.heap.size ≤ j) ∧ j ≠ k) (o : Nat) (u : Value) :
    EndsPost C w D R (.returned (.agg #[v])) (w1.setCell ⟨k, o, none⟩ u) :=
  ⟨v, G, D', rfl, hv.setBox (fun e => (hrow k e).2 rfl) o u, hG, hm.setBox hu o u, ⟨hst.kp.setNew (p := ⟨k, o, none⟩) hk u, hst.rows⟩, fun j hj => (hrow j hj).1⟩

/-- .. where nothing that was there has turned. -/
theorem EndsPost.new {C : MC} {w w1 : World} {D : DataW Value} {R : Nat → Prop} {v : Value} {G : Nat → Bool} {k : Nat} (h : MS C w D) (hb : Below w.heap.size w w1) (hk : w.heap.size ≤ k) (hv : PSet w1 v G C.L) (hG : ∀ q, G q = true ↔ R q) (hrow : ∀ j, v.ownBlock = some j → w.heap.size ≤ j ∧ j ≠ k) (o : Nat) (u : Value) :
    EndsPost C w D R (.returned (.agg #[v])) (w1.setCell ⟨k, o, none⟩ u) :=
  EndsPost.boxed hk hv hG (h.below hb) (h.fresh hk) (Step.below hb) (fun j e => ⟨.inr (hrow j e).1, (hrow j e).2⟩) o u

theorem atomR_group {s : ByteArray} {x : Part} (hg : x.g ≠ 0) (p q : Nat) : AtomR s x p q ↔ SeqR s x.kids p q := by
  obtain ⟨g, kids, neg, ps, mn, mx⟩ := x
  simp only [Part.g] at hg
  simp only [AtomR, if_neg hg, Part.kids]
theorem atomR_plain {s : ByteArray} {x : Part} (hg : x.g = 0) (p q : Nat) : AtomR s x p q ↔ q = p + 1 ∧ ∃ h : p < s.size, oneB x.neg x.ps (s[p]'h).toNat = true := by
  obtain ⟨g, kids, neg, ps, mn, mx⟩ := x
  simp only [Part.g] at hg
  simp only [AtomR, if_pos hg, Part.neg, Part.ps]

set_option maxRecDepth 100000 in
set_option maxHeartbeats 1000000 in
theorem atomEnds_any (C : MC) (ok : C.Ok) (x : Part) (xs : List Part) (ih : ListC C x.kids) (hk : x.g ≠ 0 → ∀ j P, AtP C.all j P x xs → AtW C P.inner x.kids) (j : Nat) (P : PP) (hP : AtP C.all j P x xs) (g cap : Nat) (hpv : C.pv = .slice (some ⟨g, 0, none⟩) C.all.length cap)
    (p : Nat) (hp : p ≤ C.s.size) (w : World) (D : DataW Value) (h : MS C w D) :
    Calls Try.prog 84 #[.pointer (some ⟨C.mb, 0, none⟩), .pointer (some ⟨g, j * 9, none⟩), .int .i64 (p : Nat)] w (EndsPost C w D (AtomR C.s x p)) := by
  have hB := (Below.refl w.heap.size w).alloc (Nat.le_refl _) (.cells #[.slice none 0 0] 81)
  have B := Blk.new w #[.slice none 0 0] 81
  have h' := h.below hB
  have hfl := h'.flat
  rw [hpv] at hfl
  obtain ⟨c0, c1, c2, c3, c4, c5, -, -, -⟩ := part_cells hfl hP.get
  have m1 : (w.alloc (.cells #[.slice none 0 0] 81)).cell? ⟨C.mb, 1, none⟩ = some (.string C.s) := h'.m.cell 1 rfl
  have hsm := ok.small
  have HS := hide (And.intro h (And.intro h' hB))
  by_cases hg : x.g = 0
  · obtain ⟨hg0, hW⟩ := hP.plain hg
    rw [hg0] at c4
    have hB2 := hB.alloc (show w.heap.size ≤ _ by simp) (.cells #[.slice none 0 0] 81)
    have B2 := Blk.newAt (w := w.alloc (.cells #[.slice none 0 0] 81)) (k := w.heap.size + 1) (c := #[.slice none 0 0]) (t := 81) (by simp)
    have h2 := h.below hB2
    have hfl2 := h2.flat
    rw [hpv] at hfl2
    obtain ⟨d0, d1, d2, d3, d4, -, -, -, -⟩ := part_cells hfl2 hP.get
    clear d4 c0 c1 c2 c3
    have m2 : ((w.alloc (.cells #[.slice none 0 0] 81)).alloc (.cells #[.slice none 0 0] 81)).cell? ⟨C.mb, 1, none⟩ = some (.string C.s) := h2.m.cell 1 rfl
    have BB := B.alloc (.cells #[.slice none 0 0] 81)
    have HW := hide (And.intro hW (And.intro hP hg))
    clear ih hk h hP hfl h' hB hW h2 hfl2
    by_cases hl : p < C.s.size
    · have hd : decide ((p : Int) < (C.s.size : Nat)) = true := by simp; omega
      have HB2 := hide hB2
      clear hB2
      have hl1 : C.mb < ((w.alloc (.cells #[.slice none 0 0] 81)).alloc (.cells #[.slice none 0 0] 81)).heap.size := by have := HS.out.1.m.lt; simp; omega
      have hl2 : g < ((w.alloc (.cells #[.slice none 0 0] 81)).alloc (.cells #[.slice none 0 0] 81)).heap.size := by
        have := HS.out.1.flat.lt g (by rw [hpv]; rfl)
        simp; omega
      go_enter Try.func84, Try.ntmps84
      go_wp2_with fail
      go_region_held3 (fun w' => w'.cell? ⟨C.mb, 1, none⟩ = some (.string C.s) ∧ w'.cell? ⟨g, j * 9, none⟩ = some (.int .u64 (P.W 0 : Nat)) ∧ w'.cell? ⟨g, j * 9 + 1, none⟩ = some (.int .u64 (P.W 1 : Nat)) ∧ w'.cell? ⟨g, j * 9 + 2, none⟩ = some (.int .u64 (P.W 2 : Nat)) ∧ w'.cell? ⟨g, j * 9 + 3, none⟩ = some (.int .u64 (P.W 3 : Nat))) (go_keep)
        (first | (go_at_call 91; refine (bhas_any P.W _ (C.s[p]'hl).toNat (UInt8.toNat_lt _) HW.out.1 _).mono ?_; rintro e w3 ⟨rfl, hb3⟩; have m3 := (hb3.cell (p := ⟨C.mb, 1, none⟩) hl1).trans m2; have e0 := (hb3.cell (p := ⟨g, j * 9, none⟩) hl2).trans d0; have e1 := (hb3.cell (p := ⟨g, j * 9 + 1, none⟩) hl2).trans d1; have e2 := (hb3.cell (p := ⟨g, j * 9 + 2, none⟩) hl2).trans d2; have e3 := (hb3.cell (p := ⟨g, j * 9 + 3, none⟩) hl2).trans d3))
      have hB3 : Below w.heap.size w w3 := HB2.out.drew.trans (hb3.mono (by simp; omega))
      have B3 : Blk w3 (w.heap.size + 1) #[.slice none 0 0] 81 := B2.drew.below hb3
      have B4 : Blk w3 w.heap.size #[.slice none 0 0] 81 := BB.drew.below hb3
      cases hone : oneB x.neg x.ps (C.s[p]'hl).toNat
      · have b3 : w3.cell? ⟨w.heap.size + 1, 0, none⟩ = some (.slice none 0 0) := B3.cell 0 rfl
        have b4 : w3.cell? ⟨w.heap.size, 0, none⟩ = some (.slice none 0 0) := B4.cell 0 rfl
        have bf := B4.fz 0
        have b1 : (w3.setCell ⟨w.heap.size, 0, none⟩ (.slice none 0 0)).cell? ⟨w.heap.size, 0, none⟩ = some (.slice none 0 0) := World.cell?_setCell_same' _ _ _ (by rw [b4]; rfl)
        go_wp2_with fail
        refine bodyPost_ret (res81 rfl rfl b1) rfl ?_
        refine EndsPost.new HS.out.1 hB3 (Nat.le_refl _) (PSet.empty _ _) (fun q => ?_) (fun j e => by cases e) 0 _
        rw [atomR_plain HW.out.2.2]
        constructor
        · intro h; cases h
        · rintro ⟨rfl, _, ho⟩; rw [hone] at ho; cases ho
      · go_wp2_with fail
        rw [show ((p : Int) + 1) = ((p + 1 : Nat) : Int) from by omega]
        refine (add_any (w.heap.size + 1) (.slice none 0 0) [] (fun _ => false) (p + 1) C.L (by unfold MC.L; omega) (by unfold MC.L; omega) w3 B3 ⟨rfl, .inl ⟨rfl, rfl⟩⟩ ⟨fun _ h => (by cases h), fun q => by simp⟩ (by simp [Value.ownBlock]) (Nat.zero_le _)).mono ?_
        rintro e w4 ⟨rfl, v4, ws4, b5, hw4, hh4, hl4, k4, hvb4, hf4⟩
        have hB4 : Below w.heap.size w w4 := hB3.trans ⟨k4.os, k4.tape, k4.output, k4.size, fun k hk => k4.block k (Nat.lt_of_lt_of_le hk hB3.size) (by omega) (by simp [Value.ownBlock])⟩
        have B5 := B4.kq k4 (by omega) (by simp [Value.ownBlock])
        obtain ⟨pa, cap1, rfl⟩ := hw4.form
        have b3 : w4.cell? ⟨w.heap.size + 1, 0, none⟩ = some (.slice pa ws4.length cap1) := b5.cell 0 rfl
        have b4 : w4.cell? ⟨w.heap.size, 0, none⟩ = some (.slice none 0 0) := B5.cell 0 rfl
        have bf := B5.fz 0
        have b1 : (w4.setCell ⟨w.heap.size, 0, none⟩ (.slice pa ws4.length cap1)).cell? ⟨w.heap.size, 0, none⟩ = some (.slice pa ws4.length cap1) := World.cell?_setCell_same' _ _ _ (by rw [b4]; rfl)
        have HV := hide (And.intro hw4 (And.intro hh4 (And.intro hl4 (And.intro hf4 B4.lt))))
        clear hw4 hh4 hl4 hf4
        go_wp2_with fail
        refine bodyPost_ret (res81 rfl rfl b1) rfl ?_
        obtain ⟨hw4, hh4, hl4, hf4, hlt4⟩ := HV.out
        refine EndsPost.new HS.out.1 hB4 (Nat.le_refl _) ⟨ws4, hw4, hh4, hl4⟩ (fun q => ?_) (fun j e => ?_) 0 _
        · rw [atomR_plain HW.out.2.2]
          constructor
          · intro h
            simp at h
            exact ⟨h, hl, hone⟩
          · rintro ⟨rfl, _, ho⟩; simp
        · rcases hf4 with e2 | e2
          · rw [e2] at e; cases e
          · have := e2 j e; omega
    · have hd : decide ((p : Int) < (C.s.size : Nat)) = false := by simp; omega
      have b3 : ((w.alloc (.cells #[.slice none 0 0] 81)).alloc (.cells #[.slice none 0 0] 81)).cell? ⟨w.heap.size + 1, 0, none⟩ = some (.slice none 0 0) := B2.cell 0 rfl
      have b4 : ((w.alloc (.cells #[.slice none 0 0] 81)).alloc (.cells #[.slice none 0 0] 81)).cell? ⟨w.heap.size, 0, none⟩ = some (.slice none 0 0) := BB.cell 0 rfl
      have bf := BB.fz 0
      go_enter Try.func84, Try.ntmps84
      go_wp2_with fail
      go_region
      go_wp2_with fail
      refine bodyPost_ret (res81 rfl rfl b4) rfl ?_
      refine ⟨_, fun _ => false, D, rfl, PSet.empty _ _, fun q => ?_, HS.out.1.below hB2.drew, Step.below hB2.drew, fun k e => by cases e⟩
      rw [atomR_plain HW.out.2.2]
      constructor
      · intro h; cases h
      · rintro ⟨rfl, h1, ho⟩; exact absurd h1 hl
  · obtain ⟨hg0, -⟩ := hP.group hg
    rw [hg0] at c4
    have hgd : decide (0 < (x.g : Int)) = true := by simp; omega
    have HI := hide (And.intro ih (hk hg j P hP))
    clear ih hk h hP hfl h' hB
    go_enter Try.func84, Try.ntmps84
    go_wp2_with fail
    refine (HI.out.1 P.inner p _ D HI.out.2 hp HS.out.2.1).mono ?_
    rintro e w1 ⟨v, G, D', rfl, hv, hG, hm, hst, hrow⟩
    obtain ⟨pa, n, cap1, rfl⟩ := hv.form
    have B1 := B.kp hst.kp (fun e => by have := HS.out.1.mmLt; omega)
    have b0 : w1.cell? ⟨w.heap.size, 0, none⟩ = some (.slice none 0 0) := B1.cell 0 rfl
    have bf := B1.fz 0
    have b1 : (w1.setCell ⟨w.heap.size, 0, none⟩ (.slice pa n cap1)).cell? ⟨w.heap.size, 0, none⟩ = some (.slice pa n cap1) := World.cell?_setCell_same' _ _ _ (by rw [b0]; rfl)
    go_wp2_with fail
    refine bodyPost_ret (res81 rfl rfl b1) rfl ?_
    obtain ⟨h, h', hB⟩ := HS.out
    have hnu := hst.unused (h.fresh (Nat.le_refl _)) (by simp)
    refine EndsPost.boxed (Nat.le_refl _) hv (fun q => (hG q).trans (atomR_group hg p q).symm) hm hnu ((Step.below hB).trans hst) (fun k e => ?_) 0 _
    rcases hrow k e with e | e
    · exact ⟨.inl e, fun e2 => by have := (h.rows k e).1; omega⟩
    · simp at e; exact ⟨.inr (by omega), by omega⟩
end Go.Proofs.Ytjlgccfibkcgbaa
