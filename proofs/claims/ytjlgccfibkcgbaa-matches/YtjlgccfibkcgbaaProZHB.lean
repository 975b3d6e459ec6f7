import Derived.Test.YtjlgccfibkcgbaaProZH
namespace Go.Proofs.Ytjlgccfibkcgbaa
open Go.RowKit Go.Shelf

theorem MS.unique {C : MC} {w : World} {D D' : DataW Value} (h : MS C w D) (h' : MS C w D') : D = D' := by
  obtain ⟨n, ⟨es, cl, e1, -, -, e2⟩, -⟩ := h.own
  obtain ⟨n', ⟨es', cl', e1', -, -, e2'⟩, -⟩ := h'.own
  rw [e1] at e1'
  cases e1'
  rw [e2, e2']

/-- A set that is being gathered in a box of the call's own, beside other boxes of its. -/
structure Acc (C : MC) (w : World) (D : DataW Value) (K : List (Nat × Array Value × TypeId)) (pb : Nat) (R : Nat → Prop) (U : World) (D' : DataW Value) (v : Value) (G : Nat → Bool) : Prop where
  ms0 : MS C w D
  ms : MS C U D'
  step : Step C w D U D'
  keep : ∀ b, b ∈ K → Blk U b.1 b.2.1 b.2.2
  box : Blk U pb #[v] 81
  set : PSet U v G C.L
  holds : ∀ q, G q = true ↔ R q
  base : w.heap.size ≤ pb ∧ ∀ b, b ∈ K → w.heap.size ≤ b.1 ∧ b.1 ≠ pb
  row : ∀ k, v.ownBlock = some k → w.heap.size ≤ k ∧ k ≠ pb ∧ ¬ MRow D' k ∧ ∀ b, b ∈ K → b.1 ≠ k
  mine : ¬ MRow D' pb ∧ ∀ b, b ∈ K → ¬ MRow D' b.1

section
variable {C : MC} {w : World} {D : DataW Value} {K : List (Nat × Array Value × TypeId)} {pb : Nat} {R : Nat → Prop} {U : World} {D' : DataW Value} {v : Value} {G : Nat → Bool}

theorem Blk.ofSame {w w' : World} {k : Nat} {c : Array Value} {t : TypeId} (h : Blk w k c t) (e : w'.heap[k]? = w.heap[k]?) : Blk w' k c t := by
  unfold Blk at h ⊢; rw [e]; exact h

theorem Acc.moved (h : Acc C w D K pb R U D' v G) {U' : World} {D2 : DataW Value} (hm : MS C U' D2) (hs : Step C U D' U' D2) : Acc C w D K pb R U' D2 v G := by
  have same : ∀ k c t, U.heap[k]? = some (Obj.cells c t) → U'.heap[k]? = U.heap[k]? := fun k c t e => hs.kp.block k (Array.getElem?_eq_some_iff.1 e).1 (h.ms.notMap e)
  have nrow : ∀ k, k < U.heap.size → ¬ MRow D' k → ¬ MRow D2 k := fun k hk hn hr => by
    rcases hs.rows k hr with e | e
    · exact hn e
    · omega
  refine ⟨h.ms0, hm, h.step.trans hs, fun b hb => (h.keep b hb).ofSame (same _ _ _ (h.keep b hb)), h.box.ofSame (same _ _ _ h.box), h.set.agree fun k e => ?_, h.holds, h.base, fun k e => ?_, nrow _ h.box.lt h.mine.1, fun b hb => nrow _ (h.keep b hb).lt (h.mine.2 b hb)⟩
  · obtain ⟨c, t, hc⟩ := h.set.cells k e
    exact same _ _ _ hc
  · obtain ⟨h1, h2, h3, h4⟩ := h.row k e
    exact ⟨h1, h2, nrow k (h.set.lt k e) h3, h4⟩

theorem Acc.usedLow (h : Acc C w D K pb R U D' v G) {k : Nat} (hu : Used C D' k) : k < w.heap.size ∨ MRow D' k := by
  rcases hu with rfl | rfl | rfl | e | e
  · exact .inl h.ms0.m.lt
  · exact .inl h.ms0.x.lt
  · exact .inl h.ms0.mmLt
  · exact .inl (h.ms0.flat.lt k e)
  · exact .inr e

theorem Acc.turn (h : Acc C w D K pb R U D' v G) {k : Nat} {o o' : Obj} (hk : w.heap.size ≤ k) (ho : U.heap[k]? = some o) (hr : IsRec o) : Acc C w D K pb R (U.putObj k o') D' v G := by
  have hc := cells_turn (o' := o') ho hr
  have hne : ∀ i c t, U.heap[i]? = some (Obj.cells c t) → (U.putObj k o').heap[i]? = U.heap[i]? := fun i c t e => (hc i c t e).trans e.symm
  have hmm : k ≠ C.mm := by
    rintro rfl
    obtain ⟨es, cl, e⟩ := h.ms.mapAt
    rw [ho] at e
    rcases hr with ⟨r, rfl⟩ | ⟨d, rfl⟩ <;> cases e
  refine ⟨h.ms0, h.ms.agree fun i hu => ?_, ⟨⟨h.step.kp.os, h.step.kp.tape, h.step.kp.output, by simpa using h.step.kp.size, fun i hi hm => (World.putObj_heap_other (by omega)).trans (h.step.kp.block i hi hm)⟩, h.step.rows⟩, fun b hb => hc _ _ _ (h.keep b hb), hc _ _ _ h.box, h.set.agree fun i e => ?_, h.holds, h.base, h.row, h.mine⟩
  · rcases hu with rfl | rfl | rfl | e | e
    · exact hne _ _ _ h.ms.m
    · exact hne _ _ _ h.ms.x
    · exact World.putObj_heap_other (Ne.symm hmm)
    · have := h.ms0.flat.lt i e
      exact World.putObj_heap_other (by omega)
    · obtain ⟨_, c, t, e2⟩ := h.ms.rows i e
      exact hne _ _ _ e2
  · obtain ⟨c, t, e2⟩ := h.set.cells i e
    exact hne _ _ _ e2

/-- More ends come into the set. -/
theorem Acc.more (h : Acc C w D K pb R U D' v G) {R' : Nat → Prop} {G' : Nat → Bool} {U' : World} (hp : SetPost U pb v G' C.L U') (hG : ∀ q, G' q = true ↔ R' q) : ∃ v', Acc C w D K pb R' U' D' v' G' ∧ (v'.ownBlock = v.ownBlock ∨ ∀ k, v'.ownBlock = some k → U.heap.size ≤ k) := by
  obtain ⟨v', ws', b1, h1, h2, h3, k4, h5, h6⟩ := hp
  refine ⟨v', ?_, h6⟩
  have keep : ∀ k, k < U.heap.size → k ≠ pb → v.ownBlock ≠ some k → U'.heap[k]? = U.heap[k]? := fun k hk hn hr => k4.block k hk hn (fun e => hr e.symm)
  refine ⟨h.ms0, h.ms.agree fun k hu => ?_, ⟨⟨k4.os.trans h.step.kp.os, k4.tape.trans h.step.kp.tape, k4.output.trans h.step.kp.output, Nat.le_trans h.step.kp.size k4.size, fun k hk hn => ?_⟩, h.step.rows⟩, fun b hb => ?_, b1, ⟨ws', h1, h2, h3⟩, hG, h.base, fun k e => ?_, h.mine⟩
  · refine keep k (h.ms.usedLt hu) ?_ ?_
    · rintro rfl
      rcases h.usedLow hu with e | e
      · have := h.base.1; omega
      · exact h.mine.1 e
    · intro e
      obtain ⟨r1, r2, r3, r4⟩ := h.row k e
      rcases h.usedLow hu with e | e
      · omega
      · exact r3 e
  · refine (keep k (Nat.lt_of_lt_of_le hk h.step.kp.size) ?_ ?_).trans (h.step.kp.block k hk hn)
    · rintro rfl; have := h.base.1; omega
    · intro e; have := (h.row k e).1; omega
  · refine (h.keep b hb).ofSame (keep _ (h.keep b hb).lt (h.base.2 b hb).2 ?_)
    intro e
    exact (h.row _ e).2.2.2 b hb rfl
  · rcases h6 with e6 | e6
    · rw [e6] at e
      obtain ⟨r1, r2, r3, r4⟩ := h.row k e
      exact ⟨r1, r2, r3, r4⟩
    · have hk := e6 k e
      have hsz := h.step.kp.size
      refine ⟨by omega, ?_, ?_, ?_⟩
      · rintro rfl; exact h5 e
      · intro hr; have := (h.ms.rows k hr).1; omega
      · rintro b hb rfl
        have := (h.keep b hb).lt
        omega

/-- Nothing was gathered yet. -/
theorem Acc.start (h0 : MS C w D) {W : World} (hb : Below w.heap.size w W) (hk : ∀ b, b ∈ K → Blk W b.1 b.2.1 b.2.2) (hbox : Blk W pb #[.slice none 0 0] 81) (hbase : w.heap.size ≤ pb ∧ ∀ b, b ∈ K → w.heap.size ≤ b.1 ∧ b.1 ≠ pb) : Acc C w D K pb (fun _ => False) W D (.slice none 0 0) (fun _ => false) := by
  have nr : ∀ k, w.heap.size ≤ k → ¬ MRow D k := fun k hk hr => by have := (h0.rows k hr).1; omega
  exact ⟨h0, h0.below hb, Step.below hb, hk, hbox, PSet.empty _ _, fun q => ⟨fun h => (by cases h), fun h => h.elim⟩, hbase, fun k e => (by cases e), nr _ hbase.1, fun b hb => nr _ (hbase.2 b hb).1⟩

theorem EndsPost.later {e : Ending} {V V' : World} (h : EndsPost C w D R e V) (hb : Below V.heap.size V V') : EndsPost C w D R e V' := by
  obtain ⟨v, G, D', rfl, h1, h2, h3, h4, h5⟩ := h
  exact ⟨v, G, D', rfl, h1.agree fun k e => hb.block k (h1.lt k e), h2, h3.below hb, h4.trans (Step.below hb), h5⟩

theorem EndsPost.turn {e : Ending} {V : World} (h : EndsPost C w D R e V) (h0 : MS C w D) {k : Nat} {o o' : Obj} (hk : w.heap.size ≤ k) (ho : V.heap[k]? = some o) (hr : IsRec o) : EndsPost C w D R e (V.putObj k o') := by
  obtain ⟨v, G, D', rfl, h1, h2, h3, h4, h5⟩ := h
  have hc := cells_turn (o' := o') ho hr
  have hne : ∀ i c t, V.heap[i]? = some (Obj.cells c t) → (V.putObj k o').heap[i]? = V.heap[i]? := fun i c t e => (hc i c t e).trans e.symm
  have hmm : k ≠ C.mm := by
    rintro rfl
    obtain ⟨es, cl, e⟩ := h3.mapAt
    rw [ho] at e
    rcases hr with ⟨r, rfl⟩ | ⟨d, rfl⟩ <;> cases e
  refine ⟨v, G, D', rfl, h1.agree fun i e => ?_, h2, h3.agree fun i hu => ?_, ⟨⟨h4.kp.os, h4.kp.tape, h4.kp.output, by simpa using h4.kp.size, fun i hi hm => (World.putObj_heap_other (by omega)).trans (h4.kp.block i hi hm)⟩, h4.rows⟩, h5⟩
  · obtain ⟨c, t, e2⟩ := h1.cells i e
    exact hne _ _ _ e2
  · rcases hu with rfl | rfl | rfl | e | e
    · exact hne _ _ _ h3.m
    · exact hne _ _ _ h3.x
    · exact World.putObj_heap_other (Ne.symm hmm)
    · have := h0.flat.lt i e
      exact World.putObj_heap_other (by omega)
    · obtain ⟨_, c, t, e2⟩ := h3.rows i e
      exact hne _ _ _ e2

/-- The set that was gathered is kept in the map, and answered in the result's own box. -/
theorem Acc.kept (h : Acc C w D K pb R U D' v G) {i c p : Int} {U1 : World} (hm1 : MS C U1 (D'.put (key3L i c p) (.held (.agg #[v])))) (hgr : U.drew.grownBy U1 (some C.mm)) {R' : Nat → Prop} (hR : ∀ q, G q = true ↔ R' q) {rb : Nat} {c3 : Array Value} {t3 : TypeId} (hrb : (rb, c3, t3) ∈ K) (o : Nat) (u : Value) :
    EndsPost C w D R' (.returned (.agg #[v])) (U1.setCell ⟨rb, o, none⟩ u) := by
  have hsz : U.heap.size ≤ U1.heap.size := hgr.size
  have hkp : Kp C.mm U U1 := ⟨hgr.os, hgr.tape, hgr.output, hgr.size, fun k hk hn => hgr.block k hk (fun e => hn (Option.some.inj e))⟩
  have hb := h.base.2 _ hrb
  refine EndsPost.boxed (hb.1) (h.set.agree fun k e => ?_) hR hm1 (fun hu => ?_) ⟨h.step.kp.trans hkp, fun k hr => ?_⟩ (fun k e => ?_) o u
  · obtain ⟨c, t, e2⟩ := h.set.cells k e
    exact hkp.block k (h.set.lt k e) (h.ms.notMap e2)
  · have : rb < w.heap.size ∨ MRow (D'.put (key3L i c p) (.held (.agg #[v]))) rb := by
      rcases hu with rfl | rfl | rfl | e | e
      · exact .inl h.ms0.m.lt
      · exact .inl h.ms0.x.lt
      · exact .inl h.ms0.mmLt
      · exact .inl (h.ms0.flat.lt _ e)
      · exact .inr e
    rcases this with e | e
    · have := hb.1; omega
    · rcases mrow_put h.ms.isMap e with e | e
      · exact h.mine.2 _ hrb e
      · exact (h.row _ e).2.2.2 _ hrb rfl
  · rcases mrow_put h.ms.isMap hr with e | e
    · exact h.step.rows k e
    · exact .inr (h.row k e).1
  · exact ⟨.inr (h.row k e).1, fun e2 => (h.row k e).2.2.2 _ hrb e2.symm⟩

/-- The blocks that a round may turn. -/
def OwnB (C : MC) (pb : Nat) (U : World) (k : Nat) : Prop := k = C.mm ∨ k = pb ∨ ∃ v, U.cell? ⟨pb, 0, none⟩ = some v ∧ v.ownBlock = some k

theorem Acc.owned (h : Acc C w D K pb R U D' v G) {k : Nat} (hk : OwnB C pb U k) : (k = C.mm ∨ ∃ c t, U.heap[k]? = some (.cells c t)) ∧ ¬ MRow D' k := by
  rcases hk with rfl | rfl | ⟨v', e, e2⟩
  · refine ⟨.inl rfl, fun hr => ?_⟩
    obtain ⟨_, c, t, e⟩ := h.ms.rows _ hr
    exact h.ms.notMap e rfl
  · exact ⟨.inr ⟨_, _, h.box⟩, h.mine.1⟩
  · have := h.box.cell 0 (v := v) rfl
    rw [e] at this
    cases this
    exact ⟨.inr (h.set.cells k e2), (h.row k e2).2.2.1⟩

theorem Acc.ownSame (h : Acc C w D K pb R U D' v G) {U' : World} (hc : ∀ (k : Nat) (c : Array Value) (t : TypeId), U.heap[k]? = some (Obj.cells c t) → U'.heap[k]? = some (Obj.cells c t)) (k : Nat) (hk : OwnB C pb U' k) : OwnB C pb U k := by
  rcases hk with rfl | rfl | ⟨v', e, e2⟩
  · exact .inl rfl
  · exact .inr (.inl rfl)
  · have e1 : U'.cell? ⟨pb, 0, none⟩ = some v := Blk.cell (hc _ _ _ h.box) 0 rfl
    rw [e] at e1
    cases e1
    exact .inr (.inr ⟨v, h.box.cell 0 rfl, e2⟩)

/-- What a step and more ends turn. -/
theorem Acc.keepO (h : Acc C w D K pb R U D' v G) {B0 : Nat} {U1 U2 : World} {D1 : DataW Value} {R2 : Nat → Prop} {v2 : Value} {G2 : Nat → Bool} (hs : Step C U D' U1 D1) (h2 : Acc C w D K pb R2 U2 D1 v2 G2) (hp : Kq pb v.ownBlock U1 U2) (hv : v2.ownBlock = v.ownBlock ∨ ∀ k, v2.ownBlock = some k → U1.heap.size ≤ k) : KeepO B0 (OwnB C pb) U U2 := by
  have hsz := hs.kp.size
  refine ⟨Nat.le_trans hsz hp.size, fun k hk _ hn => ?_, fun k hk ho => ?_⟩
  · have n1 : k ≠ C.mm := fun e => hn (.inl e)
    have n2 : k ≠ pb := fun e => hn (.inr (.inl e))
    have n3 : v.ownBlock ≠ some k := fun e => hn (.inr (.inr ⟨v, h.box.cell 0 rfl, e⟩))
    exact (hp.block k (by omega) n2 (fun e => n3 e.symm)).trans (hs.kp.block k hk n1)
  · rcases ho with rfl | rfl | ⟨v', e, e2⟩
    · exact .inl rfl
    · exact .inr (.inl rfl)
    · have := h2.box.cell 0 (v := v2) rfl
      rw [e] at this
      cases this
      rcases hv with e3 | e3
      · rw [e3] at e2
        exact .inr (.inr ⟨v, h.box.cell 0 rfl, e2⟩)
      · have := e3 k e2; omega

theorem Acc.congr (h : Acc C w D K pb R U D' v G) {R' : Nat → Prop} (hR : ∀ q, R q ↔ R' q) : Acc C w D K pb R' U D' v G :=
  ⟨h.ms0, h.ms, h.step, h.keep, h.box, h.set, fun q => (h.holds q).trans (hR q), h.base, h.row, h.mine⟩

theorem Acc.wider (h : Acc C w D K pb R U D' v G) {K' : List (Nat × Array Value × TypeId)} (hk : ∀ b, b ∈ K' → Blk U b.1 b.2.1 b.2.2 ∧ w.heap.size ≤ b.1 ∧ b.1 ≠ pb ∧ ¬ MRow D' b.1 ∧ v.ownBlock ≠ some b.1) : Acc C w D (K ++ K') pb R U D' v G := by
  refine ⟨h.ms0, h.ms, h.step, fun b hb => ?_, h.box, h.set, h.holds, ⟨h.base.1, fun b hb => ?_⟩, fun k e => ?_, h.mine.1, fun b hb => ?_⟩
  · rcases List.mem_append.1 hb with hb | hb
    · exact h.keep b hb
    · exact (hk b hb).1
  · rcases List.mem_append.1 hb with hb | hb
    · exact h.base.2 b hb
    · exact ⟨(hk b hb).2.1, (hk b hb).2.2.1⟩
  · obtain ⟨r1, r2, r3, r4⟩ := h.row k e
    refine ⟨r1, r2, r3, fun b hb => ?_⟩
    rcases List.mem_append.1 hb with hb | hb
    · exact r4 b hb
    · rintro rfl; exact (hk b hb).2.2.2.2 e
  · rcases List.mem_append.1 hb with hb | hb
    · exact h.mine.2 b hb
    · exact (hk b hb).2.2.2.1

theorem Acc.drewN (h : Acc C w D K pb R U D' v G) (n : Nat) : Acc C w D K pb R (U.drewN n) D' v G :=
  h.moved (h.ms.agree fun _ _ => rfl) (Step.below ((Below.refl _ _).trans ⟨rfl, rfl, rfl, Nat.le_refl _, fun _ _ => rfl⟩))

theorem keepO_put {B0 : Nat} {o o' : Obj} {W W' : World} (hpb : pb ≠ B0 + 1) (h : KeepO B0 (OwnB C pb) (W.putObj (B0 + 1) o) W') : KeepO B0 (OwnB C pb) W (W'.putObj (B0 + 1) o') := by
  have hc : ∀ (V : World) (o : Obj), (V.putObj (B0 + 1) o).cell? ⟨pb, 0, none⟩ = V.cell? ⟨pb, 0, none⟩ := fun V o => by
    simp only [World.cell?, World.putObj_heap_other hpb]
  have ho : ∀ (V : World) (o : Obj) (k : Nat), OwnB C pb (V.putObj (B0 + 1) o) k ↔ OwnB C pb V k := fun V o k => by
    unfold OwnB; rw [hc]
  refine ⟨by simpa using h.size, fun k hk hn hw => ?_, fun k hk hw => ?_⟩
  · rw [World.putObj_heap_other hn, h.same k (by simpa using hk) hn (fun e => hw ((ho _ _ _).1 e)), World.putObj_heap_other hn]
  · exact (ho _ _ _).1 (h.own k (by simpa using hk) ((ho _ _ _).1 hw))
end

end Go.Proofs.Ytjlgccfibkcgbaa
