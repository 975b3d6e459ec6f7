import Derived.Test.YtjlgccfibkcgbaaProZK
namespace Go.Proofs.Ytjlgccfibkcgbaa
open Go.RowKit Go.Shelf
attribute [local go_sem] Oper.semAt_some

/-- The greatest of those of which it is true. -/
def Best (R : Nat → Prop) (m : Nat) : Prop := R m ∧ ∀ m', R m' → m' ≤ m

/-- The matcher, with boxes of the call's own beside it. -/
structure Frm (C : MC) (w : World) (D : DataW Value) (K : List (Nat × Array Value × TypeId)) (U : World) (D' : DataW Value) : Prop where
  ms0 : MS C w D
  ms : MS C U D'
  step : Step C w D U D'
  keep : ∀ b, b ∈ K → Blk U b.1 b.2.1 b.2.2
  base : ∀ b, b ∈ K → w.heap.size ≤ b.1 ∧ ¬ MRow D' b.1

section
variable {C : MC} {w : World} {D : DataW Value} {K : List (Nat × Array Value × TypeId)} {U : World} {D' : DataW Value}
theorem Frm.moved (h : Frm C w D K U D') {U' : World} {D2 : DataW Value} (hm : MS C U' D2) (hs : Step C U D' U' D2) : Frm C w D K U' D2 := by
  refine ⟨h.ms0, hm, h.step.trans hs, fun b hb => (h.keep b hb).ofSame (hs.kp.block _ (h.keep b hb).lt (h.ms.notMap (h.keep b hb))), fun b hb => ⟨(h.base b hb).1, fun hr => ?_⟩⟩
  rcases hs.rows _ hr with e | e
  · exact (h.base b hb).2 e
  · have := (h.keep b hb).lt; omega
theorem Frm.low (h : Frm C w D K U D') {k : Nat} (hu : Used C D' k) : k < w.heap.size ∨ MRow D' k := by
  rcases hu with rfl | rfl | rfl | e | e
  · exact .inl h.ms0.m.lt
  · exact .inl h.ms0.x.lt
  · exact .inl h.ms0.mmLt
  · exact .inl (h.ms0.flat.lt k e)
  · exact .inr e
theorem Frm.turn (h : Frm C w D K U D') {k : Nat} {o o' : Obj} (hk : w.heap.size ≤ k) (ho : U.heap[k]? = some o) (hr : IsRec o) : Frm C w D K (U.putObj k o') D' := by
  have hc := cells_turn (o' := o') ho hr
  have hne : ∀ i c t, U.heap[i]? = some (Obj.cells c t) → (U.putObj k o').heap[i]? = U.heap[i]? := fun i c t e => (hc i c t e).trans e.symm
  have hmm : k ≠ C.mm := by
    rintro rfl
    obtain ⟨es, cl, e⟩ := h.ms.mapAt
    rw [ho] at e
    rcases hr with ⟨r, rfl⟩ | ⟨d, rfl⟩ <;> cases e
  refine ⟨h.ms0, h.ms.agree fun i hu => ?_, ⟨⟨h.step.kp.os, h.step.kp.tape, h.step.kp.output, by simpa using h.step.kp.size, fun i hi hm => (World.putObj_heap_other (by omega)).trans (h.step.kp.block i hi hm)⟩, h.step.rows⟩, fun b hb => hc _ _ _ (h.keep b hb), h.base⟩
  rcases hu with rfl | rfl | rfl | e | e
  · exact hne _ _ _ h.ms.m
  · exact hne _ _ _ h.ms.x
  · exact World.putObj_heap_other (Ne.symm hmm)
  · have := h.ms0.flat.lt i e
    exact World.putObj_heap_other (by omega)
  · obtain ⟨_, c, t, e2⟩ := h.ms.rows i e
    exact hne _ _ _ e2
theorem Frm.start (h0 : MS C w D) {W : World} (hb : Below w.heap.size w W) (hk : ∀ b, b ∈ K → Blk W b.1 b.2.1 b.2.2 ∧ w.heap.size ≤ b.1) : Frm C w D K W D :=
  ⟨h0, h0.below hb, Step.below hb, fun b hb => (hk b hb).1, fun b hb => ⟨(hk b hb).2, fun hr => by have := (h0.rows _ hr).1; have := (hk b hb).2; omega⟩⟩
theorem Frm.drewN (h : Frm C w D K U D') (n : Nat) : Frm C w D K (U.drewN n) D' :=
  h.moved (h.ms.agree fun _ _ => rfl) (Step.below ((Below.refl _ _).trans ⟨rfl, rfl, rfl, Nat.le_refl _, fun _ _ => rfl⟩))
/-- A store into a box of the call's own. -/
theorem Frm.store (h : Frm C w D K U D') {K' : List (Nat × Array Value × TypeId)} {rb o : Nat} {c c' : Array Value} {t : TypeId} {u : Value} (hrb : (rb, c, t) ∈ K) (hc : c.setIfInBounds o u = c') (hK : ∀ b, b ∈ K' → (b ∈ K ∧ b.1 ≠ rb) ∨ b = (rb, c', t)) : Frm C w D K' (U.setCell ⟨rb, o, none⟩ u) D' := by
  have hb := h.base _ hrb
  refine ⟨h.ms0, h.ms.setBox (fun hu => ?_) o u, ⟨h.step.kp.setNew (p := ⟨rb, o, none⟩) hb.1 u, h.step.rows⟩, fun b hbm => ?_, fun b hbm => ?_⟩
  · rcases h.low hu with e | e
    · have := hb.1; omega
    · exact hb.2 e
  · rcases hK b hbm with ⟨h1, h2⟩ | rfl
    · exact (h.keep b h1).other (fun e => h2 e.symm) u
    · exact (h.keep _ hrb).set o u hc
  · rcases hK b hbm with ⟨h1, h2⟩ | rfl
    · exact h.base b h1
    · exact hb
end

theorem res3 {fn : Func} {a : Tmp} (h : fn.results = #[.cell a 3]) {tmps : Array Value} {b : Nat} (ht : tmps[a]?.getD undef = .pointer (some ⟨b, 0, none⟩)) {w : World} {x : Int} (hc : w.cell? ⟨b, 0, none⟩ = some (.int .i64 x)) : (results fn tmps).run Try.prog w = .ok (.int .i64 x) w := by
  simp [results, h, go_sem, ht, hc]

/-- What came last, when the ones ahead of it failed. -/
theorem best_of {R T : Nat → Prop} {l : List Nat} {m : Nat} (hs : SomeOf R (l ++ [m])) (hm : R m) (ht : T m) (hno : ∀ y, y ∈ l → ¬ T y) : Best (fun q => R q ∧ T q) m := by
  refine ⟨⟨hm, ht⟩, fun q hq => ?_⟩
  rcases hs.2 q hq.1 with h | h
  · rcases List.mem_append.1 h with h | h
    · exact absurd hq.2 (hno q h)
    · rw [List.mem_singleton.1 h]; exact Nat.le_refl _
  · have := h m (List.mem_append_right _ (List.mem_singleton.2 rfl)); omega

set_option maxRecDepth 100000 in
set_option maxHeartbeats 1000000 in
theorem partEnd_any (C : MC) (ok : C.Ok) (x : Part) (xs : List Part) (i : Int) (hA : AtW C i (x :: xs)) (p e : Nat) (hp : p ≤ C.s.size) (he : e ≤ C.s.size) (hex : ∃ m, Copies (AtomR C.s x) x.mn x.mx 0 p m ∧ SeqR C.s xs m e) (w : World) (D : DataW Value) (h : MS C w D) :
    Calls Try.prog 49 #[.pointer (some ⟨C.mb, 0, none⟩), .int .i64 i, .int .i64 (p : Nat), .int .i64 (e : Nat)] w fun r w' => ∃ m D', r = .returned (.int .i64 (m : Nat)) ∧ Best (fun m => Copies (AtomR C.s x) x.mn x.mx 0 p m ∧ SeqR C.s xs m e) m ∧ MS C w' D' ∧ Step C w D w' D' := by
  obtain ⟨j, P, rfl, hjl, hP, hAn, hAi⟩ := hA.cons
  obtain ⟨g, cap, hpv, hgl, hcap⟩ := h.parts hP.get
  have hfew := ok.few
  have hsm := ok.small
  have hb1 := ((((Below.refl w.heap.size w).alloc (Nat.le_refl _) (.cells #[.pointer (some ⟨C.mb, 0, none⟩)] 43)).alloc (by simp) (.cells #[.int .i64 (j : Nat)] 3)).alloc (by simp; omega) (.cells #[.int .i64 (e : Nat)] 3)).alloc (by simp; omega) (.cells #[.int .i64 0] 3)
  have k0 : Blk ((((w.alloc (.cells #[.pointer (some ⟨C.mb, 0, none⟩)] 43)).alloc (.cells #[.int .i64 (j : Nat)] 3)).alloc (.cells #[.int .i64 (e : Nat)] 3)).alloc (.cells #[.int .i64 0] 3)) w.heap.size #[.pointer (some ⟨C.mb, 0, none⟩)] 43 := (((Blk.new w _ _).alloc _).alloc _).alloc _
  have k1 : Blk ((((w.alloc (.cells #[.pointer (some ⟨C.mb, 0, none⟩)] 43)).alloc (.cells #[.int .i64 (j : Nat)] 3)).alloc (.cells #[.int .i64 (e : Nat)] 3)).alloc (.cells #[.int .i64 0] 3)) (w.heap.size + 1) #[.int .i64 (j : Nat)] 3 := ((Blk.newAt (by simp)).alloc _).alloc _
  have k2 : Blk ((((w.alloc (.cells #[.pointer (some ⟨C.mb, 0, none⟩)] 43)).alloc (.cells #[.int .i64 (j : Nat)] 3)).alloc (.cells #[.int .i64 (e : Nat)] 3)).alloc (.cells #[.int .i64 0] 3)) (w.heap.size + 1 + 1) #[.int .i64 (e : Nat)] 3 := (Blk.newAt (by simp)).alloc _
  have k3 : Blk ((((w.alloc (.cells #[.pointer (some ⟨C.mb, 0, none⟩)] 43)).alloc (.cells #[.int .i64 (j : Nat)] 3)).alloc (.cells #[.int .i64 (e : Nat)] 3)).alloc (.cells #[.int .i64 0] 3)) (w.heap.size + 1 + 1 + 1) #[.int .i64 0] 3 := Blk.newAt (by simp)
  have hs1 : w.heap.size + 4 ≤ ((((w.alloc (.cells #[.pointer (some ⟨C.mb, 0, none⟩)] 43)).alloc (.cells #[.int .i64 (j : Nat)] 3)).alloc (.cells #[.int .i64 (e : Nat)] 3)).alloc (.cells #[.int .i64 0] 3)).heap.size := by simp
  obtain ⟨K0, hK0⟩ : ∃ K0 : List (Nat × Array Value × TypeId), K0 = [(w.heap.size, #[.pointer (some ⟨C.mb, 0, none⟩)], 43), (w.heap.size + 1, #[.int .i64 (j : Nat)], 3), (w.heap.size + 1 + 1, #[.int .i64 (e : Nat)], 3)] := ⟨_, rfl⟩
  have hF1 : Frm C w D (K0 ++ [(w.heap.size + 1 + 1 + 1, #[.int .i64 0], 3)]) ((((w.alloc (.cells #[.pointer (some ⟨C.mb, 0, none⟩)] 43)).alloc (.cells #[.int .i64 (j : Nat)] 3)).alloc (.cells #[.int .i64 (e : Nat)] 3)).alloc (.cells #[.int .i64 0] 3)) D := by
    refine Frm.start h hb1 (fun b hb => ?_)
    rw [hK0] at hb
    simp only [List.mem_append, List.mem_cons, List.not_mem_nil, or_false] at hb
    rcases hb with (rfl | rfl | rfl) | rfl
    · exact ⟨k0, by simp⟩
    · exact ⟨k1, by simp⟩
    · exact ⟨k2, by simp; omega⟩
    · exact ⟨k3, by simp; omega⟩
  have hm0 : (w.heap.size, #[Value.pointer (some ⟨C.mb, 0, none⟩)], 43) ∈ K0 := by rw [hK0]; simp
  have hm1 : (w.heap.size + 1, #[Value.int .i64 (j : Nat)], 3) ∈ K0 := by rw [hK0]; simp
  have hm2 : (w.heap.size + 1 + 1, #[Value.int .i64 (e : Nat)], 3) ∈ K0 := by rw [hK0]; simp
  have hKn : ∀ b, b ∈ K0 → b.1 ≠ w.heap.size + 1 + 1 + 1 := by
    intro b hb
    rw [hK0] at hb
    simp only [List.mem_cons, List.not_mem_nil, or_false] at hb
    rcases hb with rfl | rfl | rfl <;> simp <;> omega
  have hcall := copy_zero C ok x xs (kids_all C ok x) p hp (j : Int) _ D hA hF1.ms
  rw [show ((0 : Nat) : Int) = 0 from rfl] at hcall
  have HM := hide (And.intro hm0 (And.intro hm1 (And.intro hm2 hKn)))
  have HH := hide (And.intro hA (And.intro h (And.intro hP (And.intro hAn (And.intro hF1 (And.intro hex hs1))))))
  clear hm0 hm1 hm2 hKn hA h hP hAn hAi hF1 hex k0 k1 k2 k3 hb1 hK0 hs1
  refine (callsIn_wide (n := 9)).1 ?_
  refine callsIn_of_wp_marks Try.func49 rfl trivial ?_ rfl
  simp only [Try.ntmps49, List.size_toArray, List.length_cons, List.length_nil, Nat.reduceAdd, Nat.reduceSub, Array.replicate_succ, Array.replicate_zero, List.push_toArray, List.append_toArray, List.nil_append, List.cons_append]
  gi_wp2
  refine ⟨trivial, (callsIn_wide.2 hcall).mono ?_⟩
  rintro r W4 ⟨v4, G4, D4, rfl, hv4, hG4, hm4, hst4, hrow4⟩
  gi_wp2
  refine ⟨trivial, (callsIn_wide.2 (lastFirst_any v4 W4)).mono ?_⟩
  rintro r W5 ⟨rfl, hW5⟩
  gi_wp2
  obtain ⟨hA, h, hP, hAn, hF1, hex, hs1⟩ := HH.out
  have hF4 := hF1.moved hm4 hst4
  have hs4 := hst4.kp.size
  clear hcall HH
  generalize ((((w.alloc (.cells #[.pointer (some ⟨C.mb, 0, none⟩)] 43)).alloc (.cells #[.int .i64 (j : Nat)] 3)).alloc (.cells #[.int .i64 (e : Nat)] 3)).alloc (.cells #[.int .i64 0] 3)) = W1 at *
  obtain ⟨ws, hvw, hvh, hvl⟩ := hv4
  obtain ⟨pa, cap1, gs, rfl, hpa, hgs, hgd, hgc⟩ := hvw.rowD W4.heap.size
  have hb6 : Below W4.heap.size W4 W5 := by rw [hW5]; exact (Below.refl _ _).alloc (Nat.le_refl _) _
  have hs5 : W5.heap.size ≤ W4.heap.size + 1 := by rw [hW5]; simp
  have hs5' : W4.heap.size + 1 ≤ W5.heap.size := by rw [hW5]; simp
  have hB5 : Blk W5 W4.heap.size #[.slice pa ws.length cap1] 81 := by rw [hW5]; exact Blk.new _ _ _
  rw [← hW5]
  clear hW5
  have hgs5 : gs < W5.heap.size := by
    by_cases h0 : 0 < ws.length
    · have := (hgs h0).1; omega
    · have := hgd h0; omega
  have hgB : gs ≠ w.heap.size + 1 + 1 + 1 := by
    by_cases h0 : 0 < ws.length
    · intro e
      rcases hrow4 gs (hgs h0).2 with e2 | e2
      · have := (h.rows gs e2).1; omega
      · omega
    · have := hgd h0; omega
  have hF5 := hF4.moved (hm4.below hb6) (Step.below hb6)
  have hgm : gs ≠ C.mm := by
    by_cases h0 : 0 < ws.length
    · obtain ⟨c, t, hc⟩ := PSet.cells (L := ws.length) ⟨ws, hvw, hvh, Nat.le_refl _⟩ gs (hgs h0).2
      exact hm4.notMap hc
    · rw [hgd h0]; exact hF5.ms.notMap hB5
  obtain ⟨I, hIdef⟩ : ∃ I : List (InSet G4) → World → Prop, I = fun pre U => ∃ D', Frm C w D (K0 ++ [(w.heap.size + 1 + 1 + 1, #[.int .i64 0], 3)]) U D' ∧ (∀ y, y ∈ pre → ¬ SeqR C.s xs y.1 e) ∧ W5.heap.size ≤ U.heap.size := ⟨_, rfl⟩
  obtain ⟨Ix, hIxdef⟩ : ∃ Ix : Code → List (InSet G4) → World → Prop, Ix = fun c pre U => c = .ret ∧ ∃ D' m pre', pre = pre' ++ [m] ∧ Frm C w D (K0 ++ [(w.heap.size + 1 + 1 + 1, #[.int .i64 (m.1 : Nat)], 3)]) U D' ∧ SeqR C.s xs m.1 e ∧ (∀ y, y ∈ pre' → ¬ SeqR C.s xs y.1 e) := ⟨_, rfl⟩
  have hTurn : ∀ s W k o o', I s W → w.heap.size ≤ k → W.heap[k]? = some o → IsRec o → I s (W.putObj k o') := by
    rintro s W k o o' hi hk ho hr
    rw [hIdef] at hi ⊢
    obtain ⟨D', ha, hv, hsz⟩ := hi
    exact ⟨D', ha.turn hk ho hr, hv, by simpa using hsz⟩
  have hTurnX : ∀ c s W k o o', Ix c s W → w.heap.size ≤ k → W.heap[k]? = some o → IsRec o → Ix c s (W.putObj k o') := by
    rintro c s W k o o' hi hk ho hr
    rw [hIxdef] at hi ⊢
    obtain ⟨hc, D', m, pre', h1, h2, h3, h4⟩ := hi
    exact ⟨hc, D', m, pre', h1, h2.turn hk ho hr, h3, h4⟩
  apply range_set (by omega) (Bs := W4.heap.size) (gs := gs) (cap := cap1) (pa := pa) (ws := ws) (G := G4) rfl rfl hvh (by unfold MC.L at hvl; omega) hpa hgs5 (by omega) (hB5.cell 0 rfl) (fun i hi => (hb6.cell (p := ⟨gs, i, none⟩) (hgs (by omega)).1).trans (hgc i hi))
    I Ix (fun s W r r' hr hi => hTurn s W _ _ _ hi (by omega) hr (.inl ⟨_, rfl⟩)) (fun c s W r r' hr hi => hTurnX c s W _ _ _ hi (by omega) hr (.inl ⟨_, rfl⟩))
  case h0 =>
    intro r
    rw [hIdef]
    have hb7 : Below W5.heap.size W5 ((W5.alloc (.deferred (some []))).alloc (.loop r)) := ((Below.refl _ _).alloc (Nat.le_refl _) _).alloc (by simp) _
    exact ⟨D4, hF5.moved (hF5.ms.below hb7) (Step.below hb7), fun y hy => (by cases hy), hb7.size⟩
  case hassign =>
    intro l q U K hK
    gi_wp2
    exact hK
  case hbody =>
    rintro pre q U hi ⟨rl, hrl⟩ hdf hlen
    rw [hIdef] at hi
    obtain ⟨D', hF, hno, hsz⟩ := hi
    have hqs : q.1 ≤ C.s.size := by
      have := (hG4 q.1).1 q.2
      exact (Copies.bound (N := C.s.size) (fun p q hp ha => AtomR.bound C.s x p q hp ha) this hp).2
    have hcall2 := list_all C ok xs P.next q.1 U.drew D' hAn hqs hF.ms.drew
    have hFd := hF.drewN 1
    obtain ⟨S, hS⟩ : ∃ S : World → Prop, S = fun V => V.cell? ⟨w.heap.size, 0, none⟩ = some (.pointer (some ⟨C.mb, 0, none⟩)) ∧ V.cell? ⟨w.heap.size + 1, 0, none⟩ = some (.int .i64 (j : Nat)) ∧ V.cell? ⟨C.mb, 0, none⟩ = some (.pointer (some ⟨C.xb, 0, none⟩)) ∧ V.cell? ⟨C.xb, 2, none⟩ = some (.slice (some ⟨g, 0, none⟩) C.all.length cap) ∧ V.cell? ⟨g, j * 9 + 6, none⟩ = some (.int .i64 P.next) ∧ V.cell? ⟨w.heap.size + 1 + 1, 0, none⟩ = some (.int .i64 (e : Nat)) := ⟨_, rfl⟩
    have hSof : ∀ {V D2}, Frm C w D (K0 ++ [(w.heap.size + 1 + 1 + 1, #[.int .i64 0], 3)]) V D2 → S V := fun {V D2} hb => by
      rw [hS]
      have hfl2 := hb.ms.flat
      rw [hpv] at hfl2
      obtain ⟨-, -, -, -, -, -, q6, -, -⟩ := part_cells hfl2 hP.get
      exact ⟨(hb.keep _ (List.mem_append_left _ HM.out.1)).cell 0 rfl, (hb.keep _ (List.mem_append_left _ HM.out.2.1)).cell 0 rfl, hb.ms.m.cell 0 rfl, by rw [← hpv]; exact hb.ms.x.cell 2 rfl, q6, (hb.keep _ (List.mem_append_left _ HM.out.2.2.1)).cell 0 rfl⟩
    have hS0 : S U.drew := hSof hFd
    have hSp : ∀ V, S V → V.cell? ⟨w.heap.size, 0, none⟩ = some (.pointer (some ⟨C.mb, 0, none⟩)) ∧ V.cell? ⟨w.heap.size + 1, 0, none⟩ = some (.int .i64 (j : Nat)) ∧ V.cell? ⟨C.mb, 0, none⟩ = some (.pointer (some ⟨C.xb, 0, none⟩)) ∧ V.cell? ⟨C.xb, 2, none⟩ = some (.slice (some ⟨g, 0, none⟩) C.all.length cap) ∧ V.cell? ⟨g, j * 9 + 6, none⟩ = some (.int .i64 P.next) ∧ V.cell? ⟨w.heap.size + 1 + 1, 0, none⟩ = some (.int .i64 (e : Nat)) := fun V h => by rw [hS] at h; exact h
    have hfr : ∀ U1 D1 U2, MS C U1 D1 → Step C U.drew D' U1 D1 → Below U1.heap.size U1 U2 → Frm C w D (K0 ++ [(w.heap.size + 1 + 1 + 1, #[.int .i64 0], 3)]) U2 D1 := fun U1 D1 U2 hm1 hst1 hb => (Frm.moved (U := U.drew) hFd hm1 hst1).moved (hm1.below hb) (Step.below hb)
    have hkeep : ∀ U1 D1 U2, MS C U1 D1 → Step C U.drew D' U1 D1 → Below U1.heap.size U1 U2 → (U2.heap[W5.heap.size]? = U.heap[W5.heap.size]? ∧ U2.heap[W5.heap.size + 1]? = U.heap[W5.heap.size + 1]?) ∧ Keep2 gs W4.heap.size U U2 ∧ W5.heap.size ≤ U2.heap.size := fun U1 D1 U2 hm1 hst1 hb => by
      have hU : U.drew.heap.size = U.heap.size := rfl
      have hs1 := hst1.kp.size
      have keep : ∀ k, k < U.heap.size → k ≠ C.mm → U2.heap[k]? = U.heap[k]? := fun k hk n1 => (hb.block k (by omega)).trans (hst1.kp.block k hk n1)
      have hrec : ∀ k o, U.heap[k]? = some o → IsRec o → U2.heap[k]? = U.heap[k]? := fun k o hk ho => by
        have hlt := (Array.getElem?_eq_some_iff.1 hk).1
        refine keep k hlt ?_
        rintro rfl
        obtain ⟨es, cl, e⟩ := hF.ms.mapAt
        rw [hk] at e
        rcases ho with ⟨_, rfl⟩ | ⟨_, rfl⟩ <;> cases e
      exact ⟨⟨hrec _ _ hdf (.inr ⟨_, rfl⟩), hrec _ _ hrl (.inl ⟨_, rfl⟩)⟩, ⟨keep gs (by omega) hgm, keep _ (by omega) (hF5.ms.notMap hB5)⟩, by have := hb.size; omega⟩
    have HI := hide (And.intro hIdef hIxdef)
    clear hF hFd hS hF5 hF4 hF1 hTurn hTurnX hrl hdf hIdef hIxdef
    gi_wp2
    refine round_held (S := S) (by kernel_rfl) (by kernel_rfl) (by rintro ⟨a, w, h⟩; exact h) ?_
    refine wpAnyH_take (i := 0) (v := .pointer (some ⟨C.mb, 0, none⟩)) rfl (by kernel_rfl) (by kernel_rfl) (by kernel_rfl) (fun _ _ _ h => h) (Or.inl ⟨by rfl, fun V hV => by obtain ⟨s0, s1, s2, s3, s4, s5⟩ := hSp V hV; go_simp⟩) hS0 ?_
    refine wpAnyH_take (i := 1) (v := .pointer (some ⟨C.mb, 0, none⟩)) rfl (by kernel_rfl) (by kernel_rfl) (by kernel_rfl) (fun _ _ _ h => h) (Or.inl ⟨by rfl, fun V hV => by obtain ⟨s0, s1, s2, s3, s4, s5⟩ := hSp V hV; go_simp⟩) hS0 ?_
    refine wpAnyH_take (i := 2) (v := .pointer (some ⟨C.mb, 0, none⟩)) rfl (by kernel_rfl) (by kernel_rfl) (by kernel_rfl) (fun _ _ _ h => h) (Or.inl ⟨by rfl, fun V hV => by obtain ⟨s0, s1, s2, s3, s4, s5⟩ := hSp V hV; go_simp⟩) hS0 ?_
    refine wpAnyH_take (i := 3) (v := .pointer (some ⟨C.mb, 0, none⟩)) rfl (by kernel_rfl) (by kernel_rfl) (by kernel_rfl) (fun _ _ _ h => h) (Or.inl ⟨by rfl, fun V hV => by obtain ⟨s0, s1, s2, s3, s4, s5⟩ := hSp V hV; go_simp⟩) hS0 ?_
    refine wpAnyH_take (i := 4) (v := .pointer (some ⟨C.xb, 0, none⟩)) rfl (by kernel_rfl) (by kernel_rfl) (by kernel_rfl) (fun _ _ _ h => h) (Or.inl ⟨by rfl, fun V hV => by obtain ⟨s0, s1, s2, s3, s4, s5⟩ := hSp V hV; go_simp⟩) hS0 ?_
    refine wpAnyH_take (i := 5) (v := .pointer (some ⟨C.xb, 0, none⟩)) rfl (by kernel_rfl) (by kernel_rfl) (by kernel_rfl) (fun _ _ _ h => h) (Or.inl ⟨by rfl, fun V hV => by obtain ⟨s0, s1, s2, s3, s4, s5⟩ := hSp V hV; go_simp⟩) hS0 ?_
    refine wpAnyH_take (i := 6) (v := .pointer (some ⟨C.xb, 2, none⟩)) rfl (by kernel_rfl) (by kernel_rfl) (by kernel_rfl) (fun _ _ _ h => h) (Or.inl ⟨by rfl, fun V hV => by obtain ⟨s0, s1, s2, s3, s4, s5⟩ := hSp V hV; go_simp⟩) hS0 ?_
    refine wpAnyH_take (i := 7) (v := .slice (some ⟨g, 0, none⟩) C.all.length cap) rfl (by kernel_rfl) (by kernel_rfl) (by kernel_rfl) (fun _ _ _ h => h) (Or.inl ⟨by rfl, fun V hV => by obtain ⟨s0, s1, s2, s3, s4, s5⟩ := hSp V hV; go_simp⟩) hS0 ?_
    refine wpAnyH_take (i := 8) (v := .int .i64 (j : Nat)) rfl (by kernel_rfl) (by kernel_rfl) (by kernel_rfl) (fun _ _ _ h => h) (Or.inl ⟨by rfl, fun V hV => by obtain ⟨s0, s1, s2, s3, s4, s5⟩ := hSp V hV; go_simp⟩) hS0 ?_
    refine wpAnyH_take (i := 9) (v := .pointer (some ⟨g, j * 9, none⟩)) rfl (by kernel_rfl) (by kernel_rfl) (by kernel_rfl) (fun _ _ _ h => h) (Or.inl ⟨by rfl, fun V hV => by obtain ⟨s0, s1, s2, s3, s4, s5⟩ := hSp V hV; go_simp⟩) hS0 ?_
    refine wpAnyH_take (i := 10) (v := .pointer (some ⟨g, j * 9 + 6, none⟩)) rfl (by kernel_rfl) (by kernel_rfl) (by kernel_rfl) (fun _ _ _ h => h) (Or.inl ⟨by rfl, fun V hV => by obtain ⟨s0, s1, s2, s3, s4, s5⟩ := hSp V hV; go_simp⟩) hS0 ?_
    refine wpAnyH_take (i := 11) (v := .int .i64 P.next) rfl (by kernel_rfl) (by kernel_rfl) (by kernel_rfl) (fun _ _ _ h => h) (Or.inl ⟨by rfl, fun V hV => by obtain ⟨s0, s1, s2, s3, s4, s5⟩ := hSp V hV; go_simp⟩) hS0 ?_
    refine wpAnyH_take (i := 12) (v := .int .i64 (q.1 : Nat)) rfl (by kernel_rfl) (by kernel_rfl) (by kernel_rfl) (fun _ _ _ h => h) (Or.inl ⟨by rfl, fun V hV => by obtain ⟨s0, s1, s2, s3, s4, s5⟩ := hSp V hV; go_simp⟩) hS0 ?_
    refine wpAnyH_take (i := 14) (v := .int .i64 (e : Nat)) rfl (by kernel_rfl) (by kernel_rfl) (by kernel_rfl) (fun _ _ _ h => h) (Or.inl ⟨by rfl, fun V hV => by obtain ⟨s0, s1, s2, s3, s4, s5⟩ := hSp V hV; go_simp⟩) hS0 ?_
    refine wpAnyH_ready (rs := [13]) (by kernel_rfl) (by simp) ?_
    refine AllReadyH.cons rfl (fun K hK => ?_) AllReadyH.nil
    go_simp
    refine hcall2.mono ?_
    rintro r U1 ⟨v1, G1, D1, rfl, hv1, hG1, hm1, hst1, hrow1⟩
    refine hK.out _ _ (hSof (hfr U1 D1 U1 hm1 hst1 (Below.refl _ _))) (fun hS1 => ?_)
    clear hK K
    obtain ⟨ws1, u1, u2, u3⟩ := hv1
    refine wpAnyH_ready (rs := [15]) (by kernel_rfl) (by simp) ?_
    refine AllReadyH.cons rfl (fun K hK => ?_) AllReadyH.nil
    go_simp
    refine (phas_any v1 ws1 G1 e (by omega) (by unfold MC.L at u3; omega) U1 u1 u2).mono ?_
    rintro r U2 ⟨rfl, hb2⟩
    have hF2 := hfr U1 D1 U2 hm1 hst1 hb2
    have hk2 := hkeep U1 D1 U2 hm1 hst1 hb2
    refine hK.out _ _ (hSof hF2) (fun hS2 => ?_)
    clear hK K hS1 hS2 hSof hSp hS0
    refine wpAnyH_done (by kernel_rfl) ?_ _
    have hg1 := hG1 e
    cases hge : G1 e
    · rw [hge] at hg1
      have HZ := hide (And.intro hk2 (And.intro hF2 (And.intro hno hg1)))
      clear hk2 hF2 hno hg1 hG1 hm1 hst1 hrow1 u1 u2 u3 hb2 hfr hkeep
      gi_wp2
      obtain ⟨⟨hk1, hk2, hk3⟩, hF2, hno, hg1⟩ := HZ.out
      refine ⟨hk1, hk2, ?_⟩
      rw [HI.out.1]
      refine ⟨D1, hF2, fun y hy => ?_, hk3⟩
      rcases List.mem_append.1 hy with hy | hy
      · exact hno y hy
      · rw [List.mem_singleton.1 hy]; exact fun hs => by have := hg1.2 hs; cases this
    · rw [hge] at hg1
      have bk := hF2.keep _ (List.mem_append_right _ (List.mem_singleton.2 rfl))
      have f3 : U2.cell? ⟨w.heap.size + 1 + 1 + 1, 0, none⟩ = some (.int .i64 0) := bk.cell 0 rfl
      have f3f : U2.frozen? ⟨w.heap.size + 1 + 1 + 1, 0, none⟩ = false := bk.fz 0
      have HZ := hide (And.intro hk2 (And.intro hF2 (And.intro hno hg1)))
      clear hk2 hF2 hno hg1 hG1 hm1 hst1 hrow1 u1 u2 u3 hb2 hfr hkeep bk
      gi_wp2
      obtain ⟨⟨⟨r1, r2⟩, ⟨r3, r4⟩, hk3⟩, hF2, hno, hg1⟩ := HZ.out
      have hsc : ∀ k, k ≠ w.heap.size + 1 + 1 + 1 → (U2.setCell ⟨w.heap.size + 1 + 1 + 1, 0, none⟩ (.int .i64 (q.1 : Nat))).heap[k]? = U2.heap[k]? := fun k hk => Below.heap_setCell _ _ _ _ hk
      refine ⟨⟨(hsc _ (by omega)).trans r1, (hsc _ (by omega)).trans r2⟩, ⟨(hsc _ hgB).trans r3, (hsc _ (by omega)).trans r4⟩, ?_⟩
      rw [HI.out.2]
      refine ⟨rfl, D1, q, pre, rfl, hF2.store (List.mem_append_right _ (List.mem_singleton.2 rfl)) rfl (fun b hb => ?_), by simpa using hg1, hno⟩
      rcases List.mem_append.1 hb with hb | hb
      · exact .inl ⟨List.mem_append_left _ hb, HM.out.2.2.2 b hb⟩
      · exact .inr (List.mem_singleton.1 hb)
  case hdone =>
    rintro l U hl hi hdf
    exfalso
    rw [hIdef] at hi
    obtain ⟨D', hF, hno, hsz⟩ := hi
    obtain ⟨m, hm1, hm2⟩ := hex
    have hr := (hG4 m).2 hm1
    have hmem : m ∈ l.map (·.1) := by rw [hl]; exact (mem_down _ _ _).2 ⟨holdsP_lt hvh hr, hr⟩
    obtain ⟨y, hy, rfl⟩ := List.mem_map.1 hmem
    exact hno y hy hm2
  case hstop =>
    rintro c l U hl hi hdf
    rw [hIxdef] at hi
    obtain ⟨rfl, D', m, pre', rfl, hF, hsm2, hno⟩ := hi
    have bk := hF.keep _ (List.mem_append_right _ (List.mem_singleton.2 rfl))
    have f3 : U.cell? ⟨w.heap.size + 1 + 1 + 1, 0, none⟩ = some (.int .i64 (m.1 : Nat)) := bk.cell 0 rfl
    have f8 : (U.putObj W5.heap.size (.deferred none)).cell? ⟨w.heap.size + 1 + 1 + 1, 0, none⟩ = some (.int .i64 (m.1 : Nat)) := by
      rw [← f3]
      simp only [World.cell?, World.putObj_heap_other (show w.heap.size + 1 + 1 + 1 ≠ W5.heap.size by omega)]
    gi_wp2
    refine ⟨by simp, .inl ⟨_, _, rfl, run_takeDeferred hdf, ?_⟩⟩
    have hF2 := hF.turn (o' := .deferred none) (by omega) hdf (.inr ⟨_, rfl⟩)
    refine ⟨_, res3 rfl rfl f8, m.1, rfl, ?_, D', hF2.ms, hF2.step⟩
    refine best_of (l := pre'.map (·.1)) (someOf_cut (G := G4) (n := 64 * ws.length) (by rw [List.map_append] at hl; exact hl) (fun q hq => ?_)) ((hG4 m.1).1 m.2) hsm2 (fun y hy => ?_)
    · have := (hG4 q).2 hq
      exact ⟨this, holdsP_lt hvh this⟩
    · obtain ⟨z, hz, rfl⟩ := List.mem_map.1 hy
      exact hno z hz
end Go.Proofs.Ytjlgccfibkcgbaa
