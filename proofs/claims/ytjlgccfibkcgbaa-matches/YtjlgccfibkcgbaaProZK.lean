import Derived.Test.YtjlgccfibkcgbaaProZIR
namespace Go.Proofs.Ytjlgccfibkcgbaa
open Go.RowKit Go.Shelf
attribute [local go_sem] Oper.semAt_some

section
variable {C : MC} {w : World} {D : DataW Value} {K : List (Nat × Array Value × TypeId)} {pb : Nat} {R : Nat → Prop} {U : World} {D' : DataW Value} {v : Value} {G : Nat → Bool}
/-- The set that was gathered is answered in the result's own box. -/
theorem Acc.answer (h : Acc C w D K pb R U D' v G) {rb : Nat} {c3 : Array Value} {t3 : TypeId} (hrb : (rb, c3, t3) ∈ K) (o : Nat) (u : Value) :
    EndsPost C w D R (.returned (.agg #[v])) (U.setCell ⟨rb, o, none⟩ u) := by
  have hb := h.base.2 _ hrb
  refine EndsPost.boxed hb.1 h.set h.holds h.ms (fun hu => ?_) h.step (fun k e => ⟨.inr (h.row k e).1, fun e2 => (h.row k e).2.2.2 _ hrb e2.symm⟩) o u
  rcases h.usedLow hu with e | e
  · have := hb.1; omega
  · exact h.mine.2 _ hrb e
end

set_option maxRecDepth 100000 in
set_option maxHeartbeats 1000000 in
theorem mlistEnds_nil (C : MC) (ok : C.Ok) : ListC C [] := by
  intro i p w D hA hp h
  obtain rfl := hA.at_.nil
  have hsm := ok.small
  have hb1 := ((((Below.refl w.heap.size w).alloc (Nat.le_refl _) (.cells #[.pointer (some ⟨C.mb, 0, none⟩)] 43)).alloc (by simp) (.cells #[.int .i64 (-1)] 3)).alloc (by simp; omega) (.cells #[.slice none 0 0] 81)).alloc (by simp; omega) (.cells #[.slice none 0 0] 81)
  have k2 : Blk ((((w.alloc (.cells #[.pointer (some ⟨C.mb, 0, none⟩)] 43)).alloc (.cells #[.int .i64 (-1)] 3)).alloc (.cells #[.slice none 0 0] 81)).alloc (.cells #[.slice none 0 0] 81)) (w.heap.size + 1 + 1) #[.slice none 0 0] 81 := (Blk.newAt (by simp)).alloc _
  have k3 : Blk ((((w.alloc (.cells #[.pointer (some ⟨C.mb, 0, none⟩)] 43)).alloc (.cells #[.int .i64 (-1)] 3)).alloc (.cells #[.slice none 0 0] 81)).alloc (.cells #[.slice none 0 0] 81)) (w.heap.size + 1 + 1 + 1) #[.slice none 0 0] 81 := Blk.newAt (by simp)
  have ha : Acc C w D [(w.heap.size + 1 + 1, #[.slice none 0 0], 81)] (w.heap.size + 1 + 1 + 1) (fun _ => False) ((((w.alloc (.cells #[.pointer (some ⟨C.mb, 0, none⟩)] 43)).alloc (.cells #[.int .i64 (-1)] 3)).alloc (.cells #[.slice none 0 0] 81)).alloc (.cells #[.slice none 0 0] 81)) D (.slice none 0 0) (fun _ => false) := by
    refine Acc.start h hb1 (fun b hb => ?_) k3 ⟨by omega, fun b hb => ?_⟩
    · rw [List.mem_singleton.1 hb]; exact k2
    · rw [List.mem_singleton.1 hb]; constructor <;> simp; omega
  refine (callsIn_wide (n := 9)).1 ?_
  refine callsIn_of_wp_marks Try.func33 rfl trivial ?_ rfl
  simp only [Try.ntmps33, List.size_toArray, List.length_cons, List.length_nil, Nat.reduceAdd, Nat.reduceSub, Array.replicate_succ, Array.replicate_zero, List.push_toArray, List.append_toArray, List.nil_append, List.cons_append]
  have HA := hide (And.intro ha (And.intro h k2))
  clear ha hA h k2 k3 hb1
  gi_wp2
  obtain ⟨ha, h, k2⟩ := HA.out
  obtain ⟨ws, w1, w2, w3⟩ := ha.set
  refine ⟨trivial, (callsIn_wide.2 (add_any (w.heap.size + 1 + 1 + 1) (.slice none 0 0) ws (fun _ => false) p C.L (by unfold MC.L; omega) (by unfold MC.L; omega) _ ha.box w1 w2 (by simp [Value.ownBlock]) w3)).mono ?_⟩
  rintro e W4 ⟨rfl, hset⟩
  obtain ⟨v4, ha4, -⟩ := ha.more (R' := fun q => q = p) hset (fun q => by simp)
  have f3 : W4.cell? ⟨w.heap.size + 1 + 1 + 1, 0, none⟩ = some v4 := ha4.box.cell 0 rfl
  have bk := ha4.keep _ (List.mem_singleton.2 rfl)
  have f2 : W4.cell? ⟨w.heap.size + 1 + 1, 0, none⟩ = some (.slice none 0 0) := bk.cell 0 rfl
  have f2f : W4.frozen? ⟨w.heap.size + 1 + 1, 0, none⟩ = false := bk.fz 0
  obtain ⟨pa, nv, cap1, rfl⟩ := ha4.set.form
  have r1 : (W4.setCell ⟨w.heap.size + 1 + 1, 0, none⟩ (.slice pa nv cap1)).cell? ⟨w.heap.size + 1 + 1, 0, none⟩ = some (.slice pa nv cap1) := World.cell?_setCell_same' _ _ _ (by rw [f2]; rfl)
  have HB := hide ha4
  clear ha ha4 h k2 hset w1 w2 w3 bk
  gi_wp2
  refine ⟨_, res81 rfl rfl r1, ?_⟩
  obtain ⟨v', G', D', h1, h2, h3, h4⟩ := HB.out.answer (List.mem_singleton.2 rfl) 0 (.slice pa nv cap1)
  exact ⟨v', G', D', h1, h2, fun q => (h3 q).trans (by simp only [SeqR]; exact eq_comm), h4⟩

set_option maxRecDepth 100000 in
set_option maxHeartbeats 1000000 in
theorem mlistEnds_cons (C : MC) (ok : C.Ok) (x : Part) (xs : List Part) (ihc : ∀ p, p ≤ C.s.size → CopyC C x xs 0 p) (ihl : ListC C xs) : ListC C (x :: xs) := by
  intro i p w D hA hp h
  obtain ⟨j, P, rfl, hjl, hP, hAn, hAi⟩ := hA.cons
  obtain ⟨g, cap, hpv, hgl, hcap⟩ := h.parts hP.get
  have hfew := ok.few
  have hsm := ok.small
  have hbb := (((((Below.refl w.heap.size w).alloc (Nat.le_refl _) (.cells #[.pointer (some ⟨C.mb, 0, none⟩)] 43)).alloc (by simp) (.cells #[.int .i64 (j : Nat)] 3)).alloc (by simp; omega) (.cells #[.slice none 0 0] 81)).alloc (by simp; omega) (.cells #[.slice none 0 0] 81)).alloc (by simp; omega) (.cells #[.int .i64 (j : Nat), .int .i64 (-1), .int .i64 (p : Nat)] 100)
  have h2 := h.below hbb
  have k02 : Blk (((((w.alloc (.cells #[.pointer (some ⟨C.mb, 0, none⟩)] 43)).alloc (.cells #[.int .i64 (j : Nat)] 3)).alloc (.cells #[.slice none 0 0] 81)).alloc (.cells #[.slice none 0 0] 81)).alloc (.cells #[.int .i64 (j : Nat), .int .i64 (-1), .int .i64 (p : Nat)] 100)) w.heap.size #[.pointer (some ⟨C.mb, 0, none⟩)] 43 := ((((Blk.new w _ _).alloc _).alloc _).alloc _).alloc _
  have k12 : Blk (((((w.alloc (.cells #[.pointer (some ⟨C.mb, 0, none⟩)] 43)).alloc (.cells #[.int .i64 (j : Nat)] 3)).alloc (.cells #[.slice none 0 0] 81)).alloc (.cells #[.slice none 0 0] 81)).alloc (.cells #[.int .i64 (j : Nat), .int .i64 (-1), .int .i64 (p : Nat)] 100)) (w.heap.size + 1) #[.int .i64 (j : Nat)] 3 := (((Blk.newAt (by simp)).alloc _).alloc _).alloc _
  have k22 : Blk (((((w.alloc (.cells #[.pointer (some ⟨C.mb, 0, none⟩)] 43)).alloc (.cells #[.int .i64 (j : Nat)] 3)).alloc (.cells #[.slice none 0 0] 81)).alloc (.cells #[.slice none 0 0] 81)).alloc (.cells #[.int .i64 (j : Nat), .int .i64 (-1), .int .i64 (p : Nat)] 100)) (w.heap.size + 1 + 1) #[.slice none 0 0] 81 := ((Blk.newAt (by simp)).alloc _).alloc _
  have k32 : Blk (((((w.alloc (.cells #[.pointer (some ⟨C.mb, 0, none⟩)] 43)).alloc (.cells #[.int .i64 (j : Nat)] 3)).alloc (.cells #[.slice none 0 0] 81)).alloc (.cells #[.slice none 0 0] 81)).alloc (.cells #[.int .i64 (j : Nat), .int .i64 (-1), .int .i64 (p : Nat)] 100)) (w.heap.size + 1 + 1 + 1) #[.slice none 0 0] 81 := (Blk.newAt (by simp)).alloc _
  have b2 : Blk (((((w.alloc (.cells #[.pointer (some ⟨C.mb, 0, none⟩)] 43)).alloc (.cells #[.int .i64 (j : Nat)] 3)).alloc (.cells #[.slice none 0 0] 81)).alloc (.cells #[.slice none 0 0] 81)).alloc (.cells #[.int .i64 (j : Nat), .int .i64 (-1), .int .i64 (p : Nat)] 100)) (w.heap.size + 1 + 1 + 1 + 1) #[.int .i64 (j : Nat), .int .i64 (-1), .int .i64 (p : Nat)] 100 := Blk.newAt (by simp)
  have hs2 : (((((w.alloc (.cells #[.pointer (some ⟨C.mb, 0, none⟩)] 43)).alloc (.cells #[.int .i64 (j : Nat)] 3)).alloc (.cells #[.slice none 0 0] 81)).alloc (.cells #[.slice none 0 0] 81)).alloc (.cells #[.int .i64 (j : Nat), .int .i64 (-1), .int .i64 (p : Nat)] 100)).heap.size = w.heap.size + 5 := by simp
  have d0 : ((j : Int) == -1) = false := by rw [beq_eq_false_iff_ne]; omega
  refine (callsIn_wide (n := 9)).1 ?_
  refine callsIn_of_wp_marks Try.func33 rfl trivial ?_ rfl
  simp only [Try.ntmps33, List.size_toArray, List.length_cons, List.length_nil, Nat.reduceAdd, Nat.reduceSub, Array.replicate_succ, Array.replicate_zero, List.push_toArray, List.append_toArray, List.nil_append, List.cons_append]
  have HH := hide (And.intro hA (And.intro h (And.intro hP (And.intro hAn (And.intro ihc (And.intro ihl (And.intro h2 (And.intro hbb (And.intro k02 (And.intro k12 (And.intro k22 (And.intro k32 (And.intro b2 hs2)))))))))))))
  clear hA h hP hAn hAi ihc ihl h2 hbb k02 k12 k22 k32 b2 hs2
  gi_wp2
  obtain ⟨hA, h, hP, hAn, ihc, ihl, h2, hbb, k02, k12, k22, k32, b2, hs2⟩ := HH.out
  clear HH
  generalize hWe : (((((w.alloc (.cells #[.pointer (some ⟨C.mb, 0, none⟩)] 43)).alloc (.cells #[.int .i64 (j : Nat)] 3)).alloc (.cells #[.slice none 0 0] 81)).alloc (.cells #[.slice none 0 0] 81)).alloc (.cells #[.int .i64 (j : Nat), .int .i64 (-1), .int .i64 (p : Nat)] 100)) = W2 at *
  clear hWe
  have hu : InU C (j : Int) (-1) p := ⟨by omega, by omega, by omega, by omega, hp⟩
  have hcs := fun q => hA.seq p q
  have e0 : W2.cell? ⟨w.heap.size, 0, none⟩ = some (.pointer (some ⟨C.mb, 0, none⟩)) := k02.cell 0 rfl
  have e1 : W2.cell? ⟨w.heap.size + 1, 0, none⟩ = some (.int .i64 (j : Nat)) := k12.cell 0 rfl
  have e3 : W2.cell? ⟨w.heap.size + 1 + 1, 0, none⟩ = some (.slice none 0 0) := k22.cell 0 rfl
  have e3f := k22.fz 0
  have e5 : W2.cell? ⟨C.mb, 2, none⟩ = some (.map (some C.mm)) := h2.m.cell 2 rfl
  have e60 : W2.cell? ⟨w.heap.size + 1 + 1 + 1 + 1, 0, none⟩ = some (.int .i64 (j : Nat)) := b2.cell 0 rfl
  have e61 : W2.cell? ⟨w.heap.size + 1 + 1 + 1 + 1, 1, none⟩ = some (.int .i64 (-1)) := b2.cell 1 rfl
  have e62 : W2.cell? ⟨w.heap.size + 1 + 1 + 1 + 1, 2, none⟩ = some (.int .i64 (p : Nat)) := b2.cell 2 rfl
  have n0 := World.new_ne W2 _ e0
  have n5 := World.new_ne W2 _ e5
  have n60 := World.new_ne W2 _ e60
  have n61 := World.new_ne W2 _ e61
  have n62 := World.new_ne W2 _ e62
  have hb3 : Below W2.heap.size W2 (W2.alloc (.cells #[.slice none 0 0] 81)).drew := ((Below.refl _ _).alloc (Nat.le_refl _) _).drew
  have HH := hide (And.intro hA (And.intro h (And.intro hP (And.intro hAn (And.intro ihc (And.intro ihl (And.intro h2 (And.intro hbb (And.intro hcs hu)))))))))
  cases hh : Maps.has D (key3L (j : Int) (-1) (p : Int))
  · have l1 := look_no ok (h2.drew) hu hh
    have l2 := look_no ok (h2.below hb3) hu hh
    clear hA h hP hAn ihc ihl h2 hbb hcs hu
    apply way_cut
    case h =>
      refine wpIn_wide.2 ?_
      go_region_held3 (fun w' => w'.cell? ⟨w.heap.size, 0, none⟩ = some (.pointer (some ⟨C.mb, 0, none⟩)) ∧ w'.cell? ⟨C.mb, 2, none⟩ = some (.map (some C.mm)) ∧ w'.cell? ⟨w.heap.size + 1 + 1 + 1 + 1, 0, none⟩ = some (.int .i64 (j : Nat)) ∧ w'.cell? ⟨w.heap.size + 1 + 1 + 1 + 1, 1, none⟩ = some (.int .i64 (-1)) ∧ w'.cell? ⟨w.heap.size + 1 + 1 + 1 + 1, 2, none⟩ = some (.int .i64 (p : Nat))) (go_keep) (fail)
      all_goals exact ⟨rfl, rfl, rfl⟩
    have hb4 : Below W2.heap.size W2 (W2.alloc (.cells #[.slice none 0 0] 81)).drew := ((Below.refl _ _).alloc (Nat.le_refl _) _).drew
    obtain ⟨hA, h, hP, hAn, ihc, ihl, h2, hbb, hcs, hu⟩ := HH.out
    have h3 := h2.below hb4
    have q0 := k02.below hb4
    have q1 := k12.below hb4
    have q2 := k22.below hb4
    have q3 := k32.below hb4
    have q4 := b2.below hb4
    have hs3 : w.heap.size + 6 ≤ (W2.alloc (.cells #[.slice none 0 0] 81)).drew.heap.size := by
      show _ ≤ (W2.alloc _).heap.size
      simp [hs2]
    have hb5 := hbb.trans (hb4.mono (by omega))
    clear e0 e1 e3 e3f e5 e60 e61 e62 n0 n5 n60 n61 n62 l1 l2 k02 k12 k22 k32 b2 hb4 h2 hbb hb3
    generalize (W2.alloc (.cells #[.slice none 0 0] 81)).drew = W3 at *
    have e0 : W3.cell? ⟨w.heap.size, 0, none⟩ = some (.pointer (some ⟨C.mb, 0, none⟩)) := q0.cell 0 rfl
    have e1 : W3.cell? ⟨w.heap.size + 1, 0, none⟩ = some (.int .i64 (j : Nat)) := q1.cell 0 rfl
    obtain ⟨K0, hK0⟩ : ∃ K0 : List (Nat × Array Value × TypeId), K0 = [(w.heap.size, #[.pointer (some ⟨C.mb, 0, none⟩)], 43), (w.heap.size + 1, #[.int .i64 (j : Nat)], 3), (w.heap.size + 1 + 1, #[.slice none 0 0], 81), (w.heap.size + 1 + 1 + 1 + 1, #[.int .i64 (j : Nat), .int .i64 (-1), .int .i64 (p : Nat)], 100)] := ⟨_, rfl⟩
    have hA3 : Acc C w D K0 (w.heap.size + 1 + 1 + 1) (fun _ => False) W3 D (.slice none 0 0) (fun _ => false) := by
      refine Acc.start h hb5 (fun b hb => ?_) q3 ⟨by omega, fun b hb => ?_⟩
      · rw [hK0] at hb
        simp only [List.mem_cons, List.not_mem_nil, or_false] at hb
        rcases hb with rfl | rfl | rfl | rfl
        · exact q0
        · exact q1
        · exact q2
        · exact q4
      · rw [hK0] at hb
        simp only [List.mem_cons, List.not_mem_nil, or_false] at hb
        rcases hb with rfl | rfl | rfl | rfl <;> (constructor <;> simp <;> omega)
    clear q0 q1 q2 q3 q4
    have hm0 : (w.heap.size, #[Value.pointer (some ⟨C.mb, 0, none⟩)], 43) ∈ K0 := by rw [hK0]; simp
    have hm1 : (w.heap.size + 1, #[Value.int .i64 (j : Nat)], 3) ∈ K0 := by rw [hK0]; simp
    have hm2 : (w.heap.size + 1 + 1, #[Value.slice none 0 0], 81) ∈ K0 := by rw [hK0]; simp
    have hm3 : (w.heap.size + 1 + 1 + 1 + 1, #[Value.int .i64 (j : Nat), Value.int .i64 (-1), Value.int .i64 (p : Nat)], 100) ∈ K0 := by rw [hK0]; simp
    have HM := hide (And.intro hm0 (And.intro hm1 (And.intro hm2 hm3)))
    clear hm0 hm1 hm2 hm3 hK0
    have hcall := ihc p hp (j : Int) W3 D hA h3
    have HH := hide (And.intro hA (And.intro h (And.intro hP (And.intro hAn (And.intro ihl (And.intro h3 (And.intro hb5 (And.intro hcs (And.intro hu hA3)))))))))
    clear hA h hP hAn ihc ihl h3 hb5 hcs hu hA3
    rw [show ((0 : Nat) : Int) = 0 from rfl] at hcall
    gi_wp2
    refine ⟨trivial, (callsIn_wide.2 hcall).mono ?_⟩
    rintro e W4 ⟨v4, G4, D4, rfl, hv4, hG4, hm4, hst4, hrow4⟩
    gi_wp2
    refine ⟨trivial, (callsIn_wide.2 (lastFirst_any v4 W4)).mono ?_⟩
    rintro e W5 ⟨rfl, hW5⟩
    gi_wp2
    obtain ⟨hA, h, hP, hAn, ihl, h3, hb5, hcs, hu, hA3⟩ := HH.out
    obtain ⟨ws, hvw, hvh, hvl⟩ := hv4
    obtain ⟨pa, cap1, gs, rfl, hpa, hgs, hgd, hgc⟩ := hvw.rowD W4.heap.size
    have hb6 : Below W4.heap.size W4 W5 := by rw [hW5]; exact (Below.refl _ _).alloc (Nat.le_refl _) _
    have hs5 : W5.heap.size ≤ W4.heap.size + 1 := by rw [hW5]; simp
    have hs5' : W4.heap.size + 1 ≤ W5.heap.size := by rw [hW5]; simp
    have hs4 : W3.heap.size ≤ W4.heap.size := hst4.kp.size
    have hB5 : Blk W5 W4.heap.size #[.slice pa ws.length cap1] 81 := by rw [hW5]; exact Blk.new _ _ _
    rw [← hW5]
    clear hW5
    have hgs5 : gs < W5.heap.size := by
      by_cases h0 : 0 < ws.length
      · have := (hgs h0).1; omega
      · have := hgd h0; omega
    have hgB : gs ≠ w.heap.size + 1 + 1 + 1 := by
      by_cases h0 : 0 < ws.length
      · intro e
        rcases hrow4 gs (hgs h0).2 with e2 | e2
        · have := (h.rows gs e2).1; omega
        · omega
      · have := hgd h0; omega
    have hA5 := (hA3.moved hm4 hst4).moved (hm4.below hb6) (Step.below hb6)
    have hgm : gs ≠ C.mm := by
      by_cases h0 : 0 < ws.length
      · obtain ⟨c, t, hc⟩ := PSet.cells (L := ws.length) ⟨ws, hvw, hvh, Nat.le_refl _⟩ gs (hgs h0).2
        exact hm4.notMap hc
      · rw [hgd h0]; exact hA5.ms.notMap hB5
    obtain ⟨I, hIdef⟩ : ∃ I : List (InSet G4) → World → Prop, I = fun pre U => ∃ D' v G, Acc C w D K0 (w.heap.size + 1 + 1 + 1) (fun q => ∃ y, y ∈ pre ∧ SeqR C.s xs y.1 q) U D' v G ∧ (∀ k, v.ownBlock = some k → W5.heap.size ≤ k) ∧ W5.heap.size ≤ U.heap.size := ⟨_, rfl⟩
    have hTurn : ∀ s W k o o', I s W → w.heap.size ≤ k → W.heap[k]? = some o → IsRec o → I s (W.putObj k o') := by
      rintro s W k o o' hi hk ho hr
      rw [hIdef] at hi ⊢
      obtain ⟨D', v, G, ha, hv, hsz⟩ := hi
      exact ⟨D', v, G, ha.turn hk ho hr, hv, by simpa using hsz⟩
    apply range_set (by omega) (Bs := W4.heap.size) (gs := gs) (cap := cap1) (pa := pa) (ws := ws) (G := G4) rfl rfl hvh (by unfold MC.L at hvl; omega) hpa hgs5 (by omega) (hB5.cell 0 rfl) (fun i hi => (hb6.cell (p := ⟨gs, i, none⟩) (hgs (by omega)).1).trans (hgc i hi))
      I (fun _ _ _ => False) (fun s W r r' hr hi => hTurn s W _ _ _ hi (by omega) hr (.inl ⟨_, rfl⟩)) (fun _ _ _ _ _ _ h => h)
    case h0 =>
      intro r
      rw [hIdef]
      have hb7 : Below W5.heap.size W5 ((W5.alloc (.deferred (some []))).alloc (.loop r)) := ((Below.refl _ _).alloc (Nat.le_refl _) _).alloc (by simp) _
      exact ⟨D4, _, _, (hA5.moved (hA5.ms.below hb7) (Step.below hb7)).congr (fun q => by simp), fun k e => (by cases e), hb7.size⟩
    case hassign =>
      intro l q U K hK
      gi_wp2
      exact hK
    case hstop => exact fun _ _ _ _ h => h.elim
    case hbody =>
      rintro pre q U hi ⟨rl, hrl⟩ hdf hlen
      rw [hIdef] at hi
      obtain ⟨D', v, G, ha, hvk, hsz⟩ := hi
      have f0 : U.cell? ⟨w.heap.size, 0, none⟩ = some (.pointer (some ⟨C.mb, 0, none⟩)) := (ha.keep _ HM.out.1).cell 0 rfl
      have f1 : U.cell? ⟨w.heap.size + 1, 0, none⟩ = some (.int .i64 (j : Nat)) := (ha.keep _ HM.out.2.1).cell 0 rfl
      have f3 : U.cell? ⟨C.mb, 0, none⟩ = some (.pointer (some ⟨C.xb, 0, none⟩)) := ha.ms.m.cell 0 rfl
      have f4 : U.cell? ⟨C.xb, 2, none⟩ = some (.slice (some ⟨g, 0, none⟩) C.all.length cap) := by rw [← hpv]; exact ha.ms.x.cell 2 rfl
      have hfl := ha.ms.flat
      rw [hpv] at hfl
      obtain ⟨-, -, -, -, -, -, p6, -, -⟩ := part_cells hfl hP.get
      have hqs : q.1 ≤ C.s.size := by
        have := (hG4 q.1).1 q.2
        exact (Copies.bound (N := C.s.size) (fun p q hp ha => AtomR.bound C.s x p q hp ha) this hp).2
      have hcall2 := ihl P.next q.1 U.drew D' hAn hqs ha.ms.drew
      have had := ha.drewN 1
      have badd : ∀ U1 v1 G1 D1, PSet U1 v1 G1 C.L → MS C U1 D1 → Step C U.drew D' U1 D1 → (∀ k, v1.ownBlock = some k → MRow D' k ∨ U.drew.heap.size ≤ k) → Calls Try.prog 48 #[.pointer (some ⟨w.heap.size + 1 + 1 + 1, 0, none⟩), .agg #[v1]] U1 fun e w' => e = .returned (.tuple #[]) ∧ SetPost U1 (w.heap.size + 1 + 1 + 1) v (fun c => G c || G1 c) C.L w' := fun U1 v1 G1 D1 hv1 hm1 hst1 hrow1 => by
        have ha1 := Acc.moved (U := U.drew) had hm1 hst1
        obtain ⟨ws, w1, w2, w3⟩ := ha1.set
        obtain ⟨os, o1, o2, o3⟩ := hv1
        exact addAll_any (w.heap.size + 1 + 1 + 1) v v1 ws os G G1 C.L (by unfold MC.L; omega) U1 ha1.box w1 w2 (fun e => (ha1.row _ e).2.1 rfl) w3 o1 o2 (fun e => by
          rcases hrow1 _ e with e | e
          · exact ha.mine.1 e
          · have := ha.box.lt; have : U.drew.heap.size = U.heap.size := rfl; omega) (fun k e e2 => by
          rcases hrow1 _ e with e | e
          · exact (ha.row k e2).2.2.1 e
          · have := ha.set.lt k e2; have : U.drew.heap.size = U.heap.size := rfl; omega) o3
      have bfin : ∀ U1 v1 G1 D1 U2, PSet U1 v1 G1 C.L → (∀ q', G1 q' = true ↔ SeqR C.s xs q.1 q') → MS C U1 D1 → Step C U.drew D' U1 D1 → SetPost U1 (w.heap.size + 1 + 1 + 1) v (fun c => G c || G1 c) C.L U2 →
          (U2.heap[W5.heap.size]? = U.heap[W5.heap.size]? ∧ U2.heap[W5.heap.size + 1]? = U.heap[W5.heap.size + 1]?) ∧ Keep2 gs W4.heap.size U U2 ∧ I (pre ++ [q]) U2 := fun U1 v1 G1 D1 U2 hv1 hG1 hm1 hst1 hset => by
        have ha1 := Acc.moved (U := U.drew) had hm1 hst1
        obtain ⟨v2, ha2, hv2⟩ := ha1.more (R' := fun q' => ∃ y, y ∈ pre ++ [q] ∧ SeqR C.s xs y.1 q') hset (fun q' => by
          rw [Bool.or_eq_true, ha1.holds, hG1]
          constructor
          · rintro (⟨y, h1, h2⟩ | h)
            · exact ⟨y, List.mem_append_left _ h1, h2⟩
            · exact ⟨q, List.mem_append_right _ (List.mem_singleton.2 rfl), h⟩
          · rintro ⟨y, h1, h2⟩
            rcases List.mem_append.1 h1 with h1 | h1
            · exact .inl ⟨y, h1, h2⟩
            · rw [List.mem_singleton.1 h1] at h2
              exact .inr h2)
        obtain ⟨_, _, _, _, _, _, hkq, _, _⟩ := hset
        have hU : U.drew.heap.size = U.heap.size := rfl
        have hs1 := hst1.kp.size
        have keep : ∀ k, k < U.heap.size → k ≠ C.mm → k ≠ w.heap.size + 1 + 1 + 1 → v.ownBlock ≠ some k → U2.heap[k]? = U.heap[k]? := fun k hk n1 n2 n3 => (hkq.block k (by omega) n2 (fun e => n3 e.symm)).trans (hst1.kp.block k hk n1)
        have hrec : ∀ k o, U.heap[k]? = some o → IsRec o → w.heap.size + 6 ≤ k → U2.heap[k]? = U.heap[k]? := fun k o hk ho hl => by
          have hlt := (Array.getElem?_eq_some_iff.1 hk).1
          refine keep k hlt ?_ (by omega) (fun e => ?_)
          · rintro rfl
            obtain ⟨es, cl, e⟩ := ha.ms.mapAt
            rw [hk] at e
            rcases ho with ⟨_, rfl⟩ | ⟨_, rfl⟩ <;> cases e
          · obtain ⟨c, t, e2⟩ := ha.set.cells k e
            rw [hk] at e2
            rcases ho with ⟨_, rfl⟩ | ⟨_, rfl⟩ <;> cases e2
        refine ⟨⟨hrec _ _ hdf (.inr ⟨_, rfl⟩) (by omega), hrec _ _ hrl (.inl ⟨_, rfl⟩) (by omega)⟩, ⟨keep gs (by omega) hgm hgB (fun e => by have := hvk _ e; omega), keep _ (by omega) (hA5.ms.notMap hB5) (by omega) (fun e => by have := hvk _ e; omega)⟩, ?_⟩
        rw [hIdef]
        refine ⟨D1, v2, _, ha2, fun k e => ?_, by have := hkq.size; omega⟩
        rcases hv2 with e2 | e2
        · rw [e2] at e; exact hvk k e
        · have := e2 k e; omega
      obtain ⟨S, hS⟩ : ∃ S : World → Prop, S = fun V => V.cell? ⟨w.heap.size, 0, none⟩ = some (.pointer (some ⟨C.mb, 0, none⟩)) ∧ V.cell? ⟨w.heap.size + 1, 0, none⟩ = some (.int .i64 (j : Nat)) ∧ V.cell? ⟨C.mb, 0, none⟩ = some (.pointer (some ⟨C.xb, 0, none⟩)) ∧ V.cell? ⟨C.xb, 2, none⟩ = some (.slice (some ⟨g, 0, none⟩) C.all.length cap) ∧ V.cell? ⟨g, j * 9 + 6, none⟩ = some (.int .i64 P.next) := ⟨_, rfl⟩
      have hSof : ∀ {R2 V D2 v2 G2}, Acc C w D K0 (w.heap.size + 1 + 1 + 1) R2 V D2 v2 G2 → S V := fun {R2 V D2 v2 G2} hb => by
        rw [hS]
        have hfl2 := hb.ms.flat
        rw [hpv] at hfl2
        obtain ⟨-, -, -, -, -, -, q6, -, -⟩ := part_cells hfl2 hP.get
        exact ⟨(hb.keep _ HM.out.1).cell 0 rfl, (hb.keep _ HM.out.2.1).cell 0 rfl, hb.ms.m.cell 0 rfl, by rw [← hpv]; exact hb.ms.x.cell 2 rfl, q6⟩
      have hS0 : S U.drew := hSof had
      have bS1 : ∀ U1 D1, MS C U1 D1 → Step C U.drew D' U1 D1 → S U1 := fun U1 D1 hm1 hst1 => hSof (Acc.moved (U := U.drew) had hm1 hst1)
      have bS2 : ∀ U1 v1 G1 D1 U2, PSet U1 v1 G1 C.L → (∀ q', G1 q' = true ↔ SeqR C.s xs q.1 q') → MS C U1 D1 → Step C U.drew D' U1 D1 → SetPost U1 (w.heap.size + 1 + 1 + 1) v (fun c => G c || G1 c) C.L U2 → S U2 := fun U1 v1 G1 D1 U2 hv1 hG1 hm1 hst1 hset => by
        obtain ⟨v2, ha2, -⟩ := (Acc.moved (U := U.drew) had hm1 hst1).more (R' := fun c => (G c || G1 c) = true) hset (fun c => Iff.rfl)
        exact hSof ha2
      have hSp : ∀ V, S V → V.cell? ⟨w.heap.size, 0, none⟩ = some (.pointer (some ⟨C.mb, 0, none⟩)) ∧ V.cell? ⟨w.heap.size + 1, 0, none⟩ = some (.int .i64 (j : Nat)) ∧ V.cell? ⟨C.mb, 0, none⟩ = some (.pointer (some ⟨C.xb, 0, none⟩)) ∧ V.cell? ⟨C.xb, 2, none⟩ = some (.slice (some ⟨g, 0, none⟩) C.all.length cap) ∧ V.cell? ⟨g, j * 9 + 6, none⟩ = some (.int .i64 P.next) := fun V h => by rw [hS] at h; exact h
      clear ha hrl hdf hvk hsz hA5 hfl hIdef hTurn had f0 f1 f3 f4 p6 hS
      gi_wp2
      refine round_held (S := S) (by kernel_rfl) (by kernel_rfl) (by rintro ⟨a, w, h⟩; exact h) ?_
      refine wpAnyH_take (i := 0) (v := .pointer (some ⟨C.mb, 0, none⟩)) rfl (by kernel_rfl) (by kernel_rfl) (by kernel_rfl) (fun _ _ _ h => h) (Or.inl ⟨by rfl, fun V hV => by obtain ⟨s0, s1, s2, s3, s4⟩ := hSp V hV; go_simp⟩) hS0 ?_
      refine wpAnyH_take (i := 1) (v := .pointer (some ⟨C.mb, 0, none⟩)) rfl (by kernel_rfl) (by kernel_rfl) (by kernel_rfl) (fun _ _ _ h => h) (Or.inl ⟨by rfl, fun V hV => by obtain ⟨s0, s1, s2, s3, s4⟩ := hSp V hV; go_simp⟩) hS0 ?_
      refine wpAnyH_take (i := 2) (v := .pointer (some ⟨C.mb, 0, none⟩)) rfl (by kernel_rfl) (by kernel_rfl) (by kernel_rfl) (fun _ _ _ h => h) (Or.inl ⟨by rfl, fun V hV => by obtain ⟨s0, s1, s2, s3, s4⟩ := hSp V hV; go_simp⟩) hS0 ?_
      refine wpAnyH_take (i := 3) (v := .pointer (some ⟨C.mb, 0, none⟩)) rfl (by kernel_rfl) (by kernel_rfl) (by kernel_rfl) (fun _ _ _ h => h) (Or.inl ⟨by rfl, fun V hV => by obtain ⟨s0, s1, s2, s3, s4⟩ := hSp V hV; go_simp⟩) hS0 ?_
      refine wpAnyH_take (i := 4) (v := .pointer (some ⟨C.xb, 0, none⟩)) rfl (by kernel_rfl) (by kernel_rfl) (by kernel_rfl) (fun _ _ _ h => h) (Or.inl ⟨by rfl, fun V hV => by obtain ⟨s0, s1, s2, s3, s4⟩ := hSp V hV; go_simp⟩) hS0 ?_
      refine wpAnyH_take (i := 5) (v := .pointer (some ⟨C.xb, 0, none⟩)) rfl (by kernel_rfl) (by kernel_rfl) (by kernel_rfl) (fun _ _ _ h => h) (Or.inl ⟨by rfl, fun V hV => by obtain ⟨s0, s1, s2, s3, s4⟩ := hSp V hV; go_simp⟩) hS0 ?_
      refine wpAnyH_take (i := 6) (v := .pointer (some ⟨C.xb, 2, none⟩)) rfl (by kernel_rfl) (by kernel_rfl) (by kernel_rfl) (fun _ _ _ h => h) (Or.inl ⟨by rfl, fun V hV => by obtain ⟨s0, s1, s2, s3, s4⟩ := hSp V hV; go_simp⟩) hS0 ?_
      refine wpAnyH_take (i := 7) (v := .slice (some ⟨g, 0, none⟩) C.all.length cap) rfl (by kernel_rfl) (by kernel_rfl) (by kernel_rfl) (fun _ _ _ h => h) (Or.inl ⟨by rfl, fun V hV => by obtain ⟨s0, s1, s2, s3, s4⟩ := hSp V hV; go_simp⟩) hS0 ?_
      refine wpAnyH_take (i := 8) (v := .int .i64 (j : Nat)) rfl (by kernel_rfl) (by kernel_rfl) (by kernel_rfl) (fun _ _ _ h => h) (Or.inl ⟨by rfl, fun V hV => by obtain ⟨s0, s1, s2, s3, s4⟩ := hSp V hV; go_simp⟩) hS0 ?_
      refine wpAnyH_take (i := 9) (v := .pointer (some ⟨g, j * 9, none⟩)) rfl (by kernel_rfl) (by kernel_rfl) (by kernel_rfl) (fun _ _ _ h => h) (Or.inl ⟨by rfl, fun V hV => by obtain ⟨s0, s1, s2, s3, s4⟩ := hSp V hV; go_simp⟩) hS0 ?_
      refine wpAnyH_take (i := 10) (v := .pointer (some ⟨g, j * 9 + 6, none⟩)) rfl (by kernel_rfl) (by kernel_rfl) (by kernel_rfl) (fun _ _ _ h => h) (Or.inl ⟨by rfl, fun V hV => by obtain ⟨s0, s1, s2, s3, s4⟩ := hSp V hV; go_simp⟩) hS0 ?_
      refine wpAnyH_take (i := 11) (v := .int .i64 P.next) rfl (by kernel_rfl) (by kernel_rfl) (by kernel_rfl) (fun _ _ _ h => h) (Or.inl ⟨by rfl, fun V hV => by obtain ⟨s0, s1, s2, s3, s4⟩ := hSp V hV; go_simp⟩) hS0 ?_
      refine wpAnyH_take (i := 12) (v := .int .i64 (q.1 : Nat)) rfl (by kernel_rfl) (by kernel_rfl) (by kernel_rfl) (fun _ _ _ h => h) (Or.inl ⟨by rfl, fun V hV => by obtain ⟨s0, s1, s2, s3, s4⟩ := hSp V hV; go_simp⟩) hS0 ?_
      refine wpAnyH_ready (rs := [13]) (by kernel_rfl) (by simp) ?_
      refine AllReadyH.cons rfl (fun K hK => ?_) AllReadyH.nil
      go_simp
      refine hcall2.mono ?_
      rintro e U1 ⟨v1, G1, D1, rfl, hv1, hG1, hm1, hst1, hrow1⟩
      refine hK.out _ _ (bS1 U1 D1 hm1 hst1) (fun hS1 => ?_)
      clear hK K
      refine wpAnyH_ready (rs := [14]) (by kernel_rfl) (by simp) ?_
      refine AllReadyH.cons rfl (fun K hK => ?_) AllReadyH.nil
      go_simp
      refine (badd U1 v1 G1 D1 hv1 hm1 hst1 hrow1).mono ?_
      rintro e U2 ⟨rfl, hset⟩
      refine hK.out _ _ (bS2 U1 v1 G1 D1 U2 hv1 hG1 hm1 hst1 hset) (fun hS2 => ?_)
      clear hK K
      refine wpAnyH_done (by kernel_rfl) ?_ _
      exact bfin U1 v1 G1 D1 U2 hv1 hG1 hm1 hst1 hset
    case hdone =>
      rintro l U hl hi hdf
      rw [hIdef] at hi
      obtain ⟨D', v, G, ha, -, -⟩ := hi
      obtain ⟨nm, hown, hnm⟩ := ha.ms.drew.own
      have hmax : nm < maxLen := by
        have e1 := univ_len C
        have e2 : C.all.length * (11 * (C.s.size + 1)) ≤ 1048576 * (11 * 60001) := Nat.mul_le_mul hfew (by omega)
        unfold maxLen
        omega
      obtain ⟨U1, hup, hown1, hgr⟩ := hown.update keyed100 Try.underlying61 hmax (val := .agg #[v]) (d := .held (.agg #[v])) (ps := []) (key3_ok (j : Int) (-1) (p : Int) (hu.wf ok).1 (hu.wf ok).2.1 (hu.wf ok).2.2) rfl
      have hGR : ∀ q, G q = true ↔ SeqR C.s (x :: xs) p q := fun q => by
        rw [ha.holds]
        simp only [SeqR]
        constructor
        · rintro ⟨y, _, h2⟩
          exact ⟨y.1, (hG4 y.1).1 y.2, h2⟩
        · rintro ⟨r, h1, h2⟩
          have hr := (hG4 r).2 h1
          have hmem : r ∈ l.map (·.1) := by rw [hl]; exact (mem_down _ _ _).2 ⟨holdsP_lt hvh hr, hr⟩
          obtain ⟨y, hy, rfl⟩ := List.mem_map.1 hmem
          exact ⟨y, hy, h2⟩
      have hm1 := ha.ms.drew.put ok hu hown1 hgr (ha.set.agree fun _ _ => rfl) (fun q => (hGR q).trans (hcs q).symm)
      have f0 : U.cell? ⟨w.heap.size, 0, none⟩ = some (.pointer (some ⟨C.mb, 0, none⟩)) := (ha.keep _ HM.out.1).cell 0 rfl
      have bk4 := ha.keep _ HM.out.2.2.2
      have f40 : U.cell? ⟨w.heap.size + 1 + 1 + 1 + 1, 0, none⟩ = some (.int .i64 (j : Nat)) := bk4.cell 0 rfl
      have f41 : U.cell? ⟨w.heap.size + 1 + 1 + 1 + 1, 1, none⟩ = some (.int .i64 (-1)) := bk4.cell 1 rfl
      have f42 : U.cell? ⟨w.heap.size + 1 + 1 + 1 + 1, 2, none⟩ = some (.int .i64 (p : Nat)) := bk4.cell 2 rfl
      have f6 : U.cell? ⟨w.heap.size + 1 + 1 + 1, 0, none⟩ = some v := ha.box.cell 0 rfl
      have f5 : U.cell? ⟨C.mb, 2, none⟩ = some (.map (some C.mm)) := ha.ms.m.cell 2 rfl
      have kb : ∀ {k c t}, Blk U k c t → Blk U1 k c t := fun {k c t} hb => hb.ofSame (hgr.block k hb.lt (fun e => ha.ms.notMap hb (Option.some.inj e)))
      have kd : U1.heap[W5.heap.size]? = some (.deferred (some [])) := by
        refine (hgr.block _ (show _ < U.heap.size from (Array.getElem?_eq_some_iff.1 hdf).1) (fun e => ?_)).trans hdf
        obtain ⟨es, cl, e2⟩ := ha.ms.mapAt
        rw [← Option.some.inj e, hdf] at e2
        cases e2
      have g0 : U1.cell? ⟨w.heap.size, 0, none⟩ = some (.pointer (some ⟨C.mb, 0, none⟩)) := (kb (ha.keep _ HM.out.1)).cell 0 rfl
      have g40 : U1.cell? ⟨w.heap.size + 1 + 1 + 1 + 1, 0, none⟩ = some (.int .i64 (j : Nat)) := (kb bk4).cell 0 rfl
      have g41 : U1.cell? ⟨w.heap.size + 1 + 1 + 1 + 1, 1, none⟩ = some (.int .i64 (-1)) := (kb bk4).cell 1 rfl
      have g42 : U1.cell? ⟨w.heap.size + 1 + 1 + 1 + 1, 2, none⟩ = some (.int .i64 (p : Nat)) := (kb bk4).cell 2 rfl
      have g6 : U1.cell? ⟨w.heap.size + 1 + 1 + 1, 0, none⟩ = some v := (kb ha.box).cell 0 rfl
      have g5 : U1.cell? ⟨C.mb, 2, none⟩ = some (.map (some C.mm)) := (kb ha.ms.m).cell 2 rfl
      have bk3 := kb (ha.keep _ HM.out.2.2.1)
      have g3 : U1.cell? ⟨w.heap.size + 1 + 1, 0, none⟩ = some (.slice none 0 0) := bk3.cell 0 rfl
      have g3f := bk3.fz 0
      obtain ⟨pa, nv, cap1, rfl⟩ := ha.set.form
      have g7 : (U1.setCell ⟨w.heap.size + 1 + 1, 0, none⟩ (.slice pa nv cap1)).cell? ⟨w.heap.size + 1 + 1, 0, none⟩ = some (.slice pa nv cap1) := World.cell?_setCell_same' _ _ _ (by rw [g3]; rfl)
      have hrow3 := ha.row
      have HB := hide (And.intro ha (And.intro hdf (And.intro hm1 (And.intro hgr (And.intro hGR kd)))))
      clear kb bk3 bk4 hrow3 kd
      clear ha hdf hm1 hgr hGR hown hown1 hl
      have hup' : (Instr.mapUpdate 61 (.map (some C.mm)) (.agg #[.int .i64 (j : Nat), .int .i64 (-1), .int .i64 (p : Nat)]) (.agg #[.slice pa nv cap1])).run Try.prog U.drew = .ok () U1 := hup
      clear hup
      gi_wp2
      apply way_cut
      case h =>
        refine wpIn_wide.2 ?_
        go_region_held3 (fun w' => w'.cell? ⟨w.heap.size, 0, none⟩ = some (.pointer (some ⟨C.mb, 0, none⟩)) ∧ w'.cell? ⟨C.mb, 2, none⟩ = some (.map (some C.mm)) ∧ w'.cell? ⟨w.heap.size + 1 + 1 + 1 + 1, 0, none⟩ = some (.int .i64 (j : Nat)) ∧ w'.cell? ⟨w.heap.size + 1 + 1 + 1 + 1, 1, none⟩ = some (.int .i64 (-1)) ∧ w'.cell? ⟨w.heap.size + 1 + 1 + 1 + 1, 2, none⟩ = some (.int .i64 (p : Nat)) ∧ w'.cell? ⟨w.heap.size + 1 + 1 + 1, 0, none⟩ = some (.slice pa nv cap1)) (go_keep) (fail)
        all_goals exact ⟨rfl, rfl, rfl⟩
      gi_wp2
      obtain ⟨ha, hdf, hm1, hgr, hGR, kd⟩ := HB.out
      have hlt3 : w.heap.size + 1 + 1 < U1.heap.size := by
        have := hgr.size
        have h7 := ha.box.lt
        have : U.drew.heap.size = U.heap.size := rfl
        omega
      have kd' : (U1.setCell ⟨w.heap.size + 1 + 1, 0, none⟩ (.slice pa nv cap1)).heap[W5.heap.size]? = some (.deferred (some [])) := (Below.heap_setCell _ _ _ _ (by show W5.heap.size ≠ w.heap.size + 1 + 1; omega)).trans kd
      refine ⟨by simp, .inl ⟨_, _, rfl, run_takeDeferred kd', ?_⟩⟩
      have g8 : ((U1.setCell ⟨w.heap.size + 1 + 1, 0, none⟩ (.slice pa nv cap1)).putObj W5.heap.size (.deferred none)).cell? ⟨w.heap.size + 1 + 1, 0, none⟩ = some (.slice pa nv cap1) := by
        rw [← g7]
        simp only [World.cell?, World.putObj_heap_other (show w.heap.size + 1 + 1 ≠ W5.heap.size by omega)]
      refine ⟨_, res81 rfl rfl g8, ?_⟩
      exact (ha.kept hm1 hgr hGR HM.out.2.2.1 0 _).turn h (by omega) kd' (.inr ⟨_, rfl⟩)
  · obtain ⟨v, G, hv, hset, hG⟩ := h2.inv _ _ _ hu hh
    have l1 := look_yes ok (h2.drew) hu hh hv
    have l2 := look_yes ok (h2.below hb3) hu hh hv
    obtain ⟨pa, nv, cap1, rfl⟩ := hset.form
    have HV := hide (And.intro hv (And.intro hset hG))
    clear hA h hP hAn ihc ihl h2 hbb hcs hu hv hset hG
    apply way_cut
    case h =>
      refine wpIn_wide.2 ?_
      go_region_held3 (fun w' => w'.cell? ⟨w.heap.size, 0, none⟩ = some (.pointer (some ⟨C.mb, 0, none⟩)) ∧ w'.cell? ⟨C.mb, 2, none⟩ = some (.map (some C.mm)) ∧ w'.cell? ⟨w.heap.size + 1 + 1 + 1 + 1, 0, none⟩ = some (.int .i64 (j : Nat)) ∧ w'.cell? ⟨w.heap.size + 1 + 1 + 1 + 1, 1, none⟩ = some (.int .i64 (-1)) ∧ w'.cell? ⟨w.heap.size + 1 + 1 + 1 + 1, 2, none⟩ = some (.int .i64 (p : Nat))) (go_keep) (fail)
      all_goals exact ⟨rfl, rfl, rfl⟩
    gi_wp2
    obtain ⟨hA, h, hP, hAn, ihc, ihl, h2, hbb, hcs, hu⟩ := HH.out
    obtain ⟨hv, hset, hG⟩ := HV.out
    have r1 : (W2.setCell ⟨w.heap.size + 1 + 1, 0, none⟩ (.slice pa nv cap1)).cell? ⟨w.heap.size + 1 + 1, 0, none⟩ = some (.slice pa nv cap1) := World.cell?_setCell_same' _ _ _ (by rw [e3]; rfl)
    have hb7 : Below (W2.setCell ⟨w.heap.size + 1 + 1, 0, none⟩ (.slice pa nv cap1)).heap.size (W2.setCell ⟨w.heap.size + 1 + 1, 0, none⟩ (.slice pa nv cap1)) ((W2.setCell ⟨w.heap.size + 1 + 1, 0, none⟩ (.slice pa nv cap1)).alloc (.cells #[.slice pa nv cap1] 81)).drew := ((Below.refl _ _).alloc (Nat.le_refl _) _).drew
    refine ⟨_, res81 rfl rfl ((hb7.cell (p := ⟨w.heap.size + 1 + 1, 0, none⟩) (by simp [hs2])).trans r1), ?_⟩
    refine EndsPost.later ?_ hb7
    refine EndsPost.boxed (by omega) hset (fun q => (hG q).trans (hcs q)) h2 (h.fresh (by omega)) (Step.below hbb) (fun k e => ?_) 0 _
    have hmr : MRow D k := ⟨_, _, hh, hv, e⟩
    exact ⟨.inl hmr, fun e2 => by have := (h.rows k hmr).1; omega⟩

end Go.Proofs.Ytjlgccfibkcgbaa

namespace Go.Proofs.Ytjlgccfibkcgbaa
open Go.RowKit Go.Shelf

theorem copy_rec (C : MC) (ok : C.Ok) (x : Part) (xs : List Part) (ih : ListC C x.kids) : ∀ (N made p : Nat), (C.s.size - p) * 11 + (x.mn.toNat - made) < N → p ≤ C.s.size → (x.mx < 0 ∨ (made : Int) ≤ x.mx) → (made : Int) ≤ x.mn + p → CopyC C x xs made p
  | 0, _, _, h, _, _, _ => by omega
  | N + 1, made, p, h, hp, h1, h2 => by
    intro i w D hA hm
    have hmm := hA.mm
    simp only [MMs] at hmm
    have hx : x.mx < 0 ∨ x.mn ≤ x.mx := by obtain ⟨g, kids, neg, ps, mn, mx⟩ := x; simp only [MM] at hmm; exact hmm.1.1
    refine mcopyEnds_any C ok x xs ih made p hp h1 h2 (fun q hq => ?_) i w D hA hm
    obtain ⟨n1, n2, n3⟩ := hq
    have hb := AtomR.bound C.s x p q hp n2
    refine copy_rec C ok x xs ih N (made + 1) q ?_ hb.2 (by omega) (by omega)
    by_cases hpq : p < q
    · have : (C.s.size - q) * 11 + 11 ≤ (C.s.size - p) * 11 := by omega
      omega
    · have : q = p := by omega
      subst this
      omega

theorem copy_zero (C : MC) (ok : C.Ok) (x : Part) (xs : List Part) (ih : ListC C x.kids) (p : Nat) (hp : p ≤ C.s.size) : CopyC C x xs 0 p := by
  intro i w D hA hm
  have hwf := hA.wf
  simp only [WFs] at hwf
  have h0 : 0 ≤ x.mn := by obtain ⟨g, kids, neg, ps, mn, mx⟩ := x; simp only [WF] at hwf; exact hwf.1.2.2.1
  exact copy_rec C ok x xs ih _ 0 p (Nat.lt_succ_self _) hp (by omega) (by omega) i w D hA hm

mutual
theorem kids_all (C : MC) (ok : C.Ok) : ∀ x : Part, ListC C x.kids
  | .mk _ kids _ _ _ _ => list_all C ok kids
theorem list_all (C : MC) (ok : C.Ok) : ∀ ps : List Part, ListC C ps
  | [] => mlistEnds_nil C ok
  | x :: xs => mlistEnds_cons C ok x xs (fun p hp => copy_zero C ok x xs (kids_all C ok x) p hp) (list_all C ok xs)
end

theorem copy_all (C : MC) (ok : C.Ok) (x : Part) (xs : List Part) (made p : Nat) (hp : p ≤ C.s.size) (h1 : x.mx < 0 ∨ (made : Int) ≤ x.mx) (h2 : (made : Int) ≤ x.mn + p) : CopyC C x xs made p :=
  copy_rec C ok x xs (kids_all C ok x) _ made p (Nat.lt_succ_self _) hp h1 h2

end Go.Proofs.Ytjlgccfibkcgbaa
