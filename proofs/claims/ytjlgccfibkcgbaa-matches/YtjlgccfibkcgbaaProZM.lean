import Derived.Test.YtjlgccfibkcgbaaProZL
namespace Go.Proofs.Ytjlgccfibkcgbaa
open Go.RowKit Go.Shelf
attribute [local go_sem] Oper.semAt_some

/-- The blocks that a round may turn: the map, and the result's box. -/
def OwnR (C : MC) (rb : Nat) (_ : World) (k : Nat) : Prop := k = C.mm ∨ k = rb

theorem keepO_putR {C : MC} {rb B0 : Nat} {o o' : Obj} {W W' : World} (h : KeepO B0 (OwnR C rb) (W.putObj (B0 + 1) o) W') : KeepO B0 (OwnR C rb) W (W'.putObj (B0 + 1) o') :=
  ⟨by simpa using h.size, fun k hk hn hw => by rw [World.putObj_heap_other hn, h.same k (by simpa using hk) hn hw, World.putObj_heap_other hn], fun k _ hw => hw⟩

set_option maxRecDepth 100000 in
set_option maxHeartbeats 1000000 in
theorem copyEnd_any (C : MC) (ok : C.Ok) (x : Part) (xs : List Part) (i : Int) (hA : AtW C i (x :: xs)) (made p e : Nat) (hp : p ≤ C.s.size) (he : e ≤ C.s.size) (hmd : x.mx < 0 ∨ (made : Int) ≤ x.mx) (hmd2 : (made : Int) ≤ x.mn + p) (hex : ∃ r, NextR C.s x made p r ∧ Copies (AtomR C.s x) x.mn x.mx (made + 1) r e) (w : World) (D : DataW Value) (h : MS C w D) :
    Calls Try.prog 69 #[.pointer (some ⟨C.mb, 0, none⟩), .int .i64 i, .int .i64 (made : Nat), .int .i64 (p : Nat), .int .i64 (e : Nat)] w fun r w' => ∃ m D', r = .returned (.int .i64 (m : Nat)) ∧ Best (fun m => NextR C.s x made p m ∧ Copies (AtomR C.s x) x.mn x.mx (made + 1) m e) m ∧ MS C w' D' ∧ Step C w D w' D' := by
  obtain ⟨j, P, rfl, hjl, hP, hAn, hAi⟩ := hA.cons
  obtain ⟨g, cap, hpv, hgl, hcap⟩ := h.parts hP.get
  have hfew := ok.few
  have hsm := ok.small
  have hwf := hA.wf
  have hmmm := hA.mm
  simp only [WFs] at hwf
  simp only [MMs] at hmmm
  have hb : 0 ≤ x.mn ∧ x.mn ≤ 9 := by
    obtain ⟨g, kids, neg, ps, mn, mx⟩ := x
    simp only [WF] at hwf
    exact ⟨hwf.1.2.2.1, hwf.1.2.2.2.1⟩
  have hx : x.mx < 0 ∨ x.mn ≤ x.mx := by obtain ⟨g, kids, neg, ps, mn, mx⟩ := x; simp only [MM] at hmmm; exact hmmm.1.1
  have hb1 := (((((Below.refl w.heap.size w).alloc (Nat.le_refl _) (.cells #[.pointer (some ⟨C.mb, 0, none⟩)] 43)).alloc (by simp) (.cells #[.int .i64 (j : Nat)] 3)).alloc (by simp; omega) (.cells #[.int .i64 (made : Nat)] 3)).alloc (by simp; omega) (.cells #[.int .i64 (e : Nat)] 3)).alloc (by simp; omega) (.cells #[.int .i64 0] 3)
  have k0 : Blk (((((w.alloc (.cells #[.pointer (some ⟨C.mb, 0, none⟩)] 43)).alloc (.cells #[.int .i64 (j : Nat)] 3)).alloc (.cells #[.int .i64 (made : Nat)] 3)).alloc (.cells #[.int .i64 (e : Nat)] 3)).alloc (.cells #[.int .i64 0] 3)) w.heap.size #[.pointer (some ⟨C.mb, 0, none⟩)] 43 := ((((Blk.new w _ _).alloc _).alloc _).alloc _).alloc _
  have k1 : Blk (((((w.alloc (.cells #[.pointer (some ⟨C.mb, 0, none⟩)] 43)).alloc (.cells #[.int .i64 (j : Nat)] 3)).alloc (.cells #[.int .i64 (made : Nat)] 3)).alloc (.cells #[.int .i64 (e : Nat)] 3)).alloc (.cells #[.int .i64 0] 3)) (w.heap.size + 1) #[.int .i64 (j : Nat)] 3 := (((Blk.newAt (by simp)).alloc _).alloc _).alloc _
  have k2 : Blk (((((w.alloc (.cells #[.pointer (some ⟨C.mb, 0, none⟩)] 43)).alloc (.cells #[.int .i64 (j : Nat)] 3)).alloc (.cells #[.int .i64 (made : Nat)] 3)).alloc (.cells #[.int .i64 (e : Nat)] 3)).alloc (.cells #[.int .i64 0] 3)) (w.heap.size + 1 + 1) #[.int .i64 (made : Nat)] 3 := ((Blk.newAt (by simp)).alloc _).alloc _
  have k3 : Blk (((((w.alloc (.cells #[.pointer (some ⟨C.mb, 0, none⟩)] 43)).alloc (.cells #[.int .i64 (j : Nat)] 3)).alloc (.cells #[.int .i64 (made : Nat)] 3)).alloc (.cells #[.int .i64 (e : Nat)] 3)).alloc (.cells #[.int .i64 0] 3)) (w.heap.size + 1 + 1 + 1) #[.int .i64 (e : Nat)] 3 := (Blk.newAt (by simp)).alloc _
  have k4 : Blk (((((w.alloc (.cells #[.pointer (some ⟨C.mb, 0, none⟩)] 43)).alloc (.cells #[.int .i64 (j : Nat)] 3)).alloc (.cells #[.int .i64 (made : Nat)] 3)).alloc (.cells #[.int .i64 (e : Nat)] 3)).alloc (.cells #[.int .i64 0] 3)) (w.heap.size + 1 + 1 + 1 + 1) #[.int .i64 0] 3 := Blk.newAt (by simp)
  have hs1 : w.heap.size + 5 ≤ (((((w.alloc (.cells #[.pointer (some ⟨C.mb, 0, none⟩)] 43)).alloc (.cells #[.int .i64 (j : Nat)] 3)).alloc (.cells #[.int .i64 (made : Nat)] 3)).alloc (.cells #[.int .i64 (e : Nat)] 3)).alloc (.cells #[.int .i64 0] 3)).heap.size := by simp
  obtain ⟨K0, hK0⟩ : ∃ K0 : List (Nat × Array Value × TypeId), K0 = [(w.heap.size, #[.pointer (some ⟨C.mb, 0, none⟩)], 43), (w.heap.size + 1, #[.int .i64 (j : Nat)], 3), (w.heap.size + 1 + 1, #[.int .i64 (made : Nat)], 3), (w.heap.size + 1 + 1 + 1, #[.int .i64 (e : Nat)], 3)] := ⟨_, rfl⟩
  have hF1 : Frm C w D (K0 ++ [(w.heap.size + 1 + 1 + 1 + 1, #[.int .i64 0], 3)]) (((((w.alloc (.cells #[.pointer (some ⟨C.mb, 0, none⟩)] 43)).alloc (.cells #[.int .i64 (j : Nat)] 3)).alloc (.cells #[.int .i64 (made : Nat)] 3)).alloc (.cells #[.int .i64 (e : Nat)] 3)).alloc (.cells #[.int .i64 0] 3)) D := by
    refine Frm.start h hb1 (fun b hb => ?_)
    rw [hK0] at hb
    simp only [List.mem_append, List.mem_cons, List.not_mem_nil, or_false] at hb
    rcases hb with (rfl | rfl | rfl | rfl) | rfl
    · exact ⟨k0, by simp⟩
    · exact ⟨k1, by simp⟩
    · exact ⟨k2, by simp; omega⟩
    · exact ⟨k3, by simp; omega⟩
    · exact ⟨k4, by simp; omega⟩
  have hm0 : (w.heap.size, #[Value.pointer (some ⟨C.mb, 0, none⟩)], 43) ∈ K0 := by rw [hK0]; simp
  have hm1 : (w.heap.size + 1, #[Value.int .i64 (j : Nat)], 3) ∈ K0 := by rw [hK0]; simp
  have hm2 : (w.heap.size + 1 + 1, #[Value.int .i64 (made : Nat)], 3) ∈ K0 := by rw [hK0]; simp
  have hm3 : (w.heap.size + 1 + 1 + 1, #[Value.int .i64 (e : Nat)], 3) ∈ K0 := by rw [hK0]; simp
  have hKn : ∀ b, b ∈ K0 → b.1 ≠ w.heap.size + 1 + 1 + 1 + 1 := by
    intro b hb
    rw [hK0] at hb
    simp only [List.mem_cons, List.not_mem_nil, or_false] at hb
    rcases hb with rfl | rfl | rfl | rfl <;> simp <;> omega
  have hcall := nextCopy_any C ok j P hP.get g cap hpv made p _ D hF1.ms
  have HM := hide (And.intro hm0 (And.intro hm1 (And.intro hm2 (And.intro hm3 hKn))))
  have HH := hide (And.intro hA (And.intro h (And.intro hP (And.intro hAi (And.intro hF1 (And.intro hex (And.intro hs1 (And.intro hwf hmmm))))))))
  clear hm0 hm1 hm2 hm3 hKn hA h hP hAn hAi hF1 hex k0 k1 k2 k3 k4 hb1 hK0 hs1 hwf hmmm
  refine (callsIn_wide (n := 9)).1 ?_
  refine callsIn_of_wp_marks Try.func69 rfl trivial ?_ rfl
  simp only [Try.ntmps69, List.size_toArray, List.length_cons, List.length_nil, Nat.reduceAdd, Nat.reduceSub, Array.replicate_succ, Array.replicate_zero, List.push_toArray, List.append_toArray, List.nil_append, List.cons_append]
  gi_wp2
  refine ⟨trivial, (callsIn_wide.2 hcall).mono ?_⟩
  obtain ⟨hA, h, hP, hAi, hF1, hex, hs1, hwf, hmmm⟩ := HH.out
  clear hcall HH
  generalize (((((w.alloc (.cells #[.pointer (some ⟨C.mb, 0, none⟩)] 43)).alloc (.cells #[.int .i64 (j : Nat)] 3)).alloc (.cells #[.int .i64 (made : Nat)] 3)).alloc (.cells #[.int .i64 (e : Nat)] 3)).alloc (.cells #[.int .i64 0] 3)) = W4 at *
  rintro r W5 ⟨rfl, hW5⟩
  gi_wp2
  have hb5 : Below W4.heap.size W4 W5 := by
    rw [hW5]
    exact ((((Below.refl _ _).alloc (Nat.le_refl _) _).alloc (by simp) _).alloc (by simp; omega) _).alloc (by simp; omega) _
  have hs5 : W5.heap.size ≤ W4.heap.size + 4 := by rw [hW5]; simp [copyW]
  have hs5' : W4.heap.size + 4 ≤ W5.heap.size := by rw [hW5]; simp [copyW]
  have hbx : Boxes C g j made p W4.heap.size W5 := by rw [hW5]; exact Boxes.made_ W4
  rw [← hW5]
  clear hW5
  obtain ⟨K1, hK1⟩ : ∃ K1 : List (Nat × Array Value × TypeId), K1 = [(W4.heap.size, #[.pointer (some ⟨C.mb, 0, none⟩)], 43), (W4.heap.size + 1, #[.int .i64 (made : Nat)], 3), (W4.heap.size + 1 + 1, #[.int .i64 (p : Nat)], 3), (W4.heap.size + 1 + 1 + 1, #[.pointer (some ⟨g, j * 9, none⟩)], 123)] := ⟨_, rfl⟩
  have hF5 : Frm C w D ((K0 ++ K1) ++ [(w.heap.size + 1 + 1 + 1 + 1, #[.int .i64 0], 3)]) W5 D := by
    have hF := hF1.moved (hF1.ms.below hb5) (Step.below hb5)
    refine ⟨hF.ms0, hF.ms, hF.step, fun b hb => ?_, fun b hb => ?_⟩
    · simp only [List.mem_append] at hb
      rcases hb with (hb | hb) | hb
      · exact hF.keep b (List.mem_append_left _ hb)
      · rw [hK1] at hb
        simp only [List.mem_cons, List.not_mem_nil, or_false] at hb
        rcases hb with rfl | rfl | rfl | rfl
        · exact hbx.m
        · exact hbx.made
        · exact hbx.place
        · exact hbx.part
      · exact hF.keep b (List.mem_append_right _ hb)
    · simp only [List.mem_append] at hb
      rcases hb with (hb | hb) | hb
      · exact hF.base b (List.mem_append_left _ hb)
      · have hl : W4.heap.size ≤ b.1 := by
          rw [hK1] at hb
          simp only [List.mem_cons, List.not_mem_nil, or_false] at hb
          rcases hb with rfl | rfl | rfl | rfl <;> simp <;> omega
        exact ⟨by omega, fun hr => by have := (hF1.ms.rows _ hr).1; omega⟩
      · exact hF.base b (List.mem_append_right _ hb)
  have hKn1 : ∀ b, b ∈ K0 ++ K1 → b.1 ≠ w.heap.size + 1 + 1 + 1 + 1 := fun b hb => by
    rcases List.mem_append.1 hb with hb | hb
    · exact HM.out.2.2.2.2 b hb
    · rw [hK1] at hb
      simp only [List.mem_cons, List.not_mem_nil, or_false] at hb
      rcases hb with rfl | rfl | rfl | rfl <;> simp <;> omega
  have boxes : ∀ {c U D'}, Frm C w D ((K0 ++ K1) ++ [(w.heap.size + 1 + 1 + 1 + 1, c, 3)]) U D' → Boxes C g j made p W4.heap.size U := fun h => by
    refine ⟨h.keep (W4.heap.size, #[.pointer (some ⟨C.mb, 0, none⟩)], 43) ?_, h.keep (W4.heap.size + 1, #[.int .i64 (made : Nat)], 3) ?_, h.keep (W4.heap.size + 1 + 1, #[.int .i64 (p : Nat)], 3) ?_, h.keep (W4.heap.size + 1 + 1 + 1, #[.pointer (some ⟨g, j * 9, none⟩)], 123) ?_⟩ <;> rw [hK1] <;> simp
  obtain ⟨I, hIdef⟩ : ∃ I : List (NextQ C.s x made p) → World → Prop, I = fun pre U => ∃ D', Frm C w D ((K0 ++ K1) ++ [(w.heap.size + 1 + 1 + 1 + 1, #[.int .i64 0], 3)]) U D' ∧ (∀ y, y ∈ pre → ¬ Copies (AtomR C.s x) x.mn x.mx (made + 1) y.1 e) := ⟨_, rfl⟩
  obtain ⟨Ix, hIxdef⟩ : ∃ Ix : Code → List (NextQ C.s x made p) → World → Prop, Ix = fun c pre U => c = .ret ∧ ∃ D' m pre', pre = pre' ++ [m] ∧ Frm C w D ((K0 ++ K1) ++ [(w.heap.size + 1 + 1 + 1 + 1, #[.int .i64 (m.1 : Nat)], 3)]) U D' ∧ Copies (AtomR C.s x) x.mn x.mx (made + 1) m.1 e ∧ (∀ y, y ∈ pre' → ¬ Copies (AtomR C.s x) x.mn x.mx (made + 1) y.1 e) := ⟨_, rfl⟩
  have hTurn : ∀ s W k o o', I s W → w.heap.size ≤ k → W.heap[k]? = some o → IsRec o → I s (W.putObj k o') := by
    rintro s W k o o' hi hk ho hr
    rw [hIdef] at hi ⊢
    obtain ⟨D', ha, hv⟩ := hi
    exact ⟨D', ha.turn hk ho hr, hv⟩
  have hTurnX : ∀ c s W k o o', Ix c s W → w.heap.size ≤ k → W.heap[k]? = some o → IsRec o → Ix c s (W.putObj k o') := by
    rintro c s W k o o' hi hk ho hr
    rw [hIxdef] at hi ⊢
    obtain ⟨hc, D', m, pre', h1, h2, h3, h4⟩ := hi
    exact ⟨hc, D', m, pre', h1, h2.turn hk ho hr, h3, h4⟩
  have hAb : AbidesN C g j made p W4.heap.size (W5.heap.size + 2) (OwnR C (w.heap.size + 1 + 1 + 1 + 1)) I := by
    refine ⟨fun s W hi => ?_, fun s W hi => ?_, fun s W D1 W' D2 hi h1 h2 hst => ?_, fun s W k o o' hi hk ho hr => hTurn s W k o o' hi (by omega) ho hr, fun s W W' _ _ k hk => hk⟩
    · rw [hIdef] at hi
      obtain ⟨D', ha, _⟩ := hi
      exact boxes ha
    · rw [hIdef] at hi
      obtain ⟨D', ha, _⟩ := hi
      refine ⟨D', ha.ms, fun k hk => ?_⟩
      have hmem : (w.heap.size + 1 + 1 + 1 + 1, #[Value.int .i64 0], 3) ∈ (K0 ++ K1) ++ [(w.heap.size + 1 + 1 + 1 + 1, #[Value.int .i64 0], 3)] := List.mem_append_right _ (List.mem_singleton.2 rfl)
      rcases hk with rfl | rfl
      · refine ⟨.inl rfl, fun hr => ?_⟩
        obtain ⟨_, c, t, e⟩ := ha.ms.rows _ hr
        exact ha.ms.notMap e rfl
      · exact ⟨.inr ⟨_, _, ha.keep _ hmem⟩, (ha.base _ hmem).2⟩
    · rw [hIdef] at hi ⊢
      obtain ⟨D', ha, hv⟩ := hi
      obtain rfl := ha.ms.unique h1
      exact ⟨D2, ha.moved h2 hst, hv⟩
  apply range_free (gf := 83) (lb := #[.pointer (some ⟨W4.heap.size + 1, 0, none⟩), .pointer (some ⟨W4.heap.size + 1 + 1 + 1, 0, none⟩), .pointer (some ⟨W4.heap.size, 0, none⟩), .pointer (some ⟨W4.heap.size + 1 + 1, 0, none⟩)]) rfl (enters_of Try.func83 (by kernel_rfl) rfl) (fun q : NextQ C.s x made p => #[Value.int .i64 (q.1 : Nat)]) (fun _ => rfl) (64 * C.L) (by omega)
    I Ix (KeepO W5.heap.size (OwnR C (w.heap.size + 1 + 1 + 1 + 1))) (KeepO W5.heap.size (OwnR C (w.heap.size + 1 + 1 + 1 + 1))) (fun l => AllOf (NextR C.s x made p) (l.map (·.1))) (fun l => SomeOf (NextR C.s x made p) (l.map (·.1)))
    (fun s W r r' hr hi => hTurn s W _ _ _ hi (by omega) hr (.inl ⟨_, rfl⟩)) (fun c s W r r' hr hi => hTurnX c s W _ _ _ hi (by omega) hr (.inl ⟨_, rfl⟩)) (fun W W' o o' hk => keepO_putR hk)
  case hassign =>
    intro l q U K hK
    gi_wp2
    exact hK
  case hseq =>
    intro r hR
    have hb6 : Below W5.heap.size W5 ((W5.alloc (.deferred (some []))).alloc (.loop (r .ready none))) := ((Below.refl _ _).alloc (Nat.le_refl _) _).alloc (by simp) _
    refine callsIn_wide.2 ((nextCopy1_any C ok x xs j P hP (kids_all C ok x) (fun hg j' P' hP' => ⟨(hP'.group hg).2, (hAi hg).wf, (hAi hg).mm⟩) hwf.1 hmmm.1 g cap hpv made p hp hmd (by omega) W4.heap.size W5.heap.size r (OwnR C (w.heap.size + 1 + 1 + 1 + 1)) I Ix _ (64 * C.L) (Nat.le_refl _) hAb (fun c s W k o o' hi hk ho hr => hTurnX c s W k o o' hi (by omega) ho hr) hR _ (by simp) ?_ ⟨?_, ?_⟩).mono ?_)
    · rw [hIdef]
      exact ⟨D, hF5.moved (hF5.ms.below hb6) (Step.below hb6), fun y hy => (by cases hy)⟩
    · exact (Below.heap_alloc _ _ _ (by simp)).trans (World.alloc_heap_new W5 _)
    · have := World.alloc_heap_new (W5.alloc (.deferred (some []))) (.loop (r .ready none)); rwa [World.size_alloc] at this
    · rintro e W' ⟨hv, ⟨l, h1, h2, h3⟩ | ⟨l, c, h1, h2, h3⟩⟩
      · exact ⟨hv, .inl ⟨l, h1, h2, h3⟩⟩
      · exact ⟨hv, .inr ⟨l, c, h1, h2, h3⟩⟩
  case hdone =>
    rintro l U hl hi hdf
    exfalso
    rw [hIdef] at hi
    obtain ⟨D', hF, hno⟩ := hi
    obtain ⟨m, hm1, hm2⟩ := hex
    obtain ⟨y, hy, rfl⟩ := List.mem_map.1 ((hl.2 m).2 hm1)
    exact hno y hy hm2
  case hstop =>
    rintro c l U hl hi hdf
    rw [hIxdef] at hi
    obtain ⟨rfl, D', m, pre', rfl, hF, hsm2, hno⟩ := hi
    have bk := hF.keep _ (List.mem_append_right _ (List.mem_singleton.2 rfl))
    have f3 : U.cell? ⟨w.heap.size + 1 + 1 + 1 + 1, 0, none⟩ = some (.int .i64 (m.1 : Nat)) := bk.cell 0 rfl
    have f8 : (U.putObj W5.heap.size (.deferred none)).cell? ⟨w.heap.size + 1 + 1 + 1 + 1, 0, none⟩ = some (.int .i64 (m.1 : Nat)) := by
      rw [← f3]
      simp only [World.cell?, World.putObj_heap_other (show w.heap.size + 1 + 1 + 1 + 1 ≠ W5.heap.size by omega)]
    gi_wp2
    refine ⟨by simp, .inl ⟨_, _, rfl, run_takeDeferred hdf, ?_⟩⟩
    have hF2 := hF.turn (o' := .deferred none) (by omega) hdf (.inr ⟨_, rfl⟩)
    refine ⟨_, res3 rfl rfl f8, m.1, rfl, ?_, D', hF2.ms, hF2.step⟩
    refine best_of (l := pre'.map (·.1)) (by rw [List.map_append] at hl; exact hl) m.2 hsm2 (fun y hy => ?_)
    obtain ⟨z, hz, rfl⟩ := List.mem_map.1 hy
    exact hno z hz
  case hbody =>
    rintro pre q U hi ⟨rl, hrl⟩ hdf hlen
    rw [hIdef] at hi
    obtain ⟨D', hF, hno⟩ := hi
    have hqb := AtomR.bound C.s x p q.1 hp q.2.2.1
    have hn1 : x.mx < 0 ∨ ((made + 1 : Nat) : Int) ≤ x.mx := by have := q.2.1; omega
    have hn2 : ((made + 1 : Nat) : Int) ≤ x.mn + (q.1 : Nat) := by have := q.2.2.2; omega
    have hcall2 := copy_all C ok x xs (made + 1) q.1 hqb.2 hn1 hn2 (j : Int) U.drew D' hA hF.ms.drew
    rw [show (((made + 1 : Nat)) : Int) = (made : Int) + 1 from by omega] at hcall2
    have hwr : IntKind.i64.wrap ((made : Int) + 1) = (made : Int) + 1 := wrapE ((made : Int) + 1) (by omega) (by omega)
    have hFd := hF.drewN 1
    obtain ⟨S, hS⟩ : ∃ S : World → Prop, S = fun V => V.cell? ⟨w.heap.size, 0, none⟩ = some (.pointer (some ⟨C.mb, 0, none⟩)) ∧ V.cell? ⟨w.heap.size + 1, 0, none⟩ = some (.int .i64 (j : Nat)) ∧ V.cell? ⟨w.heap.size + 1 + 1, 0, none⟩ = some (.int .i64 (made : Nat)) ∧ V.cell? ⟨w.heap.size + 1 + 1 + 1, 0, none⟩ = some (.int .i64 (e : Nat)) := ⟨_, rfl⟩
    have hSof : ∀ {V D2}, Frm C w D ((K0 ++ K1) ++ [(w.heap.size + 1 + 1 + 1 + 1, #[.int .i64 0], 3)]) V D2 → S V := fun {V D2} hb => by
      rw [hS]
      exact ⟨(hb.keep _ (List.mem_append_left _ (List.mem_append_left _ HM.out.1))).cell 0 rfl, (hb.keep _ (List.mem_append_left _ (List.mem_append_left _ HM.out.2.1))).cell 0 rfl, (hb.keep _ (List.mem_append_left _ (List.mem_append_left _ HM.out.2.2.1))).cell 0 rfl, (hb.keep _ (List.mem_append_left _ (List.mem_append_left _ HM.out.2.2.2.1))).cell 0 rfl⟩
    have hS0 : S U.drew := hSof hFd
    have hSp : ∀ V, S V → V.cell? ⟨w.heap.size, 0, none⟩ = some (.pointer (some ⟨C.mb, 0, none⟩)) ∧ V.cell? ⟨w.heap.size + 1, 0, none⟩ = some (.int .i64 (j : Nat)) ∧ V.cell? ⟨w.heap.size + 1 + 1, 0, none⟩ = some (.int .i64 (made : Nat)) ∧ V.cell? ⟨w.heap.size + 1 + 1 + 1, 0, none⟩ = some (.int .i64 (e : Nat)) := fun V h => by rw [hS] at h; exact h
    have hfr : ∀ U1 D1 U2, MS C U1 D1 → Step C U.drew D' U1 D1 → Below U1.heap.size U1 U2 → Frm C w D ((K0 ++ K1) ++ [(w.heap.size + 1 + 1 + 1 + 1, #[.int .i64 0], 3)]) U2 D1 := fun U1 D1 U2 hm1 hst1 hb => (Frm.moved (U := U.drew) hFd hm1 hst1).moved (hm1.below hb) (Step.below hb)
    have hkeep : ∀ U1 D1 U2, MS C U1 D1 → Step C U.drew D' U1 D1 → Below U1.heap.size U1 U2 → (U2.heap[W5.heap.size]? = U.heap[W5.heap.size]? ∧ U2.heap[W5.heap.size + 1]? = U.heap[W5.heap.size + 1]?) ∧ (U.heap.size ≤ U2.heap.size ∧ ∀ k, k < U.heap.size → k ≠ C.mm → U2.heap[k]? = U.heap[k]?) := fun U1 D1 U2 hm1 hst1 hb => by
      have hU : U.drew.heap.size = U.heap.size := rfl
      have hs1 := hst1.kp.size
      have keep : ∀ k, k < U.heap.size → k ≠ C.mm → U2.heap[k]? = U.heap[k]? := fun k hk n1 => (hb.block k (by omega)).trans (hst1.kp.block k hk n1)
      have hrec : ∀ k o, U.heap[k]? = some o → IsRec o → U2.heap[k]? = U.heap[k]? := fun k o hk ho => by
        have hlt := (Array.getElem?_eq_some_iff.1 hk).1
        refine keep k hlt ?_
        rintro rfl
        obtain ⟨es, cl, e⟩ := hF.ms.mapAt
        rw [hk] at e
        rcases ho with ⟨_, rfl⟩ | ⟨_, rfl⟩ <;> cases e
      exact ⟨⟨hrec _ _ hdf (.inr ⟨_, rfl⟩), hrec _ _ hrl (.inl ⟨_, rfl⟩)⟩, by have := hb.size; omega, keep⟩
    have HI := hide (And.intro hIdef (And.intro hIxdef hKn1))
    clear hF hFd hS hF5 hF1 hTurn hTurnX hrl hdf hIdef hIxdef hAb boxes hKn1
    gi_wp2
    refine round_held (S := S) (by kernel_rfl) (by kernel_rfl) (by rintro ⟨a, w, h⟩; exact h) ?_
    refine wpAnyH_take (i := 0) (v := .pointer (some ⟨C.mb, 0, none⟩)) rfl (by kernel_rfl) (by kernel_rfl) (by kernel_rfl) (fun _ _ _ h => h) (Or.inl ⟨by rfl, fun V hV => by obtain ⟨s0, s1, s2, s3⟩ := hSp V hV; go_simp⟩) hS0 ?_
    refine wpAnyH_take (i := 1) (v := .int .i64 (j : Nat)) rfl (by kernel_rfl) (by kernel_rfl) (by kernel_rfl) (fun _ _ _ h => h) (Or.inl ⟨by rfl, fun V hV => by obtain ⟨s0, s1, s2, s3⟩ := hSp V hV; go_simp⟩) hS0 ?_
    refine wpAnyH_take (i := 2) (v := .int .i64 (made : Nat)) rfl (by kernel_rfl) (by kernel_rfl) (by kernel_rfl) (fun _ _ _ h => h) (Or.inl ⟨by rfl, fun V hV => by obtain ⟨s0, s1, s2, s3⟩ := hSp V hV; go_simp⟩) hS0 ?_
    refine wpAnyH_take (i := 3) (v := .int .i64 ((made : Int) + 1)) rfl (by kernel_rfl) (by kernel_rfl) (by kernel_rfl) (fun _ _ _ h => h) (Or.inl ⟨by rfl, fun V hV => by obtain ⟨s0, s1, s2, s3⟩ := hSp V hV; go_simp⟩) hS0 ?_
    refine wpAnyH_take (i := 4) (v := .int .i64 (q.1 : Nat)) rfl (by kernel_rfl) (by kernel_rfl) (by kernel_rfl) (fun _ _ _ h => h) (Or.inl ⟨by rfl, fun V hV => by obtain ⟨s0, s1, s2, s3⟩ := hSp V hV; go_simp⟩) hS0 ?_
    refine wpAnyH_take (i := 6) (v := .int .i64 (e : Nat)) rfl (by kernel_rfl) (by kernel_rfl) (by kernel_rfl) (fun _ _ _ h => h) (Or.inl ⟨by rfl, fun V hV => by obtain ⟨s0, s1, s2, s3⟩ := hSp V hV; go_simp⟩) hS0 ?_
    refine wpAnyH_ready (rs := [5]) (by kernel_rfl) (by simp) ?_
    refine AllReadyH.cons rfl (fun K hK => ?_) AllReadyH.nil
    go_simp
    refine hcall2.mono ?_
    rintro r U1 ⟨v1, G1, D1, rfl, hv1, hG1, hm1, hst1, hrow1⟩
    refine hK.out _ _ (hSof (hfr U1 D1 U1 hm1 hst1 (Below.refl _ _))) (fun hS1 => ?_)
    clear hK K
    obtain ⟨ws1, u1, u2, u3⟩ := hv1
    refine wpAnyH_ready (rs := [7]) (by kernel_rfl) (by simp) ?_
    refine AllReadyH.cons rfl (fun K hK => ?_) AllReadyH.nil
    go_simp
    refine (phas_any v1 ws1 G1 e (by omega) (by unfold MC.L at u3; omega) U1 u1 u2).mono ?_
    rintro r U2 ⟨rfl, hb2⟩
    have hF2 := hfr U1 D1 U2 hm1 hst1 hb2
    have hk2 := hkeep U1 D1 U2 hm1 hst1 hb2
    refine hK.out _ _ (hSof hF2) (fun hS2 => ?_)
    clear hK K hS1 hS2 hSof hSp hS0
    refine wpAnyH_done (by kernel_rfl) ?_ _
    have hg1 := hG1 e
    cases hge : G1 e
    · rw [hge] at hg1
      have HZ := hide (And.intro hk2 (And.intro hF2 (And.intro hno hg1)))
      clear hk2 hF2 hno hg1 hG1 hm1 hst1 hrow1 u1 u2 u3 hb2 hfr hkeep
      gi_wp2
      obtain ⟨⟨hk1, hk2, hk3⟩, hF2, hno, hg1⟩ := HZ.out
      refine ⟨hk1, ⟨hk2, fun k hk _ hn => hk3 k hk (fun e => hn (.inl e)), fun k _ hk => hk⟩, ?_⟩
      rw [HI.out.1]
      refine ⟨D1, hF2, fun y hy => ?_⟩
      rcases List.mem_append.1 hy with hy | hy
      · exact hno y hy
      · rw [List.mem_singleton.1 hy]; exact fun hs => by have := hg1.2 hs; cases this
    · rw [hge] at hg1
      have bk := hF2.keep _ (List.mem_append_right _ (List.mem_singleton.2 rfl))
      have f3 : U2.cell? ⟨w.heap.size + 1 + 1 + 1 + 1, 0, none⟩ = some (.int .i64 0) := bk.cell 0 rfl
      have f3f : U2.frozen? ⟨w.heap.size + 1 + 1 + 1 + 1, 0, none⟩ = false := bk.fz 0
      have HZ := hide (And.intro hk2 (And.intro hF2 (And.intro hno hg1)))
      clear hk2 hF2 hno hg1 hG1 hm1 hst1 hrow1 u1 u2 u3 hb2 hfr hkeep bk
      gi_wp2
      obtain ⟨⟨⟨r1, r2⟩, hk2, hk3⟩, hF2, hno, hg1⟩ := HZ.out
      have hsc : ∀ k, k ≠ w.heap.size + 1 + 1 + 1 + 1 → (U2.setCell ⟨w.heap.size + 1 + 1 + 1 + 1, 0, none⟩ (.int .i64 (q.1 : Nat))).heap[k]? = U2.heap[k]? := fun k hk => Below.heap_setCell _ _ _ _ hk
      refine ⟨⟨(hsc _ (by omega)).trans r1, (hsc _ (by omega)).trans r2⟩, ⟨by simpa using hk2, fun k hk _ hn => (hsc k (fun e => hn (.inr e))).trans (hk3 k hk (fun e => hn (.inl e))), fun k _ hk => hk⟩, ?_⟩
      rw [HI.out.2.1]
      refine ⟨rfl, D1, q, pre, rfl, hF2.store (List.mem_append_right _ (List.mem_singleton.2 rfl)) rfl (fun b hb => ?_), by simpa using hg1, hno⟩
      rcases List.mem_append.1 hb with hb | hb
      · exact .inl ⟨List.mem_append_left _ hb, HI.out.2.2 b hb⟩
      · exact .inr (List.mem_singleton.1 hb)
end Go.Proofs.Ytjlgccfibkcgbaa
