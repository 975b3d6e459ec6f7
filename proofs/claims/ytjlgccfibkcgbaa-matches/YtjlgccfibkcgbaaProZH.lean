import Derived.Test.YtjlgccfibkcgbaaProZG
namespace Go.Proofs.Ytjlgccfibkcgbaa
open Go.RowKit Go.Shelf
attribute [local go_sem] Oper.semAt_some

/-- Ways that meet again. -/
theorem way_cut {F : Fence} {n : Nat} {P : Program} {c : Code} {Q : Exit → Act → World → Prop} {a a' : Act} {W W' : World} (h : c.wpIn F n P (fun e b V => e = .normal ∧ b = a' ∧ V = W') a W) (hQ : Q .normal a' W') : c.wpIn F n P Q a W :=
  wpIn_mono h (by rintro e b V ⟨rfl, rfl, rfl⟩; exact hQ)

/-- What lies in memory behind nextCopy. -/
def copyW (C : MC) (g j : Nat) (made p : Int) (w : World) : World :=
  (((w.alloc (.cells #[.pointer (some ⟨C.mb, 0, none⟩)] 43)).alloc (.cells #[.int .i64 made] 3)).alloc (.cells #[.int .i64 p] 3)).alloc (.cells #[.pointer (some ⟨g, j * 9, none⟩)] 123)

set_option maxRecDepth 100000 in
set_option maxHeartbeats 1000000 in
/-- The walk over the next copy's ends is made. -/
theorem nextCopy_any (C : MC) (ok : C.Ok) (j : Nat) (P : PP) (hj : C.all[j]? = some P) (g cap : Nat) (hpv : C.pv = .slice (some ⟨g, 0, none⟩) C.all.length cap) (made p : Int) (w : World) (D : DataW Value) (h : MS C w D) :
    Calls Try.prog 65 #[.pointer (some ⟨C.mb, 0, none⟩), .int .i64 (j : Nat), .int .i64 made, .int .i64 p] w fun e w' => e = .returned (.func (.func 83) #[] #[.pointer (some ⟨w.heap.size + 1, 0, none⟩), .pointer (some ⟨w.heap.size + 1 + 1 + 1, 0, none⟩), .pointer (some ⟨w.heap.size, 0, none⟩), .pointer (some ⟨w.heap.size + 1 + 1, 0, none⟩)]) ∧ w' = copyW C g j made p w := by
  have hmf : ∀ (fn : Fn) (first cap : Array Value) (w : World), (Instr.makeFunc fn first cap).run Try.prog w = .ok (.func fn first cap) w := fun _ _ _ _ => rfl
  have hlt := (List.getElem?_eq_some_iff.1 hj).1
  have hfew := ok.few
  have h1 := h.below ((((Below.refl w.heap.size w).alloc (Nat.le_refl _) (.cells #[.pointer (some ⟨C.mb, 0, none⟩)] 43)).alloc (by simp) (.cells #[.int .i64 made] 3)).alloc (by simp; omega) (.cells #[.int .i64 p] 3))
  have m0 := h1.m.cell 0 rfl
  have x2 := h1.x.cell 2 rfl
  rw [hpv] at x2
  go_enter Try.func65, Try.ntmps65
  go_wp2_with fail
  go_ret
  exact ⟨rfl, rfl⟩

theorem MS.drew {C : MC} {w : World} {D : DataW Value} (h : MS C w D) : MS C w.drew D := h.agree fun _ _ => rfl

/-- The boxes that the walk over the next copy's ends looks into. -/
structure Boxes (C : MC) (g j : Nat) (made p : Int) (B : Nat) (W : World) : Prop where
  m : Blk W B #[.pointer (some ⟨C.mb, 0, none⟩)] 43
  made : Blk W (B + 1) #[.int .i64 made] 3
  place : Blk W (B + 1 + 1) #[.int .i64 p] 3
  part : Blk W (B + 1 + 1 + 1) #[.pointer (some ⟨g, j * 9, none⟩)] 123

theorem Boxes.made_ {C : MC} {g j : Nat} {made p : Int} (w : World) : Boxes C g j made p w.heap.size (copyW C g j made p w) :=
  ⟨(((Blk.new w _ _).alloc _).alloc _).alloc _, ((Blk.newAt (by simp)).alloc _).alloc _, (Blk.newAt (by simp)).alloc _, Blk.newAt (by simp)⟩

/-- The next copy of a part's atom, from a place on. -/
def NextR (s : ByteArray) (x : Part) (made p q : Nat) : Prop := (made < x.mn ∨ x.mx < 0 ∨ made < x.mx) ∧ AtomR s x p q ∧ (p < q ∨ made < x.mn)
abbrev NextQ (s : ByteArray) (x : Part) (made p : Nat) := { q : Nat // NextR s x made p q }

/-- All that may come, the greatest first. -/
def AllOf (R : Nat → Prop) (l : List Nat) : Prop := l.Pairwise (· > ·) ∧ ∀ q, q ∈ l ↔ R q
/-- A first part of them. -/
def SomeOf (R : Nat → Prop) (l : List Nat) : Prop := l.Pairwise (· > ·) ∧ ∀ q, R q → q ∈ l ∨ ∀ x, x ∈ l → q < x

theorem down_sorted (F : Nat → Bool) : ∀ n, (down F n).Pairwise (· > ·)
  | 0 => List.Pairwise.nil
  | n + 1 => by
    rw [down]
    split
    · exact List.Pairwise.cons (fun q hq => ((mem_down F n q).1 hq).1) (down_sorted F n)
    · exact down_sorted F n

/-- A loop's own blocks are no cells. -/
def IsRec (o : Obj) : Prop := (∃ r, o = .loop r) ∨ ∃ d, o = .deferred d

theorem cells_turn {W : World} {k : Nat} {o o' : Obj} (h : W.heap[k]? = some o) (ho : IsRec o) : ∀ (i : Nat) (c : Array Value) (t : TypeId), W.heap[i]? = some (Obj.cells c t) → (W.putObj k o').heap[i]? = some (Obj.cells c t) := fun i c t e => by
  refine (World.putObj_heap_other ?_).trans e
  rintro rfl
  rw [h] at e
  rcases ho with ⟨r, rfl⟩ | ⟨d, rfl⟩ <;> cases e

theorem holdsP_lt {ws : List Nat} {G : Nat → Bool} (h : HoldsP ws G) {q : Nat} (hq : G q = true) : q < 64 * ws.length := by
  by_cases hl : q / 64 < ws.length
  · omega
  · have := h.2 q
    rw [hq, List.getD_eq_getElem?_getD, List.getElem?_eq_none (by omega)] at this
    simp at this

theorem allOf_down {R : Nat → Prop} {G : Nat → Bool} {n : Nat} {l : List Nat} (hl : l = down G n) (h1 : ∀ q, q ∈ l → R q) (h2 : ∀ q, R q → G q = true ∧ q < n) : AllOf R l := by
  subst hl
  exact ⟨down_sorted G n, fun q => ⟨h1 q, fun h => (mem_down G n q).2 ⟨(h2 q h).2, (h2 q h).1⟩⟩⟩

theorem allOf_cut {R : Nat → Prop} {G : Nat → Bool} {n p : Nat} {l : List Nat} (hl : l ++ [p] <+: down G n) (h1 : ∀ q, q ∈ l → R q) (h2 : ∀ q, R q → G q = true ∧ q < n ∧ p < q) : AllOf R l := by
  obtain ⟨rest, hr⟩ := hl
  have hs := down_sorted G n
  rw [← hr] at hs
  rw [List.append_assoc] at hs
  obtain ⟨s1, s2, s3⟩ := List.pairwise_append.1 hs
  refine ⟨s1, fun q => ⟨h1 q, fun h => ?_⟩⟩
  have hm := (mem_down G n q).2 ⟨(h2 q h).2.1, (h2 q h).1⟩
  rw [← hr] at hm
  simp only [List.mem_append, List.mem_singleton] at hm
  have hpq := (h2 q h).2.2
  rcases hm with (hm | hm) | hm
  · exact hm
  · omega
  · have := (List.pairwise_cons.1 s2).1 q hm
    omega

theorem someOf_cut {R : Nat → Prop} {G : Nat → Bool} {n : Nat} {l : List Nat} (hl : l <+: down G n) (h2 : ∀ q, R q → G q = true ∧ q < n) : SomeOf R l := by
  obtain ⟨rest, hr⟩ := hl
  have hs := down_sorted G n
  rw [← hr] at hs
  obtain ⟨s1, s2, s3⟩ := List.pairwise_append.1 hs
  refine ⟨s1, fun q h => ?_⟩
  have hm := (mem_down G n q).2 ⟨(h2 q h).2, (h2 q h).1⟩
  rw [← hr] at hm
  rcases List.mem_append.1 hm with hm | hm
  · exact .inl hm
  · exact .inr fun x hx => s3 x hx q hm

/-- What a round may turn, and what it keeps. -/
structure KeepO (B0 : Nat) (Own : World → Nat → Prop) (W W' : World) : Prop where
  size : W.heap.size ≤ W'.heap.size
  same : ∀ k, k < W.heap.size → k ≠ B0 + 1 → ¬ Own W k → W'.heap[k]? = W.heap[k]?
  own : ∀ k, k < W.heap.size → Own W' k → Own W k

/-- An invariant of a loop over the next copy's ends, as the walk must know it. -/
structure AbidesN {α : Type} (C : MC) (g j : Nat) (made p : Int) (B n0 : Nat) (Own : World → Nat → Prop) (I : List α → World → Prop) : Prop where
  boxes : ∀ s W, I s W → Boxes C g j made p B W
  ms : ∀ s W, I s W → ∃ D, MS C W D ∧ ∀ k, Own W k → (k = C.mm ∨ ∃ c t, W.heap[k]? = some (.cells c t)) ∧ ¬ MRow D k
  step : ∀ s W D W' D', I s W → MS C W D → MS C W' D' → Step C W D W' D' → I s W'
  turn : ∀ s W k o o', I s W → n0 ≤ k → W.heap[k]? = some o → IsRec o → I s (W.putObj k o')
  own : ∀ s (W W' : World), I s W → (∀ (k : Nat) (c : Array Value) (t : TypeId), W.heap[k]? = some (Obj.cells c t) → W'.heap[k]? = some (Obj.cells c t)) → ∀ k, Own W' k → Own W k

set_option maxRecDepth 100000 in
set_option maxHeartbeats 1000000 in
theorem nextCopy1_any (C : MC) (ok : C.Ok) (x : Part) (xs : List Part) (j : Nat) (P : PP) (hP : AtP C.all j P x xs) (ih : ListC C x.kids) (hk : x.g ≠ 0 → ∀ j P, AtP C.all j P x xs → AtW C P.inner x.kids) (hw : WF 9 x) (hm : MM x)
    (g cap : Nat) (hpv : C.pv = .slice (some ⟨g, 0, none⟩) C.all.length cap) (made p : Nat) (hp : p ≤ C.s.size) (hmd : x.mx < 0 ∨ (made : Int) ≤ x.mx) (hmd2 : made ≤ 1048576)
    (B B0 : Nat) (r : LoopState → Option Code → Loop) (Own : World → Nat → Prop) (I : List (NextQ C.s x made p) → World → Prop) (Ix : Code → List (NextQ C.s x made p) → World → Prop) (m N : Nat) (hN : 64 * C.L ≤ N)
    (hI : AbidesN C g j made p B (B0 + 2) Own I) (hIx : ∀ c s W k o o', Ix c s W → B0 + 2 ≤ k → W.heap[k]? = some o → IsRec o → Ix c s (W.putObj k o'))
    (hR : Rounds m Try.prog B0 r (fun q : NextQ C.s x made p => #[Value.int .i64 (q.1 : Nat)]) (KeepO B0 Own) I Ix N)
    (W : World) (hB0 : B0 + 2 ≤ W.heap.size) (h0 : I [] W) (hW : Waits B0 r W) :
    Calls Try.prog 83 #[.func (.yield (B0 + 1)) #[] #[], .pointer (some ⟨B + 1, 0, none⟩), .pointer (some ⟨B + 1 + 1 + 1, 0, none⟩), .pointer (some ⟨B, 0, none⟩), .pointer (some ⟨B + 1 + 1, 0, none⟩)] W fun e W' =>
      (∃ v, e = .returned v) ∧ ((∃ l, AllOf (NextR C.s x made p) (l.map (·.1)) ∧ I l W' ∧ Waits B0 r W') ∨ ∃ l c, SomeOf (NextR C.s x made p) (l.map (·.1)) ∧ Ix c l W' ∧ Left B0 r c W') := by
  obtain ⟨D, hD, hO⟩ := hI.ms _ _ h0
  have hb1 := (Below.refl W.heap.size W).alloc (Nat.le_refl _) (.cells #[.func (.yield (B0 + 1)) #[] #[]] 121)
  have h1 := hI.step _ _ D _ D h0 hD (hD.below hb1) (Step.below hb1)
  have hD1 := hD.below hb1
  have hY := Blk.new W #[.func (.yield (B0 + 1)) #[] #[]] 121
  have hW1 : Waits B0 r (W.alloc (.cells #[.func (.yield (B0 + 1)) #[] #[]] 121)) := ⟨(hb1.block _ (by omega)).trans hW.1, (hb1.block _ (by omega)).trans hW.2⟩
  have hs1 : (W.alloc (.cells #[.func (.yield (B0 + 1)) #[] #[]] 121)).heap.size = W.heap.size + 1 := by simp
  have HO : Hid (∀ k, Own (W.alloc (.cells #[.func (.yield (B0 + 1)) #[] #[]] 121)) k → Own W k) := hI.own _ _ _ h0 (fun k c t e => (hb1.block k (Array.getElem?_eq_some_iff.1 e).1).trans e)
  generalize hW1e : W.alloc (.cells #[.func (.yield (B0 + 1)) #[] #[]] 121) = W1 at *
  have bx := hI.boxes _ _ h1
  have c1 : W1.cell? ⟨B + 1, 0, none⟩ = some (.int .i64 (made : Nat)) := bx.made.cell 0 rfl
  have c2 : W1.cell? ⟨B + 1 + 1, 0, none⟩ = some (.int .i64 (p : Nat)) := bx.place.cell 0 rfl
  have c3 : W1.cell? ⟨B + 1 + 1 + 1, 0, none⟩ = some (.pointer (some ⟨g, j * 9, none⟩)) := bx.part.cell 0 rfl
  have c4 : W1.cell? ⟨B, 0, none⟩ = some (.pointer (some ⟨C.mb, 0, none⟩)) := bx.m.cell 0 rfl
  have hfl := hD1.flat
  rw [hpv] at hfl
  obtain ⟨-, -, -, -, -, -, -, p7, p8⟩ := part_cells hfl hP.get
  rw [hP.least] at p7
  rw [hP.most] at p8
  refine (callsIn_wide (n := 9)).1 ?_
  refine callsIn_of_wp_marks Try.func83 rfl trivial ?_ rfl
  simp only [Try.ntmps83, List.size_toArray, List.length_cons, List.length_nil, Nat.reduceAdd, Nat.reduceSub, Array.replicate_succ, Array.replicate_zero, List.push_toArray, List.append_toArray, List.nil_append, List.cons_append]
  have HH := hide (And.intro hI (And.intro hIx (And.intro hR (And.intro h1 (And.intro hW1 (And.intro hD1 (And.intro hD (And.intro hO hs1))))))))
  clear hI hIx hR h0 hW hD hO bx hfl h1 hD1 hW1 hb1 hs1
  by_cases hmost : (made : Int) = mxV x.mx
  · have hd : ((made : Int) == mxV x.mx) = true := by simp [hmost]
    gi_wp2
    gi_region
    gi_wp2
    obtain ⟨hI, hIx, hR, h1, hW1, hD1, hD, hO, hs1⟩ := HH.out
    refine ⟨.tuple #[], results_none rfl _ _ _, ⟨_, rfl⟩, .inl ⟨[], ⟨List.Pairwise.nil, fun q => ⟨fun h => (by cases h), fun h => ?_⟩⟩, ?_, hW1⟩⟩
    · exfalso
      obtain ⟨h, -, -⟩ := h
      obtain ⟨g', kids, neg, ps, mn, mx⟩ := x
      simp only [WF] at hw
      simp only [MM] at hm
      simp only [Part.mn, Part.mx] at *
      unfold mxV at hmost
      split at hmost <;> omega
    · exact hI.step _ _ D _ D h1 hD1 hD1.drew (Step.below (Below.refl _ _).drew)
  · have hd : ((made : Int) == mxV x.mx) = false := by simp [hmost]
    have hgo : made < x.mn ∨ x.mx < 0 ∨ made < x.mx := by
      unfold mxV at hmost
      split at hmost <;> omega
    gi_wp2
    gi_region
    gi_wp2
    refine ⟨trivial, (callsIn_wide.2 (atomEnds_any C ok x xs ih hk j P hP g cap hpv p hp _ D HH.out.2.2.2.2.2.1.drew)).mono ?_⟩
    rintro e W2 ⟨v, G, D2, rfl, hv, hG, hD2, hst, hrow⟩
    gi_wp2
    refine ⟨trivial, (callsIn_wide.2 (lastFirst_any v W2)).mono ?_⟩
    rintro e W3 ⟨rfl, hW3⟩
    gi_wp2
    obtain ⟨hI, hIx, hR, h1, hW1, hD1, hD, hO, hs1⟩ := HH.out
    obtain ⟨ws, hvw, hvh, hvl⟩ := hv
    obtain ⟨pa, cap1, gs, rfl, hpa, hgs, hgd, hgc⟩ := hvw.rowD W2.heap.size
    have hb3 : Below W2.heap.size W2 W3 := by rw [hW3]; exact (Below.refl _ _).alloc (Nat.le_refl _) _
    have hs3 : W3.heap.size = W2.heap.size + 1 := by rw [hW3]; simp
    have hs2 : W1.heap.size ≤ W2.heap.size := hst.kp.size
    have hB3 : Blk W3 W2.heap.size #[.slice pa ws.length cap1] 81 := by rw [hW3]; exact Blk.new _ _ _
    rw [← hW3]
    have hgs3 : gs < W3.heap.size := by
      by_cases h0 : 0 < ws.length
      · have := (hgs h0).1; omega
      · have := hgd h0; omega
    have hLL : 64 * ws.length ≤ N := by omega
    -- from the walk's begin to any world behind it
    have hst3 : Step C W1 D W3 D2 := (Step.below (Below.refl _ _).drew).trans (hst.trans (Step.below hb3))
    have hD3 : MS C W3 D2 := hD2.below hb3
    have hown3 : ∀ W4, Below W3.heap.size W3 W4 → ∀ k, Own W4 k → Own W k := fun W4 hb k hk => HO.out k (hI.own _ _ _ h1 (fun i c t e => by
      have hl := (Array.getElem?_eq_some_iff.1 e).1
      have hne : i ≠ C.mm := hD1.notMap e
      have e3 := hst3.kp.block i hl hne
      rw [e] at e3
      have hl3 := (Array.getElem?_eq_some_iff.1 e3).1
      rw [hb.block i hl3]; exact e3) k hk)
    have hOl : ∀ k, Own W k → k < W.heap.size := fun k hk => by
      rcases (hO k hk).1 with rfl | ⟨c, t, e⟩
      · exact hD.mmLt
      · exact (Array.getElem?_eq_some_iff.1 e).1
    have hno : ¬ Own W gs := fun hk => by
      have hl := hOl gs hk
      by_cases h0 : 0 < ws.length
      · rcases hrow gs (hgs h0).2 with e | e
        · exact (hO gs hk).2 e
        · have : W1.drew.heap.size = W1.heap.size := rfl
          omega
      · have := hgd h0
        omega
    have hgB : gs ≠ B0 + 1 := by
      by_cases h0 : 0 < ws.length
      · intro e
        obtain ⟨c, t, hc⟩ := PSet.cells (L := ws.length) ⟨ws, hvw, hvh, Nat.le_refl _⟩ gs (hgs h0).2
        obtain ⟨es, cl, hmap⟩ := hD1.mapAt
        have hne : B0 + 1 ≠ C.mm := by intro e; have := hW1.2; rw [e, hmap] at this; cases this
        have := hst.kp.block (B0 + 1) (show B0 + 1 < W1.heap.size by omega) hne
        rw [← e, hc, e] at this
        have h2 : W1.drew.heap[B0 + 1]? = _ := hW1.2
        rw [h2] at this
        cases this
      · have := hgd h0; omega
    refine range_set (by omega) (Bs := W2.heap.size) (gs := gs) (cap := cap1) (pa := pa) (ws := ws) (G := G) rfl rfl hvh (by have := ok.small; unfold MC.L at hvl; omega) hpa hgs3 (by omega) (hB3.cell 0 rfl) (fun i hi => (hb3.cell (p := ⟨gs, i, none⟩) (hgs (by omega)).1).trans (hgc i hi))
      (fun pre' U => ∃ pre : List (NextQ C.s x made p), pre.map (·.1) = pre'.map (·.1) ∧ I pre U ∧ Waits B0 r U ∧ Blk U W.heap.size #[.func (.yield (B0 + 1)) #[] #[]] 121 ∧ (¬ Own U W.heap.size ∧ ¬ Own U W2.heap.size ∧ ¬ Own U gs) ∧ W3.heap.size + 2 ≤ U.heap.size)
      (fun c pre' U => c = .ret ∧ W3.heap.size + 2 ≤ U.heap.size ∧ ((∃ pre : List (NextQ C.s x made p), pre.map (·.1) ++ [p] = pre'.map (·.1) ∧ x.mn ≤ made ∧ I pre U ∧ Waits B0 r U) ∨ ∃ (pre : List (NextQ C.s x made p)) (c0 : Code), pre.map (·.1) = pre'.map (·.1) ∧ Ix c0 pre U ∧ Left B0 r c0 U))
      ?hI2 ?hIx2 ?h02 (fun q => { tmps := #[.func (.yield (B0 + 1)) #[] #[], .pointer (some ⟨B + 1, 0, none⟩), .pointer (some ⟨B + 1 + 1 + 1, 0, none⟩), .pointer (some ⟨B, 0, none⟩), .pointer (some ⟨B + 1 + 1, 0, none⟩), .pointer (some ⟨W.heap.size, 0, none⟩), .int .i64 (q.1 : Nat), .int .i64 (made : Nat), .pointer (some ⟨g, j * 9, none⟩), .pointer (some ⟨g, j * 9, none⟩), .pointer (some ⟨g, j * 9 + 8, none⟩), .int .i64 (mxV x.mx), .bool false, .pointer (some ⟨C.mb, 0, none⟩), .pointer (some ⟨g, j * 9, none⟩), .int .i64 (p : Nat), .agg #[.slice pa ws.length cap1], .func (.func 66) #[] #[.pointer (some ⟨W2.heap.size, 0, none⟩)], .int .i64 (q.1 : Nat), undef, undef, undef, undef, undef, undef, undef, undef, undef, undef, undef, undef, undef, undef, undef], defers := [] }) ?assign ?body ?done ?stop
    case hI2 =>
      rintro s U r1 r2 hl ⟨pre, e, h1, h2, h3, ⟨o1, o2, o3⟩, h5⟩
      have hc := cells_turn (o' := .loop r2) hl (.inl ⟨_, rfl⟩)
      exact ⟨pre, e, hI.turn _ _ _ _ _ h1 (by omega) hl (.inl ⟨_, rfl⟩), ⟨(World.putObj_heap_other (by omega)).trans h2.1, (World.putObj_heap_other (by omega)).trans h2.2⟩, hc _ _ _ h3, ⟨fun h => o1 (hI.own _ _ _ h1 hc _ h), fun h => o2 (hI.own _ _ _ h1 hc _ h), fun h => o3 (hI.own _ _ _ h1 hc _ h)⟩, by simp; omega⟩
    case hIx2 =>
      rintro c s U r1 r2 hl ⟨rfl, h5, ⟨pre, e, hmn, h1, h2⟩ | ⟨pre, c0, e, h1, h2⟩⟩
      · exact ⟨rfl, by simp; omega, .inl ⟨pre, e, hmn, hI.turn _ _ _ _ _ h1 (by omega) hl (.inl ⟨_, rfl⟩), (World.putObj_heap_other (by omega)).trans h2.1, (World.putObj_heap_other (by omega)).trans h2.2⟩⟩
      · exact ⟨rfl, by simp; omega, .inr ⟨pre, c0, e, hIx _ _ _ _ _ _ h1 (by omega) hl (.inl ⟨_, rfl⟩), (World.putObj_heap_other (by omega)).trans h2.1, (World.putObj_heap_other (by omega)).trans h2.2⟩⟩
    case h02 =>
      intro r2
      have hb4 : Below W3.heap.size W3 ((W3.alloc (.deferred (some []))).alloc (.loop r2)) := ((Below.refl _ _).alloc (Nat.le_refl _) _).alloc (by simp) _
      have kept : ∀ k, k < W1.heap.size → k ≠ C.mm → ((W3.alloc (.deferred (some []))).alloc (.loop r2)).heap[k]? = W1.heap[k]? := fun k hk hne => (hb4.block k (by omega)).trans (hst3.kp.block k hk hne)
      obtain ⟨es, cl, hmap⟩ := hD1.mapAt
      refine ⟨[], rfl, hI.step _ _ D _ D2 h1 hD1 (hD3.below hb4) (hst3.trans (Step.below hb4)), ⟨(kept _ (by omega) ?_).trans hW1.1, (kept _ (by omega) ?_).trans hW1.2⟩, (kept _ (by omega) (hD1.notMap hY)).trans hY, ⟨fun h => ?_, fun h => ?_, fun h => hno (hown3 _ hb4 _ h)⟩, by simp⟩
      · intro e; have := hW1.1; rw [e, hmap] at this; cases this
      · intro e; have := hW1.2; rw [e, hmap] at this; cases this
      · have := hOl _ (hown3 _ hb4 _ h); omega
      · have := hOl _ (hown3 _ hb4 _ h); omega
    case assign =>
      intro l q U K hK
      gi_wp2
      exact hK
    case body =>
      rintro pre' q U ⟨pre, e, hi, hwt, hyb, ⟨o1, o2, o3⟩, hsz⟩ ⟨rl, hrl⟩ hdf hlen
      obtain ⟨D', hMS, hO'⟩ := hI.ms _ _ hi
      have bx := hI.boxes _ _ hi
      have u1 : U.cell? ⟨B + 1, 0, none⟩ = some (.int .i64 (made : Nat)) := bx.made.cell 0 rfl
      have u2 : U.cell? ⟨B + 1 + 1, 0, none⟩ = some (.int .i64 (p : Nat)) := bx.place.cell 0 rfl
      have u3 : U.cell? ⟨B + 1 + 1 + 1, 0, none⟩ = some (.pointer (some ⟨g, j * 9, none⟩)) := bx.part.cell 0 rfl
      have u5 : U.cell? ⟨W.heap.size, 0, none⟩ = some (.func (.yield (B0 + 1)) #[] #[]) := hyb.cell 0 rfl
      have hfl := hMS.flat
      rw [hpv] at hfl
      obtain ⟨-, -, -, -, -, -, -, q7, -⟩ := part_cells hfl hP.get
      rw [hP.least] at q7
      have hid : I pre U.drew := hI.step _ _ D' _ D' hi hMS hMS.drew (Step.below (Below.refl _ _).drew)
      obtain ⟨q, hqG⟩ := q
      have hAt : AtomR C.s x p q := (hG q).1 hqG
      have hpq := (AtomR.bound C.s x p q hp hAt)
      have hqs : q ≤ 60000 := by have := ok.small; omega
      have hwd : Waits B0 r U.drew := hwt
      have hnr : ∀ k o, U.heap[k]? = some o → IsRec o → ¬ Own U.drew k := fun k o hk ho hw => by
        have hw2 := hI.own _ U U.drew hi (fun _ _ _ e => e) _ hw
        rcases (hO' k hw2).1 with rfl | ⟨c, t, e2⟩
        · obtain ⟨es, cl, hm2⟩ := hMS.mapAt
          rw [hm2] at hk; cases hk
          rcases ho with ⟨_, h⟩ | ⟨_, h⟩ <;> cases h
        · rw [e2] at hk; cases hk
          rcases ho with ⟨_, h⟩ | ⟨_, h⟩ <;> cases h
      have o1d : ¬ Own U.drew W.heap.size := fun h => o1 (hI.own _ U U.drew hi (fun _ _ _ e => e) _ h)
      have o2d : ¬ Own U.drew W2.heap.size := fun h => o2 (hI.own _ U U.drew hi (fun _ _ _ e => e) _ h)
      have o3d : ¬ Own U.drew gs := fun h => o3 (hI.own _ U U.drew hi (fun _ _ _ e => e) _ h)
      have HG := hide (And.intro hnr (And.intro o1d (And.intro o2d (And.intro o3d (And.intro hid (And.intro hwd (And.intro hyb (And.intro hrl hdf))))))))
      have hU : U.drew.heap.size = U.heap.size := rfl
      have hlen' : pre.length < N := by
        have := congrArg List.length e
        simp at this
        omega
      by_cases hq : q = p ∧ x.mn ≤ made
      · obtain ⟨rfl, hmn⟩ := hq
        have d2 : decide (x.mn ≤ (made : Int)) = true := by simp [hmn]
        clear hnr o1d o2d o3d o1 o2 o3 hid hwd hyb hrl hdf
        gi_wp2
        refine way_cut (by gi_region; all_goals exact ⟨rfl, rfl, rfl⟩) ?_
        gi_wp2
        refine ⟨⟨rfl, rfl⟩, ⟨rfl, rfl⟩, rfl, by rw [hU]; omega, .inl ⟨pre, ?_, hmn, HG.out.2.2.2.2.1, HG.out.2.2.2.2.2.1⟩⟩
        rw [List.map_append, ← e]
        rfl
      · have hnx : NextR C.s x made p q := ⟨hgo, hAt, by omega⟩
        obtain ⟨fn, tmps, assign, body, hy, hRd⟩ := yield_wide (m' := 6) (hR pre ⟨q, hnx⟩ U.drew hid hwd hlen')
        dsimp only at hy
        have keep : ∀ (V : World), KeepO B0 Own U.drew V → (V.heap[W3.heap.size]? = U.heap[W3.heap.size]? ∧ V.heap[W3.heap.size + 1]? = U.heap[W3.heap.size + 1]?) ∧ Keep2 gs W2.heap.size U V ∧ Blk V W.heap.size #[.func (.yield (B0 + 1)) #[] #[]] 121 ∧ (¬ Own V W.heap.size ∧ ¬ Own V W2.heap.size ∧ ¬ Own V gs) ∧ W3.heap.size + 2 ≤ V.heap.size := fun V hk => by
          have hl0 := hk.size
          rw [hU] at hl0
          refine ⟨⟨hk.same _ (by rw [hU]; omega) (by omega) (hnr _ _ hdf (.inr ⟨_, rfl⟩)), hk.same _ (by rw [hU]; omega) (by omega) (hnr _ _ hrl (.inl ⟨_, rfl⟩))⟩, ⟨hk.same _ (by rw [hU]; omega) ?_ o3d, hk.same _ (by rw [hU]; omega) (by omega) o2d⟩, (hk.same _ (by rw [hU]; omega) (by omega) o1d).trans hyb, ⟨fun h => o1d (hk.own _ (by rw [hU]; omega) h), fun h => o2d (hk.own _ (by rw [hU]; omega) h), fun h => o3d (hk.own _ (by rw [hU]; omega) h)⟩, by omega⟩
          exact hgB
        have body_goes : ∀ (V : World), KeepO B0 Own U.drew V → I (pre ++ [⟨q, hnx⟩]) V → Waits B0 r V → (V.heap[W3.heap.size]? = U.heap[W3.heap.size]? ∧ V.heap[W3.heap.size + 1]? = U.heap[W3.heap.size + 1]?) ∧ Keep2 gs W2.heap.size U V ∧ ∃ pre2 : List (NextQ C.s x made p), pre2.map (·.1) = (pre' ++ [(⟨q, hqG⟩ : InSet G)]).map (·.1) ∧ I pre2 V ∧ Waits B0 r V ∧ Blk V W.heap.size #[.func (.yield (B0 + 1)) #[] #[]] 121 ∧ (¬ Own V W.heap.size ∧ ¬ Own V W2.heap.size ∧ ¬ Own V gs) ∧ W3.heap.size + 2 ≤ V.heap.size := fun V hk hi2 hw2 => by
          obtain ⟨k1, k2, k3, k4, k5⟩ := keep V hk
          exact ⟨k1, k2, pre ++ [⟨q, hnx⟩], by rw [List.map_append, List.map_append, e]; rfl, hi2, hw2, k3, k4, k5⟩
        have body_ends : ∀ (V : World) (c0 : Code), KeepO B0 Own U.drew V → Ix c0 (pre ++ [⟨q, hnx⟩]) V → Left B0 r c0 V → (V.heap[W3.heap.size]? = U.heap[W3.heap.size]? ∧ V.heap[W3.heap.size + 1]? = U.heap[W3.heap.size + 1]?) ∧ Keep2 gs W2.heap.size U V ∧ W3.heap.size + 2 ≤ V.heap.size ∧ ((∃ pre2 : List (NextQ C.s x made p), pre2.map (·.1) ++ [p] = (pre' ++ [(⟨q, hqG⟩ : InSet G)]).map (·.1) ∧ x.mn ≤ made ∧ I pre2 V ∧ Waits B0 r V) ∨ ∃ (pre2 : List (NextQ C.s x made p)) (c0 : Code), pre2.map (·.1) = (pre' ++ [(⟨q, hqG⟩ : InSet G)]).map (·.1) ∧ Ix c0 pre2 V ∧ Left B0 r c0 V) := fun V c0 hk hx2 hl2 => by
          obtain ⟨k1, k2, k3, k4, k5⟩ := keep V hk
          exact ⟨k1, k2, k5, .inr ⟨pre ++ [⟨q, hnx⟩], c0, by rw [List.map_append, List.map_append, e]; rfl, hx2, hl2⟩⟩
        clear keep
        clear hnr o1d o2d o3d o1 o2 o3 hid hwd hyb hrl hdf
        by_cases hqp : q = p
        · subst hqp
          have d2 : decide (x.mn ≤ (made : Int)) = false := by simp; omega
          gi_wp2
          refine way_cut (by gi_region; all_goals exact ⟨rfl, rfl, rfl⟩) ?_
          gi_wp2
          refine hRd.mono ?_
          rintro e2 V (⟨rfl, ⟨hi2, hw2⟩, hk2⟩ | ⟨rfl, c0, hx2, hl2, hk2⟩)
          · gi_wp2
            exact body_goes V hk2 hi2 hw2
          · gi_wp2
            obtain ⟨k1, k2, k5, k6⟩ := body_ends V c0 hk2 hx2 hl2
            exact ⟨k1, k2, rfl, k5, k6⟩
        · have d1 : ((q : Int) == (p : Int)) = false := by simp; omega
          gi_wp2
          refine way_cut (by gi_region; all_goals exact ⟨rfl, rfl, rfl⟩) ?_
          gi_wp2
          refine hRd.mono ?_
          rintro e2 V (⟨rfl, ⟨hi2, hw2⟩, hk2⟩ | ⟨rfl, c0, hx2, hl2, hk2⟩)
          · gi_wp2
            exact body_goes V hk2 hi2 hw2
          · gi_wp2
            obtain ⟨k1, k2, k5, k6⟩ := body_ends V c0 hk2 hx2 hl2
            exact ⟨k1, k2, rfl, k5, k6⟩
    case done =>
      rintro zs U hz ⟨pre, e, hi, hwt, hyb, ho, hsz⟩ hdf
      gi_wp2
      refine ⟨by simp, .inl ⟨_, _, rfl, run_takeDeferred hdf, ?_⟩⟩
      refine ⟨.tuple #[], results_none rfl _ _ _, ⟨_, rfl⟩, .inl ⟨pre, allOf_down (e.trans hz) (fun q hq => ?_) (fun q h => ?_), hI.turn _ _ _ _ _ hi (by omega) hdf (.inr ⟨_, rfl⟩), (World.putObj_heap_other (by omega)).trans hwt.1, (World.putObj_heap_other (by omega)).trans hwt.2⟩⟩
      · obtain ⟨y, _, rfl⟩ := List.mem_map.1 hq
        exact y.2
      · have := (hG q).2 h.2.1
        exact ⟨this, holdsP_lt hvh this⟩
    case stop =>
      rintro c zs U hz ⟨rfl, hsz, ⟨pre, e, hmn, hi, hwt⟩ | ⟨pre, c0, e, hx, hl⟩⟩ hdf
      · gi_wp2
        refine ⟨by simp, .inl ⟨_, _, rfl, run_takeDeferred hdf, ?_⟩⟩
        refine ⟨.tuple #[], results_none rfl _ _ _, ⟨_, rfl⟩, .inl ⟨pre, allOf_cut (p := p) (G := G) (n := 64 * ws.length) (by rw [e]; exact hz) (fun q hq => ?_) (fun q h => ?_), hI.turn _ _ _ _ _ hi (by omega) hdf (.inr ⟨_, rfl⟩), (World.putObj_heap_other (by omega)).trans hwt.1, (World.putObj_heap_other (by omega)).trans hwt.2⟩⟩
        · obtain ⟨y, _, rfl⟩ := List.mem_map.1 hq
          exact y.2
        · have := (hG q).2 h.2.1
          exact ⟨this, holdsP_lt hvh this, by have := h.2.2; omega⟩
      · gi_wp2
        refine ⟨by simp, .inl ⟨_, _, rfl, run_takeDeferred hdf, ?_⟩⟩
        refine ⟨.tuple #[], results_none rfl _ _ _, ⟨_, rfl⟩, .inr ⟨pre, c0, someOf_cut (G := G) (n := 64 * ws.length) (by rw [e]; exact hz) (fun q h => ?_), hIx _ _ _ _ _ _ hx (by omega) hdf (.inr ⟨_, rfl⟩), (World.putObj_heap_other (by omega)).trans hl.1, (World.putObj_heap_other (by omega)).trans hl.2⟩⟩
        have := (hG q).2 h.2.1
        exact ⟨this, holdsP_lt hvh this⟩
end Go.Proofs.Ytjlgccfibkcgbaa
