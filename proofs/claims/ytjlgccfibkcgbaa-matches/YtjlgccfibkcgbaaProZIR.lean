import Derived.Test.YtjlgccfibkcgbaaProZHB
namespace Go.Proofs.Ytjlgccfibkcgbaa
open Go.RowKit Go.Shelf
attribute [local go_sem] Oper.semAt_some

/-- Where the copies of a part may end, by what was found. -/
def CopyC (C : MC) (x : Part) (xs : List Part) (made p : Nat) : Prop := ∀ (i : Int) (w : World) (D : DataW Value), AtW C i (x :: xs) → MS C w D →
  Calls Try.prog 46 #[.pointer (some ⟨C.mb, 0, none⟩), .int .i64 i, .int .i64 (made : Nat), .int .i64 (p : Nat)] w (EndsPost C w D (Copies (AtomR C.s x) x.mn x.mx made p))

theorem copies_far {A : Nat → Nat → Prop} {mn mx : Int} (hx : mx < 0) {n p q : Nat} (h : Copies A mn mx n p q) : mn ≤ n → ∀ n' : Nat, mn ≤ n' → Copies A mn mx n' p q := by
  induction h with
  | stop h1 => exact fun _ n' h => .stop h
  | more h1 h2 h3 _ ih => exact fun hn n' hn' => .more (.inr (.inl hx)) h2 (by omega) (ih (by omega) (n' + 1) (by omega))

theorem counted_same {A : Nat → Nat → Prop} {mn mx : Int} {made : Nat} (h0 : 0 ≤ mn) (h9 : mx ≤ 9) (p q : Nat) : Copies A mn mx (countedV mn (mxV mx) made).toNat p q ↔ Copies A mn mx made p q := by
  unfold countedV mxV
  by_cases hx : mx < 0
  · rw [if_pos hx, if_pos rfl]
    by_cases hm : (made : Int) ≤ mn
    · rw [Int.min_eq_left hm, Int.toNat_natCast]
    · rw [Int.min_eq_right (by omega)]
      exact ⟨fun h => copies_far hx h (by omega) made (by omega), fun h => copies_far hx h (by omega) mn.toNat (by omega)⟩
  · rw [if_neg hx, if_neg (by omega), Int.toNat_natCast]
theorem counted_in {mn mx : Int} {made : Nat} (h0 : 0 ≤ mn) (h1 : mn ≤ 9) (h9 : mx ≤ 9) (hm : mx < 0 ∨ (made : Int) ≤ mx) : 0 ≤ countedV mn (mxV mx) made ∧ countedV mn (mxV mx) made ≤ 9 := by
  unfold countedV mxV
  by_cases hx : mx < 0
  · rw [if_pos hx, if_pos rfl]
    omega
  · rw [if_neg hx, if_neg (by omega)]
    omega

theorem copies_step {s : ByteArray} {x : Part} {made p q : Nat} : Copies (AtomR s x) x.mn x.mx made p q ↔ (x.mn ≤ made ∧ q = p) ∨ ∃ r, NextR s x made p r ∧ Copies (AtomR s x) x.mn x.mx (made + 1) r q := by
  constructor
  · intro h
    cases h with
    | stop h1 => exact .inl ⟨h1, rfl⟩
    | more h1 h2 h3 h4 => exact .inr ⟨_, ⟨h1, h2, h3⟩, h4⟩
  · rintro (⟨h1, rfl⟩ | ⟨r, ⟨h1, h2, h3⟩, h4⟩)
    · exact .stop h1
    · exact .more h1 h2 h3 h4

theorem zero81 (w : World) : (zeroValue 81).run Try.prog w = .ok (.agg #[.slice none 0 0]) w := by
  simp [go_sem]

theorem look_no {C : MC} {w : World} {D : DataW Value} (ok : C.Ok) (h : MS C w D) {i c : Int} {p : Nat} (hu : InU C i c p) (hh : Maps.has D (key3L i c p) = false) :
    (Instr.lookup 61 (.map (some C.mm)) (.agg #[.int .i64 i, .int .i64 c, .int .i64 (p : Nat)]) true).run Try.prog w = .ok (.tuple #[.agg #[.slice none 0 0], .bool false]) w := by
  obtain ⟨n, hown, _⟩ := h.own
  obtain ⟨v, ps, hrun, hv⟩ := hown.look_ok keyed100 Try.underlying61 (zero81 w) (zd := .held (.agg #[.slice none 0 0])) (zp := []) rfl (key3_ok i c p (hu.wf ok).1 (hu.wf ok).2.1 (hu.wf ok).2.2)
  rw [Maps.atKey_of_not_has hh] at hv
  simp only [asIs, Option.some.injEq, Prod.mk.injEq, DataW.held.injEq] at hv
  rw [hh, hv.1] at hrun
  exact hrun

theorem look_yes {C : MC} {w : World} {D : DataW Value} (ok : C.Ok) (h : MS C w D) {i c : Int} {p : Nat} (hu : InU C i c p) (hh : Maps.has D (key3L i c p) = true) {v : Value} (hv : ∀ z, D.atKey (key3L i c p) z = .held (.agg #[v])) :
    (Instr.lookup 61 (.map (some C.mm)) (.agg #[.int .i64 i, .int .i64 c, .int .i64 (p : Nat)]) true).run Try.prog w = .ok (.tuple #[.agg #[v], .bool true]) w := by
  obtain ⟨n, hown, _⟩ := h.own
  obtain ⟨v', ps, hrun, hv'⟩ := hown.look_ok keyed100 Try.underlying61 (zero81 w) (zd := .held (.agg #[.slice none 0 0])) (zp := []) rfl (key3_ok i c p (hu.wf ok).1 (hu.wf ok).2.1 (hu.wf ok).2.2)
  rw [hv] at hv'
  simp only [asIs, Option.some.injEq, Prod.mk.injEq, DataW.held.injEq] at hv'
  rw [hh, hv'.1] at hrun
  exact hrun

set_option maxRecDepth 100000 in
set_option maxHeartbeats 1000000 in
theorem mcopyEnds_any (C : MC) (ok : C.Ok) (x : Part) (xs : List Part) (ih : ListC C x.kids) (made p : Nat) (hp : p ≤ C.s.size) (hmd : x.mx < 0 ∨ (made : Int) ≤ x.mx) (hmd2 : (made : Int) ≤ x.mn + p)
    (ihc : ∀ q, NextR C.s x made p q → CopyC C x xs (made + 1) q) : CopyC C x xs made p := by
  intro i w D hA h
  obtain ⟨j, P, rfl, hjl, hP, hAn, hAi⟩ := hA.cons
  obtain ⟨g, cap, hpv, hgl, hcap⟩ := h.parts hP.get
  have hfew := ok.few
  have hsm := ok.small
  have hb1 := ((((Below.refl w.heap.size w).alloc (Nat.le_refl _) (.cells #[.pointer (some ⟨C.mb, 0, none⟩)] 43)).alloc (by simp) (.cells #[.int .i64 (j : Nat)] 3)).alloc (by simp; omega) (.cells #[.int .i64 (made : Nat)] 3)).alloc (by simp; omega) (.cells #[.slice none 0 0] 81)
  have h1 := h.below hb1
  have k0 : Blk ((((w.alloc (.cells #[.pointer (some ⟨C.mb, 0, none⟩)] 43)).alloc (.cells #[.int .i64 (j : Nat)] 3)).alloc (.cells #[.int .i64 (made : Nat)] 3)).alloc (.cells #[.slice none 0 0] 81)) w.heap.size #[.pointer (some ⟨C.mb, 0, none⟩)] 43 := (((Blk.new w _ _).alloc _).alloc _).alloc _
  have k1 : Blk ((((w.alloc (.cells #[.pointer (some ⟨C.mb, 0, none⟩)] 43)).alloc (.cells #[.int .i64 (j : Nat)] 3)).alloc (.cells #[.int .i64 (made : Nat)] 3)).alloc (.cells #[.slice none 0 0] 81)) (w.heap.size + 1) #[.int .i64 (j : Nat)] 3 := ((Blk.newAt (by simp)).alloc _).alloc _
  have k2 : Blk ((((w.alloc (.cells #[.pointer (some ⟨C.mb, 0, none⟩)] 43)).alloc (.cells #[.int .i64 (j : Nat)] 3)).alloc (.cells #[.int .i64 (made : Nat)] 3)).alloc (.cells #[.slice none 0 0] 81)) (w.heap.size + 1 + 1) #[.int .i64 (made : Nat)] 3 := (Blk.newAt (by simp)).alloc _
  have k3 : Blk ((((w.alloc (.cells #[.pointer (some ⟨C.mb, 0, none⟩)] 43)).alloc (.cells #[.int .i64 (j : Nat)] 3)).alloc (.cells #[.int .i64 (made : Nat)] 3)).alloc (.cells #[.slice none 0 0] 81)) (w.heap.size + 1 + 1 + 1) #[.slice none 0 0] 81 := Blk.newAt (by simp)
  have hs1 : ((((w.alloc (.cells #[.pointer (some ⟨C.mb, 0, none⟩)] 43)).alloc (.cells #[.int .i64 (j : Nat)] 3)).alloc (.cells #[.int .i64 (made : Nat)] 3)).alloc (.cells #[.slice none 0 0] 81)).heap.size = w.heap.size + 4 := by simp
  refine (callsIn_wide (n := 9)).1 ?_
  refine callsIn_of_wp_marks Try.func46 rfl trivial ?_ rfl
  simp only [Try.ntmps46, List.size_toArray, List.length_cons, List.length_nil, Nat.reduceAdd, Nat.reduceSub, Array.replicate_succ, Array.replicate_zero, List.push_toArray, List.append_toArray, List.nil_append, List.cons_append]
  gi_wp2
  generalize hW1e : (((w.alloc (.cells #[.pointer (some ⟨C.mb, 0, none⟩)] 43)).alloc (.cells #[.int .i64 (j : Nat)] 3)).alloc (.cells #[.int .i64 (made : Nat)] 3)).alloc (.cells #[.slice none 0 0] 81) = W1 at *
  clear hW1e
  have e0 : W1.cell? ⟨w.heap.size, 0, none⟩ = some (.pointer (some ⟨C.mb, 0, none⟩)) := k0.cell 0 rfl
  have e1 : W1.cell? ⟨w.heap.size + 1, 0, none⟩ = some (.int .i64 (j : Nat)) := k1.cell 0 rfl
  have e2 : W1.cell? ⟨w.heap.size + 1 + 1, 0, none⟩ = some (.int .i64 (made : Nat)) := k2.cell 0 rfl
  have e3 : W1.cell? ⟨C.mb, 0, none⟩ = some (.pointer (some ⟨C.xb, 0, none⟩)) := h1.m.cell 0 rfl
  have e4 : W1.cell? ⟨C.xb, 2, none⟩ = some (.slice (some ⟨g, 0, none⟩) C.all.length cap) := by rw [← hpv]; exact h1.x.cell 2 rfl
  have hfl := h1.flat
  rw [hpv] at hfl
  obtain ⟨-, -, -, -, -, -, p6, p7, p8⟩ := part_cells hfl hP.get
  rw [hP.least] at p7
  rw [hP.most] at p8
  have n0 := World.new_ne W1 _ e0
  have n1 := World.new_ne W1 _ e1
  have n2 := World.new_ne W1 _ e2
  have n3 := World.new_ne W1 _ e3
  have n4 := World.new_ne W1 _ e4
  have n7 := World.new_ne W1 _ p7
  have n8 := World.new_ne W1 _ p8
  have HH := hide (And.intro hA (And.intro h (And.intro hP (And.intro hAn (And.intro hAi (And.intro ih (And.intro ihc (And.intro h1 hb1))))))))
  clear hA h hP hAn hAi ih ihc h1 hb1 hfl
  apply way_cut
  case h =>
    refine wpIn_wide.2 ?_
    go_region_held3 (fun w' => w'.cell? ⟨w.heap.size, 0, none⟩ = some (.pointer (some ⟨C.mb, 0, none⟩)) ∧ w'.cell? ⟨w.heap.size + 1, 0, none⟩ = some (.int .i64 (j : Nat)) ∧ w'.cell? ⟨w.heap.size + 1 + 1, 0, none⟩ = some (.int .i64 (made : Nat)) ∧ w'.cell? ⟨C.mb, 0, none⟩ = some (.pointer (some ⟨C.xb, 0, none⟩)) ∧ w'.cell? ⟨C.xb, 2, none⟩ = some (.slice (some ⟨g, 0, none⟩) C.all.length cap) ∧ w'.cell? ⟨g, j * 9 + 7, none⟩ = some (.int .i64 x.mn) ∧ w'.cell? ⟨g, j * 9 + 8, none⟩ = some (.int .i64 (mxV x.mx))) (go_keep)
      (first | (go_at_call 64; refine (counted_any g (j * 9) x.mn (mxV x.mx) made _ ?_ ?_).mono ?_; (simp [*]); (simp [*]); rintro e w' ⟨rfl, rfl⟩))
    all_goals exact ⟨rfl, rfl, rfl⟩
  have hb2 : Below W1.heap.size W1 (W1.alloc (.cells #[.int .i64 (j : Nat), .int .i64 (countedV x.mn (mxV x.mx) made), .int .i64 (p : Nat)] 100)).drew := ((Below.refl _ _).alloc (Nat.le_refl _) _).drew
  have b2 : Blk (W1.alloc (.cells #[.int .i64 (j : Nat), .int .i64 (countedV x.mn (mxV x.mx) made), .int .i64 (p : Nat)] 100)).drew (w.heap.size + 4) #[.int .i64 (j : Nat), .int .i64 (countedV x.mn (mxV x.mx) made), .int .i64 (p : Nat)] 100 := (Blk.newAt (by rw [hs1])).drew
  have hs2 : (W1.alloc (.cells #[.int .i64 (j : Nat), .int .i64 (countedV x.mn (mxV x.mx) made), .int .i64 (p : Nat)] 100)).drew.heap.size = w.heap.size + 5 := by
    show (W1.alloc _).heap.size = _
    simp [hs1]
  obtain ⟨hA, h, hP, hAn, hAi, ih, ihc, h1, hb1⟩ := HH.out
  have hwf := hA.wf
  simp only [WFs] at hwf
  have hb : 0 ≤ x.mn ∧ x.mn ≤ 9 ∧ x.mx ≤ 9 := by
    obtain ⟨g, kids, neg, ps, mn, mx⟩ := x
    simp only [WF] at hwf
    exact ⟨hwf.1.2.2.1, hwf.1.2.2.2.1, hwf.1.2.2.2.2.2.1⟩
  have hcin := counted_in hb.1 hb.2.1 hb.2.2 hmd
  have hcs := fun q => (hA.copies (countedV x.mn (mxV x.mx) made).toNat p q).trans (counted_same hb.1 hb.2.2 p q)
  rw [show (((countedV x.mn (mxV x.mx) made).toNat : Nat) : Int) = countedV x.mn (mxV x.mx) made from by omega] at hcs
  clear HH hwf
  generalize countedV x.mn (mxV x.mx) made = cv at *
  have h2 := h1.below hb2
  have hu : InU C (j : Int) cv p := ⟨by omega, by omega, by omega, hcin.2, hp⟩
  have k02 := k0.below hb2
  have k12 := k1.below hb2
  have k22 := k2.below hb2
  have k32 := k3.below hb2
  have hbb := hb1.trans (hb2.mono (by omega))
  clear e0 e1 e2 e3 e4 p6 p7 p8 n0 n1 n2 n3 n4 n7 n8 k0 k1 k2 k3 h1 hb1 hb2
  generalize (W1.alloc (.cells #[.int .i64 (j : Nat), .int .i64 cv, .int .i64 (p : Nat)] 100)).drew = W2 at *
  have e0 : W2.cell? ⟨w.heap.size, 0, none⟩ = some (.pointer (some ⟨C.mb, 0, none⟩)) := k02.cell 0 rfl
  have e1 : W2.cell? ⟨w.heap.size + 1, 0, none⟩ = some (.int .i64 (j : Nat)) := k12.cell 0 rfl
  have e2 : W2.cell? ⟨w.heap.size + 1 + 1, 0, none⟩ = some (.int .i64 (made : Nat)) := k22.cell 0 rfl
  have e3 : W2.cell? ⟨w.heap.size + 1 + 1 + 1, 0, none⟩ = some (.slice none 0 0) := k32.cell 0 rfl
  have e3f := k32.fz 0
  have e5 : W2.cell? ⟨C.mb, 2, none⟩ = some (.map (some C.mm)) := h2.m.cell 2 rfl
  have e60 : W2.cell? ⟨w.heap.size + 4, 0, none⟩ = some (.int .i64 (j : Nat)) := b2.cell 0 rfl
  have e61 : W2.cell? ⟨w.heap.size + 4, 1, none⟩ = some (.int .i64 cv) := b2.cell 1 rfl
  have e62 : W2.cell? ⟨w.heap.size + 4, 2, none⟩ = some (.int .i64 (p : Nat)) := b2.cell 2 rfl
  have n0 := World.new_ne W2 _ e0
  have n5 := World.new_ne W2 _ e5
  have n60 := World.new_ne W2 _ e60
  have n61 := World.new_ne W2 _ e61
  have n62 := World.new_ne W2 _ e62
  have hb3 : Below W2.heap.size W2 (W2.alloc (.cells #[.slice none 0 0] 81)).drew := ((Below.refl _ _).alloc (Nat.le_refl _) _).drew
  have HH := hide (And.intro hA (And.intro h (And.intro hP (And.intro hAn (And.intro hAi (And.intro ih (And.intro ihc (And.intro h2 (And.intro hbb (And.intro hcs hu))))))))))
  cases hh : Maps.has D (key3L (j : Int) cv (p : Int))
  · have l1 := look_no ok (h2.drew) hu hh
    have l2 := look_no ok (h2.below hb3) hu hh
    clear hA h hP hAn hAi ih ihc h2 hbb hcs hu
    gi_wp2
    apply way_cut
    case h =>
      refine wpIn_wide.2 ?_
      go_region_held3 (fun w' => w'.cell? ⟨w.heap.size, 0, none⟩ = some (.pointer (some ⟨C.mb, 0, none⟩)) ∧ w'.cell? ⟨C.mb, 2, none⟩ = some (.map (some C.mm)) ∧ w'.cell? ⟨w.heap.size + 4, 0, none⟩ = some (.int .i64 (j : Nat)) ∧ w'.cell? ⟨w.heap.size + 4, 1, none⟩ = some (.int .i64 cv) ∧ w'.cell? ⟨w.heap.size + 4, 2, none⟩ = some (.int .i64 (p : Nat))) (go_keep) (fail)
      all_goals exact ⟨rfl, rfl, rfl⟩
    gi_wp2
    obtain ⟨hA, h, hP, hAn, hAi, ih, ihc, h2, hbb, hcs, hu⟩ := HH.out
    have hb4 : Below W2.heap.size W2 ((W2.alloc (.cells #[.slice none 0 0] 81)).alloc (.cells #[.slice none 0 0] 81)).drew := (((Below.refl _ _).alloc (Nat.le_refl _) _).alloc (by simp) _).drew
    have h3 := h2.below hb4
    have q0 := k02.below hb4
    have q1 := k12.below hb4
    have q2 := k22.below hb4
    have q3 := k32.below hb4
    have q4 := b2.below hb4
    have q6 : Blk ((W2.alloc (.cells #[.slice none 0 0] 81)).alloc (.cells #[.slice none 0 0] 81)).drew (w.heap.size + 5 + 1) #[.slice none 0 0] 81 := (Blk.newAt (by simp [hs2])).drew
    have hs3 : ((W2.alloc (.cells #[.slice none 0 0] 81)).alloc (.cells #[.slice none 0 0] 81)).drew.heap.size = w.heap.size + 7 := by
      show ((W2.alloc _).alloc _).heap.size = _
      simp [hs2]
    have hb3 := hbb.trans (hb4.mono (by omega))
    clear e0 e1 e2 e3 e3f e5 e60 e61 e62 n0 n5 n60 n61 n62 l1 l2 k02 k12 k22 k32 b2 hb4 h2 hbb
    generalize ((W2.alloc (.cells #[.slice none 0 0] 81)).alloc (.cells #[.slice none 0 0] 81)).drew = W3 at *
    have e0 : W3.cell? ⟨w.heap.size, 0, none⟩ = some (.pointer (some ⟨C.mb, 0, none⟩)) := q0.cell 0 rfl
    have e1 : W3.cell? ⟨w.heap.size + 1, 0, none⟩ = some (.int .i64 (j : Nat)) := q1.cell 0 rfl
    have e2 : W3.cell? ⟨w.heap.size + 1 + 1, 0, none⟩ = some (.int .i64 (made : Nat)) := q2.cell 0 rfl
    have e3 : W3.cell? ⟨C.mb, 0, none⟩ = some (.pointer (some ⟨C.xb, 0, none⟩)) := h3.m.cell 0 rfl
    have e4 : W3.cell? ⟨C.xb, 2, none⟩ = some (.slice (some ⟨g, 0, none⟩) C.all.length cap) := by rw [← hpv]; exact h3.x.cell 2 rfl
    have hfl := h3.flat
    rw [hpv] at hfl
    obtain ⟨-, -, -, -, -, -, -, p7, -⟩ := part_cells hfl hP.get
    rw [hP.least] at p7
    have HH := hide (And.intro hA (And.intro h (And.intro hP (And.intro hAn (And.intro hAi (And.intro ih (And.intro ihc (And.intro h3 (And.intro hb3 (And.intro hcs hu))))))))))
    clear hA h hP hAn hAi ih ihc h3 hb3 hcs hu
    obtain ⟨K0, hK0⟩ : ∃ K0 : List (Nat × Array Value × TypeId), K0 = [(w.heap.size, #[.pointer (some ⟨C.mb, 0, none⟩)], 43), (w.heap.size + 1, #[.int .i64 (j : Nat)], 3), (w.heap.size + 1 + 1, #[.int .i64 (made : Nat)], 3), (w.heap.size + 1 + 1 + 1, #[.slice none 0 0], 81), (w.heap.size + 4, #[.int .i64 (j : Nat), .int .i64 cv, .int .i64 (p : Nat)], 100)] := ⟨_, rfl⟩
    have hA3 : Acc C w D K0 (w.heap.size + 5 + 1) (fun _ => False) W3 D (.slice none 0 0) (fun _ => false) := by
      refine Acc.start HH.out.2.1 HH.out.2.2.2.2.2.2.2.2.1 (fun b hb => ?_) q6 ⟨by omega, fun b hb => ?_⟩
      · rw [hK0] at hb
        simp only [List.mem_cons, List.not_mem_nil, or_false] at hb
        rcases hb with rfl | rfl | rfl | rfl | rfl
        · exact q0
        · exact q1
        · exact q2
        · exact q3
        · exact q4
      · rw [hK0] at hb
        simp only [List.mem_cons, List.not_mem_nil, or_false] at hb
        rcases hb with rfl | rfl | rfl | rfl | rfl <;> (constructor <;> simp <;> omega)
    clear q0 q1 q2 q3 q4 q6
    have hm0 : (w.heap.size, #[Value.pointer (some ⟨C.mb, 0, none⟩)], 43) ∈ K0 := by rw [hK0]; simp
    have hm1 : (w.heap.size + 1, #[Value.int .i64 (j : Nat)], 3) ∈ K0 := by rw [hK0]; simp
    have hm2 : (w.heap.size + 1 + 1, #[Value.int .i64 (made : Nat)], 3) ∈ K0 := by rw [hK0]; simp
    have hm3 : (w.heap.size + 1 + 1 + 1, #[Value.slice none 0 0], 81) ∈ K0 := by rw [hK0]; simp
    have hm4 : (w.heap.size + 4, #[Value.int .i64 (j : Nat), Value.int .i64 cv, Value.int .i64 (p : Nat)], 100) ∈ K0 := by rw [hK0]; simp
    have HM := hide (And.intro hm0 (And.intro hm1 (And.intro hm2 (And.intro hm3 hm4))))
    clear hm0 hm1 hm2 hm3 hm4 hK0
    by_cases hmn : x.mn ≤ made
    all_goals
      first
      | (have d1 : decide (x.mn ≤ (made : Int)) = true := by simp [hmn]
         gi_big_quiet_th (fail)
         gi_wp2
         have hA4 := hA3.drewN nq
         obtain ⟨ws, w1, w2, w3⟩ := hA4.set
         refine ⟨trivial, (callsIn_wide.2 (add_any (w.heap.size + 5 + 1) (.slice none 0 0) ws (fun _ => false) p C.L (by unfold MC.L; omega) (by unfold MC.L; omega) _ hA4.box w1 w2 (by simp [Value.ownBlock]) w3)).mono ?_⟩
         rintro e W4 ⟨rfl, hset⟩
         obtain ⟨v4, hA5, -⟩ := hA4.more (R' := fun q => x.mn ≤ made ∧ q = p) hset (fun q => by simp [hmn])
         have hsz4 : w.heap.size + 7 ≤ W4.heap.size := by
           have := hset.choose_spec.choose_spec.2.2.2.2.1.size
           have h7 : (W3.drewN nq).heap.size = w.heap.size + 7 := hs3
           omega
         clear hA3 hA4 w1 w2 w3 hset
         have f0 : W4.cell? ⟨w.heap.size, 0, none⟩ = some (.pointer (some ⟨C.mb, 0, none⟩)) := (hA5.keep _ HM.out.1).cell 0 rfl
         have f1 : W4.cell? ⟨w.heap.size + 1, 0, none⟩ = some (.int .i64 (j : Nat)) := (hA5.keep _ HM.out.2.1).cell 0 rfl
         have f2 : W4.cell? ⟨w.heap.size + 1 + 1, 0, none⟩ = some (.int .i64 (made : Nat)) := (hA5.keep _ HM.out.2.2.1).cell 0 rfl
         generalize (fun c => (fun _ => false) c || decide (c = p) : Nat → Bool) = G4 at hA5
         gi_wp2)
      | (have d1 : decide (x.mn ≤ (made : Int)) = false := by simp; omega
         gi_big_quiet_th (fail)
         gi_wp2
         have hA5 := (hA3.drewN nq).congr (R' := fun q => x.mn ≤ made ∧ q = p) (fun q => ⟨fun h => h.elim, fun h => by omega⟩)
         have hsz4 : w.heap.size + 7 ≤ (W3.drewN nq).heap.size := by rw [← hs3]; exact Nat.le_refl _
         clear hA3
         generalize W3.drewN nq = W4 at *
         generalize Value.slice none 0 0 = v4 at hA5
         generalize (fun _ => false : Nat → Bool) = G4 at hA5)
    all_goals
      refine ⟨trivial, (callsIn_wide.2 (nextCopy_any C ok j P HH.out.2.2.1.get g cap hpv made p W4 D hA5.ms)).mono ?_⟩
      rintro e W5 ⟨rfl, hW5⟩
      gi_wp2
      obtain ⟨hA, h, hP, hAn, hAi, ih, ihc, h3, hb3, hcs, hu⟩ := HH.out
      have hb5 : Below W4.heap.size W4 W5 := by
        rw [hW5]
        exact ((((Below.refl _ _).alloc (Nat.le_refl _) _).alloc (by simp) _).alloc (by simp; omega) _).alloc (by simp; omega) _
      have hs5 : W5.heap.size ≤ W4.heap.size + 4 := by rw [hW5]; simp [copyW]
      have hs5' : W4.heap.size + 4 ≤ W5.heap.size := by rw [hW5]; simp [copyW]
      have hbx : Boxes C g j made p W4.heap.size W5 := by rw [hW5]; exact Boxes.made_ W4
      rw [← hW5]
      clear hW5
      obtain ⟨K1, hK1⟩ : ∃ K1 : List (Nat × Array Value × TypeId), K1 = [(W4.heap.size, #[.pointer (some ⟨C.mb, 0, none⟩)], 43), (W4.heap.size + 1, #[.int .i64 (made : Nat)], 3), (W4.heap.size + 1 + 1, #[.int .i64 (p : Nat)], 3), (W4.heap.size + 1 + 1 + 1, #[.pointer (some ⟨g, j * 9, none⟩)], 123)] := ⟨_, rfl⟩
      have hA6 : Acc C w D (K0 ++ K1) (w.heap.size + 5 + 1) (fun q => x.mn ≤ made ∧ q = p) W5 D v4 G4 := by
        refine (hA5.moved (hA5.ms.below hb5) (Step.below hb5)).wider (fun b hb => ?_)
        have hnr : ∀ k, W4.heap.size ≤ k → ¬ MRow D k := fun k hk hr => by have := (hA5.ms.rows k hr).1; omega
        have hnv : ∀ k, W4.heap.size ≤ k → v4.ownBlock ≠ some k := fun k hk e => by have := hA5.set.lt k e; omega
        rw [hK1] at hb
        simp only [List.mem_cons, List.not_mem_nil, or_false] at hb
        rcases hb with rfl | rfl | rfl | rfl
        · exact ⟨hbx.m, by simp; omega, by simp; omega, hnr _ (by simp), hnv _ (by simp)⟩
        · exact ⟨hbx.made, by simp; omega, by simp; omega, hnr _ (by simp), hnv _ (by simp)⟩
        · exact ⟨hbx.place, by simp; omega, by simp; omega, hnr _ (by simp; omega), hnv _ (by simp; omega)⟩
        · exact ⟨hbx.part, by simp; omega, by simp; omega, hnr _ (by simp; omega), hnv _ (by simp; omega)⟩
      have boxes : ∀ {R U D' v G}, Acc C w D (K0 ++ K1) (w.heap.size + 5 + 1) R U D' v G → Boxes C g j made p W4.heap.size U := fun h => by
        refine ⟨h.keep (W4.heap.size, #[.pointer (some ⟨C.mb, 0, none⟩)], 43) ?_, h.keep (W4.heap.size + 1, #[.int .i64 (made : Nat)], 3) ?_, h.keep (W4.heap.size + 1 + 1, #[.int .i64 (p : Nat)], 3) ?_, h.keep (W4.heap.size + 1 + 1 + 1, #[.pointer (some ⟨g, j * 9, none⟩)], 123) ?_⟩ <;> rw [hK1] <;> simp
      obtain ⟨I, hIdef⟩ : ∃ I : List (NextQ C.s x made p) → World → Prop, I = fun pre U => ∃ D' v G, Acc C w D (K0 ++ K1) (w.heap.size + 5 + 1) (fun q => (x.mn ≤ made ∧ q = p) ∨ ∃ y, y ∈ pre ∧ Copies (AtomR C.s x) x.mn x.mx (made + 1) y.1 q) U D' v G := ⟨_, rfl⟩
      have hTurn : ∀ s W k o o', I s W → w.heap.size ≤ k → W.heap[k]? = some o → IsRec o → I s (W.putObj k o') := by
        rintro s W k o o' hi hk ho hr
        rw [hIdef] at hi ⊢
        obtain ⟨D', v, G, ha⟩ := hi
        exact ⟨D', v, G, ha.turn hk ho hr⟩
      have hAb : AbidesN C g j made p W4.heap.size (W5.heap.size + 2) (OwnB C (w.heap.size + 5 + 1)) I := by
        refine ⟨fun s W hi => ?_, fun s W hi => ?_, fun s W D1 W' D2 hi h1 h2 hst => ?_, fun s W k o o' hi hk ho hr => hTurn s W k o o' hi (by omega) ho hr, fun s W W' hi hc => ?_⟩
        · rw [hIdef] at hi
          obtain ⟨D', v, G, ha⟩ := hi
          exact boxes ha
        · rw [hIdef] at hi
          obtain ⟨D', v, G, ha⟩ := hi
          exact ⟨D', ha.ms, fun k hk => ha.owned hk⟩
        · rw [hIdef] at hi ⊢
          obtain ⟨D', v, G, ha⟩ := hi
          obtain rfl := ha.ms.unique h1
          exact ⟨D2, v, G, ha.moved h2 hst⟩
        · rw [hIdef] at hi
          obtain ⟨D', v, G, ha⟩ := hi
          exact ha.ownSame hc
      apply range_free (gf := 83) (lb := #[.pointer (some ⟨W4.heap.size + 1, 0, none⟩), .pointer (some ⟨W4.heap.size + 1 + 1 + 1, 0, none⟩), .pointer (some ⟨W4.heap.size, 0, none⟩), .pointer (some ⟨W4.heap.size + 1 + 1, 0, none⟩)]) rfl (enters_of Try.func83 (by kernel_rfl) rfl) (fun q : NextQ C.s x made p => #[Value.int .i64 (q.1 : Nat)]) (fun _ => rfl) (64 * C.L) (by omega)
        I (fun _ _ _ => False) (KeepO W5.heap.size (OwnB C (w.heap.size + 5 + 1))) (KeepO W5.heap.size (OwnB C (w.heap.size + 5 + 1))) (fun l => AllOf (NextR C.s x made p) (l.map (·.1))) (fun _ => True)
        (fun s W r r' hr hi => hTurn s W _ _ _ hi (by omega) hr (.inl ⟨_, rfl⟩)) (fun _ _ _ _ _ _ h => h) (fun W W' o o' hk => keepO_put (by omega) hk)
      case hassign =>
        intro l q U K hK
        gi_wp2
        exact hK
      case hstop => exact fun _ _ _ _ h => h.elim
      case hseq =>
        intro r hR
        have hb6 : Below W5.heap.size W5 ((W5.alloc (.deferred (some []))).alloc (.loop (r .ready none))) := ((Below.refl _ _).alloc (Nat.le_refl _) _).alloc (by simp) _
        have hwf := hA.wf
        have hmmm := hA.mm
        simp only [WFs] at hwf
        simp only [MMs] at hmmm
        refine callsIn_wide.2 ((nextCopy1_any C ok x xs j P hP ih (fun hg j' P' hP' => ⟨(hP'.group hg).2, (hAi hg).wf, (hAi hg).mm⟩) hwf.1 hmmm.1 g cap hpv made p hp hmd (by omega) W4.heap.size W5.heap.size r (OwnB C (w.heap.size + 5 + 1)) I (fun _ _ _ => False) _ (64 * C.L) (Nat.le_refl _) hAb (fun _ _ _ _ _ _ h => h.elim) hR _ (by simp) ?_ ⟨?_, ?_⟩).mono ?_)
        · rw [hIdef]
          refine ⟨D, v4, G4, (hA6.moved (hA6.ms.below hb6) (Step.below hb6)).congr fun q => ?_⟩
          simp
        · exact (Below.heap_alloc _ _ _ (by simp)).trans (World.alloc_heap_new W5 _)
        · have := World.alloc_heap_new (W5.alloc (.deferred (some []))) (.loop (r .ready none)); rwa [World.size_alloc] at this
        · rintro e W' ⟨hv, ⟨l, h1, h2, h3⟩ | ⟨l, c, h1, h2, h3⟩⟩
          · exact ⟨hv, .inl ⟨l, h1, h2, h3⟩⟩
          · exact h2.elim
      case hbody =>
        rintro pre q U hi ⟨rl, hrl⟩ hdf hlen
        rw [hIdef] at hi
        obtain ⟨D', v, G, ha⟩ := hi
        have f0 : U.cell? ⟨w.heap.size, 0, none⟩ = some (.pointer (some ⟨C.mb, 0, none⟩)) := (ha.keep _ (List.mem_append_left _ HM.out.1)).cell 0 rfl
        have f1 : U.cell? ⟨w.heap.size + 1, 0, none⟩ = some (.int .i64 (j : Nat)) := (ha.keep _ (List.mem_append_left _ HM.out.2.1)).cell 0 rfl
        have f2 : U.cell? ⟨w.heap.size + 1 + 1, 0, none⟩ = some (.int .i64 (made : Nat)) := (ha.keep _ (List.mem_append_left _ HM.out.2.2.1)).cell 0 rfl
        have hcall := ihc q.1 q.2 (j : Int) U D' hA ha.ms
        rw [show (((made + 1 : Nat)) : Int) = (made : Int) + 1 from by omega] at hcall
        have HB := hide (And.intro ha (And.intro hrl hdf))
        clear ha hrl hdf
        gi_wp2
        refine ⟨trivial, (CallsIn.inRound _ (callsIn_wide.2 hcall)).mono ?_⟩
        rintro e U1 ⟨v1, G1, D1, rfl, hv1, hG1, hm1, hst1, hrow1⟩
        obtain ⟨ha, hrl, hdf⟩ := HB.out
        have ha1 := ha.moved hm1 hst1
        obtain ⟨ws, w1, w2, w3⟩ := ha1.set
        obtain ⟨os, o1, o2, o3⟩ := hv1
        have hadd := addAll_any (w.heap.size + 5 + 1) v v1 ws os G G1 C.L (by unfold MC.L; omega) U1 ha1.box w1 w2 (fun e => (ha1.row _ e).2.1 rfl) w3 o1 o2 (fun e => by
          rcases hrow1 _ e with e | e
          · exact ha.mine.1 e
          · have := ha.box.lt; omega) (fun k e e2 => by
          rcases hrow1 _ e with e | e
          · exact (ha.row k e2).2.2.1 e
          · have := ha.set.lt k e2; omega) o3
        have HB2 := hide (And.intro ha1 (And.intro hst1 hG1))
        clear ha ha1 hst1 hG1 hrow1 w1 w2 w3 o1 o2 o3 hrl hdf hm1
        gi_wp2
        refine ⟨trivial, (CallsIn.inRound _ (callsIn_wide.2 hadd)).mono ?_⟩
        rintro e U2 ⟨rfl, hset⟩
        gi_wp2
        obtain ⟨ha1, hst1, hG1⟩ := HB2.out
        obtain ⟨ha, hrl, hdf⟩ := HB.out
        obtain ⟨v2, ha2, hv2⟩ := ha1.more (R' := fun q' => (x.mn ≤ made ∧ q' = p) ∨ ∃ y, y ∈ pre ++ [q] ∧ Copies (AtomR C.s x) x.mn x.mx (made + 1) y.1 q') hset (fun q' => by
          rw [Bool.or_eq_true, ha1.holds, hG1]
          constructor
          · rintro ((h | ⟨y, h1, h2⟩) | h)
            · exact .inl h
            · exact .inr ⟨y, List.mem_append_left _ h1, h2⟩
            · exact .inr ⟨q, List.mem_append_right _ (List.mem_singleton.2 rfl), h⟩
          · rintro (h | ⟨y, h1, h2⟩)
            · exact .inl (.inl h)
            · rcases List.mem_append.1 h1 with h1 | h1
              · exact .inl (.inr ⟨y, h1, h2⟩)
              · rw [List.mem_singleton.1 h1] at h2
                exact .inr h2)
        obtain ⟨_, _, _, _, _, _, hkq, _, _⟩ := hset
        have hrec : ∀ k o, U.heap[k]? = some o → IsRec o → w.heap.size + 7 ≤ k → U2.heap[k]? = U.heap[k]? := fun k o hk ho hl => by
          have hlt := (Array.getElem?_eq_some_iff.1 hk).1
          have hcell : ∀ c t, U.heap[k]? ≠ some (.cells c t) := fun c t e => by
            rw [hk] at e
            rcases ho with ⟨_, rfl⟩ | ⟨_, rfl⟩ <;> cases e
          have hmm : k ≠ C.mm := by
            rintro rfl
            obtain ⟨es, cl, e⟩ := ha.ms.mapAt
            rw [hk] at e
            rcases ho with ⟨_, rfl⟩ | ⟨_, rfl⟩ <;> cases e
          refine (hkq.block k (Nat.lt_of_lt_of_le hlt hst1.kp.size) (by omega) (fun e => ?_)).trans (hst1.kp.block k hlt hmm)
          obtain ⟨c, t, e2⟩ := ha.set.cells k e.symm
          exact hcell c t e2
        exact ⟨⟨hrec _ _ hdf (.inr ⟨_, rfl⟩) (by omega), hrec _ _ hrl (.inl ⟨_, rfl⟩) (by omega)⟩, ha.keepO hst1 ha2 hkq hv2, by rw [hIdef]; exact ⟨D1, v2, _, ha2⟩⟩
      case hdone =>
        rintro l U hl hi hdf
        rw [hIdef] at hi
        obtain ⟨D', v, G, ha⟩ := hi
        obtain ⟨nm, hown, hnm⟩ := ha.ms.drew.own
        have hmax : nm < maxLen := by
          have e1 := univ_len C
          have e2 : C.all.length * (11 * (C.s.size + 1)) ≤ 1048576 * (11 * 60001) := Nat.mul_le_mul hfew (by omega)
          unfold maxLen
          omega
        obtain ⟨U1, hup, hown1, hgr⟩ := hown.update keyed100 Try.underlying61 hmax (val := .agg #[v]) (d := .held (.agg #[v])) (ps := []) (key3_ok (j : Int) cv (p : Int) (hu.wf ok).1 (hu.wf ok).2.1 (hu.wf ok).2.2) rfl
        have hGR : ∀ q, G q = true ↔ Copies (AtomR C.s x) x.mn x.mx made p q := fun q => by
          rw [ha.holds, copies_step]
          constructor
          · rintro (h | ⟨y, _, h2⟩)
            · exact .inl h
            · exact .inr ⟨y.1, y.2, h2⟩
          · rintro (h | ⟨r, h1, h2⟩)
            · exact .inl h
            · have := (hl.2 r).2 h1
              obtain ⟨y, hy, rfl⟩ := List.mem_map.1 this
              exact .inr ⟨y, hy, h2⟩
        have hm1 := ha.ms.drew.put ok hu hown1 hgr (ha.set.agree fun _ _ => rfl) (fun q => (hGR q).trans (hcs q).symm)
        have f0 : U.cell? ⟨w.heap.size, 0, none⟩ = some (.pointer (some ⟨C.mb, 0, none⟩)) := (ha.keep _ (List.mem_append_left _ HM.out.1)).cell 0 rfl
        have bk4 := ha.keep _ (List.mem_append_left _ HM.out.2.2.2.2)
        have f40 : U.cell? ⟨w.heap.size + 4, 0, none⟩ = some (.int .i64 (j : Nat)) := bk4.cell 0 rfl
        have f41 : U.cell? ⟨w.heap.size + 4, 1, none⟩ = some (.int .i64 cv) := bk4.cell 1 rfl
        have f42 : U.cell? ⟨w.heap.size + 4, 2, none⟩ = some (.int .i64 (p : Nat)) := bk4.cell 2 rfl
        have f6 : U.cell? ⟨w.heap.size + 5 + 1, 0, none⟩ = some v := ha.box.cell 0 rfl
        have f5 : U.cell? ⟨C.mb, 2, none⟩ = some (.map (some C.mm)) := ha.ms.m.cell 2 rfl
        have kb : ∀ {k c t}, Blk U k c t → Blk U1 k c t := fun {k c t} hb => hb.ofSame (hgr.block k hb.lt (fun e => ha.ms.notMap hb (Option.some.inj e)))
        have kd : U1.heap[W5.heap.size]? = some (.deferred (some [])) := by
          refine (hgr.block _ (show _ < U.heap.size from (Array.getElem?_eq_some_iff.1 hdf).1) (fun e => ?_)).trans hdf
          obtain ⟨es, cl, e2⟩ := ha.ms.mapAt
          rw [← Option.some.inj e, hdf] at e2
          cases e2
        have g0 : U1.cell? ⟨w.heap.size, 0, none⟩ = some (.pointer (some ⟨C.mb, 0, none⟩)) := (kb (ha.keep _ (List.mem_append_left _ HM.out.1))).cell 0 rfl
        have g40 : U1.cell? ⟨w.heap.size + 4, 0, none⟩ = some (.int .i64 (j : Nat)) := (kb bk4).cell 0 rfl
        have g41 : U1.cell? ⟨w.heap.size + 4, 1, none⟩ = some (.int .i64 cv) := (kb bk4).cell 1 rfl
        have g42 : U1.cell? ⟨w.heap.size + 4, 2, none⟩ = some (.int .i64 (p : Nat)) := (kb bk4).cell 2 rfl
        have g6 : U1.cell? ⟨w.heap.size + 5 + 1, 0, none⟩ = some v := (kb ha.box).cell 0 rfl
        have g5 : U1.cell? ⟨C.mb, 2, none⟩ = some (.map (some C.mm)) := (kb ha.ms.m).cell 2 rfl
        have bk3 := kb (ha.keep _ (List.mem_append_left _ HM.out.2.2.2.1))
        have g3 : U1.cell? ⟨w.heap.size + 1 + 1 + 1, 0, none⟩ = some (.slice none 0 0) := bk3.cell 0 rfl
        have g3f := bk3.fz 0
        obtain ⟨pa, nv, cap1, rfl⟩ := ha.set.form
        have g7 : (U1.setCell ⟨w.heap.size + 1 + 1 + 1, 0, none⟩ (.slice pa nv cap1)).cell? ⟨w.heap.size + 1 + 1 + 1, 0, none⟩ = some (.slice pa nv cap1) := World.cell?_setCell_same' _ _ _ (by rw [g3]; rfl)
        have hrow3 := ha.row
        have HB := hide (And.intro ha (And.intro hdf (And.intro hm1 (And.intro hgr (And.intro hGR kd)))))
        clear kb bk3 bk4 hrow3 kd
        clear ha hdf hm1 hgr hGR hown hown1 hl
        have hup' : (Instr.mapUpdate 61 (.map (some C.mm)) (.agg #[.int .i64 (j : Nat), .int .i64 cv, .int .i64 (p : Nat)]) (.agg #[.slice pa nv cap1])).run Try.prog U.drew = .ok () U1 := hup
        clear hup
        gi_wp2
        apply way_cut
        case h =>
          refine wpIn_wide.2 ?_
          go_region_held3 (fun w' => w'.cell? ⟨w.heap.size, 0, none⟩ = some (.pointer (some ⟨C.mb, 0, none⟩)) ∧ w'.cell? ⟨C.mb, 2, none⟩ = some (.map (some C.mm)) ∧ w'.cell? ⟨w.heap.size + 4, 0, none⟩ = some (.int .i64 (j : Nat)) ∧ w'.cell? ⟨w.heap.size + 4, 1, none⟩ = some (.int .i64 cv) ∧ w'.cell? ⟨w.heap.size + 4, 2, none⟩ = some (.int .i64 (p : Nat)) ∧ w'.cell? ⟨w.heap.size + 5 + 1, 0, none⟩ = some (.slice pa nv cap1)) (go_keep) (fail)
          all_goals exact ⟨rfl, rfl, rfl⟩
        gi_wp2
        obtain ⟨ha, hdf, hm1, hgr, hGR, kd⟩ := HB.out
        have hlt3 : w.heap.size + 1 + 1 + 1 < U1.heap.size := by
          have := hgr.size
          have h7 := ha.box.lt
          have : U.drew.heap.size = U.heap.size := rfl
          omega
        have kd' : (U1.setCell ⟨w.heap.size + 1 + 1 + 1, 0, none⟩ (.slice pa nv cap1)).heap[W5.heap.size]? = some (.deferred (some [])) := (Below.heap_setCell _ _ _ _ (by show W5.heap.size ≠ w.heap.size + 1 + 1 + 1; omega)).trans kd
        refine ⟨by simp, .inl ⟨_, _, rfl, run_takeDeferred kd', ?_⟩⟩
        have g8 : ((U1.setCell ⟨w.heap.size + 1 + 1 + 1, 0, none⟩ (.slice pa nv cap1)).putObj W5.heap.size (.deferred none)).cell? ⟨w.heap.size + 1 + 1 + 1, 0, none⟩ = some (.slice pa nv cap1) := by
          rw [← g7]
          simp only [World.cell?, World.putObj_heap_other (show w.heap.size + 1 + 1 + 1 ≠ W5.heap.size by omega)]
        refine ⟨_, res81 rfl rfl g8, ?_⟩
        exact (ha.kept hm1 hgr hGR (List.mem_append_left _ HM.out.2.2.2.1) 0 _).turn h (by omega) kd' (.inr ⟨_, rfl⟩)
  · obtain ⟨v, G, hv, hset, hG⟩ := h2.inv _ _ _ hu hh
    have l1 := look_yes ok (h2.drew) hu hh hv
    have l2 := look_yes ok (h2.below hb3) hu hh hv
    obtain ⟨pa, nv, cap1, rfl⟩ := hset.form
    have HV := hide (And.intro hv (And.intro hset hG))
    clear hA h hP hAn hAi ih ihc h2 hbb hcs hu hv hset hG
    gi_wp2
    apply way_cut
    case h =>
      refine wpIn_wide.2 ?_
      go_region_held3 (fun w' => w'.cell? ⟨w.heap.size, 0, none⟩ = some (.pointer (some ⟨C.mb, 0, none⟩)) ∧ w'.cell? ⟨C.mb, 2, none⟩ = some (.map (some C.mm)) ∧ w'.cell? ⟨w.heap.size + 4, 0, none⟩ = some (.int .i64 (j : Nat)) ∧ w'.cell? ⟨w.heap.size + 4, 1, none⟩ = some (.int .i64 cv) ∧ w'.cell? ⟨w.heap.size + 4, 2, none⟩ = some (.int .i64 (p : Nat))) (go_keep) (fail)
      all_goals exact ⟨rfl, rfl, rfl⟩
    gi_wp2
    obtain ⟨hA, h, hP, hAn, hAi, ih, ihc, h2, hbb, hcs, hu⟩ := HH.out
    obtain ⟨hv, hset, hG⟩ := HV.out
    have r1 : (W2.setCell ⟨w.heap.size + 1 + 1 + 1, 0, none⟩ (.slice pa nv cap1)).cell? ⟨w.heap.size + 1 + 1 + 1, 0, none⟩ = some (.slice pa nv cap1) := World.cell?_setCell_same' _ _ _ (by rw [e3]; rfl)
    have hb7 : Below (W2.setCell ⟨w.heap.size + 1 + 1 + 1, 0, none⟩ (.slice pa nv cap1)).heap.size (W2.setCell ⟨w.heap.size + 1 + 1 + 1, 0, none⟩ (.slice pa nv cap1)) ((W2.setCell ⟨w.heap.size + 1 + 1 + 1, 0, none⟩ (.slice pa nv cap1)).alloc (.cells #[.slice pa nv cap1] 81)).drew := ((Below.refl _ _).alloc (Nat.le_refl _) _).drew
    refine ⟨_, res81 rfl rfl ((hb7.cell (p := ⟨w.heap.size + 1 + 1 + 1, 0, none⟩) (by simp [hs2])).trans r1), ?_⟩
    refine EndsPost.later ?_ hb7
    refine EndsPost.boxed (by omega) hset (fun q => (hG q).trans (hcs q)) h2 (h.fresh (by omega)) (Step.below hbb) (fun k e => ?_) 0 _
    have hmr : MRow D k := ⟨_, _, hh, hv, e⟩
    exact ⟨.inl hmr, fun e2 => by have := (h.rows k hmr).1; omega⟩
end Go.Proofs.Ytjlgccfibkcgbaa

namespace Go.Proofs.Ytjlgccfibkcgbaa
open Go.RowKit Go.Shelf

/-- No operation of a region defers a call. -/
def noDefer (ops : Array Oper) : Bool := ops.all fun o => match o.op with | .defer _ => false | _ => true

theorem noDefer_spec {ops : Array Oper} (h : noDefer ops = true) {i : Nat} {o : Oper} (hi : ops[i]? = some o) : ∀ c, o.op ≠ .defer c := by
  intro c e
  obtain ⟨hl, rfl⟩ := Array.getElem?_eq_some_iff.1 hi
  have := (Array.all_eq_true.1 h) i hl
  rw [e] at this
  cases this

theorem opIn_round {l n : Nat} {P : Program} {ops : Array Oper} {Q : Exit → Act → World → Prop} (hL : ¬ LetsOut Q) {i : Nat} (hd : noDefer ops = true) {K : Act → World → Prop} {a : Act} {w : World} (h : wpOp P ops Q i K a w) : wpOpIn (Fence.wide.inRound l) n P ops Q i K a w := by
  unfold wpOp at h
  unfold wpOpIn
  cases ho : ops[i]? with
  | none => simp only [ho] at h ⊢; exact h
  | some o =>
    simp only [ho] at h ⊢
    by_cases hw : Region.wanted o (yielded ops a.tmps) = true
    · rw [if_pos hw] at h ⊢
      rcases h with h | h
      · refine ⟨fun _ _ => trivial, ?_⟩
        have hr : (Fence.wide.inRound l).round = some l := rfl
        rw [hr, Oper.semAt_some l _ o (noDefer_spec hd ho)]
        unfold Oper.wp at h
        have hdp : (Fence.wide.inRound l).depth.isSome = true → 1 ≤ n := fun h => by cases h
        generalize (execOp a.eval o).run P w = r at *
        cases r with
        | ok x w' =>
          cases x with
          | value v => exact h
          | skip => exact h
          | defer d => exact h
          | enter f args => exact ⟨hdp, CallsIn.inRound l ((callsIn_wide.2 h).mono fun e w'' he => by cases e <;> exact he)⟩
          | row row args => exact ⟨hdp, fun c cs _ => let ⟨v, w'', r, s⟩ := h c cs; ⟨v, w'', r, (stepsIn_wide (P := P)).2 s⟩⟩
          | round _ _ _ _ _ => exact h.elim
          | _ => exact h.elim
        | halt x w' =>
          cases x <;> first | exact h | exact h.elim
      · exact absurd h.2 hL
    · rw [if_neg hw] at h ⊢
      exact ⟨fun _ _ => trivial, h⟩

theorem anyIn_round {l n : Nat} {P : Program} {md : Region.Mode} {ops : Array Oper} {Q : Exit → Act → World → Prop} (hL : ¬ LetsOut Q) (hd : noDefer ops = true) : ∀ (fuel : Nat) (listed : Array Bool) (a : Act) (w : World), wpAny P md ops Q fuel listed a w → wpAnyIn (Fence.wide.inRound l) n P md ops Q fuel listed a w
  | 0, _, _, _, h => h
  | fuel + 1, _, _, _, h => ⟨h.1, fun i hi => opIn_round hL hd (wpOp_mono (fun a w h => anyIn_round hL hd fuel _ a w h) (h.2 i hi))⟩

/-- A region in a round, walked as anywhere: the loads first. -/
theorem round_held {l n id : Nat} {P : Program} {ops : Array Oper} {Q : Exit → Act → World → Prop} {S : World → Prop} {a : Act} {w : World} (hm : P.follows .mixedOrders = true) (hd : noDefer ops = true) (hL : ¬ LetsOut Q)
    (h : wpAnyH P .any ops Q S ops.size (Array.replicate ops.size false) a w.drew) : (Code.region id ops true).wpIn (Fence.wide.inRound l) n P Q a w :=
  wpIn_region_any hm (anyIn_round hL hd _ _ _ _ (wpAny_of_held _ _ _ _ h))

end Go.Proofs.Ytjlgccfibkcgbaa
