import Derived.Test.YtpnecblofjpgfaaGreatDoorMatQ
namespace Go.Proofs.YtpnecblofjpgfaaGreatDoor
open Go.RowKit Go.Shelf

/-- From where on parts may reach an end. -/
def ToC (C : MC) (ps : List Part) : Prop := ∀ (i : Int) (e : Nat) (w : World) (D : DataW Value), AtW C i ps → e ≤ C.s.size → MS C w D →
  Calls Tryz.prog 60 #[.pointer (some ⟨C.mb, 0, none⟩), .int .i64 i, .int .i64 (e : Nat)] w (EndsP C w (fun p => SeqR C.s ps p e))

set_option maxRecDepth 100000 in
set_option maxHeartbeats 1000000 in
theorem listTo_nil (C : MC) (ok : C.Ok) : ToC C [] := by
  intro i e w D hA he h
  have hi := hA.at_.nil
  subst hi
  have hb : Below w.heap.size w (((w.alloc (.cells #[.pointer (some ⟨C.mb, 0, none⟩)] 43)).alloc (.cells #[.int .i64 (-1)] 3)).alloc (.cells #[.int .i64 (e : Nat)] 3)) := (((Below.refl _ _).alloc (Nat.le_refl _) _).alloc (by simp) _).alloc (by simp; omega) _
  have B1 := ((Blk.new w #[.pointer (some ⟨C.mb, 0, none⟩)] 43).alloc (.cells #[.int .i64 (-1)] 3)).alloc (.cells #[.int .i64 (e : Nat)] 3)
  have B2 : Blk (((w.alloc (.cells #[.pointer (some ⟨C.mb, 0, none⟩)] 43)).alloc (.cells #[.int .i64 (-1)] 3)).alloc (.cells #[.int .i64 (e : Nat)] 3)) (w.heap.size + 1) #[.int .i64 (-1)] 3 := (Blk.newAt (by simp)).alloc _
  have B3 : Blk (((w.alloc (.cells #[.pointer (some ⟨C.mb, 0, none⟩)] 43)).alloc (.cells #[.int .i64 (-1)] 3)).alloc (.cells #[.int .i64 (e : Nat)] 3)) (w.heap.size + 1 + 1) #[.int .i64 (e : Nat)] 3 := Blk.newAt (by simp)
  have k1 := B1.cell 0 rfl
  have k2 := B2.cell 0 rfl
  have k3 := B3.cell 0 rfl
  have HO := hide (only_any C ok e he _ D (h.below hb))
  have HH := hide (And.intro h hb)
  clear h hb hA B1 B2 B3
  go_enter Tryz.func60, Tryz.ntmps60
  go_wp2_with fail
  refine HO.out.mono ?_
  rintro e1 w1 ⟨y, rfl, hy, hb1⟩
  obtain ⟨gy, cy, rfl, -, -⟩ := hy.form
  have HY := hide (And.intro hy hb1)
  clear hy hb1
  go_wp2_with fail
  go_ret
  exact ⟨_, D, rfl, HY.out.1.congr (fun p => by simp only [SeqR]), (HH.out.1.below HH.out.2).below HY.out.2, (Kp.below HH.out.2).trans (Kp.below HY.out.2)⟩

theorem listTo1_enters : Enters 80 := fun a w => by simp [go_sem]

set_option maxRecDepth 100000 in
set_option maxHeartbeats 1000000 in
theorem listTo1_any (C : MC) (ok : C.Ok) (x : Part) (xs : List Part) (ihl : ToC C xs) (j : Nat) (hA : AtW C (j : Int) (x :: xs)) (e : Nat) (he : e ≤ C.s.size) (b1 b2 b3 : Nat) (w : World) (D : DataW Value) (h : MS C w D)
    (hb1 : Blk w b1 #[.pointer (some ⟨C.mb, 0, none⟩)] 43) (hb2 : Blk w b2 #[.int .i64 (j : Nat)] 3) (hb3 : Blk w b3 #[.int .i64 (e : Nat)] 3) :
    Calls Tryz.prog 80 #[.pointer (some ⟨b1, 0, none⟩), .pointer (some ⟨b2, 0, none⟩), .pointer (some ⟨b3, 0, none⟩)] w (EndsP C w (fun p => SeqR C.s (x :: xs) p e)) := by
  obtain ⟨j', P, hj', hjl, hP, hnx, -⟩ := hA.cons
  obtain rfl : j = j' := by omega
  obtain ⟨g, cap, hpv, hgl, hcap⟩ := h.parts hP.get
  have hji : (j : Int) < (C.all.length : Nat) := by omega
  have hfew := ok.few
  have k1 : w.cell? ⟨b1, 0, none⟩ = some (.pointer (some ⟨C.mb, 0, none⟩)) := hb1.cell 0 rfl
  have k2 : w.cell? ⟨b2, 0, none⟩ = some (.int .i64 (j : Nat)) := hb2.cell 0 rfl
  have k3 : w.cell? ⟨b3, 0, none⟩ = some (.int .i64 (e : Nat)) := hb3.cell 0 rfl
  have mm0 : w.cell? ⟨C.mb, 0, none⟩ = some (.pointer (some ⟨C.xb, 0, none⟩)) := h.m.cell 0 rfl
  have xx2 : w.cell? ⟨C.xb, 2, none⟩ = some (.slice (some ⟨g, 0, none⟩) C.all.length cap) := by rw [← hpv]; exact h.x.cell 2 rfl
  have hfl := h.flat
  rw [hpv] at hfl
  obtain ⟨-, -, -, -, -, -, d6, -, -⟩ := part_cells hfl hP.get
  have HH := hide (And.intro h hA)
  have HL := hide (ihl P.next e _ D hnx he h.drew)
  clear h hnx hfl hP hb1 hb2 hb3 hA
  go_enter Tryz.func80, Tryz.ntmps80
  go_wp2_with fail
  go_region_held3 (fun w' => w'.cell? ⟨b1, 0, none⟩ = some (.pointer (some ⟨C.mb, 0, none⟩)) ∧ w'.cell? ⟨b2, 0, none⟩ = some (.int .i64 (j : Nat)) ∧ w'.cell? ⟨b3, 0, none⟩ = some (.int .i64 (e : Nat)) ∧ w'.cell? ⟨C.mb, 0, none⟩ = some (.pointer (some ⟨C.xb, 0, none⟩)) ∧ w'.cell? ⟨C.xb, 2, none⟩ = some (.slice (some ⟨g, 0, none⟩) C.all.length cap) ∧ w'.cell? ⟨g, j * 9 + 6, none⟩ = some (.int .i64 P.next)) (go_keep)
    (first
      | (go_at_call 60; refine HL.out.mono ?_; rintro e1 w4 ⟨y, D4, rfl, hy, h4, K4⟩; have l1 := cell_kp HH.out.1.drew K4 k1; have l2 := cell_kp HH.out.1.drew K4 k2; have l3 := cell_kp HH.out.1.drew K4 k3; have l4 := cell_kp HH.out.1.drew K4 mm0; have l5 := cell_kp HH.out.1.drew K4 xx2; have l6 := cell_kp HH.out.1.drew K4 d6; obtain ⟨gy, cy, rfl, -, -⟩ := hy.form)
      | (go_at_call 56; refine (copiesBegin_any C ok x xs (kidsB_all C ok x) j HH.out.2 0 (by have := HH.out.2.counts; omega) (by omega) _ _ _ D4 h4 hy).mono ?_; rintro e2 w5 ⟨z, D5, rfl, hz, h5, K5⟩; have n1 := cell_kp h4 K5 l1; have n2 := cell_kp h4 K5 l2; have n3 := cell_kp h4 K5 l3; have n4 := cell_kp h4 K5 l4; have n5 := cell_kp h4 K5 l5; have n6 := cell_kp h4 K5 l6; obtain ⟨gz, cz, rfl, -, -⟩ := hz.form))
  go_wp2_with fail
  go_ret
  refine ⟨_, D5, rfl, hz.congr (fun p => ?_), h5, K4.undrew.trans K5⟩
  simp only [SeqR]
  constructor
  · rintro ⟨r, h1, h2⟩; exact ⟨r, h2, h1⟩
  · rintro ⟨r, h1, h2⟩; exact ⟨r, h2, h1⟩

set_option maxRecDepth 100000 in
set_option maxHeartbeats 1000000 in
theorem listTo_cons (C : MC) (ok : C.Ok) (x : Part) (xs : List Part) (ihl : ToC C xs) : ToC C (x :: xs) := by
  intro i e w D hA he h
  obtain ⟨j, P, rfl, hjl, -, -, -⟩ := hA.cons
  have hne : ((j : Int) == -1) = false := by simp
  have hmf : ∀ (fn : Fn) (first cap : Array Value) (w : World), (Instr.makeFunc fn first cap).run Tryz.prog w = .ok (.func fn first cap) w := fun _ _ _ _ => rfl
  have hb : Below w.heap.size w (((w.alloc (.cells #[.pointer (some ⟨C.mb, 0, none⟩)] 43)).alloc (.cells #[.int .i64 (j : Nat)] 3)).alloc (.cells #[.int .i64 (e : Nat)] 3)) := (((Below.refl _ _).alloc (Nat.le_refl _) _).alloc (by simp) _).alloc (by simp; omega) _
  have B1 := ((Blk.new w #[.pointer (some ⟨C.mb, 0, none⟩)] 43).alloc (.cells #[.int .i64 (j : Nat)] 3)).alloc (.cells #[.int .i64 (e : Nat)] 3)
  have B2 : Blk (((w.alloc (.cells #[.pointer (some ⟨C.mb, 0, none⟩)] 43)).alloc (.cells #[.int .i64 (j : Nat)] 3)).alloc (.cells #[.int .i64 (e : Nat)] 3)) (w.heap.size + 1) #[.int .i64 (j : Nat)] 3 := (Blk.newAt (by simp)).alloc _
  have B3 : Blk (((w.alloc (.cells #[.pointer (some ⟨C.mb, 0, none⟩)] 43)).alloc (.cells #[.int .i64 (j : Nat)] 3)).alloc (.cells #[.int .i64 (e : Nat)] 3)) (w.heap.size + 1 + 1) #[.int .i64 (e : Nat)] 3 := Blk.newAt (by simp)
  have k1 := B1.cell 0 rfl
  have k2 := B2.cell 0 rfl
  have k3 := B3.cell 0 rfl
  have hu : InU C (j : Int) (-2) (e : Int) := ⟨by omega, by omega, by omega, by omega, by omega, by omega⟩
  have h1 := h.below hb
  have HK := hide (kept_any C ok (j : Int) (-2) (e : Int) hu 80 #[.pointer (some ⟨w.heap.size, 0, none⟩), .pointer (some ⟨w.heap.size + 1, 0, none⟩), .pointer (some ⟨w.heap.size + 1 + 1, 0, none⟩)] listTo1_enters _ D h1 (fun w1 D1 h2 K2 => (listTo1_any C ok x xs ihl j hA e he _ _ _ w1 D1 h2 (B1.kpm h1 K2) (B2.kpm h1 K2) (B3.kpm h1 K2)).mono fun e1 w2 hh => hh.congr fun q => (hA.seq q e).symm))
  have HH := hide (And.intro hA hb)
  clear h hA h1 hb B1 B2 B3 hu
  go_enter Tryz.func60, Tryz.ntmps60
  go_wp2_with fail
  refine HK.out.mono ?_
  rintro e1 w1 ⟨y, D1, rfl, hy, h1, K1⟩
  obtain ⟨gy, cy, rfl, -, -⟩ := hy.form
  have HY := hide (And.intro hy (And.intro h1 K1))
  clear hy h1 K1
  go_wp2_with fail
  go_ret
  exact ⟨_, D1, rfl, HY.out.1.congr (fun p => HH.out.1.seq p e), HY.out.2.1, (Kp.below HH.out.2).trans HY.out.2.2⟩

theorem to_all (C : MC) (ok : C.Ok) : ∀ ps : List Part, ToC C ps
  | [] => listTo_nil C ok
  | x :: xs => listTo_cons C ok x xs (to_all C ok xs)

theorem copiesTo1_enters : Enters 103 := fun a w => by simp [go_sem]

set_option maxRecDepth 100000 in
set_option maxHeartbeats 1000000 in
theorem copiesTo1_any (C : MC) (ok : C.Ok) (x : Part) (xs : List Part) (j : Nat) (hA : AtW C (j : Int) (x :: xs)) (made : Nat) (hmd : x.mx < 0 ∨ (made : Int) ≤ x.mx) (hmd2 : made ≤ 1048576) (e : Nat) (he : e ≤ C.s.size) (b1 b2 b3 b4 : Nat) (w : World) (D : DataW Value) (h : MS C w D)
    (hb1 : Blk w b1 #[.pointer (some ⟨C.mb, 0, none⟩)] 43) (hb2 : Blk w b2 #[.int .i64 (j : Nat)] 3) (hb3 : Blk w b3 #[.int .i64 (made : Nat)] 3) (hb4 : Blk w b4 #[.int .i64 (e : Nat)] 3) :
    Calls Tryz.prog 103 #[.pointer (some ⟨b1, 0, none⟩), .pointer (some ⟨b2, 0, none⟩), .pointer (some ⟨b3, 0, none⟩), .pointer (some ⟨b4, 0, none⟩)] w (EndsP C w (fun p => Copies (AtomR C.s x) x.mn x.mx made p e)) := by
  have k1 : w.cell? ⟨b1, 0, none⟩ = some (.pointer (some ⟨C.mb, 0, none⟩)) := hb1.cell 0 rfl
  have k2 : w.cell? ⟨b2, 0, none⟩ = some (.int .i64 (j : Nat)) := hb2.cell 0 rfl
  have k3 : w.cell? ⟨b3, 0, none⟩ = some (.int .i64 (made : Nat)) := hb3.cell 0 rfl
  have k4 : w.cell? ⟨b4, 0, none⟩ = some (.int .i64 (e : Nat)) := hb4.cell 0 rfl
  have HH := hide (And.intro h hA)
  have HL := hide (only_any C ok e he _ D h.drew)
  clear h hb1 hb2 hb3 hb4 hA
  go_enter Tryz.func103, Tryz.ntmps103
  go_wp2_with fail
  go_region_held3 (fun w' => w'.cell? ⟨b1, 0, none⟩ = some (.pointer (some ⟨C.mb, 0, none⟩)) ∧ w'.cell? ⟨b2, 0, none⟩ = some (.int .i64 (j : Nat)) ∧ w'.cell? ⟨b3, 0, none⟩ = some (.int .i64 (made : Nat)) ∧ w'.cell? ⟨b4, 0, none⟩ = some (.int .i64 (e : Nat))) (go_keep)
    (first
      | (go_at_call 38; refine HL.out.mono ?_; rintro e1 w4 ⟨y, rfl, hy, hb4⟩; have l1 := cell_below hb4 k1; have l2 := cell_below hb4 k2; have l3 := cell_below hb4 k3; have l4 := cell_below hb4 k4; have h4 := HH.out.1.drew.below hb4; obtain ⟨gy, cy, rfl, -, -⟩ := hy.form)
      | (go_at_call 56; refine (copiesBegin_any C ok x xs (kidsB_all C ok x) j HH.out.2 made hmd hmd2 _ _ _ D h4 hy).mono ?_; rintro e2 w5 ⟨z, D5, rfl, hz, h5, K5⟩; have n1 := cell_kp h4 K5 l1; have n2 := cell_kp h4 K5 l2; have n3 := cell_kp h4 K5 l3; have n4 := cell_kp h4 K5 l4; obtain ⟨gz, cz, rfl, -, -⟩ := hz.form))
  go_wp2_with fail
  go_ret
  refine ⟨_, D5, rfl, hz.congr (fun p => ?_), h5, (Kp.below (b := C.mm) hb4).undrew.trans K5⟩
  constructor
  · rintro ⟨q, rfl, hc⟩; exact hc
  · intro hc; exact ⟨e, rfl, hc⟩

set_option maxRecDepth 100000 in
set_option maxHeartbeats 2000000 in
theorem copiesTo_any (C : MC) (ok : C.Ok) (x : Part) (xs : List Part) (j : Nat) (hA : AtW C (j : Int) (x :: xs)) (made : Nat) (hmd : x.mx < 0 ∨ (made : Int) ≤ x.mx) (e : Nat) (he : e ≤ C.s.size) (w : World) (D : DataW Value) (h : MS C w D) :
    Calls Tryz.prog 81 #[.pointer (some ⟨C.mb, 0, none⟩), .int .i64 (j : Nat), .int .i64 (made : Nat), .int .i64 (e : Nat)] w (EndsP C w (fun p => Copies (AtomR C.s x) x.mn x.mx made p e)) := by
  obtain ⟨j', P, hj', hjl, hP, -, -⟩ := hA.cons
  obtain rfl : j = j' := by omega
  obtain ⟨g, cap, hpv, hgl, hcap⟩ := h.parts hP.get
  have hji : (j : Int) < (C.all.length : Nat) := by omega
  have hfew := ok.few
  have hmf : ∀ (fn : Fn) (first cap : Array Value) (w : World), (Instr.makeFunc fn first cap).run Tryz.prog w = .ok (.func fn first cap) w := fun _ _ _ _ => rfl
  obtain ⟨W1, hW1⟩ : ∃ W1, W1 = (((w.alloc (.cells #[.pointer (some ⟨C.mb, 0, none⟩)] 43)).alloc (.cells #[.int .i64 (j : Nat)] 3)).alloc (.cells #[.int .i64 (made : Nat)] 3)).alloc (.cells #[.int .i64 (e : Nat)] 3) := ⟨_, rfl⟩
  have hb : Below w.heap.size w W1 := by rw [hW1]; exact ((((Below.refl _ _).alloc (Nat.le_refl _) _).alloc (by simp) _).alloc (by simp; omega) _).alloc (by simp; omega) _
  have B1 : Blk W1 w.heap.size #[.pointer (some ⟨C.mb, 0, none⟩)] 43 := by rw [hW1]; exact (((Blk.new w _ _).alloc _).alloc _).alloc _
  have B2 : Blk W1 (w.heap.size + 1) #[.int .i64 (j : Nat)] 3 := by rw [hW1]; exact ((Blk.newAt (by simp)).alloc _).alloc _
  have B3 : Blk W1 (w.heap.size + 1 + 1) #[.int .i64 (made : Nat)] 3 := by rw [hW1]; exact (Blk.newAt (by simp)).alloc _
  have B4 : Blk W1 (w.heap.size + 1 + 1 + 1) #[.int .i64 (e : Nat)] 3 := by rw [hW1]; exact Blk.newAt (by simp)
  have h1 := h.below hb
  have HH := hide (And.intro h (And.intro hA (And.intro hb (And.intro B1 (And.intro B2 (And.intro B3 (And.intro B4 h1)))))))
  have k1 := B1.cell 0 rfl
  have k2 := B2.cell 0 rfl
  have k3 := B3.cell 0 rfl
  have k4 := B4.cell 0 rfl
  have f3 := B3.fz 0
  have mm0 : W1.cell? ⟨C.mb, 0, none⟩ = some (.pointer (some ⟨C.xb, 0, none⟩)) := h1.m.cell 0 rfl
  have xx2 : W1.cell? ⟨C.xb, 2, none⟩ = some (.slice (some ⟨g, 0, none⟩) C.all.length cap) := by rw [← hpv]; exact h1.x.cell 2 rfl
  have hfl := h1.flat
  rw [hpv] at hfl
  obtain ⟨-, -, -, -, -, -, -, d7, d8⟩ := part_cells hfl hP.get
  rw [hP.least] at d7
  rw [hP.most] at d8
  clear h hA hb B1 B2 B3 B4 h1 hfl hP
  go_enter Tryz.func81, Tryz.ntmps81
  go_upto_region 1 with fail
  rw [← hW1]
  obtain ⟨cv, hcv⟩ : ∃ cv, cv = countedV x.mn (mxV x.mx) made := ⟨_, rfl⟩
  obtain ⟨S, hS⟩ : ∃ S : World → Prop, S = fun w' => w'.cell? ⟨w.heap.size, 0, none⟩ = some (.pointer (some ⟨C.mb, 0, none⟩)) ∧ w'.cell? ⟨w.heap.size + 1, 0, none⟩ = some (.int .i64 (j : Nat)) ∧ w'.cell? ⟨C.mb, 0, none⟩ = some (.pointer (some ⟨C.xb, 0, none⟩)) ∧ w'.cell? ⟨C.xb, 2, none⟩ = some (.slice (some ⟨g, 0, none⟩) C.all.length cap) := ⟨_, rfl⟩
  have hSp : ∀ V, S V → V.cell? ⟨w.heap.size, 0, none⟩ = some (.pointer (some ⟨C.mb, 0, none⟩)) ∧ V.cell? ⟨w.heap.size + 1, 0, none⟩ = some (.int .i64 (j : Nat)) ∧ V.cell? ⟨C.mb, 0, none⟩ = some (.pointer (some ⟨C.xb, 0, none⟩)) ∧ V.cell? ⟨C.xb, 2, none⟩ = some (.slice (some ⟨g, 0, none⟩) C.all.length cap) := fun V h => by rw [hS] at h; exact h
  have hS0 : S W1.drew := by rw [hS]; exact ⟨k1, k2, mm0, xx2⟩
  have hset : W1.heap[w.heap.size + 1 + 1]? = some (.cells #[.int .i64 (made : Nat)] 3) := HH.out.2.2.2.2.2.1
  have hbW := HH.out.2.2.1.size
  obtain ⟨W2, hW2⟩ : ∃ W2, W2 = (W1.setCell ⟨w.heap.size + 1 + 1, 0, none⟩ (.int .i64 cv)).drew := ⟨_, rfl⟩
  have hS2 : S W2 := by
    have o : ∀ {p : Addr} {v : Value}, p.block ≠ w.heap.size + 1 + 1 → W1.cell? p = some v → W2.cell? p = some v := fun {p v} hp hc => by
      rw [hW2]
      exact (World.cell?_of_block (Below.heap_setCell W1 ⟨w.heap.size + 1 + 1, 0, none⟩ (.int .i64 cv) p.block hp)).trans hc
    rw [hS]
    have hm := HH.out.1.m.lt
    have hx := HH.out.1.x.lt
    exact ⟨o (by show w.heap.size ≠ w.heap.size + 1 + 1; omega) k1, o (by show w.heap.size + 1 ≠ w.heap.size + 1 + 1; omega) k2, o (by show C.mb ≠ w.heap.size + 1 + 1; omega) mm0, o (by show C.xb ≠ w.heap.size + 1 + 1; omega) xx2⟩
  have HCN := hide (counted_any g (j * 9) x.mn (mxV x.mx) made W1.drew d7 d8)
  rw [← hcv] at HCN
  have HW2 := hide hW2
  have HCV := hide hcv
  have e3 : W1.drew.cell? ⟨w.heap.size + 1 + 1, 0, none⟩ = some (.int .i64 (made : Nat)) := k3
  have e3f : W1.drew.frozen? ⟨w.heap.size + 1 + 1, 0, none⟩ = false := f3
  have hW2' : W1.drew.setCell ⟨w.heap.size + 1 + 1, 0, none⟩ (.int .i64 cv) = W2 := by rw [hW2]; rfl
  clear hW1 hS hset hcv hW2 d7 d8
  refine wp_region_held (S := S) (by kernel_rfl) ?_
  refine wpAnyH_take (i := 0) (v := (.pointer (some ⟨C.mb, 0, none⟩))) rfl (by kernel_rfl) (by kernel_rfl) (by kernel_rfl) (fun _ _ _ h => h) (Or.inl ⟨by rfl, fun V hV => by obtain ⟨s0, s1, s2, s3⟩ := hSp V hV; go_simp⟩) hS0 ?_
  refine wpAnyH_take (i := 1) (v := (.pointer (some ⟨C.mb, 0, none⟩))) rfl (by kernel_rfl) (by kernel_rfl) (by kernel_rfl) (fun _ _ _ h => h) (Or.inl ⟨by rfl, fun V hV => by obtain ⟨s0, s1, s2, s3⟩ := hSp V hV; go_simp⟩) hS0 ?_
  refine wpAnyH_take (i := 2) (v := (.pointer (some ⟨C.mb, 0, none⟩))) rfl (by kernel_rfl) (by kernel_rfl) (by kernel_rfl) (fun _ _ _ h => h) (Or.inl ⟨by rfl, fun V hV => by obtain ⟨s0, s1, s2, s3⟩ := hSp V hV; go_simp⟩) hS0 ?_
  refine wpAnyH_take (i := 3) (v := (.pointer (some ⟨C.xb, 0, none⟩))) rfl (by kernel_rfl) (by kernel_rfl) (by kernel_rfl) (fun _ _ _ h => h) (Or.inl ⟨by rfl, fun V hV => by obtain ⟨s0, s1, s2, s3⟩ := hSp V hV; go_simp⟩) hS0 ?_
  refine wpAnyH_take (i := 4) (v := (.pointer (some ⟨C.xb, 0, none⟩))) rfl (by kernel_rfl) (by kernel_rfl) (by kernel_rfl) (fun _ _ _ h => h) (Or.inl ⟨by rfl, fun V hV => by obtain ⟨s0, s1, s2, s3⟩ := hSp V hV; go_simp⟩) hS0 ?_
  refine wpAnyH_take (i := 5) (v := (.pointer (some ⟨C.xb, 2, none⟩))) rfl (by kernel_rfl) (by kernel_rfl) (by kernel_rfl) (fun _ _ _ h => h) (Or.inl ⟨by rfl, fun V hV => by obtain ⟨s0, s1, s2, s3⟩ := hSp V hV; go_simp⟩) hS0 ?_
  refine wpAnyH_take (i := 6) (v := (.slice (some ⟨g, 0, none⟩) C.all.length cap)) rfl (by kernel_rfl) (by kernel_rfl) (by kernel_rfl) (fun _ _ _ h => h) (Or.inl ⟨by rfl, fun V hV => by obtain ⟨s0, s1, s2, s3⟩ := hSp V hV; go_simp⟩) hS0 ?_
  refine wpAnyH_take (i := 7) (v := (.int .i64 (j : Nat))) rfl (by kernel_rfl) (by kernel_rfl) (by kernel_rfl) (fun _ _ _ h => h) (Or.inl ⟨by rfl, fun V hV => by obtain ⟨s0, s1, s2, s3⟩ := hSp V hV; go_simp⟩) hS0 ?_
  refine wpAnyH_take (i := 8) (v := (.pointer (some ⟨g, j * 9, none⟩))) rfl (by kernel_rfl) (by kernel_rfl) (by kernel_rfl) (fun _ _ _ h => h) (Or.inl ⟨by rfl, fun V hV => by obtain ⟨s0, s1, s2, s3⟩ := hSp V hV; go_simp⟩) hS0 ?_
  refine wpAnyH_ready (rs := [9]) (by kernel_rfl) (by simp) ?_
  refine AllReadyH.cons rfl (fun K hK => ?_) AllReadyH.nil
  go_simp
  refine hK.out _ _ hS0 (fun _ => ?_)
  clear hK K
  refine wpAnyH_ready (rs := [10]) (by kernel_rfl) (by simp) ?_
  refine AllReadyH.cons rfl (fun K hK => ?_) AllReadyH.nil
  go_simp
  refine HCN.out.mono ?_
  rintro e1 w2 ⟨rfl, rfl⟩
  refine hK.out _ _ hS0 (fun _ => ?_)
  clear hK K
  refine wpAnyH_ready (rs := [11]) (by kernel_rfl) (by simp) ?_
  refine AllReadyH.cons rfl (fun K hK => ?_) AllReadyH.nil
  go_simp
  refine hK.out _ _ hS2 (fun _ => ?_)
  clear hK K
  refine wpAnyH_done (by kernel_rfl) ?_ _
  obtain ⟨h, hA, hb, B1, B2, B3, B4, h1⟩ := HH.out
  obtain ⟨m0, m9, x9, hmm⟩ := hA.counts
  have hcin := counted_in m0 m9 x9 hmd
  have hcs := fun p => counted_same (A := AtomR C.s x) (made := made) m0 x9 p e
  rw [← HCV.out] at hcin hcs
  obtain ⟨c, rfl⟩ : ∃ c : Nat, cv = (c : Int) := ⟨cv.toNat, by omega⟩
  rw [Int.toNat_natCast] at hcs
  have h2 : MS C W2 D := by rw [HW2.out]; exact (h1.setInt B3 0 (.int .i64 (c : Int))).drew
  have C1 : Blk W2 w.heap.size #[.pointer (some ⟨C.mb, 0, none⟩)] 43 := by rw [HW2.out]; exact B1.other (by show w.heap.size + 1 + 1 ≠ w.heap.size; omega) _
  have C2 : Blk W2 (w.heap.size + 1) #[.int .i64 (j : Nat)] 3 := by rw [HW2.out]; exact B2.other (by show w.heap.size + 1 + 1 ≠ w.heap.size + 1; omega) _
  have C3 : Blk W2 (w.heap.size + 1 + 1) #[.int .i64 (c : Int)] 3 := by rw [HW2.out]; exact B3.set 0 _ rfl
  have C4 : Blk W2 (w.heap.size + 1 + 1 + 1) #[.int .i64 (e : Nat)] 3 := by rw [HW2.out]; exact B4.other (by show w.heap.size + 1 + 1 ≠ w.heap.size + 1 + 1 + 1; omega) _
  have K2 : Kp C.mm w W2 := by rw [HW2.out]; exact ((Kp.below (b := C.mm) hb).setNew (p := ⟨w.heap.size + 1 + 1, 0, none⟩) (by show w.heap.size ≤ w.heap.size + 1 + 1; omega) _).drew
  have hu : InU C (j : Int) (c : Int) (e : Int) := ⟨by omega, by omega, by omega, by omega, by omega, by omega⟩
  have q1 := C1.cell 0 rfl
  have q2 := C2.cell 0 rfl
  have q3 := C3.cell 0 rfl
  have q4 := C4.cell 0 rfl
  have HK := hide (kept_any C ok (j : Int) (c : Int) (e : Int) hu 103 #[.pointer (some ⟨w.heap.size, 0, none⟩), .pointer (some ⟨w.heap.size + 1, 0, none⟩), .pointer (some ⟨w.heap.size + 1 + 1, 0, none⟩), .pointer (some ⟨w.heap.size + 1 + 1 + 1, 0, none⟩)] copiesTo1_enters _ D h2 (fun w1 D1 h3 K3 => (copiesTo1_any C ok x xs j hA c hcin.2.2 (by omega) e he _ _ _ _ w1 D1 h3 (C1.kpm h2 K3) (C2.kpm h2 K3) (C3.kpm h2 K3) (C4.kpm h2 K3)).mono fun e1 w2 hh => hh.congr fun q => (hA.copies c q e).symm))
  have HE := hide (And.intro hA (And.intro K2 hcs))
  clear hW2' hS2 hSp hS0 HH HCN HW2 h hA hb B1 B2 B3 B4 h1 hcin hcs h2 C1 C2 C3 C4 K2 hu e3 e3f k1 k2 k3 k4 f3 mm0 xx2 HCV hbW hmm
  go_wp2_with fail
  refine HK.out.mono ?_
  rintro e1 w1 ⟨y, D1, rfl, hy, h1, K1⟩
  obtain ⟨gy, cy, rfl, -, -⟩ := hy.form
  have HY := hide (And.intro hy (And.intro h1 K1))
  clear hy h1 K1
  go_wp2_with fail
  go_ret
  exact ⟨_, D1, rfl, HY.out.1.congr (fun p => (HE.out.1.copies c p e).trans (HE.out.2.2 p)), HY.out.2.1, HE.out.2.1.trans HY.out.2.2⟩
end Go.Proofs.YtpnecblofjpgfaaGreatDoor

namespace Go.Proofs.YtpnecblofjpgfaaGreatDoor
open Go.RowKit Go.Shelf

/-- A row of ints. -/
def Ints (w : World) (v : Value) (ss : List Int) : Prop := w.ownsRow 0 3 1 v ss.length (ss.map fun x => Value.int .i64 x)

theorem Ints.agree {w w' : World} {v : Value} {ss : List Int} (h : Ints w v ss) (hk : ∀ k, v.ownBlock = some k → w'.heap[k]? = w.heap[k]?) : Ints w' v ss := by
  refine ⟨h.1, ?_⟩
  rcases h.2 with hn | ⟨g, cap, cur, rfl, h0, hg, rest⟩
  · exact .inl hn
  · exact .inr ⟨g, cap, cur, rfl, h0, by rw [hk g rfl]; exact hg, rest⟩
theorem Ints.lay {w : World} {v : Value} {ss : List Int} (h : Ints w v ss) (hn : 0 < ss.length) : ∃ g cap, v = .slice (some ⟨g, 0, none⟩) ss.length cap ∧ g < w.heap.size ∧ ss.length ≤ cap := by
  rcases h.2 with ⟨h1, h2⟩ | ⟨g, cap, cur, h1, _, hg, hle, _⟩
  · omega
  · exact ⟨g, cap, h1, (Array.getElem?_eq_some_iff.1 hg).1, hle⟩
theorem Ints.cell {w : World} {g n cap : Nat} {ss : List Int} (h : Ints w (.slice (some ⟨g, 0, none⟩) n cap) ss) {i : Nat} (hi : i < ss.length) : w.cell? ⟨g, i, none⟩ = some (.int .i64 (ss.getD i 0)) := by
  have hn : n = ss.length := by
    rcases h.2 with ⟨h1, h2⟩ | ⟨g', cap', cur, h1, _⟩
    · omega
    · cases h1; rfl
  subst hn
  rw [World.ownsRow.cellAt h i (by omega), List.getElem?_map, List.getElem?_eq_getElem hi, List.getD_eq_getElem?_getD, List.getElem?_eq_getElem hi]
  rfl
theorem Ints.put {w : World} {g n cap : Nat} {ss : List Int} (h : Ints w (.slice (some ⟨g, 0, none⟩) n cap) ss) {i : Nat} (hi : i < ss.length) (x : Int) : Ints (w.setCell ⟨g, i, none⟩ (.int .i64 x)) (.slice (some ⟨g, 0, none⟩) n cap) (ss.set i x) := by
  have hn : n = ss.length := by
    rcases h.2 with ⟨h1, h2⟩ | ⟨g', cap', cur, h1, _⟩
    · omega
    · cases h1; rfl
  subst hn
  have := ownsRow_setAt h (j := i) (by omega) (.int .i64 x)
  unfold Ints
  rw [List.length_set, List.map_set]
  exact this
theorem Ints.fz {w : World} {g n cap : Nat} {ss : List Int} (h : Ints w (.slice (some ⟨g, 0, none⟩) n cap) ss) (o : Nat) : w.frozen? ⟨g, o, none⟩ = false := by
  rcases h.2 with ⟨h', _⟩ | ⟨g', cap', cur, h', _, hg', _⟩
  · cases h'
  · simp only [Value.slice.injEq, Option.some.injEq, Addr.mk.injEq, and_true] at h'
    obtain ⟨rfl, -, rfl⟩ := h'
    simp [World.frozen?, hg']

theorem Ints.typed {w : World} {v : Value} {ss : List Int} (h : Ints w v ss) : ∀ k, v.ownBlock = some k → ∃ c, w.heap[k]? = some (.cells c 3) := by
  rcases h.2 with ⟨rfl, _⟩ | ⟨g, cap, cur, rfl, h0, hg, rest⟩
  · intro k hk; cases hk
  · intro k hk
    simp only [Value.ownBlock, Option.some.injEq] at hk
    subst hk
    exact ⟨_, hg⟩
theorem Ints.lt {w : World} {v : Value} {ss : List Int} (h : Ints w v ss) : ∀ k, v.ownBlock = some k → k < w.heap.size := fun k hk => (World.ownsRow.lt h k hk).2

/-- The next copy of a part's atom, from a place on. -/
def NextR (s : ByteArray) (x : Part) (made p q : Nat) : Prop := (made < x.mn ∨ x.mx < 0 ∨ made < x.mx) ∧ AtomR s x p q ∧ (p < q ∨ made < x.mn)

/-- The copies of a part, the longest first, up to the end: how many, and where the last one begins. -/
inductive LoopR (s : ByteArray) (x : Part) (e : Nat) : Nat → Nat → Nat → Nat → Nat → Prop
  | stop {n l : Nat} : x.mn ≤ n → LoopR s x e n e l n l
  | more {n p l r n' l' : Nat} : ((n : Int) < x.mn ∨ p < e) → Best (fun m => NextR s x n p m ∧ Copies (AtomR s x) x.mn x.mx (n + 1) m e) r → LoopR s x e (n + 1) r p n' l' → LoopR s x e n p l n' l'

mutual
/-- What setting the spans does to them. -/
def SpanR (s : ByteArray) : List Part → Nat → Nat → List Int → List Int → Prop
  | [], _, _, ss, ss' => ss' = ss
  | x :: xs, p, e, ss, ss' => ∃ m ss1, Best (fun m => Copies (AtomR s x) x.mn x.mx 0 p m ∧ SeqR s xs m e) m ∧ SpanC s x p m ss ss1 ∧ SpanR s xs m e ss1 ss'
def SpanC (s : ByteArray) : Part → Nat → Nat → List Int → List Int → Prop
  | .mk g kids neg ps mn mx, p, e, ss, ss' => if g = 0 then ss' = ss else ∃ n l, LoopR s (.mk g kids neg ps mn mx) e 0 p p n l ∧ if n = 0 then ss' = ss else SpanR s kids l e ((ss.set (2 * g) l).set (2 * g + 1) e) ss'
end

theorem LoopR.last {s : ByteArray} {x : Part} {e n p l n' l' : Nat} (h : LoopR s x e n p l n' l') : (n' = n ∧ l' = l ∧ p = e) ∨ (n < n' ∧ AtomR s x l' e) := by
  induction h with
  | stop h1 => exact .inl ⟨rfl, rfl, rfl⟩
  | more h1 h2 _ ih =>
    right
    rcases ih with ⟨rfl, rfl, rfl⟩ | ⟨h3, h4⟩
    · exact ⟨by omega, h2.1.1.2.1⟩
    · exact ⟨by omega, h4⟩
theorem LoopR.ge {s : ByteArray} {x : Part} {e n p l n' l' : Nat} (h : LoopR s x e n p l n' l') : p ≤ s.size → l ≤ p → l ≤ l' ∧ l' ≤ s.size := by
  induction h with
  | stop h1 => intro h2 h3; exact ⟨Nat.le_refl _, by omega⟩
  | more h1 h2 _ ih =>
    intro h3 h4
    have hb := AtomR.bound s x _ _ h3 h2.1.1.2.1
    have := ih hb.2 hb.1
    omega


/-- An empty copy more, ahead of the least number. -/
theorem Copies.empties {A : Nat → Nat → Prop} {mn mx : Int} {p : Nat} (ha : A p p) : ∀ (k n : Nat), (mn - n).toNat ≤ k → Copies A mn mx n p p
  | 0, n, h => .stop (by omega)
  | k + 1, n, h => by
    by_cases hn : (n : Int) < mn
    · exact .more (.inl hn) ha (.inr hn) (Copies.empties ha k (n + 1) (by omega))
    · exact .stop (by omega)

theorem Copies.null {A : Nat → Nat → Prop} {mn mx : Int} (hA : ∀ p q, A p q → p ≤ q) {n p q : Nat} (h : Copies A mn mx n p q) : q = p → mn ≤ n ∨ A p p := by
  cases h with
  | stop h => exact fun _ => .inl h
  | more h1 h2 h3 h4 =>
    intro e
    have l1 := hA _ _ h2
    have l2 := h4.low hA
    have : q = _ := e
    right
    rename_i r
    obtain rfl : r = p := by omega
    exact h2

mutual
/-- What may be empty somewhere may be empty anywhere. -/
theorem AtomR.null (s : ByteArray) : ∀ (x : Part) (p q : Nat), AtomR s x p p → AtomR s x q q
  | .mk g kids neg ps mn mx, p, q, h => by
    simp only [AtomR] at h ⊢
    split at h
    · obtain ⟨h1, _⟩ := h; omega
    · next hg => rw [if_neg hg]; exact SeqR.null s kids p q h
theorem SeqR.null (s : ByteArray) : ∀ (l : List Part) (p q : Nat), SeqR s l p p → SeqR s l q q
  | [], p, q, _ => by simp only [SeqR]
  | x :: xs, p, q, h => by
    simp only [SeqR] at h ⊢
    obtain ⟨r, h1, h2⟩ := h
    have l1 := h1.low (fun p q ha => AtomR.low s x p q ha)
    have l2 := SeqR.low s xs r p h2
    obtain rfl : r = p := by omega
    refine ⟨q, ?_, SeqR.null s xs r q h2⟩
    rcases h1.null (fun p q ha => AtomR.low s x p q ha) rfl with h3 | h3
    · exact .stop h3
    · exact Copies.empties (AtomR.null s x r q h3) _ _ (Nat.le_refl _)
end

/-- The first copy may be one that is not empty. -/
theorem copies_swap {A : Nat → Nat → Prop} {mn mx : Int} (hA : ∀ p q, A p q → p ≤ q) (hN : ∀ p q, A p p → A q q) {n p e : Nat} (h : Copies A mn mx n p e) : A p p → p < e → ∃ r, p < r ∧ A p r ∧ Copies A mn mx n r e := by
  induction h with
  | stop _ => intro _ hl; omega
  | @more n p r q h1 h2 h3 h4 ih =>
    intro hp hl
    by_cases hr : p < r
    · refine ⟨r, hr, h2, ?_⟩
      by_cases hn : (n : Int) < mn
      · exact .more (.inl hn) (hN p r hp) (.inr hn) h4
      · exact h4.less n rfl (by omega)
    · have := hA _ _ h2
      obtain rfl : r = p := by omega
      have hn : (n : Int) < mn := by omega
      obtain ⟨r', h5, h6, h7⟩ := ih hp hl
      exact ⟨r', h5, h6, .more (.inl hn) (hN _ _ hp) (.inr hn) h7⟩

/-- The longest next copy. -/
theorem greedy {s : ByteArray} {x : Part} {n p e m : Nat} (hc : Copies (AtomR s x) x.mn x.mx n p e) (hl : p < e) (hm : Best (fun m => AtomR s x p m ∧ Copies (AtomR s x) x.mn x.mx (n + 1) m e) m) :
    p < m ∧ Best (fun m => NextR s x n p m ∧ Copies (AtomR s x) x.mn x.mx (n + 1) m e) m := by
  have hcond : (n : Int) < x.mn ∨ x.mx < 0 ∨ (n : Int) < x.mx := by
    cases hc with
    | stop _ => omega
    | more h1 _ _ _ => exact h1
  have hpm : p < m := by
    have h1 := AtomR.low _ _ _ _ hm.1.1
    by_cases h2 : p < m
    · exact h2
    · obtain rfl : m = p := by omega
      obtain ⟨r, h3, h4, h5⟩ := copies_swap (fun p q ha => AtomR.low s x p q ha) (fun p q ha => AtomR.null s x p q ha) hm.1.2 hm.1.1 hl
      have := hm.2 r ⟨h4, h5⟩
      omega
  exact ⟨hpm, ⟨⟨hcond, hm.1.1, .inl hpm⟩, hm.1.2⟩, fun m' h => hm.2 m' ⟨h.1.2.1, h.2⟩⟩

theorem copies_next {A : Nat → Nat → Prop} {mn mx : Int} {n p e : Nat} (h : Copies A mn mx n p e) (hl : p < e) : ∃ m, A p m ∧ Copies A mn mx (n + 1) m e := by
  cases h with
  | stop _ => omega
  | more _ h2 _ h4 => exact ⟨_, h2, h4⟩

/-- The copies that must be, but have nothing left. -/
theorem LoopR.fill {s : ByteArray} {x : Part} {e : Nat} (ha : AtomR s x e e) : ∀ (k n l : Nat), (n : Int) < x.mn → (x.mn - n).toNat = k + 1 → LoopR s x e n e l x.mn.toNat e
  | k, n, l, h, hk => by
    have hb : Best (fun m => NextR s x n e m ∧ Copies (AtomR s x) x.mn x.mx (n + 1) m e) e :=
      ⟨⟨⟨.inl h, ha, .inr h⟩, Copies.empties ha _ _ (Nat.le_refl _)⟩, fun m hm => hm.2.low (fun p q ha => AtomR.low s x p q ha)⟩
    refine .more (.inl h) hb ?_
    cases k with
    | zero =>
      have : x.mn.toNat = n + 1 := by omega
      rw [this]
      exact .stop (by omega)
    | succ k => exact LoopR.fill ha k (n + 1) e (by omega) (by omega)

theorem loop_end {s : ByteArray} {x : Part} {e n : Nat} (hc : Copies (AtomR s x) x.mn x.mx n e e) (l : Nat) : ((n : Int) < x.mn → LoopR s x e n e l x.mn.toNat e ∧ AtomR s x e e) ∧ (¬ (n : Int) < x.mn → LoopR s x e n e l n l) := by
  refine ⟨fun h => ?_, fun h => .stop (by omega)⟩
  rcases hc.null (fun p q ha => AtomR.low s x p q ha) rfl with h1 | h1
  · omega
  · exact ⟨LoopR.fill h1 ((x.mn - n).toNat - 1) n l h (by omega), h1⟩
end Go.Proofs.YtpnecblofjpgfaaGreatDoor
