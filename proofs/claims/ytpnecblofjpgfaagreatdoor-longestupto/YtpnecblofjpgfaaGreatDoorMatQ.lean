import Derived.Test.YtpnecblofjpgfaaGreatDoorMatM
namespace Go.Proofs.YtpnecblofjpgfaaGreatDoor
open Go.RowKit Go.Shelf

theorem atomR_group {s : ByteArray} {x : Part} (hg : x.g ≠ 0) (p q : Nat) : AtomR s x p q ↔ SeqR s x.kids p q := by
  obtain ⟨g, kids, neg, ps, mn, mx⟩ := x
  simp only [Part.g] at hg
  simp only [AtomR, if_neg hg, Part.kids]
theorem atomR_plain {s : ByteArray} {x : Part} (hg : x.g = 0) (p q : Nat) : AtomR s x p q ↔ q = p + 1 ∧ ByteR s x p := by
  obtain ⟨g, kids, neg, ps, mn, mx⟩ := x
  simp only [Part.g] at hg
  simp only [AtomR, if_pos hg, ByteR, Part.neg, Part.ps]

/-- Where parts may end. -/
def ListE (C : MC) (ps : List Part) : Prop := ∀ (i : Int) (v : Value) (S : Nat → Prop) (w : World) (D : DataW Value), AtW C i ps → MS C w D → PSet w v C.s.size S →
  Calls Tryz.prog 42 #[.pointer (some ⟨C.mb, 0, none⟩), .int .i64 i, v] w (EndsP C w (fun q => ∃ p, S p ∧ SeqR C.s ps p q))

set_option maxRecDepth 100000 in
set_option maxHeartbeats 1000000 in
theorem atomEnds_any (C : MC) (ok : C.Ok) (x : Part) (xs : List Part) (ih : ListE C x.kids) (j : Nat) (hA : AtW C (j : Int) (x :: xs)) (v : Value) (S : Nat → Prop) (w : World) (D : DataW Value) (h : MS C w D) (hv : PSet w v C.s.size S) :
    Calls Tryz.prog 79 #[.pointer (some ⟨C.mb, 0, none⟩), .int .i64 (j : Nat), v] w (EndsP C w (stepR (AtomR C.s x) S)) := by
  obtain ⟨j', P, hj', hjl, hP, -, hin⟩ := hA.cons
  obtain rfl : j = j' := by omega
  obtain ⟨g, cap, hpv, hgl, hcap⟩ := h.parts hP.get
  have hji : (j : Int) < (C.all.length : Nat) := by omega
  have hfew := ok.few
  have hsm := ok.small
  have hfl := h.flat
  rw [hpv] at hfl
  obtain ⟨d0, d1, d2, d3, d4, d5, d6, d7, d8⟩ := part_cells hfl hP.get
  have mm0 : w.cell? ⟨C.mb, 0, none⟩ = some (.pointer (some ⟨C.xb, 0, none⟩)) := h.m.cell 0 rfl
  have xx2 : w.cell? ⟨C.xb, 2, none⟩ = some (.slice (some ⟨g, 0, none⟩) C.all.length cap) := by rw [← hpv]; exact h.x.cell 2 rfl
  obtain ⟨gv, cv, rfl, -, -⟩ := hv.form
  have HH := hide (And.intro h (And.intro hv (And.intro hA hin)))
  by_cases hg : x.g = 0
  · obtain ⟨hg0, hW⟩ := hP.plain hg
    rw [hg0] at d4
    clear h hv hA hin hP hfl hW
    go_enter Tryz.func79, Tryz.ntmps79
    go_wp2_with fail
    obtain ⟨h, hv, hA, -⟩ := HH.out
    have hb1 := (Below.refl w.heap.size w).alloc (Nat.le_refl _) (.cells #[.int .u64 (P.W 0 : Nat), .int .u64 (P.W 1 : Nat), .int .u64 (P.W 2 : Nat), .int .u64 (P.W 3 : Nat), .int .i64 0, .int .i64 P.inner, .int .i64 P.next, .int .i64 P.least, .int .i64 P.most] 104)
    refine (bytesOf_any C ok x xs hg j hA _ D (h.below hb1)).mono ?_
    rintro e w2 ⟨u, D2, rfl, hu, h2, K2⟩
    have hv2 := (hv.below hb1).kp (h.below hb1) K2
    have K0 := (Kp.below (b := C.mm) hb1).trans K2
    obtain ⟨gu, cu, rfl, -, -⟩ := hu.form
    have HE := hide (And.intro hu (And.intro h2 (And.intro K0 hv2)))
    clear h hv hA hb1 hu h2 K2 hv2 K0 d0 d1 d2 d3 d4 d5 d6 d7 d8 mm0 xx2
    go_wp2_with fail
    refine (among_any _ _ _ C.s.size _ _ hsm HE.out.2.2.2 HE.out.1).mono ?_
    rintro e w3 ⟨y, rfl, hy, hb3⟩
    obtain ⟨gy, cy, rfl, -, -⟩ := hy.form
    have HY := hide (And.intro hy hb3)
    clear hy hb3
    go_wp2_with fail
    refine (later_any _ _ C.s.size _ hsm HY.out.1 (fun p hp => by obtain ⟨hlt, _⟩ := hp.2; exact hlt)).mono ?_
    rintro e w4 ⟨z, rfl, hz, hb4⟩
    obtain ⟨gz, cz, rfl, -, -⟩ := hz.form
    have HZ := hide (And.intro hz hb4)
    clear hz hb4
    go_wp2_with fail
    go_ret
    refine ⟨_, D2, rfl, HZ.out.1.congr (fun q => ?_), (HE.out.2.1.below HY.out.2).below HZ.out.2, (HE.out.2.2.1.trans (Kp.below HY.out.2)).trans (Kp.below HZ.out.2)⟩
    constructor
    · rintro ⟨h0, h1, h2⟩
      exact ⟨q - 1, h1, (atomR_plain hg _ _).2 ⟨by omega, h2⟩⟩
    · rintro ⟨p, h1, h2⟩
      obtain ⟨rfl, h3⟩ := (atomR_plain hg _ _).1 h2
      exact ⟨by omega, h1, h3⟩
  · obtain ⟨hg0, -⟩ := hP.group hg
    rw [hg0] at d4
    have hgd : decide (0 < (x.g : Int)) = true := by simp; omega
    clear h hv hA hin hP hfl
    go_enter Tryz.func79, Tryz.ntmps79
    go_wp2_with fail
    obtain ⟨h, hv, hA, hin⟩ := HH.out
    have hb1 := (Below.refl w.heap.size w).alloc (Nat.le_refl _) (.cells #[.int .u64 (P.W 0 : Nat), .int .u64 (P.W 1 : Nat), .int .u64 (P.W 2 : Nat), .int .u64 (P.W 3 : Nat), .int .i64 (x.g : Int), .int .i64 P.inner, .int .i64 P.next, .int .i64 P.least, .int .i64 P.most] 104)
    refine (ih P.inner _ S _ D (hin hg) (h.below hb1) (hv.below hb1)).mono ?_
    rintro e w2 ⟨u, D2, rfl, hu, h2, K2⟩
    obtain ⟨gu, cu, rfl, -, -⟩ := hu.form
    have HE := hide (And.intro hu (And.intro h2 ((Kp.below (b := C.mm) hb1).trans K2)))
    clear h hv hA hb1 hu h2 K2 hin d0 d1 d2 d3 d4 d5 d6 d7 d8 mm0 xx2
    go_wp2_with fail
    go_ret
    exact ⟨_, D2, rfl, HE.out.1.congr (fun q => exists_congr fun p => and_congr_right fun _ => (atomR_group hg p q).symm), HE.out.2.1, HE.out.2.2⟩

theorem partEnds1_enters : Enters 78 := fun a w => by simp [go_sem]

set_option maxRecDepth 100000 in
set_option maxHeartbeats 1000000 in
theorem partEnds1_any (C : MC) (ok : C.Ok) (x : Part) (xs : List Part) (ih : ListE C x.kids) (j : Nat) (hA : AtW C (j : Int) (x :: xs)) (b1 b2 : Nat) (v : Value) (S : Nat → Prop) (w : World) (D : DataW Value) (h : MS C w D) (hv : PSet w v C.s.size S)
    (hb1 : Blk w b1 #[.pointer (some ⟨C.mb, 0, none⟩)] 43) (hb2 : Blk w b2 #[.int .i64 (j : Nat)] 3) :
    Calls Tryz.prog 78 #[v, .pointer (some ⟨b1, 0, none⟩), .pointer (some ⟨b2, 0, none⟩)] w (EndsP C w (stepR (AtomR C.s x) S)) := by
  have k1 : w.cell? ⟨b1, 0, none⟩ = some (.pointer (some ⟨C.mb, 0, none⟩)) := hb1.cell 0 rfl
  have k2 : w.cell? ⟨b2, 0, none⟩ = some (.int .i64 (j : Nat)) := hb2.cell 0 rfl
  have H := hide (atomEnds_any C ok x xs ih j hA v S w D h hv)
  obtain ⟨gv, cv, rfl, -, -⟩ := hv.form
  clear h hv hA hb1 hb2
  go_enter Tryz.func78, Tryz.ntmps78
  go_wp2_with fail
  refine H.out.mono ?_
  rintro e w2 ⟨u, D2, rfl, hu, h2, K2⟩
  obtain ⟨gu, cu, rfl, -, -⟩ := hu.form
  have HE := hide (And.intro hu (And.intro h2 K2))
  clear hu h2 K2
  go_wp2_with fail
  go_ret
  exact ⟨_, D2, rfl, HE.out⟩

set_option maxRecDepth 100000 in
set_option maxHeartbeats 1000000 in
theorem mpartEnds_any (C : MC) (ok : C.Ok) (x : Part) (xs : List Part) (ih : ListE C x.kids) (j : Nat) (hA : AtW C (j : Int) (x :: xs)) (v : Value) (S : Nat → Prop) (w : World) (D : DataW Value) (h : MS C w D) (hv : PSet w v C.s.size S) :
    Calls Tryz.prog 58 #[.pointer (some ⟨C.mb, 0, none⟩), .int .i64 (j : Nat), v] w (EndsP C w (fun q => ∃ p, S p ∧ Copies (AtomR C.s x) x.mn x.mx 0 p q)) := by
  obtain ⟨j', P, hj', hjl, hP, -, -⟩ := hA.cons
  obtain rfl : j = j' := by omega
  obtain ⟨g, cap, hpv, hgl, hcap⟩ := h.parts hP.get
  have hji : (j : Int) < (C.all.length : Nat) := by omega
  have hfew := ok.few
  have hmf : ∀ (fn : Fn) (first cap : Array Value) (w : World), (Instr.makeFunc fn first cap).run Tryz.prog w = .ok (.func fn first cap) w := fun _ _ _ _ => rfl
  have hb : Below w.heap.size w ((w.alloc (.cells #[.pointer (some ⟨C.mb, 0, none⟩)] 43)).alloc (.cells #[.int .i64 (j : Nat)] 3)) := ((Below.refl _ _).alloc (Nat.le_refl _) _).alloc (by simp) _
  have B1 := (Blk.new w #[.pointer (some ⟨C.mb, 0, none⟩)] 43).alloc (.cells #[.int .i64 (j : Nat)] 3)
  have B2 : Blk ((w.alloc (.cells #[.pointer (some ⟨C.mb, 0, none⟩)] 43)).alloc (.cells #[.int .i64 (j : Nat)] 3)) (w.heap.size + 1) #[.int .i64 (j : Nat)] 3 := Blk.newAt (by simp)
  have k1 := B1.cell 0 rfl
  have k2 := B2.cell 0 rfl
  have h1 := h.below hb
  have mm0 : ((w.alloc (.cells #[.pointer (some ⟨C.mb, 0, none⟩)] 43)).alloc (.cells #[.int .i64 (j : Nat)] 3)).cell? ⟨C.mb, 0, none⟩ = some (.pointer (some ⟨C.xb, 0, none⟩)) := h1.m.cell 0 rfl
  have xx2 : ((w.alloc (.cells #[.pointer (some ⟨C.mb, 0, none⟩)] 43)).alloc (.cells #[.int .i64 (j : Nat)] 3)).cell? ⟨C.xb, 2, none⟩ = some (.slice (some ⟨g, 0, none⟩) C.all.length cap) := by rw [← hpv]; exact h1.x.cell 2 rfl
  obtain ⟨gv, cv, rfl, -, -⟩ := hv.form
  have HH := hide (And.intro h (And.intro hv (And.intro hA (And.intro hb (And.intro B1 (And.intro B2 hpv))))))
  have HC := hide (copies_any C ok x xs j hA g cap hpv (AtomR C.s x) 78 (.pointer (some ⟨w.heap.size, 0, none⟩)) (.pointer (some ⟨w.heap.size + 1, 0, none⟩)) partEnds1_enters _ D h1.drew 0 (by have := hA.counts; omega) (by omega) _ S (hv.below hb.drew)
    (fun w1 D1 u T h2 K2 hu => partEnds1_any C ok x xs ih j hA w.heap.size (w.heap.size + 1) u T w1 D1 h2 hu (B1.drew.kpm h1.drew K2) (B2.drew.kpm h1.drew K2)))
  clear h hv hA hb B1 B2 h1 hP
  go_enter Tryz.func58, Tryz.ntmps58
  go_wp2_with fail
  go_region_held3 (fun w' => w'.cell? ⟨w.heap.size, 0, none⟩ = some (.pointer (some ⟨C.mb, 0, none⟩)) ∧ w'.cell? ⟨w.heap.size + 1, 0, none⟩ = some (.int .i64 (j : Nat)) ∧ w'.cell? ⟨C.mb, 0, none⟩ = some (.pointer (some ⟨C.xb, 0, none⟩)) ∧ w'.cell? ⟨C.xb, 2, none⟩ = some (.slice (some ⟨g, 0, none⟩) C.all.length cap)) (go_keep)
    ((go_at_call 75; refine HC.out.mono ?_; rintro e w2 ⟨u, D2, rfl, hu, h2, K2⟩; have l1 := cell_kp (HH.out.1.below HH.out.2.2.2.1).drew K2 k1; have l2 := cell_kp (HH.out.1.below HH.out.2.2.2.1).drew K2 k2; have l3 := cell_kp (HH.out.1.below HH.out.2.2.2.1).drew K2 mm0; have l4 := cell_kp (HH.out.1.below HH.out.2.2.2.1).drew K2 xx2; obtain ⟨gu, cu, rfl, -, -⟩ := hu.form))
  go_wp2_with fail
  go_ret
  obtain ⟨h, hv, hA, hb, -, -, -⟩ := HH.out
  refine ⟨_, D2, rfl, hu.congr (fun q => ?_), h2, (Kp.below hb).trans K2.undrew⟩
  exact copiesS_ends (N := C.s.size) (fun p q hp ha => AtomR.bound C.s x p q hp ha) hA.counts.2.2.2 (by have := hA.counts; omega) hv.bound q

set_option maxRecDepth 100000 in
set_option maxHeartbeats 1000000 in
theorem listEnds_any (C : MC) (ok : C.Ok) (ps : List Part) (ih : ∀ x, x ∈ ps → ListE C x.kids) : ListE C ps := by
  intro i v S w D hA h hv
  obtain ⟨gv, cv, rfl, -, -⟩ := hv.form
  have HH := hide (And.intro hA (And.intro h hv))
  have hfew := ok.few
  clear hA h hv
  go_enter Tryz.func42, Tryz.ntmps42
  go_wp2_with fail
  go_loopg [1, 2] ps.length (fun k ii pl w' => ∃ (l : List Part) (i' : Int) (gp cp : Nat) (D' : DataW Value) (T : Nat → Prop), ii = .int .i64 i' ∧ pl = .slice (some ⟨gp, 0, none⟩) (C.s.size / 64 + 1) cp ∧ l.length ≤ k ∧
    Hid (AtW C i' l ∧ (∀ x, x ∈ l → ListE C x.kids) ∧ MS C w' D' ∧ Kp C.mm w w' ∧ PSet w' (.slice (some ⟨gp, 0, none⟩) (C.s.size / 64 + 1) cp) C.s.size T ∧ ∀ q, (∃ p, T p ∧ SeqR C.s l p q) ↔ ∃ p, S p ∧ SeqR C.s ps p q))
  case atStart => exact ⟨ps, i, gv, cv, D, S, rfl, rfl, Nat.le_refl _, HH.out.1, ih, HH.out.2.1, Kp.refl _ _, HH.out.2.2, fun q => Iff.rfl⟩
  case round =>
    obtain ⟨l, i', gp, cp, D', T, rfl, rfl, hlk, HI⟩ := hrel
    cases l with
    | nil =>
      have hi := HI.out.1.at_.nil
      subst hi
      go_wp2_with fail
      go_ret
      obtain ⟨h1, h2, h3, h4, h5, h6⟩ := HI.out
      refine ⟨_, D', rfl, h5.congr (fun q => ?_), h3, h4⟩
      rw [← h6 q]
      constructor
      · intro hq; exact ⟨q, hq, by simp only [SeqR]⟩
      · rintro ⟨p, hp, hs⟩
        simp only [SeqR] at hs
        rw [← hs]; exact hp
    | cons x xs =>
      obtain ⟨j, P, rfl, hjl, hP, hnx, -⟩ := HI.out.1.cons
      obtain ⟨g, cap, hpv, hgl, hcap⟩ := HI.out.2.2.1.parts hP.get
      have hji : (j : Int) < (C.all.length : Nat) := by omega
      have hne : ((j : Int) == -1) = false := by simp
      have HN := hide (And.intro hnx (And.intro hP hpv))
      clear hnx hP hpv
      have hlk' : xs.length + 1 ≤ gk := by simpa using hlk
      clear hlk
      go_wp2_with fail
      refine (mpartEnds_any C ok x xs (HI.out.2.1 x (List.mem_cons_self ..)) j HI.out.1 _ T _ D' HI.out.2.2.1 HI.out.2.2.2.2.1).mono ?_
      rintro e w2 ⟨u, D2, rfl, hu, h2, K2⟩
      obtain ⟨gu, cu, rfl, -, -⟩ := hu.form
      have mm0 : w2.cell? ⟨C.mb, 0, none⟩ = some (.pointer (some ⟨C.xb, 0, none⟩)) := h2.m.cell 0 rfl
      have xx2 : w2.cell? ⟨C.xb, 2, none⟩ = some (.slice (some ⟨g, 0, none⟩) C.all.length cap) := by rw [← HN.out.2.2]; exact h2.x.cell 2 rfl
      have hfl := h2.flat
      rw [HN.out.2.2] at hfl
      obtain ⟨-, -, -, -, -, -, d6, -, -⟩ := part_cells hfl HN.out.2.1.get
      have HU := hide (And.intro hu (And.intro h2 K2))
      clear hu h2 K2 hfl
      go_wp2_with fail
      go_roundg (gk - 1)
      case measure => omega
      case rel =>
        obtain ⟨h1, h2, h3, h4, h5, h6⟩ := HI.out
        refine ⟨xs, P.next, gu, cu, D2, _, rfl, rfl, by omega, HN.out.1, fun y hy => h2 y (List.mem_cons_of_mem _ hy), HU.out.2.1, h4.trans HU.out.2.2, HU.out.1, fun q => ?_⟩
        rw [← h6 q]
        simp only [SeqR]
        constructor
        · rintro ⟨r, ⟨p, hp, hc⟩, hs⟩; exact ⟨p, hp, r, hc, hs⟩
        · rintro ⟨p, hp, r, hc, hs⟩; exact ⟨r, ⟨p, hp, hc⟩, hs⟩

mutual
theorem kidsE_all (C : MC) (ok : C.Ok) : ∀ x : Part, ListE C x.kids
  | .mk _ kids _ _ _ _ => listEnds_any C ok kids (eachE_all C ok kids)
theorem eachE_all (C : MC) (ok : C.Ok) : ∀ (l : List Part) (x : Part), x ∈ l → ListE C x.kids
  | [], x, h => by cases h
  | y :: ys, x, h => by
    rcases List.mem_cons.1 h with hxy | h
    · rw [hxy]; exact kidsE_all C ok y
    · exact eachE_all C ok ys x h
end
theorem listE_all (C : MC) (ok : C.Ok) (ps : List Part) : ListE C ps := listEnds_any C ok ps (eachE_all C ok ps)
end Go.Proofs.YtpnecblofjpgfaaGreatDoor

namespace Go.Proofs.YtpnecblofjpgfaaGreatDoor
open Go.RowKit Go.Shelf

theorem Copies.low {A : Nat → Nat → Prop} {mn mx : Int} (hA : ∀ p q, A p q → p ≤ q) {n p q : Nat} (h : Copies A mn mx n p q) : p ≤ q := by
  induction h with
  | stop _ => exact Nat.le_refl _
  | more _ ha _ _ ih => exact Nat.le_trans (hA _ _ ha) ih
mutual
theorem AtomR.low (s : ByteArray) : ∀ (x : Part) (p q : Nat), AtomR s x p q → p ≤ q
  | .mk g kids neg ps mn mx, p, q, h => by
    simp only [AtomR] at h
    split at h
    · obtain ⟨h1, _⟩ := h; omega
    · exact SeqR.low s kids p q h
theorem SeqR.low (s : ByteArray) : ∀ (l : List Part) (p q : Nat), SeqR s l p q → p ≤ q
  | [], p, q, h => by simp only [SeqR] at h; omega
  | x :: xs, p, q, h => by
    simp only [SeqR] at h
    obtain ⟨r, h1, h2⟩ := h
    exact Nat.le_trans (h1.low (fun p q ha => AtomR.low s x p q ha)) (SeqR.low s xs r q h2)
end

/-- Where parts may begin. -/
def ListB (C : MC) (ps : List Part) : Prop := ∀ (i : Int) (v : Value) (E : Nat → Prop) (w : World) (D : DataW Value), AtW C i ps → MS C w D → PSet w v C.s.size E →
  Calls Tryz.prog 39 #[.pointer (some ⟨C.mb, 0, none⟩), .int .i64 i, v] w (EndsP C w (fun p => ∃ q, E q ∧ SeqR C.s ps p q))

/-- The steps the other way round. -/
def Back (s : ByteArray) (x : Part) (a b : Nat) : Prop := AtomR s x b a

set_option maxRecDepth 100000 in
set_option maxHeartbeats 1000000 in
theorem atomBegins_any (C : MC) (ok : C.Ok) (x : Part) (xs : List Part) (ih : ListB C x.kids) (j : Nat) (hA : AtW C (j : Int) (x :: xs)) (v : Value) (S : Nat → Prop) (w : World) (D : DataW Value) (h : MS C w D) (hv : PSet w v C.s.size S) :
    Calls Tryz.prog 77 #[.pointer (some ⟨C.mb, 0, none⟩), .int .i64 (j : Nat), v] w (EndsP C w (stepR (Back C.s x) S)) := by
  obtain ⟨j', P, hj', hjl, hP, -, hin⟩ := hA.cons
  obtain rfl : j = j' := by omega
  obtain ⟨g, cap, hpv, hgl, hcap⟩ := h.parts hP.get
  have hji : (j : Int) < (C.all.length : Nat) := by omega
  have hfew := ok.few
  have hsm := ok.small
  have hfl := h.flat
  rw [hpv] at hfl
  obtain ⟨d0, d1, d2, d3, d4, d5, d6, d7, d8⟩ := part_cells hfl hP.get
  have mm0 : w.cell? ⟨C.mb, 0, none⟩ = some (.pointer (some ⟨C.xb, 0, none⟩)) := h.m.cell 0 rfl
  have xx2 : w.cell? ⟨C.xb, 2, none⟩ = some (.slice (some ⟨g, 0, none⟩) C.all.length cap) := by rw [← hpv]; exact h.x.cell 2 rfl
  obtain ⟨gv, cv, rfl, -, -⟩ := hv.form
  have HH := hide (And.intro h (And.intro hv (And.intro hA hin)))
  by_cases hg : x.g = 0
  · obtain ⟨hg0, hW⟩ := hP.plain hg
    rw [hg0] at d4
    clear h hv hA hin hP hfl hW
    go_enter Tryz.func77, Tryz.ntmps77
    go_wp2_with fail
    obtain ⟨h, hv, hA, -⟩ := HH.out
    have hb1 := (Below.refl w.heap.size w).alloc (Nat.le_refl _) (.cells #[.int .u64 (P.W 0 : Nat), .int .u64 (P.W 1 : Nat), .int .u64 (P.W 2 : Nat), .int .u64 (P.W 3 : Nat), .int .i64 0, .int .i64 P.inner, .int .i64 P.next, .int .i64 P.least, .int .i64 P.most] 104)
    refine (earlier_any _ _ C.s.size _ hsm (hv.below hb1)).mono ?_
    rintro e w1 ⟨y, rfl, hy, hb2⟩
    obtain ⟨gy, cy, rfl, -, -⟩ := hy.form
    have HY := hide (And.intro hy (And.intro ((h.below hb1).below hb2) ((Kp.below (b := C.mm) hb1).trans (Kp.below hb2))))
    clear h hv hb1 hb2 hy d0 d1 d2 d3 d4 d5 d6 d7 d8 mm0 xx2
    go_wp2_with fail
    refine (bytesOf_any C ok x xs hg j hA _ D HY.out.2.1).mono ?_
    rintro e w2 ⟨u, D2, rfl, hu, h2, K2⟩
    obtain ⟨gu, cu, rfl, -, -⟩ := hu.form
    have HE := hide (And.intro hu (And.intro h2 (And.intro (HY.out.2.2.trans K2) (HY.out.1.kp HY.out.2.1 K2))))
    clear hu h2 K2 hA
    go_wp2_with fail
    refine (among_any _ _ _ C.s.size _ _ hsm HE.out.2.2.2 HE.out.1).mono ?_
    rintro e w4 ⟨z, rfl, hz, hb4⟩
    obtain ⟨gz, cz, rfl, -, -⟩ := hz.form
    have HZ := hide (And.intro hz hb4)
    clear hz hb4
    go_wp2_with fail
    go_ret
    refine ⟨_, D2, rfl, HZ.out.1.congr (fun p => ?_), HE.out.2.1.below HZ.out.2, HE.out.2.2.1.trans (Kp.below HZ.out.2)⟩
    constructor
    · rintro ⟨h1, h2⟩
      exact ⟨p + 1, h1, (atomR_plain hg _ _).2 ⟨rfl, h2⟩⟩
    · rintro ⟨q, h1, h2⟩
      obtain ⟨rfl, h3⟩ := (atomR_plain hg _ _).1 h2
      exact ⟨h1, h3⟩
  · obtain ⟨hg0, -⟩ := hP.group hg
    rw [hg0] at d4
    have hgd : decide (0 < (x.g : Int)) = true := by simp; omega
    clear h hv hA hin hP hfl
    go_enter Tryz.func77, Tryz.ntmps77
    go_wp2_with fail
    obtain ⟨h, hv, hA, hin⟩ := HH.out
    have hb1 := (Below.refl w.heap.size w).alloc (Nat.le_refl _) (.cells #[.int .u64 (P.W 0 : Nat), .int .u64 (P.W 1 : Nat), .int .u64 (P.W 2 : Nat), .int .u64 (P.W 3 : Nat), .int .i64 (x.g : Int), .int .i64 P.inner, .int .i64 P.next, .int .i64 P.least, .int .i64 P.most] 104)
    refine (ih P.inner _ S _ D (hin hg) (h.below hb1) (hv.below hb1)).mono ?_
    rintro e w2 ⟨u, D2, rfl, hu, h2, K2⟩
    obtain ⟨gu, cu, rfl, -, -⟩ := hu.form
    have HE := hide (And.intro hu (And.intro h2 ((Kp.below (b := C.mm) hb1).trans K2)))
    clear h hv hA hb1 hu h2 K2 hin d0 d1 d2 d3 d4 d5 d6 d7 d8 mm0 xx2
    go_wp2_with fail
    go_ret
    exact ⟨_, D2, rfl, HE.out.1.congr (fun p => exists_congr fun q => and_congr_right fun _ => (atomR_group hg p q).symm), HE.out.2.1, HE.out.2.2⟩

theorem copiesBegin1_enters : Enters 76 := fun a w => by simp [go_sem]

set_option maxRecDepth 100000 in
set_option maxHeartbeats 1000000 in
theorem copiesBegin1_any (C : MC) (ok : C.Ok) (x : Part) (xs : List Part) (ih : ListB C x.kids) (j : Nat) (hA : AtW C (j : Int) (x :: xs)) (b1 b2 : Nat) (v : Value) (S : Nat → Prop) (w : World) (D : DataW Value) (h : MS C w D) (hv : PSet w v C.s.size S)
    (hb1 : Blk w b1 #[.pointer (some ⟨C.mb, 0, none⟩)] 43) (hb2 : Blk w b2 #[.int .i64 (j : Nat)] 3) :
    Calls Tryz.prog 76 #[v, .pointer (some ⟨b1, 0, none⟩), .pointer (some ⟨b2, 0, none⟩)] w (EndsP C w (stepR (Back C.s x) S)) := by
  have k1 : w.cell? ⟨b1, 0, none⟩ = some (.pointer (some ⟨C.mb, 0, none⟩)) := hb1.cell 0 rfl
  have k2 : w.cell? ⟨b2, 0, none⟩ = some (.int .i64 (j : Nat)) := hb2.cell 0 rfl
  have H := hide (atomBegins_any C ok x xs ih j hA v S w D h hv)
  obtain ⟨gv, cv, rfl, -, -⟩ := hv.form
  clear h hv hA hb1 hb2
  go_enter Tryz.func76, Tryz.ntmps76
  go_wp2_with fail
  refine H.out.mono ?_
  rintro e w2 ⟨u, D2, rfl, hu, h2, K2⟩
  obtain ⟨gu, cu, rfl, -, -⟩ := hu.form
  have HE := hide (And.intro hu (And.intro h2 K2))
  clear hu h2 K2
  go_wp2_with fail
  go_ret
  exact ⟨_, D2, rfl, HE.out⟩

/-- Where copies may begin, in a set of places. -/
theorem back_iff {C : MC} {i : Int} {x : Part} {xs : List Part} (hA : AtW C i (x :: xs)) {made : Nat} (hmd : x.mx < 0 ∨ (made : Int) ≤ x.mx) {E : Nat → Prop} (hE : ∀ q, E q → q ≤ C.s.size) {p : Nat} (hp : copiesS (Back C.s x) x.mn x.mx made E p → p ≤ C.s.size) :
    copiesS (Back C.s x) x.mn x.mx made E p ↔ ∃ q, E q ∧ Copies (AtomR C.s x) x.mn x.mx made p q := by
  by_cases h : p ≤ C.s.size
  · exact copiesS_begins (N := C.s.size) (fun p q hp ha => AtomR.bound C.s x p q hp ha) hA.counts.2.2.2 hmd h
  · constructor
    · exact fun hc => absurd (hp hc) h
    · rintro ⟨q, hq, hc⟩
      have := hc.low (fun p q ha => AtomR.low C.s x p q ha)
      have := hE q hq
      omega

set_option maxRecDepth 100000 in
set_option maxHeartbeats 1000000 in
theorem copiesBegin_any (C : MC) (ok : C.Ok) (x : Part) (xs : List Part) (ih : ListB C x.kids) (j : Nat) (hA : AtW C (j : Int) (x :: xs)) (made : Nat) (hmd : x.mx < 0 ∨ (made : Int) ≤ x.mx) (hmd2 : made ≤ 1048576) (v : Value) (S : Nat → Prop) (w : World) (D : DataW Value) (h : MS C w D) (hv : PSet w v C.s.size S) :
    Calls Tryz.prog 56 #[.pointer (some ⟨C.mb, 0, none⟩), .int .i64 (j : Nat), .int .i64 (made : Nat), v] w (EndsP C w (fun p => ∃ q, S q ∧ Copies (AtomR C.s x) x.mn x.mx made p q)) := by
  obtain ⟨j', P, hj', hjl, hP, -, -⟩ := hA.cons
  obtain rfl : j = j' := by omega
  obtain ⟨g, cap, hpv, hgl, hcap⟩ := h.parts hP.get
  have hji : (j : Int) < (C.all.length : Nat) := by omega
  have hfew := ok.few
  have hmf : ∀ (fn : Fn) (first cap : Array Value) (w : World), (Instr.makeFunc fn first cap).run Tryz.prog w = .ok (.func fn first cap) w := fun _ _ _ _ => rfl
  have hb : Below w.heap.size w ((w.alloc (.cells #[.pointer (some ⟨C.mb, 0, none⟩)] 43)).alloc (.cells #[.int .i64 (j : Nat)] 3)) := ((Below.refl _ _).alloc (Nat.le_refl _) _).alloc (by simp) _
  have B1 := (Blk.new w #[.pointer (some ⟨C.mb, 0, none⟩)] 43).alloc (.cells #[.int .i64 (j : Nat)] 3)
  have B2 : Blk ((w.alloc (.cells #[.pointer (some ⟨C.mb, 0, none⟩)] 43)).alloc (.cells #[.int .i64 (j : Nat)] 3)) (w.heap.size + 1) #[.int .i64 (j : Nat)] 3 := Blk.newAt (by simp)
  have k1 := B1.cell 0 rfl
  have k2 := B2.cell 0 rfl
  have h1 := h.below hb
  have mm0 : ((w.alloc (.cells #[.pointer (some ⟨C.mb, 0, none⟩)] 43)).alloc (.cells #[.int .i64 (j : Nat)] 3)).cell? ⟨C.mb, 0, none⟩ = some (.pointer (some ⟨C.xb, 0, none⟩)) := h1.m.cell 0 rfl
  have xx2 : ((w.alloc (.cells #[.pointer (some ⟨C.mb, 0, none⟩)] 43)).alloc (.cells #[.int .i64 (j : Nat)] 3)).cell? ⟨C.xb, 2, none⟩ = some (.slice (some ⟨g, 0, none⟩) C.all.length cap) := by rw [← hpv]; exact h1.x.cell 2 rfl
  obtain ⟨gv, cv, rfl, -, -⟩ := hv.form
  have HH := hide (And.intro h (And.intro hv (And.intro hA (And.intro hb (And.intro B1 (And.intro B2 hpv))))))
  have HC := hide (copies_any C ok x xs j hA g cap hpv (Back C.s x) 76 (.pointer (some ⟨w.heap.size, 0, none⟩)) (.pointer (some ⟨w.heap.size + 1, 0, none⟩)) copiesBegin1_enters _ D h1.drew made hmd hmd2 _ S (hv.below hb.drew)
    (fun w1 D1 u T h2 K2 hu => copiesBegin1_any C ok x xs ih j hA w.heap.size (w.heap.size + 1) u T w1 D1 h2 hu (B1.drew.kpm h1.drew K2) (B2.drew.kpm h1.drew K2)))
  clear h hv hA hb B1 B2 h1 hP
  go_enter Tryz.func56, Tryz.ntmps56
  go_wp2_with fail
  go_region_held3 (fun w' => w'.cell? ⟨w.heap.size, 0, none⟩ = some (.pointer (some ⟨C.mb, 0, none⟩)) ∧ w'.cell? ⟨w.heap.size + 1, 0, none⟩ = some (.int .i64 (j : Nat)) ∧ w'.cell? ⟨C.mb, 0, none⟩ = some (.pointer (some ⟨C.xb, 0, none⟩)) ∧ w'.cell? ⟨C.xb, 2, none⟩ = some (.slice (some ⟨g, 0, none⟩) C.all.length cap)) (go_keep)
    ((go_at_call 75; refine HC.out.mono ?_; rintro e w2 ⟨u, D2, rfl, hu, h2, K2⟩; have l1 := cell_kp (HH.out.1.below HH.out.2.2.2.1).drew K2 k1; have l2 := cell_kp (HH.out.1.below HH.out.2.2.2.1).drew K2 k2; have l3 := cell_kp (HH.out.1.below HH.out.2.2.2.1).drew K2 mm0; have l4 := cell_kp (HH.out.1.below HH.out.2.2.2.1).drew K2 xx2; obtain ⟨gu, cu, rfl, -, -⟩ := hu.form))
  go_wp2_with fail
  go_ret
  obtain ⟨h, hv, hA, hb, -, -, -⟩ := HH.out
  exact ⟨_, D2, rfl, hu.congr (fun p => back_iff hA hmd hv.bound (hu.bound p)), h2, (Kp.below hb).trans K2.undrew⟩

set_option maxRecDepth 100000 in
set_option maxHeartbeats 1000000 in
theorem listBegins_nil (C : MC) : ListB C [] := by
  intro i v E w D hA h hv
  obtain ⟨gv, cv, rfl, -, -⟩ := hv.form
  have hi := hA.at_.nil
  subst hi
  have HH := hide (And.intro h hv)
  clear h hv hA
  go_enter Tryz.func39, Tryz.ntmps39
  go_wp2_with fail
  go_ret
  refine ⟨_, D, rfl, HH.out.2.congr (fun p => ?_), HH.out.1, Kp.refl _ _⟩
  simp only [SeqR]
  constructor
  · intro hp; exact ⟨p, hp, rfl⟩
  · rintro ⟨q, hq, e⟩; rw [e]; exact hq

set_option maxRecDepth 100000 in
set_option maxHeartbeats 1000000 in
theorem listBegins_cons (C : MC) (ok : C.Ok) (x : Part) (xs : List Part) (ih : ListB C x.kids) (ihl : ListB C xs) : ListB C (x :: xs) := by
  intro i v E w D hA h hv
  obtain ⟨gv, cv, rfl, -, -⟩ := hv.form
  obtain ⟨j, P, rfl, hjl, hP, hnx, -⟩ := hA.cons
  obtain ⟨g, cap, hpv, hgl, hcap⟩ := h.parts hP.get
  have hji : (j : Int) < (C.all.length : Nat) := by omega
  have hne : ((j : Int) == -1) = false := by simp
  have hfew := ok.few
  have mm0 : w.cell? ⟨C.mb, 0, none⟩ = some (.pointer (some ⟨C.xb, 0, none⟩)) := h.m.cell 0 rfl
  have xx2 : w.cell? ⟨C.xb, 2, none⟩ = some (.slice (some ⟨g, 0, none⟩) C.all.length cap) := by rw [← hpv]; exact h.x.cell 2 rfl
  have hfl := h.flat
  rw [hpv] at hfl
  obtain ⟨-, -, -, -, -, -, d6, -, -⟩ := part_cells hfl hP.get
  have HH := hide (And.intro h (And.intro hv (And.intro hA hnx)))
  clear h hv hA hnx hfl hP
  go_enter Tryz.func39, Tryz.ntmps39
  go_wp2_with fail
  obtain ⟨h, hv, hA, hnx⟩ := HH.out
  refine (ihl P.next _ E _ D hnx h hv).mono ?_
  rintro e w1 ⟨u, D1, rfl, hu, h1, K1⟩
  obtain ⟨gu, cu, rfl, -, -⟩ := hu.form
  have HU := hide (And.intro hu (And.intro h1 K1))
  clear hu h1 K1 h hv hnx mm0 xx2 d6
  go_wp2_with fail
  refine (copiesBegin_any C ok x xs ih j hA 0 (by have := hA.counts; omega) (by omega) _ _ _ D1 HU.out.2.1 HU.out.1).mono ?_
  rintro e w2 ⟨y, D2, rfl, hy, h2, K2⟩
  obtain ⟨gy, cy, rfl, -, -⟩ := hy.form
  have HY := hide (And.intro hy (And.intro h2 K2))
  clear hy h2 K2 hA
  go_wp2_with fail
  go_ret
  refine ⟨_, D2, rfl, HY.out.1.congr (fun p => ?_), HY.out.2.1, HU.out.2.2.trans HY.out.2.2⟩
  simp only [SeqR]
  constructor
  · rintro ⟨r, ⟨q, hq, hs⟩, hc⟩; exact ⟨q, hq, r, hc, hs⟩
  · rintro ⟨q, hq, r, hc, hs⟩; exact ⟨r, ⟨q, hq, hs⟩, hc⟩

mutual
theorem kidsB_all (C : MC) (ok : C.Ok) : ∀ x : Part, ListB C x.kids
  | .mk _ kids _ _ _ _ => listB_all C ok kids
theorem listB_all (C : MC) (ok : C.Ok) : ∀ ps : List Part, ListB C ps
  | [] => listBegins_nil C
  | x :: xs => listBegins_cons C ok x xs (kidsB_all C ok x) (listB_all C ok xs)
end
end Go.Proofs.YtpnecblofjpgfaaGreatDoor

namespace Go.Proofs.YtpnecblofjpgfaaGreatDoor
open Go.RowKit Go.Shelf

set_option maxRecDepth 100000 in
set_option maxHeartbeats 2000000 in
theorem begins1_any (C : MC) (ok : C.Ok) (hX : AtW C (firstIx 0 C.x.parts) C.x.parts) (b1 : Nat) (w : World) (D : DataW Value) (h : MS C w D) (hb1 : Blk w b1 #[.pointer (some ⟨C.mb, 0, none⟩)] 43) :
    Calls Tryz.prog 36 #[.pointer (some ⟨b1, 0, none⟩)] w (EndsP C w (fun q => q ≤ C.s.size ∧ BeginR C q)) := by
  have hsm := ok.small
  have k1 : w.cell? ⟨b1, 0, none⟩ = some (.pointer (some ⟨C.mb, 0, none⟩)) := hb1.cell 0 rfl
  have mm1 : w.cell? ⟨C.mb, 1, none⟩ = some (.string C.s) := h.m.cell 1 rfl
  have HH := hide (And.intro h hb1)
  clear h hb1
  go_enter Tryz.func36, Tryz.ntmps36
  go_wp2_with fail
  refine (allPlaces_any w C.s.size hsm).mono ?_
  rintro e w1 ⟨u, rfl, hu, hbl⟩
  obtain ⟨gu, cu, rfl, -, -⟩ := hu.form
  have h1 := HH.out.1.below hbl
  have B1 := HH.out.2.below hbl
  have HU := hide (And.intro hu (And.intro h1 (And.intro B1 (Kp.below (b := C.mm) hbl))))
  clear mm1 k1
  have k1 : w1.cell? ⟨b1, 0, none⟩ = some (.pointer (some ⟨C.mb, 0, none⟩)) := B1.cell 0 rfl
  have mm0 : w1.cell? ⟨C.mb, 0, none⟩ = some (.pointer (some ⟨C.xb, 0, none⟩)) := h1.m.cell 0 rfl
  have mm1 : w1.cell? ⟨C.mb, 1, none⟩ = some (.string C.s) := h1.m.cell 1 rfl
  have xx1 : w1.cell? ⟨C.xb, 1, none⟩ = some (.bool C.x.last) := h1.x.cell 1 rfl
  clear hu h1 B1 hbl
  go_upto_if 16 with fail
  go_cut [2] (fun t wc => ∃ (ge ce : Nat), t = .slice (some ⟨ge, 0, none⟩) (C.s.size / 64 + 1) ce ∧ Hid (PSet wc (.slice (some ⟨ge, 0, none⟩) (C.s.size / 64 + 1) ce) C.s.size (fun e => e ≤ C.s.size ∧ (C.x.last = true → e = C.s.size)) ∧ MS C wc D ∧ Blk wc b1 #[.pointer (some ⟨C.mb, 0, none⟩)] 43 ∧ Kp C.mm w wc))
  case first =>
    cases hl : C.x.last
    · rw [hl] at xx1
      have HL := hide hl
      clear hl
      go_wp2_with fail
      go_meet
      case rel =>
        exact ⟨gu, cu, rfl, HU.out.1.congr (fun p => ⟨fun hp => ⟨hp, fun h => by rw [HL.out] at h; cases h⟩, fun hp => hp.1⟩), HU.out.2⟩
    · rw [hl] at xx1
      have HL := hide hl
      clear hl
      go_wp2_with fail
      go_region_held3 (fun w' => w'.cell? ⟨b1, 0, none⟩ = some (.pointer (some ⟨C.mb, 0, none⟩)) ∧ w'.cell? ⟨C.mb, 1, none⟩ = some (.string C.s)) (go_keep)
        ((go_at_call 38; refine (only_any C ok C.s.size (Nat.le_refl _) _ D HU.out.2.1.drew).mono ?_; rintro e w2 ⟨y, rfl, hy, hb2⟩; have l1 := cell_below hb2 k1; have l2 := cell_below hb2 mm1; obtain ⟨gy, cy, rfl, -, -⟩ := hy.form))
      go_wp2_with fail
      go_meet
      case rel =>
        refine ⟨gy, cy, rfl, hy.congr (fun p => ?_), HU.out.2.1.drew.below hb2, HU.out.2.2.1.drew.below hb2, (HU.out.2.2.2.drew).trans (Kp.below hb2)⟩
        constructor
        · intro e; exact ⟨by omega, fun _ => e⟩
        · exact fun e => e.2 HL.out
  case rest =>
    obtain ⟨ge, ce, rfl, HE⟩ := hcut
    clear k1 mm0 mm1 xx1 HU HH
    generalize wc = w3 at *
    have h3 := HE.out.2.1
    have k1 : w3.cell? ⟨b1, 0, none⟩ = some (.pointer (some ⟨C.mb, 0, none⟩)) := HE.out.2.2.1.cell 0 rfl
    have mm0 : w3.cell? ⟨C.mb, 0, none⟩ = some (.pointer (some ⟨C.xb, 0, none⟩)) := h3.m.cell 0 rfl
    have xx3 : w3.cell? ⟨C.xb, 3, none⟩ = some (.int .i64 (firstIx 0 C.x.parts)) := h3.x.cell 3 rfl
    clear h3
    have HL := hide (listB_all C ok C.x.parts (firstIx 0 C.x.parts) _ _ _ D hX HE.out.2.1.drew (HE.out.1.below (Below.drew (Below.refl _ _))))
    have HXX := hide hX
    clear hX
    generalize firstIx 0 C.x.parts = fi at *
    go_wp2_with fail
    go_region_held3 (fun w' => w'.cell? ⟨b1, 0, none⟩ = some (.pointer (some ⟨C.mb, 0, none⟩)) ∧ w'.cell? ⟨C.mb, 0, none⟩ = some (.pointer (some ⟨C.xb, 0, none⟩)) ∧ w'.cell? ⟨C.xb, 3, none⟩ = some (.int .i64 fi)) (go_keep)
      ((go_at_call 39; refine HL.out.mono ?_; rintro e w4 ⟨y, D4, rfl, hy, h4, K4⟩; have l1 := cell_kp HE.out.2.1.drew K4 k1; have l2 := cell_kp HE.out.2.1.drew K4 mm0; have l3 := cell_kp HE.out.2.1.drew K4 xx3; obtain ⟨gy, cy, rfl, -, -⟩ := hy.form))
    have xx0 : w4.cell? ⟨C.xb, 0, none⟩ = some (.bool C.x.first) := h4.x.cell 0 rfl
    have HY := hide (And.intro hy (And.intro h4 (HE.out.2.2.2.trans K4.undrew)))
    have HX2 : Hid (∀ p, (C.x.first = true → p = 0) → (∃ q, (q ≤ C.s.size ∧ (C.x.last = true → q = C.s.size)) ∧ SeqR C.s C.x.parts p q) → p ≤ C.s.size ∧ BeginR C p) := fun p h1 hp => by
      refine ⟨?_, h1, ?_⟩
      · obtain ⟨q, ⟨h1, h2⟩, h3⟩ := hp
        have := SeqR.low _ _ _ _ h3
        omega
      · obtain ⟨q, ⟨h1, h2⟩, h3⟩ := hp
        exact ⟨q, h1, h2, h3⟩
    clear hy h4 K4 k1 mm0 xx3 HL l3
    cases hf : C.x.first
    · rw [hf] at xx0
      have HFF := hide hf
      clear hf
      go_wp2_with fail
      go_ret
      refine ⟨_, D4, rfl, HY.out.1.congr (fun p => ?_), HY.out.2⟩
      constructor
      · exact fun hp => HX2.out p (fun h => by rw [HFF.out] at h; cases h) hp
      · rintro ⟨h1, h2, e, h3, h4, h5⟩; exact ⟨e, ⟨h3, h4⟩, h5⟩
    · rw [hf] at xx0
      have HFF := hide hf
      clear hf
      have HO := hide (only_any C ok 0 (Nat.zero_le _) w4 D4 HY.out.2.1)
      have hsm2 := hsm
      go_wp2_with fail
      refine HO.out.mono ?_
      rintro e w5 ⟨z, rfl, hz, hb5⟩
      obtain ⟨gz, cz, rfl, -, -⟩ := hz.form
      have HZ := hide (And.intro hz hb5)
      clear hz hb5 l1 l2 xx0
      go_wp2_with fail
      refine (among_any _ _ _ C.s.size _ _ hsm (HY.out.1.below HZ.out.2) HZ.out.1).mono ?_
      rintro e w6 ⟨t, rfl, ht, hb6⟩
      obtain ⟨gt, ct, rfl, -, -⟩ := ht.form
      have HT := hide (And.intro ht hb6)
      clear ht hb6
      go_wp2_with fail
      go_ret
      refine ⟨_, D4, rfl, HT.out.1.congr (fun p => ?_), (HY.out.2.1.below HZ.out.2).below HT.out.2, (HY.out.2.2.trans (Kp.below HZ.out.2)).trans (Kp.below HT.out.2)⟩
      constructor
      · exact fun hp => HX2.out p (fun _ => hp.2) hp.1
      · rintro ⟨h1, h2, e, h3, h4, h5⟩; exact ⟨⟨e, ⟨h3, h4⟩, h5⟩, h2 HFF.out⟩

theorem begins1_enters : Enters 36 := fun a w => by simp [go_sem]

theorem AtL.firstLt {all : List PP} {i : Int} {ps : List Part} (h : AtL all i ps) : -1 ≤ i ∧ i < all.length := by
  cases ps with
  | nil => have := h.nil; omega
  | cons x xs =>
    obtain ⟨j, P, rfl, hP⟩ := h.cons
    have := (List.getElem?_eq_some_iff.1 hP.get).1
    omega

set_option maxRecDepth 100000 in
set_option maxHeartbeats 1000000 in
theorem begins_any (C : MC) (ok : C.Ok) (hX : AtW C (firstIx 0 C.x.parts) C.x.parts) (w : World) (D : DataW Value) (h : MS C w D) :
    Calls Tryz.prog 24 #[.pointer (some ⟨C.mb, 0, none⟩)] w (EndsP C w (fun q => q ≤ C.s.size ∧ BeginR C q)) := by
  have hmf : ∀ (fn : Fn) (first cap : Array Value) (w : World), (Instr.makeFunc fn first cap).run Tryz.prog w = .ok (.func fn first cap) w := fun _ _ _ _ => rfl
  have hb : Below w.heap.size w (w.alloc (.cells #[.pointer (some ⟨C.mb, 0, none⟩)] 43)) := (Below.refl _ _).alloc (Nat.le_refl _) _
  have B1 := Blk.new w #[.pointer (some ⟨C.mb, 0, none⟩)] 43
  have h1 := h.below hb
  have k1 : (w.alloc (.cells #[.pointer (some ⟨C.mb, 0, none⟩)] 43)).cell? ⟨w.heap.size, 0, none⟩ = some (.pointer (some ⟨C.mb, 0, none⟩)) := B1.cell 0 rfl
  have mm0 : (w.alloc (.cells #[.pointer (some ⟨C.mb, 0, none⟩)] 43)).cell? ⟨C.mb, 0, none⟩ = some (.pointer (some ⟨C.xb, 0, none⟩)) := h1.m.cell 0 rfl
  have xx3 : (w.alloc (.cells #[.pointer (some ⟨C.mb, 0, none⟩)] 43)).cell? ⟨C.xb, 3, none⟩ = some (.int .i64 (firstIx 0 C.x.parts)) := h1.x.cell 3 rfl
  have hfi := hX.at_.firstLt
  have hu : InU C (firstIx 0 C.x.parts) (-2) (-1) := ⟨by omega, by omega, by omega, by omega, by omega, by omega⟩
  have HK := hide (kept_any C ok (firstIx 0 C.x.parts) (-2) (-1) hu 36 #[.pointer (some ⟨w.heap.size, 0, none⟩)] begins1_enters _ D h1.drew (fun w1 D1 h2 K2 => (begins1_any C ok hX w.heap.size w1 D1 h2 (B1.drew.kpm h1.drew K2)).mono fun e w2 he => he.congr fun q => (key_begin C _ q).symm))
  have HH := hide (And.intro h1 hb)
  clear h hX h1 hb B1 hu
  generalize firstIx 0 C.x.parts = fi at *
  go_enter Tryz.func24, Tryz.ntmps24
  go_wp2_with fail
  go_region_held3 (fun w' => w'.cell? ⟨w.heap.size, 0, none⟩ = some (.pointer (some ⟨C.mb, 0, none⟩)) ∧ w'.cell? ⟨C.mb, 0, none⟩ = some (.pointer (some ⟨C.xb, 0, none⟩)) ∧ w'.cell? ⟨C.xb, 3, none⟩ = some (.int .i64 fi)) (go_keep)
    ((go_at_call 35; refine HK.out.mono ?_; rintro e w4 ⟨y, D4, rfl, hy, h4, K4⟩; have l1 := cell_kp HH.out.1.drew K4 k1; have l2 := cell_kp HH.out.1.drew K4 mm0; have l3 := cell_kp HH.out.1.drew K4 xx3; obtain ⟨gy, cy, rfl, -, -⟩ := hy.form))
  go_wp2_with fail
  go_ret
  exact ⟨_, D4, rfl, hy.congr (fun q => key_begin C _ q), h4, (Kp.below HH.out.2).trans K4.undrew⟩

/-- The copies that are told apart. -/
def countedV (least most copies : Int) : Int := if most = 9223372036854775807 then min copies least else copies

set_option maxHeartbeats 400000 in
theorem counted_any (g o : Nat) (least most copies : Int) (w : World) (h1 : w.cell? ⟨g, o + 7, none⟩ = some (.int .i64 least)) (h2 : w.cell? ⟨g, o + 8, none⟩ = some (.int .i64 most)) :
    Calls Tryz.prog 102 #[.pointer (some ⟨g, o, none⟩), .int .i64 copies] w fun e w' => e = .returned (.int .i64 (countedV least most copies)) ∧ w' = w := by
  by_cases hm : most = 9223372036854775807
  · have hd : (most == 9223372036854775807) = true := by simp [hm]
    have HM := hide hm
    clear hm
    go_enter Tryz.func102, Tryz.ntmps102
    go_wp2_with fail
    go_ret
    refine ⟨?_, rfl⟩
    unfold countedV
    rw [if_pos HM.out]
    rfl
  · have hd : (most == 9223372036854775807) = false := by simp [hm]
    have HM := hide hm
    clear hm
    go_enter Tryz.func102, Tryz.ntmps102
    go_wp2_with fail
    go_ret
    refine ⟨?_, rfl⟩
    unfold countedV
    rw [if_neg HM.out]
    rfl

theorem copies_far {A : Nat → Nat → Prop} {mn mx : Int} (hx : mx < 0) {n p q : Nat} (h : Copies A mn mx n p q) : mn ≤ n → ∀ n' : Nat, mn ≤ n' → Copies A mn mx n' p q := by
  induction h with
  | stop h1 => exact fun _ n' h => .stop h
  | more h1 h2 h3 _ ih => exact fun hn n' hn' => .more (.inr (.inl hx)) h2 (by omega) (ih (by omega) (n' + 1) (by omega))

theorem counted_same {A : Nat → Nat → Prop} {mn mx : Int} {made : Nat} (h0 : 0 ≤ mn) (h9 : mx ≤ 9) (p q : Nat) : Copies A mn mx (countedV mn (mxV mx) made).toNat p q ↔ Copies A mn mx made p q := by
  unfold countedV mxV
  by_cases hx : mx < 0
  · rw [if_pos hx, if_pos rfl]
    by_cases hm : (made : Int) ≤ mn
    · rw [Int.min_eq_left hm, Int.toNat_natCast]
    · rw [Int.min_eq_right (by omega)]
      exact ⟨fun h => copies_far hx h (by omega) made (by omega), fun h => copies_far hx h (by omega) mn.toNat (by omega)⟩
  · rw [if_neg hx, if_neg (by omega), Int.toNat_natCast]
theorem counted_in {mn mx : Int} {made : Nat} (h0 : 0 ≤ mn) (h1 : mn ≤ 9) (h9 : mx ≤ 9) (hm : mx < 0 ∨ (made : Int) ≤ mx) : 0 ≤ countedV mn (mxV mx) made ∧ countedV mn (mxV mx) made ≤ 9 ∧ (mx < 0 ∨ countedV mn (mxV mx) made ≤ mx) := by
  unfold countedV mxV
  by_cases hx : mx < 0
  · rw [if_pos hx, if_pos rfl]
    omega
  · rw [if_neg hx, if_neg (by omega)]
    omega
end Go.Proofs.YtpnecblofjpgfaaGreatDoor
