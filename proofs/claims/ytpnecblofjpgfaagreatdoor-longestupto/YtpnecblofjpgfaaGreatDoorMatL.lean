import Derived.Test.YtpnecblofjpgfaaGreatDoorMatK
namespace Go.Proofs.YtpnecblofjpgfaaGreatDoor
open Go.RowKit Go.Shelf

theorem flat_at {w : World} {g cap : Nat} {all : List PP} (h : Flat w (.slice (some ⟨g, 0, none⟩) all.length cap) all) {j : Nat} {P : PP} (hj : all[j]? = some P) {o : Nat} (ho : o < 9) : w.cell? ⟨g, j * 9 + o, none⟩ = P.cells[o]? := by
  have hlt := (List.getElem?_eq_some_iff.1 hj).1
  have e : all = all.take j ++ P :: all.drop (j + 1) := by
    have h1 := List.take_append_drop j all
    have h2 : all.drop j = P :: all.drop (j + 1) := by
      rw [List.drop_eq_getElem_cons hlt]
      rw [(List.getElem?_eq_some_iff.1 hj).2]
    rw [h2] at h1
    exact h1.symm
  have hl : (all.take j).length = j := by rw [List.length_take]; omega
  generalize all.take j = A at *
  generalize all.drop (j + 1) = B at *
  subst e
  have := flat_get h ho
  rw [hl] at this
  exact this

/-- The cells of a part at its number. -/
theorem part_cells {w : World} {g cap : Nat} {all : List PP} (h : Flat w (.slice (some ⟨g, 0, none⟩) all.length cap) all) {j : Nat} {P : PP} (hj : all[j]? = some P) :
    w.cell? ⟨g, j * 9, none⟩ = some (.int .u64 (P.W 0 : Nat)) ∧ w.cell? ⟨g, j * 9 + 1, none⟩ = some (.int .u64 (P.W 1 : Nat)) ∧ w.cell? ⟨g, j * 9 + 2, none⟩ = some (.int .u64 (P.W 2 : Nat)) ∧ w.cell? ⟨g, j * 9 + 3, none⟩ = some (.int .u64 (P.W 3 : Nat)) ∧
    w.cell? ⟨g, j * 9 + 4, none⟩ = some (.int .i64 P.group) ∧ w.cell? ⟨g, j * 9 + 5, none⟩ = some (.int .i64 P.inner) ∧ w.cell? ⟨g, j * 9 + 6, none⟩ = some (.int .i64 P.next) ∧ w.cell? ⟨g, j * 9 + 7, none⟩ = some (.int .i64 P.least) ∧ w.cell? ⟨g, j * 9 + 8, none⟩ = some (.int .i64 P.most) :=
  ⟨(flat_at h hj (o := 0) (by omega)), flat_at h hj (o := 1) (by omega), flat_at h hj (o := 2) (by omega), flat_at h hj (o := 3) (by omega), flat_at h hj (o := 4) (by omega), flat_at h hj (o := 5) (by omega), flat_at h hj (o := 6) (by omega), flat_at h hj (o := 7) (by omega), flat_at h hj (o := 8) (by omega)⟩

/-- The first sight of the parts. -/
theorem MS.parts {C : MC} {w : World} {D : DataW Value} (h : MS C w D) {j : Nat} {P : PP} (hj : C.all[j]? = some P) : ∃ g cap, C.pv = .slice (some ⟨g, 0, none⟩) C.all.length cap ∧ g < w.heap.size ∧ C.all.length ≤ cap := by
  have := (List.getElem?_eq_some_iff.1 hj).1
  exact Flat.some h.flat (by omega)

theorem cell_below {w w' : World} (hb : Below w.heap.size w w') {p : Addr} {v : Value} (h : w.cell? p = some v) : w'.cell? p = some v := (hb.cell (World.block_lt_of_cell? w p h)).trans h
theorem cell_kp {C : MC} {w w' : World} {D : DataW Value} (hm : MS C w D) (hk : Kp C.mm w w') {p : Addr} {v : Value} (h : w.cell? p = some v) : w'.cell? p = some v := by
  have hl := World.block_lt_of_cell? w p h
  have hne : p.block ≠ C.mm := by
    obtain ⟨es, cl, e⟩ := hm.mapAt
    intro e2
    simp only [World.cell?, e2, e] at h
    cases h
  exact (World.cell?_of_block (hk.block p.block hl hne)).trans h

set_option maxRecDepth 100000 in
set_option maxHeartbeats 1000000 in
theorem only_any (C : MC) (ok : C.Ok) (q : Nat) (hq : q ≤ C.s.size) (w : World) (D : DataW Value) (h : MS C w D) :
    Calls Tryz.prog 38 #[.pointer (some ⟨C.mb, 0, none⟩), .int .i64 (q : Nat)] w fun e w' => SetP w C.s.size (fun p => p = q) e w' := by
  have m1 : w.cell? ⟨C.mb, 1, none⟩ = some (.string C.s) := h.m.cell 1 rfl
  have hsm := ok.small
  go_enter Tryz.func38, Tryz.ntmps38
  go_wp2_with fail
  refine (onePlace_any w q C.s.size hq hsm).mono ?_
  rintro e w1 ⟨v, rfl, hv, hb⟩
  obtain ⟨g, cap, rfl, -, -⟩ := hv.form
  go_wp2_with fail
  go_ret
  exact ⟨_, rfl, hv, hb⟩

/-- A set in new memory is an answer of the matcher's. -/
theorem SetP.ends {C : MC} {w w' : World} {D : DataW Value} {R : Nat → Prop} {e : Ending} (h : SetP w C.s.size R e w') (hm : MS C w D) : EndsP C w R e w' := by
  obtain ⟨v, h1, h2, h3⟩ := h
  exact ⟨v, D, h1, h2, hm.below h3, Kp.below h3⟩

set_option maxRecDepth 100000 in
set_option maxHeartbeats 1000000 in
theorem bytesOf1_any (C : MC) (ok : C.Ok) (x : Part) (xs : List Part) (hg : x.g = 0) (j : Nat) (hA : AtW C (j : Int) (x :: xs)) (b1 b2 : Nat) (w : World) (D : DataW Value) (h : MS C w D)
    (hb1 : Blk w b1 #[.pointer (some ⟨C.mb, 0, none⟩)] 43) (hb2 : Blk w b2 #[.int .i64 (j : Nat)] 3) :
    Calls Tryz.prog 110 #[.pointer (some ⟨b1, 0, none⟩), .pointer (some ⟨b2, 0, none⟩)] w (EndsP C w (ByteR C.s x)) := by
  obtain ⟨j', P, hj', hjl, hP, -, -⟩ := hA.cons
  obtain rfl : j = j' := by omega
  obtain ⟨g, cap, hpv, hgl, hcap⟩ := h.parts hP.get
  have hji : (j : Int) < (C.all.length : Nat) := by omega
  have hfl := h.flat
  rw [hpv] at hfl
  obtain ⟨c0, c1, c2, c3, -, -, -, -, -⟩ := part_cells hfl hP.get
  have mm1 : w.cell? ⟨C.mb, 1, none⟩ = some (.string C.s) := h.m.cell 1 rfl
  have mm0 : w.cell? ⟨C.mb, 0, none⟩ = some (.pointer (some ⟨C.xb, 0, none⟩)) := h.m.cell 0 rfl
  have xx2 : w.cell? ⟨C.xb, 2, none⟩ = some (.slice (some ⟨g, 0, none⟩) C.all.length cap) := by rw [← hpv]; exact h.x.cell 2 rfl
  have k1 : w.cell? ⟨b1, 0, none⟩ = some (.pointer (some ⟨C.mb, 0, none⟩)) := hb1.cell 0 rfl
  have k2 : w.cell? ⟨b2, 0, none⟩ = some (.int .i64 (j : Nat)) := hb2.cell 0 rfl
  have hsm := ok.small
  have hfew := ok.few
  have HR := hide (And.intro c0 (And.intro c1 (And.intro c2 (And.intro c3 (And.intro mm0 (And.intro mm1 (And.intro xx2 (And.intro k1 k2))))))))
  have HH := hide (And.intro h (hP.plain hg).2)
  clear h hP hfl hA hb1 hb2
  go_enter Tryz.func110, Tryz.ntmps110
  go_wp2_with fail
  refine (noPlaces_words w C.s.size hsm).mono ?_
  rintro e w1 ⟨rfl, hw1, hbl1⟩
  have m1' := cell_below hbl1 mm1
  have k1' := cell_below hbl1 k1
  have HB1 := hide hbl1
  obtain ⟨m, hm⟩ : ∃ m, m = C.s.size / 64 + 1 := ⟨_, rfl⟩
  rw [← hm] at hw1 ⊢
  have HM := hide hm
  have hm2 : m ≤ 1048576 := by omega
  have hml : C.s.size < 64 * m := by omega
  clear c0 c1 c2 c3 mm0 mm1 xx2 k1 k2 hbl1 hm
  go_wp2_with fail
  go_loopg [4, 16] C.s.size (fun k pl c w' => ∃ (q : Nat) (W : Nat → Nat) (M : Nat → Bool), c = .int .i64 (q : Nat) ∧ q + k = C.s.size ∧ WordsP w' (.slice (some ⟨w.heap.size, 0, none⟩) m m) m W ∧ Below w.heap.size w w' ∧ Hid (HoldsP W M ∧ ∀ p, M p = true ↔ p < q ∧ ByteR C.s x p))
  case atStart =>
    exact ⟨0, fun _ => 0, fun _ => false, rfl, by omega, hw1, HB1.out, HoldsP.none, fun p => by simp⟩
  case round =>
    obtain ⟨q, W, M, rfl, hqk, hW, hb, HI⟩ := hrel
    clear hw1 m1' k1'
    by_cases hq : q < C.s.size
    · have hqi : (q : Int) < (C.s.size : Nat) := by omega
      obtain ⟨c0, c1, c2, c3, mm0, mm1, xx2, k1, k2⟩ := HR.out
      replace c0 := cell_below hb c0
      replace c1 := cell_below hb c1
      replace c2 := cell_below hb c2
      replace c3 := cell_below hb c3
      replace mm0 := cell_below hb mm0
      replace mm1 := cell_below hb mm1
      replace xx2 := cell_below hb xx2
      replace k1 := cell_below hb k1
      replace k2 := cell_below hb k2
      go_wp2_with fail
      go_region_held3 (fun w' => w'.cell? ⟨b1, 0, none⟩ = some (.pointer (some ⟨C.mb, 0, none⟩)) ∧ w'.cell? ⟨b2, 0, none⟩ = some (.int .i64 (j : Nat)) ∧ w'.cell? ⟨C.mb, 0, none⟩ = some (.pointer (some ⟨C.xb, 0, none⟩)) ∧ w'.cell? ⟨C.mb, 1, none⟩ = some (.string C.s) ∧ w'.cell? ⟨C.xb, 2, none⟩ = some (.slice (some ⟨g, 0, none⟩) C.all.length cap) ∧ w'.cell? ⟨g, j * 9, none⟩ = some (.int .u64 (P.W 0 : Nat)) ∧ w'.cell? ⟨g, j * 9 + 1, none⟩ = some (.int .u64 (P.W 1 : Nat)) ∧ w'.cell? ⟨g, j * 9 + 2, none⟩ = some (.int .u64 (P.W 2 : Nat)) ∧ w'.cell? ⟨g, j * 9 + 3, none⟩ = some (.int .u64 (P.W 3 : Nat))) (go_keep)
        ((go_at_call 111; refine (bhas_any P.W _ (C.s[q]'hq).toNat (UInt8.toNat_lt _) HH.out.2 _).mono ?_; rintro e w3 ⟨rfl, hb3⟩; have l1 := cell_below hb3 k1; have l2 := cell_below hb3 k2; have l3 := cell_below hb3 mm0; have l4 := cell_below hb3 mm1; have l5 := cell_below hb3 xx2; have l6 := cell_below hb3 c0; have l7 := cell_below hb3 c1; have l8 := cell_below hb3 c2; have l9 := cell_below hb3 c3))
      have hb3' : Below w.heap.size w w3 := hb.trans ((Below.drew (Below.refl _ _)).trans (hb3.mono hb.size))
      have hW3 : WordsP w3 (.slice (some ⟨w.heap.size, 0, none⟩) m m) m W := WordsP.below (w := wr.drew) hW hb3
      clear c0 c1 c2 c3 mm0 mm1 xx2 k1 k2 l1 l2 l3 l4 l5 l6 l7 l8 l9 hb3 hb hW
      cases hone : oneB x.neg x.ps (C.s[q]'hq).toNat
      · have HO := hide hone
        clear hone
        go_wp2_with fail
        go_roundg (gk - 1)
        case measure => omega
        case rel =>
          refine ⟨q + 1, W, M, by go_num, by omega, hW3, hb3', HI.out.1, fun p => (HI.out.2 p).trans ?_⟩
          constructor
          · rintro ⟨h1, h2⟩; exact ⟨by omega, h2⟩
          · rintro ⟨h1, h2⟩
            refine ⟨?_, h2⟩
            by_cases hpq : p = q
            · subst hpq
              obtain ⟨hlt, ho⟩ := h2
              rw [HO.out] at ho; cases ho
            · omega
      · have HO := hide hone
        clear hone
        go_wp2_with fail
        refine (add_words w3 w.heap.size m m W q (by omega) hm2 HI.out.1.1 hW3).mono ?_
        rintro e w4 ⟨rfl, hW4, k4⟩
        have hb4 : Below w.heap.size w w4 := hb3'.trans ⟨k4.os, k4.tape, k4.output, k4.size, fun k hk => k4.block k (Nat.lt_of_lt_of_le hk hb3'.size) (by omega)⟩
        clear hW3 hb3' k4
        go_wp2_with fail
        go_roundg (gk - 1)
        case measure => omega
        case rel =>
          refine ⟨q + 1, _, _, by go_num, by omega, hW4, hb4, holdsP_put HI.out.1 q, fun p => ?_⟩
          rw [Bool.or_eq_true, HI.out.2 p, decide_eq_true_eq]
          constructor
          · rintro (⟨h1, h2⟩ | rfl)
            · exact ⟨by omega, h2⟩
            · exact ⟨by omega, hq, HO.out⟩
          · rintro ⟨h1, h2⟩
            by_cases hpq : p = q
            · exact .inr hpq
            · exact .inl ⟨by omega, h2⟩
    · go_wp2_with fail
      go_ret
      obtain ⟨h1, h2⟩ := HI.out
      obtain ⟨h, -⟩ := HH.out
      refine ⟨_, D, rfl, PSet.ofm HM.out hW h1 (fun p => (h2 p).trans ?_) (fun p hp => ?_), h.below hb, Kp.below hb⟩
      · constructor
        · exact fun hp => hp.2
        · rintro ⟨hlt, hp⟩; exact ⟨by omega, hlt, hp⟩
      · obtain ⟨hlt, _⟩ := hp; omega

theorem bytes1_enters : Enters 110 := fun a w => by simp [go_sem]

set_option maxRecDepth 100000 in
set_option maxHeartbeats 1000000 in
theorem bytesOf_any (C : MC) (ok : C.Ok) (x : Part) (xs : List Part) (hg : x.g = 0) (j : Nat) (hA : AtW C (j : Int) (x :: xs)) (w : World) (D : DataW Value) (h : MS C w D) :
    Calls Tryz.prog 100 #[.pointer (some ⟨C.mb, 0, none⟩), .int .i64 (j : Nat)] w (EndsP C w (ByteR C.s x)) := by
  obtain ⟨j', P, hj', hjl, -, -, -⟩ := hA.cons
  obtain rfl : j = j' := by omega
  have hmf : ∀ (fn : Fn) (first cap : Array Value) (w : World), (Instr.makeFunc fn first cap).run Tryz.prog w = .ok (.func fn first cap) w := fun _ _ _ _ => rfl
  have hb1 : Below w.heap.size w ((w.alloc (.cells #[.pointer (some ⟨C.mb, 0, none⟩)] 43)).alloc (.cells #[.int .i64 (j : Nat)] 3)) := ((Below.refl _ _).alloc (Nat.le_refl _) _).alloc (by simp) _
  have B1 := (Blk.new w #[.pointer (some ⟨C.mb, 0, none⟩)] 43).alloc (.cells #[.int .i64 (j : Nat)] 3)
  have B2 : Blk ((w.alloc (.cells #[.pointer (some ⟨C.mb, 0, none⟩)] 43)).alloc (.cells #[.int .i64 (j : Nat)] 3)) (w.heap.size + 1) #[.int .i64 (j : Nat)] 3 := Blk.newAt (by simp)
  have k1 := B1.cell 0 rfl
  have k2 := B2.cell 0 rfl
  have hu : InU C (j : Int) (-1) (-1) := ⟨by omega, by omega, by omega, by omega, by omega, by omega⟩
  have HH := hide (And.intro h (And.intro hb1 (And.intro B1 B2)))
  have HA := hide hA
  clear h hb1 B1 B2 hA
  go_enter Tryz.func100, Tryz.ntmps100
  go_wp2_with fail
  obtain ⟨h, hb1, B1, B2⟩ := HH.out
  refine (kept_any C ok (j : Int) (-1) (-1) hu 110 _ bytes1_enters _ D (h.below hb1) (fun w1 D1 h1 K1 => ?_)).mono ?_
  · refine (bytesOf1_any C ok x xs hg j HA.out w.heap.size (w.heap.size + 1) w1 D1 h1 (B1.kpm (h.below hb1) K1) (B2.kpm (h.below hb1) K1)).mono ?_
    exact fun e w2 he => he.congr fun p => (HA.out.bytes hg p).symm
  · rintro e w2 ⟨v, D2, rfl, hv, h2, K2⟩
    obtain ⟨g, cap, rfl, -, -⟩ := hv.form
    go_wp2_with fail
    go_ret
    exact ⟨_, D2, rfl, hv.congr fun p => HA.out.bytes hg p, h2, (Kp.below hb1).trans K2⟩
end Go.Proofs.YtpnecblofjpgfaaGreatDoor
