import Derived.Test.YtmjdaifalgpdnaaGreatProJ
namespace Go.Proofs.YtmjdaifalgpdnaaGreat
open Go.RowKit

/-- What list does. -/
def ListPost (w : World) (b : Nat) (s : ByteArray) (en : Int) (pv : Value) (ps : List PP) (r : List Part × St) (e : Ending) (w' : World) : Prop :=
  Kq b pv.ownBlock w w' ∧ ((r.2.bad = false ∧ ∃ pv' qs, e = .returned (.int .i64 (firstIx ps.length r.1)) ∧ LayL ps.length r.1 qs ∧ Flat w' pv' (ps ++ qs) ∧ ER w' b s r.2.i en pv' r.2.g ∧ pv'.ownBlock ≠ some b ∧ Fresh w pv.ownBlock pv'.ownBlock ∧ (ps ++ qs).length ≤ r.2.i) ∨ (r.2.bad = true ∧ e = .panicked (gaveUp en r.2.i)))

def PListC (n : Nat) : Prop := ∀ (b rb : Nat) (s : ByteArray) (at_ : Nat) (en : Int) (pv : Value) (g : Nat) (ps : List PP) (w : World), ER w b s at_ en pv g → Flat w pv ps → pv.ownBlock ≠ some b → Blk w rb #[.pointer (some ⟨b, 0, none⟩)] 158 → rb ≠ b → pv.ownBlock ≠ some rb → s.size ≤ 1048576 → at_ ≤ s.size → g ≤ 9 → ps.length ≤ at_ → 2 * (s.size - at_) + 2 ≤ n →
  Calls Tryz.prog 96 #[.pointer (some ⟨b, 0, none⟩), .func (.func 116) #[] #[.pointer (some ⟨rb, 0, none⟩)]] w fun e w' => ListPost w b s en pv ps ((partsS s true n ⟨at_, false, g⟩ []).1, eatIf s 41 (eatIf s 92 (partsS s true n ⟨at_, false, g⟩ []).2)) e w'

theorem ER.setG {w : World} {b : Nat} {s : ByteArray} {at_ g : Nat} {en : Int} {pv : Value} (h : ER w b s at_ en pv g) (g' : Nat) {i : Int} (e : i = g') : ER (w.setCell ⟨b, 4, none⟩ (.int .i64 i)) b s at_ en pv g' := by
  subst e; exact Blk.set h 4 _ rfl

set_option maxRecDepth 100000 in
set_option maxHeartbeats 1600000 in
theorem group_any (n : Nat) (ih : PListC n) : PGroupC n := by
  intro b s at_ en pv g ps w h hfl hpb hs ha hg hpl hn
  have IH := hide ih
  clear ih
  have hbl := h.lt
  have hR := (Blk.new w #[.pointer (some ⟨b, 0, none⟩)] 158).alloc (.cells #[.int .u64 0, .int .u64 0, .int .u64 0, .int .u64 0, .int .i64 0, .int .i64 0, .int .i64 0, .int .i64 0, .int .i64 0] 167)
  have hB := Blk.newAt (w := w.alloc (.cells #[.pointer (some ⟨b, 0, none⟩)] 158)) (k := w.heap.size + 1) (c := #[.int .u64 0, .int .u64 0, .int .u64 0, .int .u64 0, .int .i64 0, .int .i64 0, .int .i64 0, .int .i64 0, .int .i64 0]) (t := 167) (by simp)
  have h1 := (h.alloc (.cells #[.pointer (some ⟨b, 0, none⟩)] 158)).alloc (.cells #[.int .u64 0, .int .u64 0, .int .u64 0, .int .u64 0, .int .i64 0, .int .i64 0, .int .i64 0, .int .i64 0, .int .i64 0] 167)
  have f1 := (hfl.alloc (.cells #[.pointer (some ⟨b, 0, none⟩)] 158)).alloc (.cells #[.int .u64 0, .int .u64 0, .int .u64 0, .int .u64 0, .int .i64 0, .int .i64 0, .int .i64 0, .int .i64 0, .int .i64 0] 167)
  have k1 := ((Kp.refl b w).alloc (.cells #[.pointer (some ⟨b, 0, none⟩)] 158)).alloc (.cells #[.int .u64 0, .int .u64 0, .int .u64 0, .int .u64 0, .int .i64 0, .int .i64 0, .int .i64 0, .int .i64 0, .int .i64 0] 167)
  have hpl2 := hfl.lt
  have hpn : ∀ k, w.heap.size ≤ k → pv.ownBlock ≠ some k := fun k hk e => by have := hpl2 _ e; omega
  have HPL := hide (And.intro hpl2 (And.intro hpn hpb))
  clear hpl2 hpn hpb
  have c4 : ((w.alloc (.cells #[.pointer (some ⟨b, 0, none⟩)] 158)).alloc (.cells #[.int .u64 0, .int .u64 0, .int .u64 0, .int .u64 0, .int .i64 0, .int .i64 0, .int .i64 0, .int .i64 0, .int .i64 0] 167)).cell? ⟨b, 4, none⟩ = some (.int .i64 g) := Blk.cell h1 4 rfl
  have cf := Blk.fz h1
  have r0 : ((w.alloc (.cells #[.pointer (some ⟨b, 0, none⟩)] 158)).alloc (.cells #[.int .u64 0, .int .u64 0, .int .u64 0, .int .u64 0, .int .i64 0, .int .i64 0, .int .i64 0, .int .i64 0, .int .i64 0] 167)).cell? ⟨w.heap.size, 0, none⟩ = some (.pointer (some ⟨b, 0, none⟩)) := hR.cell 0 rfl
  have hg9 : ((g : Int) == 9) = false := by simp; omega
  have h2 := ((h.setG (g + 1) (i := (g : Int) + 1) (by simp)).alloc (.cells #[.pointer (some ⟨b, 0, none⟩)] 158)).alloc (.cells #[.int .u64 0, .int .u64 0, .int .u64 0, .int .u64 0, .int .i64 0, .int .i64 0, .int .i64 0, .int .i64 0, .int .i64 0] 167)
  have f2 := ((hfl.set (p := ⟨b, 4, none⟩) HPL.out.2.2 (.int .i64 ((g : Int) + 1))).alloc (.cells #[.pointer (some ⟨b, 0, none⟩)] 158)).alloc (.cells #[.int .u64 0, .int .u64 0, .int .u64 0, .int .u64 0, .int .i64 0, .int .i64 0, .int .i64 0, .int .i64 0, .int .i64 0] 167)
  have k2 := (((Kp.refl b w).set 4 (.int .i64 ((g : Int) + 1))).alloc (.cells #[.pointer (some ⟨b, 0, none⟩)] 158)).alloc (.cells #[.int .u64 0, .int .u64 0, .int .u64 0, .int .u64 0, .int .i64 0, .int .i64 0, .int .i64 0, .int .i64 0, .int .i64 0] 167)
  have R2 := (Blk.newAt (w := w.setCell ⟨b, 4, none⟩ (.int .i64 ((g : Int) + 1))) (k := w.heap.size) (c := #[.pointer (some ⟨b, 0, none⟩)]) (t := 158) (by simp [World.setCell])).alloc (.cells #[.int .u64 0, .int .u64 0, .int .u64 0, .int .u64 0, .int .i64 0, .int .i64 0, .int .i64 0, .int .i64 0, .int .i64 0] 167)
  have B2 := Blk.newAt (w := (w.setCell ⟨b, 4, none⟩ (.int .i64 ((g : Int) + 1))).alloc (.cells #[.pointer (some ⟨b, 0, none⟩)] 158)) (k := w.heap.size + 1) (c := #[.int .u64 0, .int .u64 0, .int .u64 0, .int .u64 0, .int .i64 0, .int .i64 0, .int .i64 0, .int .i64 0, .int .i64 0]) (t := 167) (by simp [World.setCell])
  have e4 : (((w.setCell ⟨b, 4, none⟩ (.int .i64 ((g : Int) + 1))).alloc (.cells #[.pointer (some ⟨b, 0, none⟩)] 158)).alloc (.cells #[.int .u64 0, .int .u64 0, .int .u64 0, .int .u64 0, .int .i64 0, .int .i64 0, .int .i64 0, .int .i64 0, .int .i64 0] 167)).cell? ⟨b, 4, none⟩ = some (.int .i64 ((g : Int) + 1)) := (Blk.cell h2 4 rfl).trans (by simp)
  have e0 : (((w.setCell ⟨b, 4, none⟩ (.int .i64 ((g : Int) + 1))).alloc (.cells #[.pointer (some ⟨b, 0, none⟩)] 158)).alloc (.cells #[.int .u64 0, .int .u64 0, .int .u64 0, .int .u64 0, .int .i64 0, .int .i64 0, .int .i64 0, .int .i64 0, .int .i64 0] 167)).cell? ⟨w.heap.size, 0, none⟩ = some (.pointer (some ⟨b, 0, none⟩)) := R2.cell 0 rfl
  have hmf : ∀ (fn : Fn) (first cap : Array Value) (w : World), (Instr.makeFunc fn first cap).run Tryz.prog w = .ok (.func fn first cap) w := fun _ _ _ _ => rfl
  have HE : Hid (openT s n at_ g = _) := openT.eq_1 s n at_ g
  go_enter Tryz.func114, Tryz.ntmps114
  go_wp2_with fail
  refine (IH.out b w.heap.size s at_ en pv (g + 1) ps _ h2 f2 HPL.out.2.2 R2 (by omega) (HPL.out.2.1 _ (Nat.le_refl _)) hs ha (by omega) hpl hn).mono ?_
  rintro e w3 ⟨k3, hT⟩
  generalize partsS s true n ⟨at_, false, g + 1⟩ [] = q at *
  obtain ⟨kids, st1⟩ := q
  dsimp only at hT HE
  have k4 : Kq b pv.ownBlock w w3 := (Kq.of_kp (row := pv.ownBlock) k2).trans k3 (.inl rfl)
  rcases hT with ⟨hbd, pv', qs, rfl, hlay, f3, h3, hpb3, hfr, hln⟩ | ⟨hbd, rfl⟩
  · have B3 := B2.kq k3 (by omega) (fun e => HPL.out.2.1 _ (by omega) e.symm)
    have hw2 := B2.lt
    have hpn3 : pv'.ownBlock ≠ some (w.heap.size + 1) := by
      intro e
      rcases hfr with e2 | e2
      · exact HPL.out.2.1 _ (by omega) (e2.symm.trans e)
      · have := e2 _ e; omega
    have hfr2 : Fresh w pv.ownBlock pv'.ownBlock := (Fresh.refl w _).trans hfr k2.size
    have HX := hide (And.intro hlay (And.intro hln (And.intro hpb3 (And.intro hpn3 hfr2))))
    clear hlay hln hpb3 hpn3 hfr2 hfr
    obtain ⟨c0, c1, c2, c3, c4, c5, c6, c7, c8, cf⟩ := B3.nine
    go_wp2_with fail
    refine bodyPost_ret (ret_part98 Tryz.results114 rfl (B3.put9 _ _ _ _ _ _ _ _ _)) rfl ?_
    rw [HE.out]
    obtain ⟨hlay, hln, hpb3, hpn3, hfr2⟩ := HX.out
    refine ⟨kq_put9 k4 (by omega) _ _ _ _ _ _ _ _ _, .inl ⟨hbd, fun _ => 0, (g : Int) + 1, firstIx ps.length kids, pv', qs, rfl, ?_, f3.put9 hpn3 _ _ _ _ _ _ _ _ _, h3.put9 (by omega) _ _ _ _ _ _ _ _ _, hpb3, hfr2, hln⟩⟩
    rw [LayA, if_neg (by omega)]
    exact ⟨by simp, rfl, hlay⟩
  · refine ⟨rfl, ?_⟩
    rw [HE.out]
    exact ⟨k4, .inr ⟨hbd, rfl⟩⟩

set_option maxHeartbeats 400000 in
theorem groupEnd_any {b rb : Nat} {s : ByteArray} {at_ : Nat} {en : Int} {pv : Value} {g : Nat} {x : Bool} {w : World} (hx : isEsc s ⟨at_, false, g⟩ 41 = x) (h : ER w b s at_ en pv g) (hr : Blk w rb #[.pointer (some ⟨b, 0, none⟩)] 158) (hs : s.size ≤ 1048576) (ha : at_ ≤ s.size) :
    Calls Tryz.prog 116 #[.pointer (some ⟨rb, 0, none⟩)] w fun e w' => e = .returned (.bool x) ∧ ER w' b s (if x then at_ + 2 else at_) en pv g ∧ Kp b w w' := by
  have r0 : w.cell? ⟨rb, 0, none⟩ = some (.pointer (some ⟨b, 0, none⟩)) := hr.cell 0 rfl
  have n1 := nextW_two s at_ g 41
  rw [show (((41 : UInt8).toNat : Nat) : Int) = 41 from rfl, hx] at n1
  have N1 := hide n1
  clear n1 hx
  cases x
  all_goals
    go_enter Tryz.func116, Tryz.ntmps116
    go_wp2_with fail
    refine (takeIf_of2 N1.out h hs ha).mono ?_
    rintro e w1 ⟨rfl, h1, k1⟩
    go_wp2_with fail
    go_ret
    exact ⟨rfl, h1, k1⟩

end Go.Proofs.YtmjdaifalgpdnaaGreat

namespace Go.Proofs.YtmjdaifalgpdnaaGreat
open Go.RowKit

theorem ownsRow_setAt {w : World} {base : Nat} {e : TypeId} {size g n cap : Nat} {xs : List Value} (h : w.ownsRow base e size (.slice (some ⟨g, 0, none⟩) n cap) n xs) {j : Nat} (_hj : j < n * size) (v : Value) :
    (w.setCell ⟨g, j, none⟩ v).ownsRow base e size (.slice (some ⟨g, 0, none⟩) n cap) n (xs.set j v) := by
  refine ⟨by rw [List.length_set]; exact h.1, ?_⟩
  rcases h.2 with ⟨h', _⟩ | ⟨g', cap', cur, h', hb, hg, hle, hm, hsz, htake⟩
  · cases h'
  · simp only [Value.slice.injEq, Option.some.injEq, Addr.mk.injEq, and_true, true_and] at h'
    obtain ⟨rfl, rfl⟩ := h'
    refine .inr ⟨g, cap, cur.setIfInBounds j v, rfl, hb, ?_, hle, hm, by simpa using hsz, ?_⟩
    · simp [World.setCell, Array.getElem?_modify, hg]
    · rw [← htake]
      simp [List.take_set]

theorem Flat.form {w : World} {pv : Value} {ps : List PP} (h : Flat w pv ps) : ∃ pa cap, pv = .slice pa ps.length cap := by
  rcases h.2 with ⟨h1, h2⟩ | ⟨g, cap, cur, h1, _⟩
  · exact ⟨none, 0, by rw [h1, h2]⟩
  · exact ⟨_, _, h1⟩

theorem Flat.some {w : World} {pv : Value} {ps : List PP} (h : Flat w pv ps) (hn : 0 < ps.length) : ∃ g cap, pv = .slice (some ⟨g, 0, none⟩) ps.length cap ∧ g < w.heap.size ∧ ps.length ≤ cap := by
  rcases h.2 with ⟨h1, h2⟩ | ⟨g, cap, cur, h1, _, hg, hle, _⟩
  · omega
  · exact ⟨g, cap, h1, (Array.getElem?_eq_some_iff.1 hg).1, hle⟩

theorem PP.len (p : PP) : p.cells.length = 9 := rfl

theorem flat_get {w : World} {g cap : Nat} {A B : List PP} {p : PP} (h : Flat w (.slice (some ⟨g, 0, none⟩) (A ++ p :: B).length cap) (A ++ p :: B)) {o : Nat} (ho : o < 9) : w.cell? ⟨g, A.length * 9 + o, none⟩ = p.cells[o]? := by
  have hl : (A ++ p :: B).length = A.length + 1 + B.length := by simp; omega
  rw [World.ownsRow.cellAt h _ (by rw [hl]; omega), allCells_append]
  rw [List.getElem?_append_right (by rw [allCells_len]; omega), allCells_len]
  rw [show A.length * 9 + o - A.length * 9 = o from by omega]
  show (p.cells ++ allCells B)[o]? = _
  rw [List.getElem?_append_left (by rw [p.len]; exact ho)]

theorem flat_fz {w : World} {g n cap : Nat} {ps : List PP} (h : w.ownsRow 0 167 9 (.slice (some ⟨g, 0, none⟩) n cap) n (allCells ps)) (o : Nat) : w.frozen? ⟨g, o, none⟩ = false := by
  rcases h.2 with ⟨h', _⟩ | ⟨g', cap', cur, h', _, hg, _⟩
  · cases h'
  · simp only [Value.slice.injEq, Option.some.injEq, Addr.mk.injEq, and_true, true_and] at h'
    obtain ⟨rfl, rfl⟩ := h'
    simp [World.frozen?, hg]

theorem set_mid (X Y c : List Value) (o : Nat) (v : Value) (ho : o < c.length) : (X ++ (c ++ Y)).set (X.length + o) v = X ++ (c.set o v ++ Y) := by
  rw [List.set_append_right _ _ (by omega), show X.length + o - X.length = o from by omega, List.set_append_left _ _ ho]

/-- One cell of one part is stored. -/
theorem flat_set1 {w : World} {g cap : Nat} {A B : List PP} {c : List Value} (h : w.ownsRow 0 167 9 (.slice (some ⟨g, 0, none⟩) (A.length + 1 + B.length) cap) (A.length + 1 + B.length) (allCells A ++ (c ++ allCells B))) {o : Nat} (hc : c.length = 9) (ho : o < 9) (v : Value) :
    (w.setCell ⟨g, A.length * 9 + o, none⟩ v).ownsRow 0 167 9 (.slice (some ⟨g, 0, none⟩) (A.length + 1 + B.length) cap) (A.length + 1 + B.length) (allCells A ++ (c.set o v ++ allCells B)) := by
  have := ownsRow_setAt h (j := A.length * 9 + o) (by omega) v
  rw [← allCells_len A, set_mid _ _ _ _ _ (by omega)] at this
  rw [allCells_len] at this
  exact this

theorem flat_mid {w : World} {g cap : Nat} {A B : List PP} {p : PP} : Flat w (.slice (some ⟨g, 0, none⟩) (A ++ p :: B).length cap) (A ++ p :: B) ↔ w.ownsRow 0 167 9 (.slice (some ⟨g, 0, none⟩) (A.length + 1 + B.length) cap) (A.length + 1 + B.length) (allCells A ++ (p.cells ++ allCells B)) := by
  have hl : (A ++ p :: B).length = A.length + 1 + B.length := by simp; omega
  unfold Flat
  rw [hl, allCells_append]
  rfl

/-- The next of a part is stored. -/
theorem flat_next {w : World} {g cap : Nat} {A B : List PP} {p : PP} (h : Flat w (.slice (some ⟨g, 0, none⟩) (A ++ p :: B).length cap) (A ++ p :: B)) (nx : Int) :
    Flat (w.setCell ⟨g, A.length * 9 + 6, none⟩ (.int .i64 nx)) (.slice (some ⟨g, 0, none⟩) (A ++ { p with next := nx } :: B).length cap) (A ++ { p with next := nx } :: B) :=
  flat_mid.2 (flat_set1 (flat_mid.1 h) (o := 6) p.len (by omega) (.int .i64 nx))

/-- A whole part is stored. -/
theorem flat_put {w : World} {g cap : Nat} {A B : List PP} {p q : PP} (h : Flat w (.slice (some ⟨g, 0, none⟩) (A ++ p :: B).length cap) (A ++ p :: B)) :
    Flat (((((((((w.setCell ⟨g, A.length * 9, none⟩ (.int .u64 (q.W 0 : Nat))).setCell ⟨g, A.length * 9 + 1, none⟩ (.int .u64 (q.W 1 : Nat))).setCell ⟨g, A.length * 9 + 2, none⟩ (.int .u64 (q.W 2 : Nat))).setCell ⟨g, A.length * 9 + 3, none⟩ (.int .u64 (q.W 3 : Nat))).setCell ⟨g, A.length * 9 + 4, none⟩ (.int .i64 q.group)).setCell ⟨g, A.length * 9 + 5, none⟩ (.int .i64 q.inner)).setCell ⟨g, A.length * 9 + 6, none⟩ (.int .i64 q.next)).setCell ⟨g, A.length * 9 + 7, none⟩ (.int .i64 q.least)).setCell ⟨g, A.length * 9 + 8, none⟩ (.int .i64 q.most)) (.slice (some ⟨g, 0, none⟩) (A ++ q :: B).length cap) (A ++ q :: B) := by
  refine flat_mid.2 ?_
  have q0 := flat_set1 (flat_mid.1 h) (o := 0) p.len (by omega) (.int .u64 (q.W 0 : Nat))
  have q1 := flat_set1 q0 (o := 1) (by rfl) (by omega) (.int .u64 (q.W 1 : Nat))
  have q2 := flat_set1 q1 (o := 2) (by rfl) (by omega) (.int .u64 (q.W 2 : Nat))
  have q3 := flat_set1 q2 (o := 3) (by rfl) (by omega) (.int .u64 (q.W 3 : Nat))
  have q4 := flat_set1 q3 (o := 4) (by rfl) (by omega) (.int .i64 q.group)
  have q5 := flat_set1 q4 (o := 5) (by rfl) (by omega) (.int .i64 q.inner)
  have q6 := flat_set1 q5 (o := 6) (by rfl) (by omega) (.int .i64 q.next)
  have q7 := flat_set1 q6 (o := 7) (by rfl) (by omega) (.int .i64 q.least)
  exact flat_set1 q7 (o := 8) (by rfl) (by omega) (.int .i64 q.most)

/-- What part does. -/
def PartPost (w : World) (b : Nat) (s : ByteArray) (en : Int) (pv : Value) (ps : List PP) (r : Part × St) (e : Ending) (w' : World) : Prop :=
  Kq b pv.ownBlock w w' ∧ ((r.2.bad = false ∧ ∃ pv' p ks, e = .returned (.int .i64 (ps.length : Nat)) ∧ LayA (ps.length + 1) r.1 p.W p.group p.inner ks ∧ p.least = r.1.mn ∧ p.most = mxV r.1.mx ∧ p.next = -1 ∧ Flat w' pv' (ps ++ p :: ks) ∧ ER w' b s r.2.i en pv' r.2.g ∧ pv'.ownBlock ≠ some b ∧ Fresh w pv.ownBlock pv'.ownBlock ∧ (ps ++ p :: ks).length ≤ r.2.i) ∨ (r.2.bad = true ∧ e = .panicked (gaveUp en r.2.i)))

def PPartC (n : Nat) : Prop := ∀ (b : Nat) (s : ByteArray) (at_ : Nat) (en : Int) (pv : Value) (g : Nat) (ps : List PP) (w : World), ER w b s at_ en pv g → Flat w pv ps → pv.ownBlock ≠ some b → s.size ≤ 1048576 → at_ ≤ s.size → g ≤ 9 → ps.length ≤ at_ → 2 * (s.size - at_) + 1 ≤ n →
  Calls Tryz.prog 100 #[.pointer (some ⟨b, 0, none⟩)] w fun e w' => PartPost w b s en pv ps (partS s n ⟨at_, false, g⟩) e w'

theorem info98 : (Tryz.prog.info? 167).map (fun i => (i.zero, i.size, i.bytes)) = some (some (.agg #[.int .u64 0, .int .u64 0, .int .u64 0, .int .u64 0, .int .i64 0, .int .i64 0, .int .i64 0, .int .i64 0, .int .i64 0]), 9, 72) := by kernel_rfl

end Go.Proofs.YtmjdaifalgpdnaaGreat
