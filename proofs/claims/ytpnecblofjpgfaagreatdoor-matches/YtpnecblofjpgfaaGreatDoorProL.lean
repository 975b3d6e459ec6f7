import Derived.Test.YtpnecblofjpgfaaGreatDoorProK
namespace Go.Proofs.YtpnecblofjpgfaaGreatDoor
open Go.RowKit

theorem ownsRow_setAt {w : World} {base : Nat} {e : TypeId} {size g n cap : Nat} {xs : List Value} (h : w.ownsRow base e size (.slice (some ⟨g, 0, none⟩) n cap) n xs) {j : Nat} (_hj : j < n * size) (v : Value) :
    (w.setCell ⟨g, j, none⟩ v).ownsRow base e size (.slice (some ⟨g, 0, none⟩) n cap) n (xs.set j v) := by
  refine ⟨by rw [List.length_set]; exact h.1, ?_⟩
  rcases h.2 with ⟨h', _⟩ | ⟨g', cap', cur, h', hb, hg, hle, hm, hsz, htake⟩
  · cases h'
  · simp only [Value.slice.injEq, Option.some.injEq, Addr.mk.injEq, and_true, true_and] at h'
    obtain ⟨rfl, rfl⟩ := h'
    refine .inr ⟨g, cap, cur.setIfInBounds j v, rfl, hb, ?_, hle, hm, by simpa using hsz, ?_⟩
    · simp [World.setCell, Array.getElem?_modify, hg]
    · rw [← htake]
      simp [List.take_set]

theorem Flat.form {w : World} {pv : Value} {ps : List PP} (h : Flat w pv ps) : ∃ pa cap, pv = .slice pa ps.length cap := by
  rcases h.2 with ⟨h1, h2⟩ | ⟨g, cap, cur, h1, _⟩
  · exact ⟨none, 0, by rw [h1, h2]⟩
  · exact ⟨_, _, h1⟩

theorem Flat.some {w : World} {pv : Value} {ps : List PP} (h : Flat w pv ps) (hn : 0 < ps.length) : ∃ g cap, pv = .slice (some ⟨g, 0, none⟩) ps.length cap ∧ g < w.heap.size ∧ ps.length ≤ cap := by
  rcases h.2 with ⟨h1, h2⟩ | ⟨g, cap, cur, h1, _, hg, hle, _⟩
  · omega
  · exact ⟨g, cap, h1, (Array.getElem?_eq_some_iff.1 hg).1, hle⟩

theorem PP.len (p : PP) : p.cells.length = 9 := rfl

theorem flat_get {w : World} {g cap : Nat} {A B : List PP} {p : PP} (h : Flat w (.slice (some ⟨g, 0, none⟩) (A ++ p :: B).length cap) (A ++ p :: B)) {o : Nat} (ho : o < 9) : w.cell? ⟨g, A.length * 9 + o, none⟩ = p.cells[o]? := by
  have hl : (A ++ p :: B).length = A.length + 1 + B.length := by simp; omega
  rw [World.ownsRow.cellAt h _ (by rw [hl]; omega), allCells_append]
  rw [List.getElem?_append_right (by rw [allCells_len]; omega), allCells_len]
  rw [show A.length * 9 + o - A.length * 9 = o from by omega]
  show (p.cells ++ allCells B)[o]? = _
  rw [List.getElem?_append_left (by rw [p.len]; exact ho)]

theorem flat_fz {w : World} {g n cap : Nat} {ps : List PP} (h : w.ownsRow 0 104 9 (.slice (some ⟨g, 0, none⟩) n cap) n (allCells ps)) (o : Nat) : w.frozen? ⟨g, o, none⟩ = false := by
  rcases h.2 with ⟨h', _⟩ | ⟨g', cap', cur, h', _, hg, _⟩
  · cases h'
  · simp only [Value.slice.injEq, Option.some.injEq, Addr.mk.injEq, and_true, true_and] at h'
    obtain ⟨rfl, rfl⟩ := h'
    simp [World.frozen?, hg]

theorem set_mid (X Y c : List Value) (o : Nat) (v : Value) (ho : o < c.length) : (X ++ (c ++ Y)).set (X.length + o) v = X ++ (c.set o v ++ Y) := by
  rw [List.set_append_right _ _ (by omega), show X.length + o - X.length = o from by omega, List.set_append_left _ _ ho]

/-- One cell of one part is stored. -/
theorem flat_set1 {w : World} {g cap : Nat} {A B : List PP} {c : List Value} (h : w.ownsRow 0 104 9 (.slice (some ⟨g, 0, none⟩) (A.length + 1 + B.length) cap) (A.length + 1 + B.length) (allCells A ++ (c ++ allCells B))) {o : Nat} (hc : c.length = 9) (ho : o < 9) (v : Value) :
    (w.setCell ⟨g, A.length * 9 + o, none⟩ v).ownsRow 0 104 9 (.slice (some ⟨g, 0, none⟩) (A.length + 1 + B.length) cap) (A.length + 1 + B.length) (allCells A ++ (c.set o v ++ allCells B)) := by
  have := ownsRow_setAt h (j := A.length * 9 + o) (by omega) v
  rw [← allCells_len A, set_mid _ _ _ _ _ (by omega)] at this
  rw [allCells_len] at this
  exact this

theorem flat_mid {w : World} {g cap : Nat} {A B : List PP} {p : PP} : Flat w (.slice (some ⟨g, 0, none⟩) (A ++ p :: B).length cap) (A ++ p :: B) ↔ w.ownsRow 0 104 9 (.slice (some ⟨g, 0, none⟩) (A.length + 1 + B.length) cap) (A.length + 1 + B.length) (allCells A ++ (p.cells ++ allCells B)) := by
  have hl : (A ++ p :: B).length = A.length + 1 + B.length := by simp; omega
  unfold Flat
  rw [hl, allCells_append]
  rfl

/-- The next of a part is stored. -/
theorem flat_next {w : World} {g cap : Nat} {A B : List PP} {p : PP} (h : Flat w (.slice (some ⟨g, 0, none⟩) (A ++ p :: B).length cap) (A ++ p :: B)) (nx : Int) :
    Flat (w.setCell ⟨g, A.length * 9 + 6, none⟩ (.int .i64 nx)) (.slice (some ⟨g, 0, none⟩) (A ++ { p with next := nx } :: B).length cap) (A ++ { p with next := nx } :: B) :=
  flat_mid.2 (flat_set1 (flat_mid.1 h) (o := 6) p.len (by omega) (.int .i64 nx))

/-- A whole part is stored. -/
theorem flat_put {w : World} {g cap : Nat} {A B : List PP} {p q : PP} (h : Flat w (.slice (some ⟨g, 0, none⟩) (A ++ p :: B).length cap) (A ++ p :: B)) :
    Flat (((((((((w.setCell ⟨g, A.length * 9, none⟩ (.int .u64 (q.W 0 : Nat))).setCell ⟨g, A.length * 9 + 1, none⟩ (.int .u64 (q.W 1 : Nat))).setCell ⟨g, A.length * 9 + 2, none⟩ (.int .u64 (q.W 2 : Nat))).setCell ⟨g, A.length * 9 + 3, none⟩ (.int .u64 (q.W 3 : Nat))).setCell ⟨g, A.length * 9 + 4, none⟩ (.int .i64 q.group)).setCell ⟨g, A.length * 9 + 5, none⟩ (.int .i64 q.inner)).setCell ⟨g, A.length * 9 + 6, none⟩ (.int .i64 q.next)).setCell ⟨g, A.length * 9 + 7, none⟩ (.int .i64 q.least)).setCell ⟨g, A.length * 9 + 8, none⟩ (.int .i64 q.most)) (.slice (some ⟨g, 0, none⟩) (A ++ q :: B).length cap) (A ++ q :: B) := by
  refine flat_mid.2 ?_
  have q0 := flat_set1 (flat_mid.1 h) (o := 0) p.len (by omega) (.int .u64 (q.W 0 : Nat))
  have q1 := flat_set1 q0 (o := 1) (by rfl) (by omega) (.int .u64 (q.W 1 : Nat))
  have q2 := flat_set1 q1 (o := 2) (by rfl) (by omega) (.int .u64 (q.W 2 : Nat))
  have q3 := flat_set1 q2 (o := 3) (by rfl) (by omega) (.int .u64 (q.W 3 : Nat))
  have q4 := flat_set1 q3 (o := 4) (by rfl) (by omega) (.int .i64 q.group)
  have q5 := flat_set1 q4 (o := 5) (by rfl) (by omega) (.int .i64 q.inner)
  have q6 := flat_set1 q5 (o := 6) (by rfl) (by omega) (.int .i64 q.next)
  have q7 := flat_set1 q6 (o := 7) (by rfl) (by omega) (.int .i64 q.least)
  exact flat_set1 q7 (o := 8) (by rfl) (by omega) (.int .i64 q.most)

/-- What part does. -/
def PartPost (w : World) (b : Nat) (s : ByteArray) (en : Int) (pv : Value) (ps : List PP) (r : Part × St) (e : Ending) (w' : World) : Prop :=
  Kq b pv.ownBlock w w' ∧ ((r.2.bad = false ∧ ∃ pv' p ks, e = .returned (.int .i64 (ps.length : Nat)) ∧ LayA (ps.length + 1) r.1 p.W p.group p.inner ks ∧ p.least = r.1.mn ∧ p.most = mxV r.1.mx ∧ p.next = -1 ∧ Flat w' pv' (ps ++ p :: ks) ∧ ER w' b s r.2.i en pv' r.2.g ∧ pv'.ownBlock ≠ some b ∧ Fresh w pv.ownBlock pv'.ownBlock ∧ (ps ++ p :: ks).length ≤ r.2.i) ∨ (r.2.bad = true ∧ e = .panicked (gaveUp en r.2.i)))

def PPartC (n : Nat) : Prop := ∀ (b : Nat) (s : ByteArray) (at_ : Nat) (en : Int) (pv : Value) (g : Nat) (ps : List PP) (w : World), ER w b s at_ en pv g → Flat w pv ps → pv.ownBlock ≠ some b → s.size ≤ 1048576 → at_ ≤ s.size → g ≤ 9 → ps.length ≤ at_ → 2 * (s.size - at_) + 1 ≤ n →
  Calls Tryz.prog 52 #[.pointer (some ⟨b, 0, none⟩)] w fun e w' => PartPost w b s en pv ps (partS s n ⟨at_, false, g⟩) e w'

theorem info98 : (Tryz.prog.info? 104).map (fun i => (i.zero, i.size, i.bytes)) = some (some (.agg #[.int .u64 0, .int .u64 0, .int .u64 0, .int .u64 0, .int .i64 0, .int .i64 0, .int .i64 0, .int .i64 0, .int .i64 0]), 9, 72) := by kernel_rfl

end Go.Proofs.YtpnecblofjpgfaaGreatDoor
