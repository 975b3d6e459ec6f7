import Derived.Test.YtpnecblofjpgfaaGreatDoorMatH
namespace Go.Proofs.YtpnecblofjpgfaaGreatDoor
open Go.RowKit Go.Shelf

/-- What a matcher stands on. -/
structure MC where
  s : ByteArray
  all : List PP
  mb : Nat
  xb : Nat
  mm : Nat
  pv : Value
  x : Ex

/-- The program's limits. -/
structure MC.Ok (C : MC) : Prop where
  small : C.s.size ≤ 60000
  few : C.all.length ≤ 1048576

/-- Parts as the reader makes them, laid from number i on. -/
structure AtW (C : MC) (i : Int) (ps : List Part) : Prop where
  at_ : AtL C.all i ps
  wf : WFs 9 ps
  mm : MMs ps

theorem AtW.cons {C : MC} {i : Int} {x : Part} {xs : List Part} (h : AtW C i (x :: xs)) : ∃ (j : Nat) (P : PP), i = (j : Int) ∧ j < C.all.length ∧ AtP C.all j P x xs ∧ AtW C P.next xs ∧ (x.g ≠ 0 → AtW C P.inner x.kids) := by
  obtain ⟨j, P, rfl, hP⟩ := h.at_.cons
  have hw := h.wf
  have hm := h.mm
  simp only [WFs] at hw
  simp only [MMs] at hm
  refine ⟨j, P, rfl, (List.getElem?_eq_some_iff.1 hP.get).1, hP, ⟨hP.next, hw.2, hm.2⟩, fun hg => ⟨(hP.group hg).2, ?_, ?_⟩⟩
  · obtain ⟨g, kids, neg, ps, mn, mx⟩ := x
    simp only [WF] at hw
    exact hw.1.2.2.2.2.2.2.2
  · obtain ⟨g, kids, neg, ps, mn, mx⟩ := x
    simp only [MM] at hm
    exact hm.1.2

/-- The bounds of a part's count. -/
theorem AtW.counts {C : MC} {i : Int} {x : Part} {xs : List Part} (h : AtW C i (x :: xs)) : 0 ≤ x.mn ∧ x.mn ≤ 9 ∧ x.mx ≤ 9 ∧ (x.mx < 0 ∨ x.mn ≤ x.mx) := by
  have hw := h.wf
  have hm := h.mm
  simp only [WFs] at hw
  simp only [MMs] at hm
  obtain ⟨g, kids, neg, ps, mn, mx⟩ := x
  simp only [WF] at hw
  simp only [MM] at hm
  exact ⟨hw.1.2.2.1, hw.1.2.2.2.1, hw.1.2.2.2.2.2.1, hm.1.1⟩

/-- Where a byte stands that a part matches. -/
def ByteR (s : ByteArray) (x : Part) (q : Nat) : Prop := ∃ h : q < s.size, oneB x.neg x.ps (s[q]'h).toNat = true
/-- Where there is a match. -/
def BeginR (C : MC) (q : Nat) : Prop := (C.x.first = true → q = 0) ∧ ∃ e, e ≤ C.s.size ∧ (C.x.last = true → e = C.s.size) ∧ SeqR C.s C.x.parts q e

/-- What the map has by a key. -/
def KeyR (C : MC) (i c p : Int) (q : Nat) : Prop :=
  (c = -2 ∧ p = -1 ∧ q ≤ C.s.size ∧ BeginR C q) ∨ (c = -1 ∧ p = -1 ∧ ∃ x xs, AtW C i (x :: xs) ∧ x.g = 0 ∧ ByteR C.s x q) ∨
  (c = -2 ∧ 0 ≤ p ∧ ∃ ps, AtW C i ps ∧ SeqR C.s ps q p.toNat) ∨ (0 ≤ c ∧ 0 ≤ p ∧ ∃ x xs, AtW C i (x :: xs) ∧ Copies (AtomR C.s x) x.mn x.mx c.toNat q p.toNat)

theorem key_begin (C : MC) (i : Int) (q : Nat) : KeyR C i (-2) (-1) q ↔ q ≤ C.s.size ∧ BeginR C q := by
  constructor
  · rintro (⟨_, _, h⟩ | ⟨h, _⟩ | ⟨_, h, _⟩ | ⟨h, _⟩)
    · exact h
    · omega
    · omega
    · omega
  · exact fun h => .inl ⟨rfl, rfl, h⟩

theorem AtW.seq {C : MC} {i : Int} {ps : List Part} (h : AtW C i ps) (q e : Nat) : KeyR C i (-2) (e : Int) q ↔ SeqR C.s ps q e := by
  constructor
  · rintro (⟨_, h, _⟩ | ⟨h, _⟩ | ⟨_, _, ps', h', hs⟩ | ⟨h, _⟩)
    · omega
    · omega
    · rw [Int.toNat_natCast] at hs
      exact seqR_same C.s C.all 9 ps' ps i h'.wf h.wf h'.at_ h.at_ q e hs
    · omega
  · exact fun hs => .inr (.inr (.inl ⟨rfl, by omega, ps, h, by rw [Int.toNat_natCast]; exact hs⟩))

/-- Two readings of one number. -/
theorem AtW.two {C : MC} {i : Int} {x x' : Part} {xs xs' : List Part} (h : AtW C i (x :: xs)) (h' : AtW C i (x' :: xs')) : ∃ j P, AtP C.all j P x xs ∧ AtP C.all j P x' xs' := by
  obtain ⟨j, P, rfl, hP⟩ := h.at_.cons
  obtain ⟨j', P', hj, hP'⟩ := h'.at_.cons
  obtain rfl : j = j' := by omega
  obtain rfl : P = P' := by have := hP.get; rw [hP'.get] at this; exact (Option.some.inj this).symm
  exact ⟨j, P, hP, hP'⟩

theorem AtW.bytes {C : MC} {i : Int} {x : Part} {xs : List Part} (h : AtW C i (x :: xs)) (hg : x.g = 0) (q : Nat) : KeyR C i (-1) (-1) q ↔ ByteR C.s x q := by
  constructor
  · rintro (⟨h, _⟩ | ⟨_, _, x', xs', h', hg', hlt, ho⟩ | ⟨h, _⟩ | ⟨h, _⟩)
    · omega
    · obtain ⟨j, P, hP, hP'⟩ := h.two h'
      refine ⟨hlt, ?_⟩
      have e1 := (hP.plain hg).2.2 _ (show (C.s[q]'hlt).toNat < 256 from UInt8.toNat_lt _)
      have e2 := (hP'.plain hg').2.2 _ (show (C.s[q]'hlt).toNat < 256 from UInt8.toNat_lt _)
      rw [e1] at e2
      exact e2.trans ho
    · omega
    · omega
  · exact fun hb => .inr (.inl ⟨rfl, rfl, x, xs, h, hg, hb⟩)

theorem AtW.copies {C : MC} {i : Int} {x : Part} {xs : List Part} (h : AtW C i (x :: xs)) (c : Nat) (q e : Nat) : KeyR C i (c : Int) (e : Int) q ↔ Copies (AtomR C.s x) x.mn x.mx c q e := by
  constructor
  · rintro (⟨h, _⟩ | ⟨h, _⟩ | ⟨h, _⟩ | ⟨_, _, x', xs', h', hs⟩)
    · omega
    · omega
    · omega
    · rw [Int.toNat_natCast, Int.toNat_natCast] at hs
      obtain ⟨j, P, hP, hP'⟩ := h.two h'
      have hw := h.wf
      have hw' := h'.wf
      simp only [WFs] at hw hw'
      have e1 : x'.mn = x.mn := hP'.least.symm.trans hP.least
      rw [e1] at hs
      exact copies_mono (atomR_same C.s C.all 9 x' x j P xs' xs hw'.1 hw.1 hP' hP) (copies_mx (mxV_inj h'.counts.2.2.1 h.counts.2.2.1 (hP'.most.symm.trans hP.most)) hs)
  · exact fun hs => .inr (.inr (.inr ⟨by omega, by omega, x, xs, h, by rw [Int.toNat_natCast, Int.toNat_natCast]; exact hs⟩))

/-- The keys that are ever used. -/
def univ (C : MC) : List Lit := (List.range (C.all.length + 1)).flatMap fun (i : Nat) => (List.range 12).flatMap fun (c : Nat) => (List.range (C.s.size + 2)).map fun (p : Nat) => key3L ((i : Int) - 1) ((c : Int) - 2) ((p : Int) - 1)
theorem flatMap_len {α β : Type} (f : α → List β) (k : Nat) (l : List α) (h : ∀ a, (f a).length = k) : (l.flatMap f).length = l.length * k := by
  induction l with
  | nil => simp
  | cons a l ih => rw [List.flatMap_cons, List.length_append, ih, h, List.length_cons, Nat.succ_mul]; omega
theorem univ_len (C : MC) : (univ C).length = (C.all.length + 1) * (12 * (C.s.size + 2)) := by
  unfold univ
  rw [flatMap_len _ (12 * (C.s.size + 2)) _ (fun i => by rw [flatMap_len _ (C.s.size + 2) _ (fun c => by simp)]; simp)]
  simp

structure InU (C : MC) (i c p : Int) : Prop where
  i0 : -1 ≤ i
  i1 : i < C.all.length
  c0 : -2 ≤ c
  c1 : c ≤ 9
  p0 : -1 ≤ p
  p1 : p ≤ C.s.size

theorem InU.mem {C : MC} {i c p : Int} (h : InU C i c p) : key3L i c p ∈ univ C := by
  obtain ⟨h1, h2, h3, h4, h5, h6⟩ := h
  unfold univ
  simp only [List.mem_flatMap, List.mem_map, List.mem_range]
  refine ⟨(i + 1).toNat, by omega, (c + 2).toNat, by omega, (p + 1).toNat, by omega, ?_⟩
  rw [show (((i + 1).toNat : Nat) : Int) - 1 = i from by omega, show (((c + 2).toNat : Nat) : Int) - 2 = c from by omega, show (((p + 1).toNat : Nat) : Int) - 1 = p from by omega]

theorem wf_small {x : Int} (h0 : -2 ≤ x) (h1 : x ≤ 1048576) : (Lit.int .i64 x).wf = true := by
  have e1 : IntKind.i64.min = -9223372036854775808 := by decide
  have e2 : IntKind.i64.max = 9223372036854775807 := by decide
  simp only [Lit.wf, e1, e2]
  simp
  omega

theorem InU.wf {C : MC} (ok : C.Ok) {i c p : Int} (h : InU C i c p) : (Lit.int .i64 i).wf = true ∧ (Lit.int .i64 c).wf = true ∧ (Lit.int .i64 p).wf = true := by
  have h1 := h.i0; have h2 := h.i1; have h3 := h.c0; have h4 := h.c1; have h5 := h.p0; have h6 := h.p1; have o1 := ok.small; have o2 := ok.few
  exact ⟨wf_small (by omega) (by omega), wf_small (by omega) (by omega), wf_small (by omega) (by omega)⟩

theorem key3_inj {C : MC} (ok : C.Ok) {i c p i' c' p' : Int} (h : InU C i c p) (h' : InU C i' c' p') (e : key3L i c p = key3L i' c' p') : i = i' ∧ c = c' ∧ p = p' := by
  obtain ⟨a1, a2, a3⟩ := h.wf ok
  obtain ⟨b1, b2, b3⟩ := h'.wf ok
  have e' : keyBytes [.int .i64 i, .int .i64 c, .int .i64 p] = keyBytes [.int .i64 i', .int .i64 c', .int .i64 p'] := by
    simpa [key3L] using e
  have := keyLits_inj (litsK 0 i c p a1 a2 a3) (litsK 0 i' c' p' b1 b2 b3) e'
  simp only [List.cons.injEq, Lit.int.injEq, true_and, and_true] at this
  exact ⟨this.1, this.2.1, this.2.2⟩

theorem key3_isKey (i c p : Int) : WideAt.IsKeyLit (key3L i c p) := trivial

/-- The keys that are not there yet. -/
def missing (C : MC) (D : DataW Value) : Nat := ((univ C).filter fun k => !Maps.has D k).length

theorem filter_less {l : List Lit} {f g : Lit → Bool} (hle : ∀ x, g x = true → f x = true) {k : Lit} (hk : k ∈ l) (h1 : f k = true) (h2 : g k = false) : (l.filter g).length + 1 ≤ (l.filter f).length := by
  induction l with
  | nil => cases hk
  | cons a l ih =>
    have hmono : (l.filter g).length ≤ (l.filter f).length := by
      clear ih hk
      induction l with
      | nil => exact Nat.le_refl _
      | cons b l ih2 =>
        simp only [List.filter_cons]
        split
        · next hg => rw [if_pos (hle b hg)]; simp; exact ih2
        · split
          · simp; omega
          · exact ih2
    simp only [List.filter_cons]
    rcases List.mem_cons.1 hk with rfl | hk
    · rw [if_neg (by rw [h2]; simp), if_pos h1]; simp; omega
    · have := ih hk
      split
      · next hg => rw [if_pos (hle a hg)]; simp; omega
      · split
        · simp; omega
        · exact this

theorem missing_put {C : MC} {D : DataW Value} (hD : Maps.IsMap D) {k : Lit} (hk : WideAt.IsKeyLit k) (hu : k ∈ univ C) (hh : Maps.has D k = false) (d : DataW Value) : missing C (D.put k d) + 1 ≤ missing C D := by
  refine filter_less (fun x hx => ?_) hu (by rw [hh]; rfl) (by rw [Maps.has_put_same hD hk]; rfl)
  by_cases e : x = k
  · subst e; rw [hh]; rfl
  · rw [Maps.has_put_other e] at hx; exact hx

theorem missing_any {C : MC} {D : DataW Value} {k : Lit} (hk : WideAt.IsKeyLit k) (hD : Maps.IsMap D) (d : DataW Value) : missing C (D.put k d) ≤ missing C D := by
  unfold missing
  have hm : ∀ l : List Lit, (l.filter fun x => !Maps.has (D.put k d) x).length ≤ (l.filter fun x => !Maps.has D x).length := by
    intro l
    induction l with
    | nil => exact Nat.le_refl _
    | cons b l ih =>
      simp only [List.filter_cons]
      by_cases e : b = k
      · subst e
        rw [Maps.has_put_same hD hk]
        split
        · next h => cases h
        · split
          · simp; omega
          · exact ih
      · rw [Maps.has_put_other e]
        split
        · simp; exact ih
        · exact ih
  exact hm _

theorem owns_size {w : World} {b n : Nat} {D : DataW Value} (h : w.ownsMap Tryz.prog 84 asIs b n D) : w.ownsMap Tryz.prog 84 asIs b (Maps.size D) D := by
  obtain ⟨es, clock, h1, F, hs, rfl⟩ := h
  exact ⟨es, clock, h1, F, by simp [Maps.size, length_sorted], rfl⟩

/-- The matcher, as it stands in memory. -/
structure MS (C : MC) (w : World) (D : DataW Value) : Prop where
  m : Blk w C.mb #[.pointer (some ⟨C.xb, 0, none⟩), .string C.s, .map (some C.mm)] 63
  x : Blk w C.xb #[.bool C.x.first, .bool C.x.last, C.pv, .int .i64 (firstIx 0 C.x.parts), .int .i64 C.x.groups] 81
  flat : Flat w C.pv C.all
  own : ∃ n, w.ownsMap Tryz.prog 84 asIs C.mm n D ∧ n + missing C D ≤ (univ C).length
  isMap : Maps.IsMap D
  inv : ∀ i c p, InU C i c p → Maps.has D (key3L i c p) = true → ∃ v, (∀ z, D.atKey (key3L i c p) z = .held v) ∧ PSet w v C.s.size (KeyR C i c p)

/-- Blocks of the kinds that a matcher has. -/
def Owned (o : Obj) : Prop := (∃ es cl, o = .map es cl) ∨ ∃ c t, o = .cells c t ∧ t ≠ 3

section
variable {C : MC} {w w' : World} {D : DataW Value}
theorem MS.mapAt (h : MS C w D) : ∃ es cl, w.heap[C.mm]? = some (.map es cl) := by
  obtain ⟨n, ⟨es, cl, h1, _⟩, _⟩ := h.own
  exact ⟨es, cl, h1⟩
theorem MS.mmLt (h : MS C w D) : C.mm < w.heap.size := by
  obtain ⟨es, cl, h1⟩ := h.mapAt
  exact (Array.getElem?_eq_some_iff.1 h1).1
theorem MS.notMap (h : MS C w D) {k : Nat} {c : Array Value} {t : TypeId} {f : Nat × Nat} (hk : w.heap[k]? = some (.cells c t f)) : k ≠ C.mm := by
  obtain ⟨es, cl, h1⟩ := h.mapAt
  rintro rfl
  rw [h1] at hk; cases hk

theorem MS.frame (h : MS C w D) (hk : ∀ (k : Nat) (o : Obj), w.heap[k]? = some o → Owned o → w'.heap[k]? = some o) : MS C w' D := by
  refine ⟨hk _ _ h.m (.inr ⟨_, _, rfl, by decide⟩), hk _ _ h.x (.inr ⟨_, _, rfl, by decide⟩), ⟨h.flat.1, ?_⟩, ?_, h.isMap, fun i c p hu hh => ?_⟩
  · rcases h.flat.2 with hn | ⟨g, cap, cur, e, h0, hg, rest⟩
    · exact .inl hn
    · exact .inr ⟨g, cap, cur, e, h0, hk _ _ hg (.inr ⟨_, _, rfl, by decide⟩), rest⟩
  · obtain ⟨n, ⟨es, cl, h1, h2⟩, h3⟩ := h.own
    exact ⟨n, ⟨es, cl, hk _ _ h1 (.inl ⟨_, _, rfl⟩), h2⟩, h3⟩
  · obtain ⟨v, h1, h2⟩ := h.inv i c p hu hh
    refine ⟨v, h1, h2.agree fun k e => ?_⟩
    obtain ⟨c, hc⟩ := h2.typed k e
    rw [hc]
    exact hk _ _ hc (.inr ⟨_, _, rfl, by decide⟩)
theorem MS.below (h : MS C w D) (hb : Below w.heap.size w w') : MS C w' D := h.frame fun k _ hk _ => (hb.block k (Array.getElem?_eq_some_iff.1 hk).1).trans hk
theorem MS.drew (h : MS C w D) : MS C w.drew D := h.frame fun _ _ hk _ => hk
/-- A store into a block of ints, or into one that is none of the matcher's kinds. -/
theorem MS.setInt (h : MS C w D) {k : Nat} {c : Array Value} {f : Nat × Nat} (hc : w.heap[k]? = some (.cells c 3 f)) (o : Nat) (u : Value) : MS C (w.setCell ⟨k, o, none⟩ u) D :=
  h.frame fun j ob hj ho => by
    have hne : j ≠ k := by
      rintro rfl
      rw [hc] at hj
      rcases ho with ⟨es, cl, rfl⟩ | ⟨c', t, rfl, ht⟩
      · cases hj
      · simp only [Option.some.injEq, Obj.cells.injEq] at hj
        exact ht hj.2.1.symm
    rw [Below.heap_setCell _ _ _ _ hne]; exact hj
theorem PSet.kp {v : Value} {n : Nat} {R : Nat → Prop} (h : PSet w v n R) (hm : MS C w D) (hk : Kp C.mm w w') : PSet w' v n R :=
  h.agree fun k e => by
    obtain ⟨c, hc⟩ := h.typed k e
    exact hk.block k (h.lt k e) (hm.notMap hc)
theorem Blk.kpm {k : Nat} {c : Array Value} {t : TypeId} (h : Blk w k c t) (hm : MS C w D) (hk : Kp C.mm w w') : Blk w' k c t := by
  have := hk.block k h.lt (hm.notMap h)
  unfold Blk at h ⊢
  rw [this]; exact h
end

/-- Answers a set; the map may have more. -/
def EndsP (C : MC) (w : World) (R : Nat → Prop) (e : Ending) (w' : World) : Prop :=
  ∃ v D', e = .returned v ∧ PSet w' v C.s.size R ∧ MS C w' D' ∧ Kp C.mm w w'

theorem EndsP.congr {C : MC} {w w' : World} {R S : Nat → Prop} {e : Ending} (h : EndsP C w R e w') (hc : ∀ p, R p ↔ S p) : EndsP C w S e w' := by
  obtain ⟨v, D', h1, h2, h3⟩ := h
  exact ⟨v, D', h1, h2.congr hc, h3⟩

/-- A set is kept. -/
theorem MS.put {C : MC} {w w' : World} {D : DataW Value} (ok : C.Ok) (h : MS C w D) {i c p : Int} (hu : InU C i c p) {n : Nat} {v : Value}
    (ho : w'.ownsMap Tryz.prog 84 asIs C.mm (n + 1) (D.put (key3L i c p) (.held v))) (hg : w.grownBy w' (some C.mm)) (hv : PSet w v C.s.size (KeyR C i c p)) : MS C w' (D.put (key3L i c p) (.held v)) := by
  have hk : ∀ k, k < w.heap.size → k ≠ C.mm → w'.heap[k]? = w.heap[k]? := fun k h1 h2 => hg.block k h1 (fun e => h2 (Option.some.inj e))
  have hs : ∀ {u : Value} {R : Nat → Prop}, PSet w u C.s.size R → PSet w' u C.s.size R := fun {u R} hu => hu.agree fun k e => by
    obtain ⟨c, hc⟩ := hu.typed k e
    exact hk k (hu.lt k e) (h.notMap hc)
  refine ⟨?_, ?_, ?_, ⟨_, owns_size ho, ?_⟩, h.isMap.put _ _, ?_⟩
  · have := h.m; have hlt := h.m.lt; have hne := h.notMap this; unfold Blk at this ⊢; rw [hk _ hlt hne]; exact this
  · have := h.x; have hlt := h.x.lt; have hne := h.notMap this; unfold Blk at this ⊢; rw [hk _ hlt hne]; exact this
  · refine ⟨h.flat.1, ?_⟩
    rcases h.flat.2 with hn | ⟨g, cap, cur, e, h0, hg, rest⟩
    · exact .inl hn
    · exact .inr ⟨g, cap, cur, e, h0, by rw [hk g (Array.getElem?_eq_some_iff.1 hg).1 (h.notMap hg)]; exact hg, rest⟩
  · obtain ⟨n0, ho0, hn0⟩ := h.own
    have hs0 := ho0.size_le
    rw [Maps.size_put (ho0.tidy keyedK)]
    cases hh : Maps.has D (key3L i c p)
    · have := missing_put h.isMap (key3_isKey i c p) hu.mem hh (.held v)
      simp only [Bool.false_eq_true, if_false]
      omega
    · have := missing_any (C := C) (key3_isKey i c p) h.isMap (.held v)
      simp only [if_true]
      omega
  · intro i' c' p' hu' hh'
    by_cases e : key3L i' c' p' = key3L i c p
    · obtain ⟨rfl, rfl, rfl⟩ := key3_inj ok hu' hu e
      exact ⟨v, fun z => Maps.atKey_put_same h.isMap (key3_isKey _ _ _) _ z, hs hv⟩
    · rw [Maps.has_put_other e] at hh'
      obtain ⟨v', h1, h2⟩ := h.inv i' c' p' hu' hh'
      exact ⟨v', fun z => (Maps.atKey_put_other e _ z).trans (h1 z), hs h2⟩
end Go.Proofs.YtpnecblofjpgfaaGreatDoor
