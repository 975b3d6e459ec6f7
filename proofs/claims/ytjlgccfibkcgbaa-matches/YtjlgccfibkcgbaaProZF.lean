import Derived.Test.YtjlgccfibkcgbaaProZE
namespace Go.Proofs.Ytjlgccfibkcgbaa
open Go.RowKit Go.Shelf

/-- A set of places in memory. -/
def PSet (w : World) (v : Value) (G : Nat → Bool) (L : Nat) : Prop := ∃ ws, Words w v ws ∧ HoldsP ws G ∧ ws.length ≤ L

theorem Words.agree {w w' : World} {v : Value} {ws : List Nat} (h : Words w v ws) (hk : ∀ k, v.ownBlock = some k → w'.heap[k]? = w.heap[k]?) : Words w' v ws := by
  refine ⟨h.1, ?_⟩
  rcases h.2 with hn | ⟨g, cap, cur, rfl, h0, hg, rest⟩
  · exact .inl hn
  · exact .inr ⟨g, cap, cur, rfl, h0, by rw [hk g rfl]; exact hg, rest⟩
theorem PSet.agree {w w' : World} {v : Value} {G : Nat → Bool} {L : Nat} (h : PSet w v G L) (hk : ∀ k, v.ownBlock = some k → w'.heap[k]? = w.heap[k]?) : PSet w' v G L := by
  obtain ⟨ws, h1, h2⟩ := h
  exact ⟨ws, h1.agree hk, h2⟩
theorem flatAgree {w w' : World} {pv : Value} {ps : List PP} (h : Flat w pv ps) (hk : ∀ k, pv.ownBlock = some k → w'.heap[k]? = w.heap[k]?) : Flat w' pv ps := by
  refine ⟨h.1, ?_⟩
  rcases h.2 with hn | ⟨g, cap, cur, rfl, h0, hg, rest⟩
  · exact .inl hn
  · exact .inr ⟨g, cap, cur, rfl, h0, by rw [hk g rfl]; exact hg, rest⟩
theorem PSet.lt {w : World} {v : Value} {G : Nat → Bool} {L : Nat} (h : PSet w v G L) : ∀ k, v.ownBlock = some k → k < w.heap.size := by
  obtain ⟨ws, h1, _⟩ := h
  exact h1.lt
theorem PSet.cells {w : World} {v : Value} {G : Nat → Bool} {L : Nat} (h : PSet w v G L) : ∀ k, v.ownBlock = some k → ∃ c t, w.heap[k]? = some (.cells c t) := by
  obtain ⟨ws, h1, _⟩ := h
  rcases h1.2 with ⟨rfl, _⟩ | ⟨g, cap, cur, rfl, h0, hg, rest⟩
  · intro k hk; cases hk
  · intro k hk
    simp only [Value.ownBlock, Option.some.injEq] at hk
    subst hk
    exact ⟨_, _, hg⟩
theorem PSet.empty (w : World) (L : Nat) : PSet w (.slice none 0 0) (fun _ => false) L :=
  ⟨[], ⟨rfl, .inl ⟨rfl, rfl⟩⟩, ⟨fun _ h => (by cases h), fun q => by simp⟩, Nat.zero_le _⟩

/-- What a matcher stands on. -/
structure MC where
  s : ByteArray
  all : List PP
  mb : Nat
  xb : Nat
  mm : Nat
  pv : Value
  x : Ex

def MC.L (C : MC) : Nat := C.s.size / 64 + 1

/-- The program's limits. -/
structure MC.Ok (C : MC) : Prop where
  small : C.s.size ≤ 60000
  few : C.all.length ≤ 1048576

/-- Parts as the reader makes them, laid from number i on. -/
structure AtW (C : MC) (i : Int) (ps : List Part) : Prop where
  at_ : AtL C.all i ps
  wf : WFs 9 ps
  mm : MMs ps

theorem AtW.cons {C : MC} {i : Int} {x : Part} {xs : List Part} (h : AtW C i (x :: xs)) : ∃ (j : Nat) (P : PP), i = (j : Int) ∧ j < C.all.length ∧ AtP C.all j P x xs ∧ AtW C P.next xs ∧ (x.g ≠ 0 → AtW C P.inner x.kids) := by
  obtain ⟨j, P, rfl, hP⟩ := h.at_.cons
  have hw := h.wf
  have hm := h.mm
  simp only [WFs] at hw
  simp only [MMs] at hm
  refine ⟨j, P, rfl, (List.getElem?_eq_some_iff.1 hP.get).1, hP, ⟨hP.next, hw.2, hm.2⟩, fun hg => ⟨(hP.group hg).2, ?_, ?_⟩⟩
  · obtain ⟨g, kids, neg, ps, mn, mx⟩ := x
    simp only [WF] at hw
    exact hw.1.2.2.2.2.2.2.2
  · obtain ⟨g, kids, neg, ps, mn, mx⟩ := x
    simp only [MM] at hm
    exact hm.1.2

/-- Where the copies (or, by -1, all the parts) may end. -/
def EndsR (C : MC) (i c : Int) (p q : Nat) : Prop :=
  (c = -1 ∧ ∃ ps, AtW C i ps ∧ SeqR C.s ps p q) ∨ (0 ≤ c ∧ ∃ x xs, AtW C i (x :: xs) ∧ Copies (AtomR C.s x) x.mn x.mx c.toNat p q)

theorem AtW.seq {C : MC} {i : Int} {ps : List Part} (h : AtW C i ps) (p q : Nat) : EndsR C i (-1) p q ↔ SeqR C.s ps p q := by
  constructor
  · rintro (⟨_, ps', h', hs⟩ | ⟨hc, _⟩)
    · exact seqR_same C.s C.all 9 ps' ps i h'.wf h.wf h'.at_ h.at_ p q hs
    · omega
  · exact fun hs => .inl ⟨rfl, ps, h, hs⟩

theorem AtW.copies {C : MC} {i : Int} {x : Part} {xs : List Part} (h : AtW C i (x :: xs)) (c : Nat) (p q : Nat) : EndsR C i c p q ↔ Copies (AtomR C.s x) x.mn x.mx c p q := by
  constructor
  · rintro (⟨hc, _⟩ | ⟨_, x', xs', h', hs⟩)
    · omega
    · rw [Int.toNat_natCast] at hs
      obtain ⟨j, P, rfl, hP⟩ := h.at_.cons
      obtain ⟨j', P', hj, hP'⟩ := h'.at_.cons
      obtain rfl : j = j' := by omega
      obtain rfl : P = P' := by have := hP.get; rw [hP'.get] at this; exact (Option.some.inj this).symm
      have hw := h.wf
      have hw' := h'.wf
      simp only [WFs] at hw hw'
      have e1 : x'.mn = x.mn := hP'.least.symm.trans hP.least
      have b1 : x.mx ≤ 9 := by obtain ⟨g, kids, neg, ps, mn, mx⟩ := x; simp only [WF] at hw; exact hw.1.2.2.2.2.2.1
      have b2 : x'.mx ≤ 9 := by obtain ⟨g, kids, neg, ps, mn, mx⟩ := x'; simp only [WF] at hw'; exact hw'.1.2.2.2.2.2.1
      rw [e1] at hs
      exact copies_mono (atomR_same C.s C.all 9 x' x j P xs' xs hw'.1 hw.1 hP' hP) (copies_mx (mxV_inj b2 b1 (hP'.most.symm.trans hP.most)) hs)
  · exact fun hs => .inr ⟨by omega, x, xs, h, by rw [Int.toNat_natCast]; exact hs⟩

/-- The keys that are ever used. -/
def univ (C : MC) : List Lit := (List.range C.all.length).flatMap fun (i : Nat) => (List.range 11).flatMap fun (c : Nat) => (List.range (C.s.size + 1)).map fun (p : Nat) => key3L (i : Int) ((c : Int) - 1) (p : Int)
theorem flatMap_len {α β : Type} (f : α → List β) (k : Nat) (l : List α) (h : ∀ a, (f a).length = k) : (l.flatMap f).length = l.length * k := by
  induction l with
  | nil => simp
  | cons a l ih => rw [List.flatMap_cons, List.length_append, ih, h, List.length_cons, Nat.succ_mul]; omega
theorem univ_len (C : MC) : (univ C).length = C.all.length * (11 * (C.s.size + 1)) := by
  unfold univ
  rw [flatMap_len _ (11 * (C.s.size + 1)) _ (fun i => by rw [flatMap_len _ (C.s.size + 1) _ (fun c => by simp)]; simp)]
  simp

structure InU (C : MC) (i c : Int) (p : Nat) : Prop where
  i0 : 0 ≤ i
  i1 : i < C.all.length
  c0 : -1 ≤ c
  c1 : c ≤ 9
  p1 : p ≤ C.s.size

theorem InU.mem {C : MC} {i c : Int} {p : Nat} (h : InU C i c p) : key3L i c p ∈ univ C := by
  obtain ⟨h1, h2, h3, h4, h5⟩ := h
  unfold univ
  simp only [List.mem_flatMap, List.mem_map, List.mem_range]
  refine ⟨i.toNat, by omega, (c + 1).toNat, by omega, p, by omega, ?_⟩
  rw [show ((i.toNat : Nat) : Int) = i from by omega, show (((c + 1).toNat : Nat) : Int) - 1 = c from by omega]

theorem wf_small {x : Int} (h0 : -1 ≤ x) (h1 : x ≤ 1048576) : (Lit.int .i64 x).wf = true := by
  have e1 : IntKind.i64.min = -9223372036854775808 := by decide
  have e2 : IntKind.i64.max = 9223372036854775807 := by decide
  simp only [Lit.wf, e1, e2]
  simp
  omega

theorem InU.wf {C : MC} (ok : C.Ok) {i c : Int} {p : Nat} (h : InU C i c p) : (Lit.int .i64 i).wf = true ∧ (Lit.int .i64 c).wf = true ∧ (Lit.int .i64 (p : Int)).wf = true := by
  have h1 := h.i0; have h2 := h.i1; have h3 := h.c0; have h4 := h.c1; have h5 := h.p1; have o1 := ok.small; have o2 := ok.few
  exact ⟨wf_small (by omega) (by omega), wf_small (by omega) (by omega), wf_small (by omega) (by omega)⟩

theorem key3_inj {C : MC} (ok : C.Ok) {i c i' c' : Int} {p p' : Nat} (h : InU C i c p) (h' : InU C i' c' p') (e : key3L i c p = key3L i' c' p') : i = i' ∧ c = c' ∧ p = p' := by
  obtain ⟨a1, a2, a3⟩ := h.wf ok
  obtain ⟨b1, b2, b3⟩ := h'.wf ok
  have e' : keyBytes [.int .i64 i, .int .i64 c, .int .i64 (p : Int)] = keyBytes [.int .i64 i', .int .i64 c', .int .i64 (p' : Int)] := by
    simpa [key3L] using e
  have := keyLits_inj (lits100 0 i c p a1 a2 a3) (lits100 0 i' c' p' b1 b2 b3) e'
  simp only [List.cons.injEq, Lit.int.injEq, true_and, and_true] at this
  exact ⟨this.1, this.2.1, by omega⟩

theorem key3_isKey (i c p : Int) : WideAt.IsKeyLit (key3L i c p) := trivial

/-- The keys that are not there yet. -/
def missing (C : MC) (D : DataW Value) : Nat := ((univ C).filter fun k => !Maps.has D k).length

theorem filter_less {l : List Lit} {f g : Lit → Bool} (hle : ∀ x, g x = true → f x = true) {k : Lit} (hk : k ∈ l) (h1 : f k = true) (h2 : g k = false) : (l.filter g).length + 1 ≤ (l.filter f).length := by
  induction l with
  | nil => cases hk
  | cons a l ih =>
    have hmono : (l.filter g).length ≤ (l.filter f).length := by
      clear ih hk
      induction l with
      | nil => exact Nat.le_refl _
      | cons b l ih2 =>
        simp only [List.filter_cons]
        split
        · next hg => rw [if_pos (hle b hg)]; simp; exact ih2
        · split
          · simp; omega
          · exact ih2
    simp only [List.filter_cons]
    rcases List.mem_cons.1 hk with rfl | hk
    · rw [if_neg (by rw [h2]; simp), if_pos h1]; simp; omega
    · have := ih hk
      split
      · next hg => rw [if_pos (hle a hg)]; simp; omega
      · split
        · simp; omega
        · exact this

theorem missing_put {C : MC} {D : DataW Value} (hD : Maps.IsMap D) {k : Lit} (hk : WideAt.IsKeyLit k) (hu : k ∈ univ C) (hh : Maps.has D k = false) (d : DataW Value) : missing C (D.put k d) + 1 ≤ missing C D := by
  refine filter_less (fun x hx => ?_) hu (by rw [hh]; rfl) (by rw [Maps.has_put_same hD hk]; rfl)
  by_cases e : x = k
  · subst e; rw [hh]; rfl
  · rw [Maps.has_put_other e] at hx; exact hx

theorem missing_any {C : MC} {D : DataW Value} {k : Lit} (hk : WideAt.IsKeyLit k) (hD : Maps.IsMap D) (d : DataW Value) : missing C (D.put k d) ≤ missing C D := by
  unfold missing
  have hm : ∀ l : List Lit, (l.filter fun x => !Maps.has (D.put k d) x).length ≤ (l.filter fun x => !Maps.has D x).length := by
    intro l
    induction l with
    | nil => exact Nat.le_refl _
    | cons b l ih =>
      simp only [List.filter_cons]
      by_cases e : b = k
      · subst e
        rw [Maps.has_put_same hD hk]
        split
        · next h => cases h
        · split
          · simp; omega
          · exact ih
      · rw [Maps.has_put_other e]
        split
        · simp; exact ih
        · exact ih
  exact hm _

theorem owns_size {w : World} {b n : Nat} {D : DataW Value} (h : w.ownsMap Try.prog 100 asIs b n D) : w.ownsMap Try.prog 100 asIs b (Maps.size D) D := by
  obtain ⟨es, clock, h1, F, hs, rfl⟩ := h
  exact ⟨es, clock, h1, F, by simp [Maps.size, length_sorted], rfl⟩

/-- The rows of the sets that the map has. -/
def MRow (D : DataW Value) (k : Nat) : Prop := ∃ kl v, Maps.has D kl = true ∧ (∀ z, D.atKey kl z = .held (.agg #[v])) ∧ v.ownBlock = some k

/-- The matcher, as it stands in memory. -/
structure MS (C : MC) (w : World) (D : DataW Value) : Prop where
  m : Blk w C.mb #[.pointer (some ⟨C.xb, 0, none⟩), .string C.s, .map (some C.mm)] 63
  x : Blk w C.xb #[.bool C.x.first, .bool C.x.last, C.pv, .int .i64 (firstIx 0 C.x.parts), .int .i64 C.x.groups] 77
  flat : Flat w C.pv C.all
  own : ∃ n, w.ownsMap Try.prog 100 asIs C.mm n D ∧ n + missing C D ≤ (univ C).length
  isMap : Maps.IsMap D
  inv : ∀ i c p, InU C i c p → Maps.has D (key3L i c p) = true → ∃ v G, (∀ z, D.atKey (key3L i c p) z = .held (.agg #[v])) ∧ PSet w v G C.L ∧ ∀ q, G q = true ↔ EndsR C i c p q
  rows : ∀ k, MRow D k → k < w.heap.size ∧ ∃ c t, w.heap[k]? = some (.cells c t)

def Used (C : MC) (D : DataW Value) (k : Nat) : Prop := k = C.mb ∨ k = C.xb ∨ k = C.mm ∨ C.pv.ownBlock = some k ∨ MRow D k

theorem MS.mapAt {C : MC} {w : World} {D : DataW Value} (h : MS C w D) : ∃ es cl, w.heap[C.mm]? = some (.map es cl) := by
  obtain ⟨n, ⟨es, cl, h1, _⟩, _⟩ := h.own
  exact ⟨es, cl, h1⟩
theorem MS.mmLt {C : MC} {w : World} {D : DataW Value} (h : MS C w D) : C.mm < w.heap.size := by
  obtain ⟨es, cl, h1⟩ := h.mapAt
  exact (Array.getElem?_eq_some_iff.1 h1).1
theorem MS.notMap {C : MC} {w : World} {D : DataW Value} (h : MS C w D) {k : Nat} {c : Array Value} {t : TypeId} (hk : w.heap[k]? = some (.cells c t)) : k ≠ C.mm := by
  obtain ⟨es, cl, h1⟩ := h.mapAt
  rintro rfl
  rw [h1] at hk; cases hk
theorem MS.flatNe {C : MC} {w : World} {D : DataW Value} (h : MS C w D) {k : Nat} (hk : C.pv.ownBlock = some k) : k ≠ C.mm := by
  rcases h.flat.2 with hn | ⟨g, cap, cur, e, h0, hg, rest⟩
  · rw [hn.1] at hk; cases hk
  · rw [e] at hk
    simp only [Value.ownBlock, Option.some.injEq] at hk
    subst hk
    exact h.notMap hg

theorem MS.agree {C : MC} {w w' : World} {D : DataW Value} (h : MS C w D) (hk : ∀ k, Used C D k → w'.heap[k]? = w.heap[k]?) : MS C w' D := by
  refine ⟨?_, ?_, flatAgree h.flat fun k e => hk k (.inr (.inr (.inr (.inl e)))), ?_, h.isMap, ?_, ?_⟩
  · have := h.m; unfold Blk at this ⊢; rw [hk _ (.inl rfl)]; exact this
  · have := h.x; unfold Blk at this ⊢; rw [hk _ (.inr (.inl rfl))]; exact this
  · obtain ⟨n, ⟨es, cl, h1, h2⟩, h3⟩ := h.own
    exact ⟨n, ⟨es, cl, by rw [hk _ (.inr (.inr (.inl rfl)))]; exact h1, h2⟩, h3⟩
  · intro i c p hu hh
    obtain ⟨v, G, h1, h2, h3⟩ := h.inv i c p hu hh
    exact ⟨v, G, h1, h2.agree fun k e => hk k (.inr (.inr (.inr (.inr ⟨_, v, hh, h1, e⟩)))), h3⟩
  · intro k hr
    obtain ⟨h1, c, t, h2⟩ := h.rows k hr
    have e := hk k (.inr (.inr (.inr (.inr hr))))
    rw [h2] at e
    exact ⟨(Array.getElem?_eq_some_iff.1 e).1, c, t, e⟩

theorem MS.usedLt {C : MC} {w : World} {D : DataW Value} (h : MS C w D) {k : Nat} (hu : Used C D k) : k < w.heap.size := by
  rcases hu with rfl | rfl | rfl | e | e
  · exact h.m.lt
  · exact h.x.lt
  · exact h.mmLt
  · exact h.flat.lt k e
  · exact (h.rows k e).1

theorem MS.below {C : MC} {w w' : World} {D : DataW Value} (h : MS C w D) (hb : Below w.heap.size w w') : MS C w' D := h.agree fun k hu => hb.block k (h.usedLt hu)

/-- What a call of the matcher's may do: of what was there the map alone has turned, and its rows are old ones or new. -/
structure Step (C : MC) (w : World) (D : DataW Value) (w' : World) (D' : DataW Value) : Prop where
  kp : Kp C.mm w w'
  rows : ∀ k, MRow D' k → MRow D k ∨ w.heap.size ≤ k

theorem Step.refl (C : MC) (w : World) (D : DataW Value) : Step C w D w D := ⟨Kp.refl _ _, fun _ h => .inl h⟩
theorem Step.trans {C : MC} {w w1 w2 : World} {D D1 D2 : DataW Value} (h : Step C w D w1 D1) (k : Step C w1 D1 w2 D2) : Step C w D w2 D2 :=
  ⟨h.kp.trans k.kp, fun j hj => by
    rcases k.rows j hj with e | e
    · exact h.rows j e
    · exact .inr (Nat.le_trans h.kp.size e)⟩
theorem Step.below {C : MC} {w w' : World} {D : DataW Value} (h : Below w.heap.size w w') : Step C w D w' D := ⟨Kp.below h, fun _ h => .inl h⟩

/-- A set is kept. -/
theorem MS.put {C : MC} {w w' : World} {D : DataW Value} (ok : C.Ok) (h : MS C w D) {i c : Int} {p : Nat} (hu : InU C i c p) {n : Nat} {v : Value} {G : Nat → Bool}
    (ho : w'.ownsMap Try.prog 100 asIs C.mm (n + 1) (D.put (key3L i c p) (.held (.agg #[v])))) (hg : w.grownBy w' (some C.mm)) (hv : PSet w v G C.L) (hG : ∀ q, G q = true ↔ EndsR C i c p q) : MS C w' (D.put (key3L i c p) (.held (.agg #[v]))) := by
  have hk : ∀ k, k < w.heap.size → k ≠ C.mm → w'.heap[k]? = w.heap[k]? := fun k h1 h2 => hg.block k h1 (fun e => h2 (Option.some.inj e))
  have hv2 : ∀ k, v.ownBlock = some k → w'.heap[k]? = w.heap[k]? := fun k e => by
    obtain ⟨c, t, h1⟩ := hv.cells k e
    exact hk k (hv.lt k e) (h.notMap h1)
  refine ⟨?_, ?_, ?_, ⟨_, owns_size ho, ?_⟩, h.isMap.put _ _, ?_, ?_⟩
  · have := h.m; have hlt := h.m.lt; have hne := h.notMap this; unfold Blk at this ⊢; rw [hk _ hlt hne]; exact this
  · have := h.x; have hlt := h.x.lt; have hne := h.notMap this; unfold Blk at this ⊢; rw [hk _ hlt hne]; exact this
  · exact flatAgree h.flat fun k e => hk k (h.flat.lt k e) (h.flatNe e)
  · obtain ⟨n0, ho0, hn0⟩ := h.own
    have hs0 := ho0.size_le
    rw [Maps.size_put (ho0.tidy keyed100)]
    cases hh : Maps.has D (key3L i c p)
    · have := missing_put h.isMap (key3_isKey i c p) hu.mem hh (.held (.agg #[v]))
      simp only [Bool.false_eq_true, if_false]
      omega
    · have := missing_any (C := C) (key3_isKey i c p) h.isMap (.held (.agg #[v]))
      simp only [if_true]
      omega
  · intro i' c' p' hu' hh'
    by_cases e : key3L i' c' p' = key3L i c p
    · obtain ⟨rfl, rfl, rfl⟩ := key3_inj ok hu' hu e
      exact ⟨v, G, fun z => Maps.atKey_put_same h.isMap (key3_isKey _ _ _) _ z, hv.agree hv2, hG⟩
    · rw [Maps.has_put_other e] at hh'
      obtain ⟨v', G', h1, h2, h3⟩ := h.inv i' c' p' hu' hh'
      refine ⟨v', G', fun z => (Maps.atKey_put_other e _ z).trans (h1 z), h2.agree fun k ek => ?_, h3⟩
      obtain ⟨c, t, hc⟩ := h2.cells k ek
      exact hk k (h2.lt k ek) (h.notMap hc)
  · intro k hr
    have : MRow D k ∨ v.ownBlock = some k := by
      obtain ⟨kl, v', h1, h2, h3⟩ := hr
      by_cases e : kl = key3L i c p
      · subst e
        have := (Maps.atKey_put_same h.isMap (key3_isKey _ _ _) (.held (.agg #[v])) .nil).symm.trans (h2 .nil)
        simp only [DataW.held.injEq, Value.agg.injEq, Array.mk.injEq, List.cons.injEq, and_true] at this
        subst this
        exact .inr h3
      · rw [Maps.has_put_other e] at h1
        exact .inl ⟨kl, v', h1, fun z => (Maps.atKey_put_other e _ z).symm.trans (h2 z), h3⟩
    rcases this with e | e
    · obtain ⟨h1, c, t, h2⟩ := h.rows k e
      have := hk k h1 (h.notMap h2)
      rw [h2] at this
      exact ⟨(Array.getElem?_eq_some_iff.1 this).1, c, t, this⟩
    · obtain ⟨c, t, h2⟩ := hv.cells k e
      have := hv2 k e
      rw [h2] at this
      exact ⟨(Array.getElem?_eq_some_iff.1 this).1, c, t, this⟩

theorem mrow_put {D : DataW Value} (hD : Maps.IsMap D) {i c p : Int} {v : Value} {k : Nat} (hr : MRow (D.put (key3L i c p) (.held (.agg #[v]))) k) : MRow D k ∨ v.ownBlock = some k := by
  obtain ⟨kl, v', h1, h2, h3⟩ := hr
  by_cases e : kl = key3L i c p
  · subst e
    have := (Maps.atKey_put_same hD (key3_isKey _ _ _) (.held (.agg #[v])) .nil).symm.trans (h2 .nil)
    simp only [DataW.held.injEq, Value.agg.injEq, Array.mk.injEq, List.cons.injEq, and_true] at this
    subst this
    exact .inr h3
  · rw [Maps.has_put_other e] at h1
    exact .inl ⟨kl, v', h1, fun z => (Maps.atKey_put_other e _ z).symm.trans (h2 z), h3⟩

end Go.Proofs.Ytjlgccfibkcgbaa
