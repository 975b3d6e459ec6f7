import Derived.Test.YtjlgccfibkcgbaaProZP
namespace Go.Proofs.Ytjlgccfibkcgbaa
open Go.RowKit Go.Shelf

set_option maxRecDepth 100000 in
set_option maxHeartbeats 1000000 in
theorem newMatcher_any (xb : Nat) (w : World) :
    Calls Try.prog 15 #[.pointer (some ⟨xb, 0, none⟩)] w fun e w' => e = .returned (.pointer (some ⟨w.heap.size + 1, 0, none⟩)) ∧ w' = (w.alloc (.map #[] 0)).alloc (.cells #[.pointer (some ⟨xb, 0, none⟩), .string ⟨#[]⟩, .map (some w.heap.size)] 63) := by
  have hmm := @run_makeMap Try.prog
  go_enter Try.func15, Try.ntmps15
  go_wp2_with fail
  go_ret
  exact ⟨rfl, rfl⟩

theorem run_clear_empty {w : World} {mm cl : Nat} (h : w.heap[mm]? = some (.map #[] cl)) : (Builtin.clear_ #[61] 0 #[.map (some mm)]).run Try.prog w = .ok (.tuple #[]) w := by
  have e : ({ w with heap := w.heap.setIfInBounds mm (.map #[] cl) } : World) = w := by
    have : w.heap.setIfInBounds mm (.map #[] cl) = w.heap := by
      apply Array.ext_getElem?
      intro i
      by_cases hi : mm = i
      · subst hi
        rw [Array.getElem?_setIfInBounds_self, h]
        have := (Array.getElem?_eq_some_iff.1 h).1
        simp [this]
      · rw [Array.getElem?_setIfInBounds_ne hi]
    rw [this]
  simp [Builtin.clear_, run_underlying Try.underlying61, MapKept.run_getObj_map h, MapKept.run_setObj_map _ h, Result.andThen]
  exact e

set_option maxRecDepth 100000 in
set_option maxHeartbeats 1000000 in
theorem turnTo_any (s s0 : ByteArray) (mb xb mm cl : Nat) (w : World) (h : Blk w mb #[.pointer (some ⟨xb, 0, none⟩), .string s0, .map (some mm)] 63) (hm : w.heap[mm]? = some (.map #[] cl)) :
    Calls Try.prog 23 #[.pointer (some ⟨mb, 0, none⟩), .string s] w fun e w' => e = .returned (.tuple #[]) ∧ Blk w' mb #[.pointer (some ⟨xb, 0, none⟩), .string s, .map (some mm)] 63 ∧ Kp mb w w' := by
  have m1 : w.cell? ⟨mb, 1, none⟩ = some (.string s0) := h.cell 1 rfl
  have m2 : w.cell? ⟨mb, 2, none⟩ = some (.map (some mm)) := h.cell 2 rfl
  have mf := h.fz 1
  have hcl := run_clear_empty hm
  cases hd : (s.toList == s0.toList)
  · go_enter Try.func23, Try.ntmps23
    go_wp2_with fail
    refine bodyPost_end (results_none rfl _ _ _) rfl ?_
    exact ⟨rfl, h.set 1 _ rfl, (Kp.refl _ _).set 1 _⟩
  · have hs : s = s0 := WideShapes.bytes_inj (by rw [ByteArray.toList_eq, ByteArray.toList_eq] at hd; simpa using hd)
    have HS := hide hs
    clear hs
    go_enter Try.func23, Try.ntmps23
    go_wp2_with fail
    refine bodyPost_end (results_none rfl _ _ _) rfl ?_
    refine ⟨rfl, ?_, Kp.refl _ _⟩
    rw [HS.out]; exact h

theorem owns_empty {w : World} {mm : Nat} (h : w.heap[mm]? = some (.map #[] 0)) : w.ownsMap Try.prog 100 asIs mm 0 (.map []) := by
  obtain ⟨es, cl, h1, F, hs, hD⟩ := World.ownsMap_made w Try.prog 100 asIs
  rw [World.alloc_heap_new] at h1
  cases h1
  exact ⟨#[], 0, h, F, hs, hD⟩

/-- The matcher when it is new. -/
theorem MS.new {C : MC} {w : World} (hm : Blk w C.mb #[.pointer (some ⟨C.xb, 0, none⟩), .string C.s, .map (some C.mm)] 63) (hx : Blk w C.xb #[.bool C.x.first, .bool C.x.last, C.pv, .int .i64 (firstIx 0 C.x.parts), .int .i64 C.x.groups] 77) (hf : Flat w C.pv C.all) (hmap : w.heap[C.mm]? = some (.map #[] 0)) : MS C w (.map []) := by
  have hn : ∀ k, Maps.has (.map [] : DataW Value) k = false := fun k => rfl
  refine ⟨hm, hx, hf, ⟨0, owns_empty hmap, ?_⟩, Maps.isMap_empty, fun i c p _ h => ?_, fun k hr => ?_⟩
  · unfold missing
    have := List.length_filter_le (fun k => !Maps.has (.map [] : DataW Value) k) (univ C)
    omega
  · rw [hn] at h; cases h
  · obtain ⟨kl, v, h, _⟩ := hr
    rw [hn] at h; cases h

/-- What from answers. -/
def FromPost (C : MC) (w : World) (at_ : Nat) (r : Ending) (w' : World) : Prop :=
  ∃ v, r = .returned v ∧ Kq C.mb (some C.mm) w w' ∧ ((v = .slice none 0 0 ∧ ∀ p : Nat, at_ ≤ p → ∀ q, ¬ CanR C.x C.s p q) ∨ ∃ (p q : Nat) (ss : List Int), at_ ≤ p ∧ (∀ p' : Nat, at_ ≤ p' → p' < p → ∀ q', ¬ CanR C.x C.s p' q') ∧ CanR C.x C.s p q ∧ (∀ q' : Nat, CanR C.x C.s p q' → q' ≤ q) ∧ SpanR C.s C.x.parts p q (span0 p q C.x.groups) ss ∧ Ints w' v ss ∧ ss.length = 2 * C.x.groups + 2 ∧ ∀ k, v.ownBlock = some k → w.heap.size ≤ k)

set_option maxRecDepth 100000 in
set_option maxHeartbeats 1000000 in
theorem from_any (C : MC) (ok : C.Ok) (hWG : WFs C.x.groups C.x.parts) (hG9 : C.x.groups ≤ 9) (hAt : AtW C (firstIx 0 C.x.parts) C.x.parts) (at_ : Nat) (hat : at_ ≤ C.s.size) (w : World) (hm : Blk w C.mb #[.pointer (some ⟨C.xb, 0, none⟩), .string ⟨#[]⟩, .map (some C.mm)] 63) (hx : Blk w C.xb #[.bool C.x.first, .bool C.x.last, C.pv, .int .i64 (firstIx 0 C.x.parts), .int .i64 C.x.groups] 77) (hf : Flat w C.pv C.all) (hmap : w.heap[C.mm]? = some (.map #[] 0)) (hxm : C.xb ≠ C.mb) (hpm : C.pv.ownBlock ≠ some C.mb) :
    Calls Try.prog 16 #[.pointer (some ⟨C.mb, 0, none⟩), .string C.s, .int .i64 (at_ : Nat)] w (FromPost C w at_) := by
  have hsm := ok.small
  have hturn := turnTo_any C.s ⟨#[]⟩ C.mb C.xb C.mm 0 w hm hmap
  have hmm : C.mm ≠ C.mb := by
    intro e
    have := hm
    unfold Blk at this
    rw [← e, hmap] at this
    cases this
  have HH := hide (And.intro hWG (And.intro hAt (And.intro hx (And.intro hf hmap))))
  clear hWG hAt hx hf hmap hm
  go_enter Try.func16, Try.ntmps16
  go_wp2_with fail
  refine hturn.mono ?_
  rintro r w1 ⟨rfl, b1, k1⟩
  clear hturn
  obtain ⟨hWG, hAt, hx, hf, hmap⟩ := HH.out
  have hms1 : MS C w1 (.map []) := MS.new b1 (hx.kp k1 hxm) (hf.kp k1 hpm) ((k1.block _ (Array.getElem?_eq_some_iff.1 hmap).1 hmm).trans hmap)
  have HM := hide (And.intro hms1 k1)
  clear hms1 hx hf hmap b1 k1 HH
  have HG := hide (And.intro hWG hAt)
  clear hWG hAt
  go_wp2_with fail
  go_loopg [7] (C.s.size + 1 - at_) (fun k pv w' => ∃ (p : Nat) (D1 : DataW Value), pv = .int .i64 (p : Nat) ∧ p + k = C.s.size + 1 ∧ at_ ≤ p ∧ Hid (MS C w' D1 ∧ Step C w1 (.map []) w' D1 ∧ ∀ p' : Nat, at_ ≤ p' → p' < p → ∀ q', ¬ CanR C.x C.s p' q'))
  case atStart =>
    exact ⟨at_, _, rfl, by omega, Nat.le_refl _, HM.out.1, Step.refl _ _ _, fun p' h1 h2 => by omega⟩
  case round =>
    obtain ⟨p, D1, rfl, hpk, hap, HR⟩ := hrel
    by_cases hp : p ≤ C.s.size
    · have d1 : decide ((p : Int) ≤ (C.s.size : Nat)) = true := by simp; omega
      have hcall := best_any C ok HG.out.1 hG9 HG.out.2 p hp wr D1 HR.out.1
      go_wp2_with fail
      refine hcall.mono ?_
      rintro r w2 ⟨v, D2, rfl, hm2, hst2, hv⟩
      clear hcall
      rcases hv with ⟨rfl, hno⟩ | ⟨q, ss, hc, hmax, hS, hI, hl, hrow⟩
      · have HZ := hide (And.intro hm2 (And.intro hst2 hno))
        clear hm2 hst2 hno
        go_wp2_with fail
        go_roundg (gk - 1)
        case measure => omega
        obtain ⟨hm2, hst2, hno⟩ := HZ.out
        obtain ⟨r1, r2, r3⟩ := HR.out
        refine ⟨p + 1, D2, by go_num, by omega, by omega, hm2, r2.trans hst2, fun p' h1 h2 => ?_⟩
        by_cases h3 : p' < p
        · exact r3 p' h1 h3
        · obtain rfl : p' = p := by omega
          exact hno
      · obtain ⟨sb, cap, rfl, hsl, hsc⟩ := hI.lay (by omega)
        have HZ := hide (And.intro hm2 (And.intro hst2 (And.intro hc (And.intro hmax (And.intro hS (And.intro hI (And.intro hl hrow)))))))
        clear hm2 hst2 hc hmax hS hI hrow hl
        go_wp2_with fail
        go_ret
        obtain ⟨hm2, hst2, hc, hmax, hS, hI, hl, hrow⟩ := HZ.out
        obtain ⟨r1, r2, r3⟩ := HR.out
        have hk := (r2.trans hst2).kp
        have k1 := HM.out.2
        refine ⟨_, rfl, ⟨hk.os.trans k1.os, hk.tape.trans k1.tape, hk.output.trans k1.output, Nat.le_trans k1.size hk.size, fun k h1 h2 h3 => (hk.block k (Nat.lt_of_lt_of_le h1 k1.size) (fun e => h3 (by rw [e]))).trans (k1.block k h1 h2)⟩, .inr ⟨p, q, ss, hap, r3, hc, hmax, hS, hI, hl, fun k e => ?_⟩⟩
        have := hrow k e
        have h5 := r2.kp.size
        have h6 := k1.size
        omega
    · have d1 : decide ((p : Int) ≤ (C.s.size : Nat)) = false := by simp; omega
      go_wp2_with fail
      go_ret
      obtain ⟨r1, r2, r3⟩ := HR.out
      have hk := r2.kp
      have k1 := HM.out.2
      refine ⟨_, rfl, ⟨hk.os.trans k1.os, hk.tape.trans k1.tape, hk.output.trans k1.output, Nat.le_trans k1.size hk.size, fun k h1 h2 h3 => (hk.block k (Nat.lt_of_lt_of_le h1 k1.size) (fun e => h3 (by rw [e]))).trans (k1.block k h1 h2)⟩, .inl ⟨rfl, fun p' h1 q' hc => ?_⟩⟩
      by_cases h3 : p' < p
      · exact r3 p' h1 h3 q' hc
      · have h4 := hc.2.1
        have h5 := hc.2.2.1
        omega
end Go.Proofs.Ytjlgccfibkcgbaa

namespace Go.Proofs.Ytjlgccfibkcgbaa
open Go.RowKit Go.Shelf

mutual
def nodes : Part → Nat
  | .mk _ kids _ _ _ _ => 1 + nodesL kids
def nodesL : List Part → Nat
  | [] => 0
  | x :: xs => nodes x + nodesL xs
end
theorem nodesL_snoc : ∀ (l : List Part) (x : Part), nodesL (l ++ [x]) = nodesL l + nodes x
  | [], x => by simp only [List.nil_append, nodesL]; omega
  | y :: l, x => by simp only [List.cons_append, nodesL, nodesL_snoc l x]; omega
theorem nodes_upd (x : Part) (a b : Int) : nodes (upd x a b) = nodes x := by
  obtain ⟨g, kids, neg, ps, mn, mx⟩ := x
  simp only [Go.Proofs.Ytjlgccfibkcgbaa.upd, nodes]
theorem nodes_count (s : ByteArray) (r : Part × St) : nodes (countS s r).1 = nodes r.1 := by
  unfold countS
  split
  · rfl
  · split
    · exact nodes_upd _ _ _
    · split
      · exact nodes_upd _ _ _
      · rfl

mutual
theorem layA_nodes : ∀ (x : Part) (lo : Nat) (W : Nat → Nat) (group inner : Int) (ks : List PP), LayA lo x W group inner ks → ks.length + 1 ≤ nodes x
  | .mk g kids neg ps mn mx, lo, W, group, inner, ks, h => by
    simp only [LayA] at h
    simp only [nodes]
    split at h
    · rw [h.2.1]; simp
    · have := layL_nodes kids lo ks h.2.2
      omega
theorem layL_nodes : ∀ (ps : List Part) (lo : Nat) (qs : List PP), LayL lo ps qs → qs.length ≤ nodesL ps
  | [], lo, qs, h => by simp only [LayL] at h; rw [h]; simp
  | x :: xs, lo, qs, h => by
    simp only [LayL] at h
    obtain ⟨p, ks, rest, rfl, h1, -, -, -, h2⟩ := h
    have a1 := layA_nodes x _ _ _ _ _ h1
    have a2 := layL_nodes xs _ _ h2
    simp only [nodesL, List.length_cons, List.length_append]
    omega
end

theorem nodes_all (s : ByteArray) (n : Nat) :
    (∀ st, st.i ≤ s.size → (partS s n st).2.bad = false → st.i + nodes (partS s n st).1 ≤ (partS s n st).2.i) ∧ (∀ st, st.i ≤ s.size → (escS s n st).2.bad = false → st.i + nodes (escS s n st).1 ≤ (escS s n st).2.i) ∧ (∀ inner st l, st.i ≤ s.size → (partsS s inner n st l).2.bad = false → st.i + nodesL (partsS s inner n st l).1 ≤ (partsS s inner n st l).2.i + nodesL l) := by
  induction n with
  | zero =>
    refine ⟨fun st _ h => ?_, fun st _ h => ?_, fun inner st l _ h => ?_⟩
    · simp only [partS, spoil_bad] at h; cases h
    · simp only [escS, spoil_bad] at h; cases h
    · simp only [partsS]; omega
  | succ n ih =>
    obtain ⟨ihp, ihe, ihs⟩ := ih
    refine ⟨fun st hst h => ?_, fun st hst h => ?_, fun inner st l hst h => ?_⟩
    · rw [partS] at h ⊢
      split
      · next hc => rw [if_pos hc] at h; cases h
      · next hc =>
        rw [if_neg hc] at h
        have hlt : st.i < s.size := by
          simp only [not_or] at hc
          exact peekOk_lt (by simpa using hc.1)
        have h1 := Fwd.adv hlt
        have ha : (adv st).i = st.i + 1 := rfl
        have key : ∀ r : Part × St, (countS s r).2.bad = false → r.2.i ≤ s.size → (r.2.bad = false → st.i + nodes r.1 ≤ r.2.i) → st.i + nodes (countS s r).1 ≤ (countS s r).2.i := fun r hb hr hn => by
          rw [nodes_count]
          have hf := (Fwd.count (s := s) hr).1
          have hb2 : r.2.bad = false := by
            cases hbb : r.2.bad
            · rfl
            · rw [countS_bad hbb, hbb] at hb; cases hb
          have := hn hb2
          omega
        refine key _ h ?_ ?_
        · split
          · exact h1.2.1
          · split
            · exact (Fwd.set _ h1.2.1).2.1
            · split
              · exact ((fwd_all s n).2.1 _ h1.2.1).2.1
              · exact h1.2.1
        · split
          · intro _; simp only [nodes, nodesL]; omega
          · split
            · intro _
              have := (Fwd.set (s := s) (st := adv st) (s.size + 2) h1.2.1).1
              simp only [nodes, nodesL]; omega
            · split
              · intro hb
                have := ihe (adv st) h1.2.1 hb
                omega
              · intro _; simp only [singleP, nodes, nodesL]; omega
    · rw [escS] at h ⊢
      split
      · next hc => rw [if_pos hc] at h; cases h
      · next hc =>
        rw [if_neg hc] at h
        have hlt : st.i < s.size := by
          simp only [not_or] at hc
          exact peekOk_lt (by simpa using hc.1)
        have ha : (adv st).i = st.i + 1 := rfl
        split
        · simp only [singleP, nodes, nodesL]; omega
        · next hd =>
          rw [if_neg hd] at h
          split
          · simp only [singleP, nodes, nodesL]; omega
          · next he =>
            rw [if_neg he] at h
            have hop : (opened st).i = st.i + 1 := rfl
            have h3 := ihs true (opened st) [] (by omega) (eatIf_good (eatIf_good h))
            have e1 := eatIf_ge s 92 (partsS s true n (opened st) []).2
            have e2 := eatIf_ge s 41 (eatIf s 92 (partsS s true n (opened st) []).2)
            simp only [nodes]
            simp only [nodesL] at h3
            omega
    · rw [partsS] at h ⊢
      split
      · exact Nat.le_refl _
      · next hc =>
        rw [if_neg hc] at h
        have hf := ((fwd_all s n).1 st hst).1
        cases hb : (partS s n st).2.bad
        · have a1 := ihp st hst hb
          have a2 := ihs inner (partS s n st).2 (l ++ [(partS s n st).1]) hf.2.1 h
          rw [nodesL_snoc] at a2
          omega
        · rw [parts_bad s inner n _ _ hb, hb] at h; cases h

/-- What a text that is an expression has been read to. -/
theorem ex_facts (s : ByteArray) (hs : s.size ≤ 1048576) (hb : (exS s).2.bad = false) : WFs (exS s).1.groups (exS s).1.parts ∧ (exS s).1.groups ≤ 9 ∧ MMs (exS s).1.parts ∧ nodesL (exS s).1.parts ≤ s.size := by
  have hz : zeroed ⟨0, false, 0⟩ = ⟨0, false, 0⟩ := rfl
  have h1 : (advIf s 94 (zeroed ⟨0, false, 0⟩)).i ≤ s.size := by
    rw [hz]
    unfold advIf; split
    · next hc => exact peekOk_lt (isB_ok hc)
    · exact Nat.zero_le _
  have hg : (advIf s 94 (zeroed ⟨0, false, 0⟩)).g = 0 := by rw [hz]; unfold advIf adv; split <;> rfl
  have hbp : (partsS s false (2 * s.size + 2) (advIf s 94 (zeroed ⟨0, false, 0⟩)) []).2.bad = false := by
    have : (exS s).2.bad = (advIf s 36 (partsS s false (2 * s.size + 2) (advIf s 94 (zeroed ⟨0, false, 0⟩)) []).2).bad := rfl
    rw [advIf_b] at this
    rw [← this]; exact hb
  have w1 := ((wf_all s hs (2 * s.size + 2) (by omega)).2.2 false (advIf s 94 (zeroed ⟨0, false, 0⟩)) [] h1 trivial (by simp; omega)).2.1
  have f1 := (fwd_all s (2 * s.size + 2)).2.2 false (advIf s 94 (zeroed ⟨0, false, 0⟩)) [] h1
  have m1 := (mm_all s (2 * s.size + 2)).2.2 false (advIf s 94 (zeroed ⟨0, false, 0⟩)) [] trivial hbp
  have n1 := (nodes_all s (2 * s.size + 2)).2.2 false (advIf s 94 (zeroed ⟨0, false, 0⟩)) [] h1 hbp
  simp only [nodesL] at n1
  refine ⟨w1, f1.2.2 (by omega), m1, ?_⟩
  have f2 := f1.2.1
  show nodesL (partsS s false (2 * s.size + 2) (advIf s 94 (zeroed ⟨0, false, 0⟩)) []).1 ≤ s.size
  omega
end Go.Proofs.Ytjlgccfibkcgbaa
