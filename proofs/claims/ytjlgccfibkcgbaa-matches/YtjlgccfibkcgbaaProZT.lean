import Derived.Test.YtjlgccfibkcgbaaProZR
namespace Go.Proofs.Ytjlgccfibkcgbaa
open Go.RowKit Go.Shelf

/-- The text is an expression. -/
def Good (s : ByteArray) : Prop := (exS s).2.bad = false ∧ (exS s).2.i = s.size
instance (s : ByteArray) : Decidable (Good s) := by unfold Good; infer_instance

/-- What Match answers where it finds a match, or none. -/
def FoundPost (x : Ex) (s : ByteArray) (w : World) (at_ : Nat) (v : Value) (w' : World) : Prop :=
  (v = .slice none 0 0 ∧ ∀ p : Nat, at_ ≤ p → ∀ q, ¬ CanR x s p q) ∨ ∃ (p q : Nat) (ss : List Int), at_ ≤ p ∧ (∀ p' : Nat, at_ ≤ p' → p' < p → ∀ q', ¬ CanR x s p' q') ∧ CanR x s p q ∧ (∀ q' : Nat, CanR x s p q' → q' ≤ q) ∧ SpanR s x.parts p q (span0 p q x.groups) ss ∧ Ints w' v ss ∧ ss.length = 2 * x.groups + 2 ∧ ∀ k, v.ownBlock = some k → w.heap.size ≤ k

def MatchPost (e s : ByteArray) (at_ : Int) (w : World) (r : Ending) (w' : World) : Prop :=
  Below w.heap.size w w' ∧ ∃ v en pl, r = .returned (.tuple #[v, .int .i64 en, .int .i64 pl]) ∧
    (((60 < e.size ∨ 200 < s.size) ∧ v = .slice none 0 0 ∧ en = 1 ∧ pl = 0) ∨
     (¬ (60 < e.size ∨ 200 < s.size) ∧ ¬ Good e ∧ v = .slice none 0 0 ∧ en = 2 ∧ pl = (exS e).2.i) ∨
     (¬ (60 < e.size ∨ 200 < s.size) ∧ Good e ∧ (at_ < 0 ∨ (s.size : Int) < at_) ∧ v = .slice none 0 0 ∧ en = 5 ∧ pl = 0) ∨
     (¬ (60 < e.size ∨ 200 < s.size) ∧ Good e ∧ 0 ≤ at_ ∧ at_ ≤ s.size ∧ en = 0 ∧ pl = 0 ∧ FoundPost (exS e).1 s w at_.toNat v w'))

theorem results_tmp3 {fn : Func} {a b c : Tmp} (h : fn.results = #[.tmp a, .tmp b, .tmp c]) (tmps : Array Value) (P : Program) (w : World) :
    (results fn tmps).run P w = .ok (.tuple #[tmps.getD a undef, tmps.getD b undef, tmps.getD c undef]) w := by
  simp [results, h]

set_option maxRecDepth 100000 in
set_option maxHeartbeats 1000000 in
theorem Match_any (e s : ByteArray) (at_ : Int) (w : World) (he : e.size ≤ 1048576) (hs : s.size ≤ 1048576) :
    Calls Try.prog 6 #[.string e, .string s, .int .i64 at_] w (MatchPost e s at_ w) := by
  have hmf : ∀ (fn : Fn) (first cap : Array Value) (w : World), (Instr.makeFunc fn first cap).run Try.prog w = .ok (.func fn first cap) w := fun _ _ _ _ => rfl
  by_cases hlen : 60 < e.size ∨ 200 < s.size
  · have HL := hide hlen
    have key : decide ((60 : Int) < (e.size : Nat)) = true ∨ (decide ((60 : Int) < (e.size : Nat)) = false ∧ decide ((200 : Int) < (s.size : Nat)) = true) := by
      by_cases h : 60 < e.size
      · left; simp; omega
      · right; constructor <;> simp <;> omega
    clear hlen
    rcases key with l1 | ⟨l1, l2⟩
    all_goals
      go_enter Try.func6, Try.ntmps6
      go_wp2_with fail
      refine bodyPost_ret (results_tmp3 rfl _ _ _) rfl ?_
      exact ⟨(Below.refl _ w).alloc (Nat.le_refl _) _, _, 1, 0, rfl, .inl ⟨HL.out, rfl, rfl, rfl⟩⟩
  · have l1 : decide ((60 : Int) < (e.size : Nat)) = false := by simp; omega
    have l2 : decide ((200 : Int) < (s.size : Nat)) = false := by simp; omega
    have hb1 : Below w.heap.size w ((w.alloc (.cells #[.string e] 9)).alloc (.cells #[.pointer none] 38)) := ((Below.refl _ w).alloc (Nat.le_refl _) _).alloc (by simp) _
    have hs1 : ((w.alloc (.cells #[.string e] 9)).alloc (.cells #[.pointer none] 38)).heap.size = w.heap.size + 2 := by simp
    have B0 : Blk ((w.alloc (.cells #[.string e] 9)).alloc (.cells #[.pointer none] 38)) w.heap.size #[.string e] 9 := (Blk.new w _ _).alloc _
    have B1 : Blk ((w.alloc (.cells #[.string e] 9)).alloc (.cells #[.pointer none] 38)) (w.heap.size + 1) #[.pointer none] 38 := Blk.newAt (by simp)
    have hcall := caught_any 13 #[.pointer (some ⟨w.heap.size, 0, none⟩), .pointer (some ⟨w.heap.size + 1, 0, none⟩)] ((w.alloc (.cells #[.string e] 9)).alloc (.cells #[.pointer none] 38))
      (fun w' => Kp (w.heap.size + 1) (((w.alloc (.cells #[.string e] 9)).alloc (.cells #[.pointer none] 38)).alloc (.cells #[.int .i64 0, .int .i64 0] 40)) w' ∧ Good e ∧ ∃ xb pv qs, Blk w' (w.heap.size + 1) #[.pointer (some ⟨xb, 0, none⟩)] 38 ∧ PX w' (w.heap.size + 3) xb (exS e).1 pv qs)
      (fun en pl w' => Kp (w.heap.size + 1) (((w.alloc (.cells #[.string e] 9)).alloc (.cells #[.pointer none] 38)).alloc (.cells #[.int .i64 0, .int .i64 0] 40)) w' ∧ ¬ Good e ∧ en = 2 ∧ pl = (exS e).2.i)
      (enters_of Try.func13 (by kernel_rfl) rfl)
      ((match1_any e w.heap.size (w.heap.size + 1) (.pointer none) _ he (B0.alloc _) (B1.alloc _)).mono (by
        rintro r w' ⟨hk, h⟩
        refine ⟨(Blk.newAt (by rw [hs1])).kp hk (by omega), ?_⟩
        rcases h with ⟨g1, g2, xb, pv, qs, rfl, h1, h2⟩ | ⟨g1, rfl⟩
        · refine .inl ⟨rfl, hk, ⟨g1, g2⟩, xb, pv, qs, h1, ?_⟩
          have : (((w.alloc (.cells #[.string e] 9)).alloc (.cells #[.pointer none] 38)).alloc (.cells #[.int .i64 0, .int .i64 0] 40)).heap.size = w.heap.size + 3 := by simp
          rw [this] at h2
          exact h2
        · exact .inr ⟨2, _, rfl, hk, g1, rfl, rfl⟩))
    have HL := hide (And.intro hlen (And.intro hb1 hs1))
    clear hlen hb1 B0 B1 hs1
    go_enter Try.func6, Try.ntmps6
    go_wp2_with fail
    refine hcall.mono ?_
    clear hcall
    rintro r w3 (⟨w0, ⟨hk0, hgood, xb, pv, qs, hvb, hPX⟩, rfl, hk3⟩ | ⟨w0, en, pl, ⟨hk0, hbad, rfl, rfl⟩, rfl, hk3⟩)
    · obtain ⟨hlen, hb1, hs1⟩ := HL.out
      have hb2 : Below w.heap.size w w0 := Kp.toBelow (hb1.alloc (by rw [hs1]; omega) _) hk0 (by omega)
      have hb3 : Below w.heap.size w w3 := Kp.toBelow hb2 hk3 (by rw [hs1]; omega)
      rw [hs1] at hk3
      obtain ⟨hX, hxl, hlay, hfl, hpl⟩ := hPX
      have hvb3 := hvb.kp hk3 (by omega)
      have hX3 := hX.kp hk3 (by omega)
      have hfl3 := hfl.kp hk3 (fun e => by have := hpl _ e; omega)
      have hb4 : Below w3.heap.size w3 (w3.alloc (.cells #[.int .i64 0, .int .i64 0] 40)) := (Below.refl _ _).alloc (Nat.le_refl _) _
      have G4 := Blk.new w3 #[.int .i64 0, .int .i64 0] 40
      have g40 : (w3.alloc (.cells #[.int .i64 0, .int .i64 0] 40)).cell? ⟨w3.heap.size, 0, none⟩ = some (.int .i64 0) := G4.cell 0 rfl
      have g41 : (w3.alloc (.cells #[.int .i64 0, .int .i64 0] 40)).cell? ⟨w3.heap.size, 1, none⟩ = some (.int .i64 0) := G4.cell 1 rfl
      have v4 : (w3.alloc (.cells #[.int .i64 0, .int .i64 0] 40)).cell? ⟨w.heap.size + 1, 0, none⟩ = some (.pointer (some ⟨xb, 0, none⟩)) := (hvb3.below hb4).cell 0 rfl
      have hb5 := hb3.trans (hb4.mono hb3.size)
      by_cases hat : at_ < 0 ∨ (s.size : Int) < at_
      · have key : decide (at_ < 0) = true ∨ (decide (at_ < 0) = false ∧ decide ((s.size : Int) < at_) = true) := by
          by_cases h : at_ < 0
          · left; simp [h]
          · right; constructor <;> simp <;> omega
        have HZ := hide (And.intro hb5 (And.intro hgood (And.intro hat hlen)))
        clear hb1 hb2 hb3 hb4 hb5 hk0 hk3 hvb hvb3 hX hX3 hfl hfl3 hlay hpl hgood hat G4 HL hlen hs1 hxl
        rcases key with a1 | ⟨a1, a2⟩
        all_goals
          go_wp2_with fail
          refine bodyPost_ret (results_tmp3 rfl _ _ _) rfl ?_
          obtain ⟨hb5, hgood, hat, hlen⟩ := HZ.out
          exact ⟨hb5, _, 5, 0, rfl, .inr (.inr (.inl ⟨hlen, hgood, hat, rfl, rfl, rfl⟩))⟩
      · have a1 : decide (at_ < 0) = false := by simp; omega
        have a2 : decide ((s.size : Int) < at_) = false := by simp; omega
        obtain ⟨n, rfl⟩ : ∃ n : Nat, at_ = n := ⟨at_.toNat, by omega⟩
        have a3 : decide (s.size < n) = false := by simp at a2 ⊢; omega
        have hns : n ≤ s.size := by omega
        have hnm := newMatcher_any xb (w3.alloc (.cells #[.int .i64 0, .int .i64 0] 40))
        have HZ := hide (And.intro hb5 (And.intro hgood (And.intro hat (And.intro (hX3.below hb4) (And.intro (hfl3.alloc (.cells #[.int .i64 0, .int .i64 0] 40)) (And.intro hlay (And.intro hpl hxl)))))))
        clear hb1 hb2 hb3 hb4 hb5 hk0 hk3 hvb hvb3 hX hX3 hfl hfl3 hlay hpl hgood hat G4 hs1 hxl HL
        go_wp2_with fail
        refine hnm.mono ?_
        rintro r w5 ⟨rfl, hw5⟩
        clear hnm
        obtain ⟨hb5, hgood, hat, hX4, hfl4, hlay, hpl, hxl⟩ := HZ.out
        obtain ⟨hwf, hg9, hmms, hnod⟩ := ex_facts e he hgood.1
        have hs4 : w3.heap.size + 1 ≤ (w3.alloc (.cells #[.int .i64 0, .int .i64 0] 40)).heap.size := by simp
        generalize hw4 : w3.alloc (.cells #[.int .i64 0, .int .i64 0] 40) = w4 at *
        let C : MC := ⟨s, qs, w4.heap.size + 1, xb, w4.heap.size, pv, (exS e).1⟩
        have hok : C.Ok := ⟨by show s.size ≤ 60000; omega, by show qs.length ≤ 1048576; have := layL_nodes _ _ _ hlay; omega⟩
        have hxlt : xb < w4.heap.size := hX4.lt
        have hb6 : Below w4.heap.size w4 w5 := by rw [hw5]; exact ((Below.refl _ _).alloc (Nat.le_refl _) _).alloc (by simp) _
        have hAt : AtW C (firstIx 0 (exS e).1.parts) (exS e).1.parts := ⟨⟨0, qs, [], rfl, by simp [C], hlay⟩, WFs.mono hg9 _ hwf, hmms⟩
        have hcall := from_any C hok hwf hg9 hAt n hns w5 (by rw [hw5]; exact Blk.newAt (by simp [C])) (hX4.below hb6) (flatAgree hfl4 fun k e2 => hb6.block k (hfl4.lt k e2)) (by rw [hw5]; exact (Below.heap_alloc _ _ _ (by simp [C])).trans (World.alloc_heap_new w4 _)) (by show xb ≠ w4.heap.size + 1; omega) (fun e2 => by have := hfl4.lt _ e2; simp only [C] at this; omega)
        have HY := hide (And.intro hb5 (And.intro hgood hb6))
        clear hX4 hfl4 hlay hwf hmms hnod hAt hgood hat
        have hs5 : (w4.heap.size + 2) ≤ w5.heap.size := by rw [hw5]; simp
        clear hw5
        go_wp2_with fail
        refine hcall.mono ?_
        rintro r w6 ⟨v, rfl, hk6, hv⟩
        clear hcall
        go_wp2_with fail
        refine bodyPost_ret (results_tmp3 rfl _ _ _) rfl ?_
        obtain ⟨hb5, hgood, hb6⟩ := HY.out
        have hle := hb5.size
        have hb7 : Below w.heap.size w w6 := (hb5.trans (hb6.mono hle)).trans ⟨hk6.os, hk6.tape, hk6.output, hk6.size, fun k hk => hk6.block k (by omega) (by show k ≠ w4.heap.size + 1; omega) (fun e => by have : k = w4.heap.size := Option.some.inj e; omega)⟩
        refine ⟨hb7, v, 0, 0, rfl, .inr (.inr (.inr ⟨hlen, hgood, by omega, by omega, rfl, rfl, ?_⟩))⟩
        rw [Int.toNat_natCast]
        rcases hv with h1 | ⟨p, q, ss, h1, h2, h3, h4, h5, h6, h7, h8⟩
        · exact .inl h1
        · exact .inr ⟨p, q, ss, h1, h2, h3, h4, h5, h6, h7, fun k e2 => by have := h8 k e2; omega⟩
    · obtain ⟨hlen, hb1, hs1⟩ := HL.out
      have hb2 : Below w.heap.size w w0 := Kp.toBelow (hb1.alloc (by rw [hs1]; omega) _) hk0 (by omega)
      have hb3 : Below w.heap.size w w3 := Kp.toBelow hb2 hk3 (by rw [hs1]; omega)
      have hb4 : Below w3.heap.size w3 (w3.alloc (.cells #[.int .i64 2, .int .i64 ((exS e).2.i : Nat)] 40)) := (Below.refl _ _).alloc (Nat.le_refl _) _
      have G4 := Blk.new w3 #[.int .i64 2, .int .i64 ((exS e).2.i : Nat)] 40
      have g40 : (w3.alloc (.cells #[.int .i64 2, .int .i64 ((exS e).2.i : Nat)] 40)).cell? ⟨w3.heap.size, 0, none⟩ = some (.int .i64 2) := G4.cell 0 rfl
      have g41 : (w3.alloc (.cells #[.int .i64 2, .int .i64 ((exS e).2.i : Nat)] 40)).cell? ⟨w3.heap.size, 1, none⟩ = some (.int .i64 ((exS e).2.i : Nat)) := G4.cell 1 rfl
      have hb5 := hb3.trans (hb4.mono hb3.size)
      have HZ := hide (And.intro hb5 (And.intro hbad hlen))
      clear hk0 hbad hk3 hb1 hb2 hb3 hb4 hb5 G4 HL hlen hs1
      go_wp2_with fail
      go_region
      all_goals go_wp2_with fail
      all_goals
        refine bodyPost_ret (results_tmp3 rfl _ _ _) rfl ?_
        obtain ⟨hb5, hbad, hlen⟩ := HZ.out
        exact ⟨hb5.drew, _, 2, _, rfl, .inr (.inl ⟨hlen, hbad, rfl, rfl, rfl⟩)⟩
end Go.Proofs.Ytjlgccfibkcgbaa

namespace Go.Proofs.Ytjlgccfibkcgbaa
open Go.RowKit Go.Shelf

/-- Each group's span lies within, or is none. -/
def Pairs (lo hi : Nat) (ss : List Int) : Prop := ∀ k : Nat, 1 ≤ k → (ss.getD (2 * k) 0 = -1 ∧ ss.getD (2 * k + 1) 0 = -1) ∨ ((lo : Int) ≤ ss.getD (2 * k) 0 ∧ ss.getD (2 * k) 0 ≤ ss.getD (2 * k + 1) 0 ∧ ss.getD (2 * k + 1) 0 ≤ hi) ∨ ss.length ≤ 2 * k + 1

theorem getD_set (ss : List Int) (i j : Nat) (v : Int) : (ss.set i v).getD j 0 = if i = j ∧ j < ss.length then v else ss.getD j 0 := by
  rw [List.getD_eq_getElem?_getD, List.getD_eq_getElem?_getD, List.getElem?_set]
  by_cases h : i = j
  · subst h
    by_cases hl : i < ss.length
    · simp [hl]
    · simp [hl]
  · simp [h]

theorem LoopR.lo {s : ByteArray} {x : Part} {e n p l n' l' : Nat} (h : LoopR s x e n p l n' l') : p ≤ s.size → l ≤ p → l ≤ l' := fun h1 h2 => (h.ge h1 h2).1

mutual
theorem spanR_ok (s : ByteArray) (G lo hi : Nat) (hh : hi ≤ s.size) : ∀ (ps : List Part) (p e : Nat) (ss ss' : List Int), WFs G ps → lo ≤ p → p ≤ e → e ≤ hi → SeqR s ps p e → Pairs lo hi ss → SpanR s ps p e ss ss' → Pairs lo hi ss' ∧ ss'.length = ss.length ∧ ss'.getD 0 0 = ss.getD 0 0 ∧ ss'.getD 1 0 = ss.getD 1 0
  | [], p, e, ss, ss', _, _, _, _, _, hP, h => by
    simp only [SpanR] at h
    subst h
    exact ⟨hP, rfl, rfl, rfl⟩
  | x :: xs, p, e, ss, ss', hw, h1, h2, h3, hs, hP, h => by
    simp only [SpanR] at h
    simp only [WFs] at hw
    obtain ⟨m, ss1, hb, hc, hr⟩ := h
    have b1 := Copies.bound (N := s.size) (fun p q hp ha => AtomR.bound s x p q hp ha) hb.1.1 (by omega)
    have b2 := SeqR.bound s xs m e b1.2 hb.1.2
    obtain ⟨c1, c2, c3, c4⟩ := spanC_ok s G lo hi hh x p m ss ss1 hw.1 h1 b1.1 (by omega) hP hc
    obtain ⟨d1, d2, d3, d4⟩ := spanR_ok s G lo hi hh xs m e ss1 ss' hw.2 (by omega) b2.1 h3 hb.1.2 c1 hr
    exact ⟨d1, d2.trans c2, d3.trans c3, d4.trans c4⟩
theorem spanC_ok (s : ByteArray) (G lo hi : Nat) (hh : hi ≤ s.size) : ∀ (x : Part) (p e : Nat) (ss ss' : List Int), WF G x → lo ≤ p → p ≤ e → e ≤ hi → Pairs lo hi ss → SpanC s x p e ss ss' → Pairs lo hi ss' ∧ ss'.length = ss.length ∧ ss'.getD 0 0 = ss.getD 0 0 ∧ ss'.getD 1 0 = ss.getD 1 0
  | .mk g kids neg ps mn mx, p, e, ss, ss', hw, h1, h2, h3, hP, h => by
    simp only [SpanC] at h
    simp only [WF] at hw
    split at h
    · subst h
      exact ⟨hP, rfl, rfl, rfl⟩
    · next hg =>
      obtain ⟨n, l, hl, h⟩ := h
      split at h
      · subst h
        exact ⟨hP, rfl, rfl, rfl⟩
      · next hn =>
        have hlo := hl.lo (by omega) (Nat.le_refl _)
        have hat : AtomR s (.mk g kids neg ps mn mx) l e := by
          rcases hl.last with ⟨h0, _⟩ | ⟨_, h4⟩
          · omega
          · exact h4
        have hsz := (hl.ge (by omega) (Nat.le_refl _)).2
        have hb := AtomR.bound s _ l e hsz hat
        have hseq : SeqR s kids l e := (atomR_group (x := .mk g kids neg ps mn mx) (by simpa [Part.g] using hg) l e).1 hat
        have hP2 : Pairs lo hi ((ss.set (2 * g) l).set (2 * g + 1) e) := by
          intro k hk
          simp only [List.length_set]
          rw [getD_set, getD_set, getD_set, getD_set, List.length_set]
          by_cases hkg : k = g
          · subst hkg
            by_cases hlen : 2 * k + 1 < ss.length
            · right; left
              rw [if_neg (by omega), if_pos ⟨rfl, by omega⟩, if_pos ⟨rfl, hlen⟩]
              omega
            · right; right; omega
          · rw [if_neg (by omega), if_neg (by omega), if_neg (by omega), if_neg (by omega)]
            exact hP k hk
        obtain ⟨d1, d2, d3, d4⟩ := spanR_ok s G lo hi hh kids l e _ ss' hw.2.2.2.2.2.2.2 (by omega) hb.1 h3 hseq hP2 h
        refine ⟨d1, by rw [d2, List.length_set, List.length_set], ?_, ?_⟩
        · rw [d3, getD_set, getD_set, if_neg (by omega), if_neg (by omega)]
        · rw [d4, getD_set, getD_set, if_neg (by omega), if_neg (by omega)]
end

theorem pairs_span0 (lo hi p q g : Nat) : Pairs lo hi (span0 p q g) := by
  intro k hk
  by_cases hl : 2 * k + 1 < 2 * g + 2
  · left
    unfold span0
    constructor
    · rw [show 2 * k = (2 * k - 2) + 1 + 1 from by omega]
      simp only [List.getD_cons_succ]
      rw [List.getD_eq_getElem?_getD, List.getElem?_replicate, if_pos (by omega)]; rfl
    · rw [show 2 * k + 1 = (2 * k - 1) + 1 + 1 from by omega]
      simp only [List.getD_cons_succ]
      rw [List.getD_eq_getElem?_getD, List.getElem?_replicate, if_pos (by omega)]; rfl
  · right; right
    rw [span0_len]; omega
end Go.Proofs.Ytjlgccfibkcgbaa
