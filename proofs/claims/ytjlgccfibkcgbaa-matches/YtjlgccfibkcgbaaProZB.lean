import Derived.Test.YtjlgccfibkcgbaaProZ
import Derived.RangeFuncNested
import Derived.RangeFuncBound
import Derived.RangeFuncCalls
import Derived.RangeFuncLeaves
import Derived.Shelf.Abstract
import Derived.Shelf.RegionOpen
import Derived.WalkKit
import Derived.OwnWalkIn
import Derived.TacticsInMore
import Derived.LoopNIn
import Derived.LoopIn
namespace Go.Proofs.Ytjlgccfibkcgbaa
open Go.RowKit Go.Shelf
attribute [local go_sem] Oper.semAt_some

set_option maxRecDepth 100000 in
set_option maxHeartbeats 1000000 in
theorem lf1_in (F : Fence) (n : Nat) (hf : F.fn 66) (hl : F.fn 67) (hLen : ∀ (x : Nat) (w : World), x < 18446744073709551616 → x ≠ 0 → CallsIn F (n - 1) Try.prog 67 #[.int .u64 (x : Nat)] w fun e w' => e = .returned (.int .i64 ((x.log2 : Int) + 1)) ∧ w' = w) (hro : F.round = none) (hn : 2 ≤ n) (l Bs g cap : Nat) (pa : Option Addr) (ws : List Nat) (G : Nat → Bool) (hG : HoldsP ws G) (hlen : ws.length ≤ 1000) (hpa : 0 < ws.length → pa = some ⟨g, 0, none⟩)
    (KP : World → World → Prop) (hKP : ∀ A B, KP A B → (∀ o, B.cell? ⟨g, o, none⟩ = A.cell? ⟨g, o, none⟩) ∧ B.cell? ⟨Bs, 0, none⟩ = A.cell? ⟨Bs, 0, none⟩)
    (J Jx : List Nat → World → Prop)
    (hY : ∀ pre x W, J pre W → G x = true → pre.length < 64 * ws.length → YieldAt F (n - 1) Try.prog l #[.int .i64 (x : Nat)] W fun e W' => (e = .returned (.bool true) ∧ J (pre ++ [x]) W' ∧ KP W W') ∨ (e = .returned (.bool false) ∧ Jx (pre ++ [x]) W'))
    (W : World) (hBs : W.cell? ⟨Bs, 0, none⟩ = some (.slice pa ws.length cap)) (hc : ∀ i, i < ws.length → W.cell? ⟨g, i, none⟩ = some (.int .u64 (ws.getD i 0 : Nat))) (h0 : J [] W) :
    CallsIn F n Try.prog 66 #[.func (.yield l) #[] #[], .pointer (some ⟨Bs, 0, none⟩)] W fun e W' => (∃ v, e = .returned v) ∧ (J (down G (64 * ws.length)) W' ∨ ∃ pre, pre <+: down G (64 * ws.length) ∧ Jx pre W') := by
  have HG := hide hG
  clear hG
  refine callsIn_of_wp Try.func66 rfl hf ?_ hro
  simp only [Try.ntmps66, List.size_toArray, List.length_cons, List.length_nil, Nat.reduceAdd, Nat.reduceSub, Array.replicate_succ, Array.replicate_zero, List.push_toArray, List.append_toArray, List.nil_append, List.cons_append]
  gi_wp2
  gi_loopw [3] (fun i wr => ∃ (k : Nat) (pre : List Nat), i = .int .i64 ((k : Int) - 1) ∧ k ≤ ws.length ∧ J pre wr ∧ wr.cell? ⟨Bs, 0, none⟩ = some (.slice pa ws.length cap) ∧ (∀ i, i < ws.length → wr.cell? ⟨g, i, none⟩ = some (.int .u64 (ws.getD i 0 : Nat))) ∧ Hid (down G (64 * ws.length) = pre ++ down G (64 * k)))
    (fun i _ => (intOf i + 1).toNat)
  case atStart =>
    exact ⟨ws.length, [], rfl, Nat.le_refl _, h0, hBs, hc, rfl⟩
  case round =>
    obtain ⟨k, pre, hi, hk, hJ, hb, hcs, HD⟩ := hrel
    cases k with
    | zero =>
      subst hi
      gi_wp2
      go_end0
      refine ⟨⟨_, rfl⟩, .inl ?_⟩
      have := HD.out
      rw [show down G (64 * 0) = [] from rfl, List.append_nil] at this
      rw [this]; exact hJ
    | succ k =>
      rw [show ((k + 1 : Nat) : Int) - 1 = (k : Int) from by omega] at hi
      subst hi
      obtain rfl := hpa (by omega)
      have c0 := hcs k (by omega)
      have hx0 := HG.out.get k
      have HX0 : Hid (∀ t, t < 64 → (ws.getD k 0).testBit t = G (64 * k + t)) := fun t ht => by
        have := HG.out.2 (64 * k + t)
        rw [show (64 * k + t) / 64 = k from by omega, show (64 * k + t) % 64 = t from by omega] at this
        exact this
      generalize ws.getD k 0 = x0 at *
      gi_wp2
      gi_loopw [4] (fun x wr => ∃ (x1 m : Nat) (pre : List Nat), x = .int .u64 (x1 : Nat) ∧ m ≤ 64 ∧ x1 < 18446744073709551616 ∧ J pre wr ∧ wr.cell? ⟨Bs, 0, none⟩ = some (.slice (some ⟨g, 0, none⟩) ws.length cap) ∧ (∀ i, i < ws.length → wr.cell? ⟨g, i, none⟩ = some (.int .u64 (ws.getD i 0 : Nat))) ∧ Hid (∀ t, x1.testBit t = (decide (t < m) && x0.testBit t)) ∧ Hid (down G (64 * ws.length) = pre ++ down G (64 * k + m)))
        (fun x _ => (intOf x).toNat)
      case atStart =>
        refine ⟨x0, 64, pre, rfl, Nat.le_refl _, hx0, hJ, hb, hcs, fun t => ?_, HD.out⟩
        by_cases ht : t < 64
        · simp [ht]
        · rw [Nat.testBit_lt_two_pow (Nat.lt_of_lt_of_le (show x0 < 2 ^ 64 by omega) (Nat.pow_le_pow_right (by omega) (by omega)))]; simp
      case round =>
        obtain ⟨x1, m, pre, rfl, hm, hx1, hJ, hb, hcs, HT, HD⟩ := hrel
        by_cases hz : x1 = 0
        · subst hz
          gi_wp2
          refine ⟨⟨k, pre, rfl, by omega, hJ, hb, hcs, ?_⟩, by simp only [intOf]; omega⟩
          show down G (64 * ws.length) = _
          rw [HD.out, down_skip G (show 64 * k ≤ 64 * k + m by omega)]
          intro q h1 h2
          have e := HT.out (q - 64 * k)
          have e3 : decide (q - 64 * k < m) = true := by simp; omega
          rw [e3, Bool.true_and, HX0.out _ (by omega), show 64 * k + (q - 64 * k) = q from by omega, Nat.zero_testBit] at e
          exact e.symm
        · have htop := top_bit hz
          have ht := HT.out x1.log2
          rw [htop.1] at ht
          have ht' := ht.symm
          simp only [Bool.and_eq_true, decide_eq_true_eq] at ht'
          have hGt : G (64 * k + x1.log2) = true := by rw [← HX0.out _ (by omega)]; exact ht'.2
          have hdn : down G (64 * k + m) = (64 * k + x1.log2) :: down G (64 * k + x1.log2) := by
            refine down_top G (by omega) hGt (fun q h1 h2 => ?_)
            have e := HT.out (q - 64 * k)
            rw [htop.2 _ (by omega)] at e
            have e3 : decide (q - 64 * k < m) = true := by simp; omega
            rw [e3, Bool.true_and, HX0.out _ (by omega), show 64 * k + (q - 64 * k) = q from by omega] at e
            exact e.symm
          have hpl : pre.length < 64 * ws.length := by
            have h1 := congrArg List.length HD.out
            have h2 := down_len G (64 * ws.length)
            rw [hdn] at h1
            simp at h1
            omega
          have hLx := hLen x1
          have HC := hide (And.intro (fun t => clearB_bit (x := x1) (t := x1.log2) (by omega) hx1 t) (And.intro htop hdn))
          have hcl := clearB_lt (t := x1.log2) hx1
          have hcr := clearB_run x1 x1.log2 (by omega) hx1
          have hlt1 : clearB x1 x1.log2 < x1 := clearB_small (by omega) hx1 htop.1
          have htm : x1.log2 < m := ht'.1
          obtain ⟨fn, tmps, assign, body, hy, hR⟩ := hY pre (64 * k + x1.log2) wr hJ hGt hpl
          clear ht ht' htop hdn
          generalize hx2 : clearB x1 x1.log2 = x2 at *
          generalize hlg : x1.log2 = t at *
          have HXT := hide (And.intro hx2 hlg)
          clear hx2 hlg
          rw [show ((64 * k + t : Nat) : Int) = (k : Int) * 64 + t from by omega] at hy
          have hwp : IntKind.u64.wrap ((2 : Int) ^ t) = (2 : Int) ^ t := by rw [wrap_pow (show t < 64 by omega)]; simp
          gi_wp2
          refine ⟨fun _ => by omega, (hLx _ hx1 hz).mono ?_⟩
          rintro e w' ⟨rfl, rfl⟩
          gi_wp2
          refine ⟨fun _ => by omega, hR.mono ?_⟩
          rintro e W3 (⟨rfl, hJ3, hk3⟩ | ⟨rfl, hJx3⟩)
          · have hK3 := hKP _ _ hk3
            gi_wp2
            go_roundw
            case rel =>
              obtain ⟨hcb, htop, hdn⟩ := HC.out
              refine ⟨x2, t, pre ++ [64 * k + t], rfl, by omega, hcl, hJ3, hK3.2.trans hb, fun i hi => (hK3.1 i).trans (hcs i hi), fun u => ?_, ?_⟩
              · rw [hcb u, HT.out u]
                by_cases h1 : u < t
                · have e1 : decide (u < m) = true := by simp; omega
                  have e2 : decide (u < t) = true := by simp; omega
                  have e3 : decide (u = t) = false := by simp; omega
                  rw [e1, e2, e3]; simp
                · have e2 : decide (u < t) = false := by simp; omega
                  rw [e2, Bool.false_and]
                  by_cases h2 : u = t
                  · simp [h2]
                  · have := htop.2 u (by omega)
                    rw [HT.out u] at this
                    rw [this]; rfl
              · show down G (64 * ws.length) = _
                rw [HD.out, hdn]; simp
            case measure => simp only [intOf]; omega
          · gi_wp2
            refine bodyPost_ret (results_none rfl _ _ _) rfl ?_
            refine ⟨⟨_, rfl⟩, .inr ⟨pre ++ [64 * k + t], ?_, hJx3⟩⟩
            obtain ⟨hcb, htop, hdn⟩ := HC.out
            rw [HD.out, hdn]
            exact ⟨down G (64 * k + t), by simp⟩
/-- What a round keeps: the row of a set, and the box that the walk over it looks into. -/
def Keep2 (g Bs : Nat) (A B : World) : Prop := B.heap[g]? = A.heap[g]? ∧ B.heap[Bs]? = A.heap[Bs]?
theorem Keep2.cells {g Bs : Nat} {A B : World} (h : Keep2 g Bs A B) : (∀ o, B.cell? ⟨g, o, none⟩ = A.cell? ⟨g, o, none⟩) ∧ B.cell? ⟨Bs, 0, none⟩ = A.cell? ⟨Bs, 0, none⟩ := by
  refine ⟨fun o => ?_, ?_⟩
  · simp only [World.cell?, h.1]
  · simp only [World.cell?, h.2]
theorem Keep2.trans {g Bs : Nat} {A B C : World} (h : Keep2 g Bs A B) (k : Keep2 g Bs B C) : Keep2 g Bs A C := ⟨k.1.trans h.1, k.2.trans h.2⟩

/-- A place of a set. -/
abbrev InSet (G : Nat → Bool) := { q : Nat // G q = true }

theorem lf_stops (F : Fence) (n : Nat) (hf : F.fn 66) (hl : F.fn 67) (hLen : ∀ (x : Nat) (w : World), x < 18446744073709551616 → x ≠ 0 → CallsIn F (n - 1) Try.prog 67 #[.int .u64 (x : Nat)] w fun e w' => e = .returned (.int .i64 ((x.log2 : Int) + 1)) ∧ w' = w) (hro : F.round = none) (hn : 2 ≤ n) (Bs g cap : Nat) (pa : Option Addr) (ws : List Nat) (G : Nat → Bool) (hG : HoldsP ws G) (hlen : ws.length ≤ 1000) (hpa : 0 < ws.length → pa = some ⟨g, 0, none⟩)
    (w : World) (hg : 0 < ws.length → g < w.heap.size) (hBl : Bs < w.heap.size) (hBs : w.cell? ⟨Bs, 0, none⟩ = some (.slice pa ws.length cap)) (hc : ∀ i, i < ws.length → w.cell? ⟨g, i, none⟩ = some (.int .u64 (ws.getD i 0 : Nat))) :
    SeqStopsK F n Try.prog 66 #[.pointer (some ⟨Bs, 0, none⟩)] (fun x : InSet G => #[Value.int .i64 (x.1 : Nat)]) (Keep2 g Bs) (fun ys => ys.map (·.1) = down G (64 * ws.length)) (fun pre => pre.map (·.1) <+: down G (64 * ws.length)) (64 * ws.length) w := fun l J Jx W hW _ _ hY h0 => by
  have hBs' := (hW.cell (p := ⟨Bs, 0, none⟩) hBl).trans hBs
  have hc' : ∀ i, i < ws.length → W.cell? ⟨g, i, none⟩ = some (.int .u64 (ws.getD i 0 : Nat)) := fun i hi => (hW.cell (p := ⟨g, i, none⟩) (hg (by omega))).trans (hc i hi)
  refine (lf1_in F n hf hl hLen hro hn l Bs g cap pa ws G hG hlen hpa (Keep2 g Bs) (fun _ _ h => h.cells) (fun zs W => ∃ ys : List (InSet G), ys.map (·.1) = zs ∧ J ys W) (fun zs W => ∃ ys : List (InSet G), ys.map (·.1) = zs ∧ Jx ys W) ?_ W hBs' hc' ⟨[], rfl, h0⟩).mono ?_
  · rintro pre x W1 ⟨ys, rfl, hJ⟩ hx hlt
    obtain ⟨fn, tmps, assign, body, hy, hR⟩ := hY ys ⟨x, hx⟩ W1 hJ (by simpa using hlt)
    refine ⟨fn, tmps, assign, body, hy, hR.mono ?_⟩
    rintro e W' (⟨rfl, h1, h2⟩ | ⟨rfl, h1⟩)
    · exact .inl ⟨rfl, ⟨_, by simp, h1⟩, h2⟩
    · exact .inr ⟨rfl, ⟨_, by simp, h1⟩⟩
  · rintro e W' ⟨hv, ⟨ys, hys, hJ⟩ | ⟨pre, hpre, ys, hys, hJ⟩⟩
    · exact ⟨hv, .inl ⟨ys, hys, hJ⟩⟩
    · exact ⟨hv, .inr ⟨ys, (show ys.map (·.1) <+: _ by rw [hys]; exact hpre), hJ⟩⟩

end Go.Proofs.Ytjlgccfibkcgbaa

namespace Go.Proofs.Ytjlgccfibkcgbaa
open Go.RowKit Go.Shelf
attribute [local go_sem] Oper.semAt_some

theorem Words.row {w : World} {v : Value} {ws : List Nat} (h : Words w v ws) : ∃ pa cap g, v = .slice pa ws.length cap ∧ g ≤ w.heap.size ∧ (0 < ws.length → pa = some ⟨g, 0, none⟩) ∧ (0 < ws.length → g < w.heap.size) ∧ ∀ i, i < ws.length → w.cell? ⟨g, i, none⟩ = some (.int .u64 (ws.getD i 0 : Nat)) := by
  by_cases h0 : 0 < ws.length
  · obtain ⟨g, cap, rfl, hg, _⟩ := h.lay h0
    exact ⟨_, cap, g, rfl, by omega, fun _ => rfl, fun _ => hg, fun i hi => h.cell hi⟩
  · obtain ⟨pa, cap, rfl⟩ := h.form
    exact ⟨pa, cap, 0, rfl, by omega, fun h => absurd h h0, fun h => absurd h h0, fun i hi => by omega⟩

theorem keep2_put {g Bs N : Nat} (hg : g < N) (hb : Bs < N) (W : World) (l : Nat) (o o' : Obj) (hl : N ≤ l) (_ : W.heap[l]? = some o) (_ : o.isCells = false) (_ : o.isWalk = false) : Keep2 g Bs W (W.putObj l o') :=
  ⟨World.putObj_heap_other (by omega), World.putObj_heap_other (by omega)⟩

/-- The greatest place, -1 if there is none. -/
def lastV (G : Nat → Bool) (n : Nat) : Int := match down G n with | [] => -1 | q :: _ => q

set_option maxRecDepth 100000 in
set_option maxHeartbeats 1000000 in
theorem last_in (F : Fence) (n : Nat) (hf : F.fn 34) (hf1 : F.fn 47) (hf2 : F.fn 66) (hl : F.fn 67) (hLen : ∀ (x : Nat) (w : World), x < 18446744073709551616 → x ≠ 0 → CallsIn F (n - 1 - 1) Try.prog 67 #[.int .u64 (x : Nat)] w fun e w' => e = .returned (.int .i64 ((x.log2 : Int) + 1)) ∧ w' = w)
    (hMk : ∀ (v : Value) (w : World), CallsIn F (n - 1) Try.prog 47 #[.agg #[v]] w fun e w' => e = .returned (.func (.func 66) #[] #[.pointer (some ⟨w.heap.size, 0, none⟩)]) ∧ w' = w.alloc (.cells #[v] 81))
    (hro : F.round = none) (hn : 3 ≤ n) (v : Value) (ws : List Nat) (G : Nat → Bool) (hG : HoldsP ws G) (hlen : ws.length ≤ 1000) (w : World) (hv : Words w v ws) :
    CallsIn F n Try.prog 34 #[.agg #[v]] w fun e w' => e = .returned (.int .i64 (lastV G (64 * ws.length))) ∧ Below w.heap.size w w' := by
  have h1 : 1 ≤ n := by omega
  have HG := hide hG
  clear hG
  refine callsIn_of_wp_marks Try.func34 rfl hf ?_ hro
  simp only [Try.ntmps34, List.size_toArray, List.length_cons, List.length_nil, Nat.reduceAdd, Nat.reduceSub, Array.replicate_succ, Array.replicate_zero, List.push_toArray, List.append_toArray, List.nil_append, List.cons_append]
  gi_wp2_with (gi_at_call 47; refine (hMk _ _).mono ?_; rintro e w' ⟨rfl, rfl⟩)
  obtain ⟨pa, cap, g, rfl, hgl, hpa, hg, hc⟩ := hv.row
  have b1 := (Blk.newAt (w := w.alloc (.cells #[.slice pa ws.length cap] 81)) (k := w.heap.size + 1) (c := #[.int .i64 0]) (t := 3) (by simp)).alloc (.cells #[.slice pa ws.length cap] 81)
  have b2 := Blk.newAt (w := (w.alloc (.cells #[.slice pa ws.length cap] 81)).alloc (.cells #[.int .i64 0] 3)) (k := w.heap.size + 1 + 1) (c := #[.slice pa ws.length cap]) (t := 81) (by simp)
  have hB0 : Below w.heap.size w (((w.alloc (.cells #[.slice pa ws.length cap] 81)).alloc (.cells #[.int .i64 0] 3)).alloc (.cells #[.slice pa ws.length cap] 81)) := (((Below.refl _ w).alloc (Nat.le_refl _) _).alloc (by simp) _).alloc (by simp; omega) _
  refine wpIn_rangeFunc_ownF hro h1 (gf := 66) (lb := #[.pointer (some ⟨w.heap.size + 1 + 1, 0, none⟩)]) rfl hf2 (enters_of Try.func66 (by kernel_rfl) rfl)
    (lf_stops F (n - 1) hf2 hl hLen hro (by omega) (w.heap.size + 1 + 1) g cap pa ws G HG.out hlen hpa _ (fun h => by have := hg h; simp; omega) (by simp) (b2.cell 0 rfl) (fun i hi => (hB0.cell (p := ⟨g, i, none⟩) (hg (by omega))).trans (hc i hi))) Keep2.trans (keep2_put (by simp; omega) (by simp)) (Below.refl _ _) (fun _ => rfl)
    (fun pre W => (pre = [] ∧ W.cell? ⟨w.heap.size + 1, 0, none⟩ = some (.int .i64 0) ∧ W.frozen? ⟨w.heap.size + 1, 0, none⟩ = false) ∧ Below w.heap.size w W)
    (fun c pre W => (c = .ret ∧ ∃ x, pre = [x] ∧ W.cell? ⟨w.heap.size + 1, 0, none⟩ = some (.int .i64 (x.1 : Nat))) ∧ Below w.heap.size w W)
    (OwnFrom.and (Own.from (fun s A B row hs hg hr => ⟨hs.1, cell_kept hs.2.1 hg hr, (frozen_kept hs.2.1 hg hr).trans hs.2.2⟩) _) (ownFrom_below (Nat.le_refl _) (by simp; omega)))
    (fun c => OwnFrom.and (Own.from (fun s A B row hs hg hr => ⟨hs.1, hs.2.choose, hs.2.choose_spec.1, cell_kept hs.2.choose_spec.2 hg hr⟩) _) (ownFrom_below (Nat.le_refl _) (by simp; omega)))
    ⟨⟨rfl, b1.cell 0 rfl, b1.fz 0⟩, hB0⟩
    (fun x => { tmps := #[.agg #[.slice pa ws.length cap], .pointer (some ⟨w.heap.size, 0, none⟩), .pointer (some ⟨w.heap.size + 1, 0, none⟩), .int .i64 (x.1 : Nat), .agg #[.slice pa ws.length cap], .func (.func 66) #[] #[.pointer (some ⟨w.heap.size + 1 + 1, 0, none⟩)], .int .i64 (x.1 : Nat), undef], defers := [] }) ?assign ?body ?done ?stop
  case assign =>
    intro l x W K hK
    gi_wp2
    exact hK
  case body =>
    rintro l pre x W ⟨⟨rfl, hcr, hfr⟩, hB⟩ _
    gi_wp2
    exact ⟨KeepsOthers.setCell _ _ _, ⟨rfl, x, rfl, World.cell?_setCell_same' _ _ _ (by rw [hcr]; rfl)⟩, hB.setCell (p := ⟨w.heap.size + 1, 0, none⟩) (by simp) _⟩
  case done =>
    rintro D ys W hD hys ⟨⟨rfl, hcr, hfr⟩, hB⟩ hK
    have hd : down G (64 * ws.length) = [] := hys.symm
    have HD := hide hd
    clear hd hys
    gi_wp2
    have hK' := (KeepsOthers.setCell W ⟨w.heap.size + 1, 0, none⟩ (.int .i64 (-1))).same D _ hK rfl
    refine ⟨by simp, .inl ⟨_, _, rfl, run_takeDeferred hK', ?_⟩⟩
    have hc5 := cell_kept (World.cell?_setCell_same' W ⟨w.heap.size + 1, 0, none⟩ (.int .i64 (-1)) (by rw [hcr]; rfl)) (grownBy_putObj' _ D (.deferred none)) (fun r e => by cases e; exact ⟨_, hK', rfl⟩)
    refine ⟨.int .i64 (-1), ?_, by rw [lastV, HD.out], (hB.setCell (p := ⟨w.heap.size + 1, 0, none⟩) (by simp) _).trans (belowK_b (w := w) (Nat.le_refl _) _ D _ _ (by simp at hD; omega) hK' rfl rfl)⟩
    simp [results, Try.f34, go_sem, hc5]
  case stop =>
    rintro D c pre W hD hpre ⟨⟨rfl, x, rfl, hcr⟩, hB⟩ hK
    gi_wp2
    refine ⟨by simp, .inl ⟨_, _, rfl, run_takeDeferred hK, ?_⟩⟩
    have hc5 := cell_kept hcr (grownBy_putObj' _ D (.deferred none)) (fun r e => by cases e; exact ⟨_, hK, rfl⟩)
    refine ⟨.int .i64 (x.1 : Nat), ?_, ?_, hB.trans (belowK_b (w := w) (Nat.le_refl _) W D _ _ (by simp at hD; omega) hK rfl rfl)⟩
    · simp [results, Try.f34, go_sem, hc5]
    · obtain ⟨rest, hr⟩ := hpre
      rw [lastV, ← hr]
      rfl
theorem len64_wide (n : Nat) (x : Nat) (w : World) (hx : x < 18446744073709551616) (h0 : x ≠ 0) : CallsIn Fence.wide n Try.prog 67 #[.int .u64 (x : Nat)] w fun e w' => e = .returned (.int .i64 ((x.log2 : Int) + 1)) ∧ w' = w := by
  refine callsIn_wide.2 ((len64_any (x : Int) w (by omega) (by omega)).mono ?_)
  rintro e w' ⟨rfl, rfl⟩
  refine ⟨?_, rfl⟩
  rw [Int.toNat_natCast, bitLen_log2 x hx h0]
  rfl

theorem last_any (v : Value) (ws : List Nat) (G : Nat → Bool) (hG : HoldsP ws G) (hlen : ws.length ≤ 1000) (w : World) (hv : Words w v ws) :
    Calls Try.prog 34 #[.agg #[v]] w fun e w' => e = .returned (.int .i64 (lastV G (64 * ws.length))) ∧ Below w.heap.size w w' :=
  callsIn_wide.1 (last_in Fence.wide 3 trivial trivial trivial trivial (len64_wide _) (fun v w => callsIn_wide.2 (lastFirst_any v w)) rfl (by omega) v ws G hG hlen w hv)

end Go.Proofs.Ytjlgccfibkcgbaa
