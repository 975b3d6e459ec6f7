import Derived.Test.YtmjdaifalgpdnaaGreatPscI
import Derived.Test.YtmjdaifalgpdnaaGreatPlaG
namespace Go.Proofs.YtmjdaifalgpdnaaGreat
open Go.RowKit

/-- What the stub of Run answers. -/
abbrev noRes : Value := .agg #[.string ⟨#[]⟩, .slice none 0 0, .slice none 0 0, .int .i64 0]

theorem ret_run {fn : Func} {p u x : Tmp} (hres : fn.results = #[.cell p 39, .tmp u, .tmp x]) {w : World} {k : Nat} {a0 a1 a2 a3 : Value} {tmps : Array Value} (ht : tmps.getD p undef = .pointer (some ⟨k, 0, none⟩)) (h : Blk w k #[a0, a1, a2, a3] 39) :
    (results fn tmps).run Tryz.prog w = .ok (.tuple #[.agg #[a0, a1, a2, a3], tmps.getD u undef, tmps.getD x undef]) w := by
  obtain ⟨c0, c1, c2, c3, _⟩ := h.four
  have ht' : tmps[p]?.getD undef = .pointer (some ⟨k, 0, none⟩) := by simpa using ht
  simp [results, hres, ht', go_sem, c0, c1, c2, c3]

theorem ret_job {fn : Func} {p : Tmp} (hres : fn.results = #[.cell p 66]) {w : World} {k : Nat} {a0 a1 a2 a3 a4 a5 : Value} {tmps : Array Value} (ht : tmps.getD p undef = .pointer (some ⟨k, 0, none⟩)) (h : Blk w k #[a0, a1, a2, a3, a4, a5] 66) :
    (results fn tmps).run Tryz.prog w = .ok (.agg #[a0, a1, a2, a3, a4, a5]) w := by
  obtain ⟨c0, c1, c2, c3, c4, c5, _⟩ := h.six
  have ht' : tmps[p]?.getD undef = .pointer (some ⟨k, 0, none⟩) := by simpa using ht
  simp [results, hres, ht', go_sem, c0, c1, c2, c3, c4, c5]

set_option maxHeartbeats 800000 in
theorem Run_any (s : ByteArray) (q : Bool) (x y z : Int) (p : Option Addr) (l c : Nat) (w : World) :
    Calls Tryz.prog 18 #[.agg #[.string s, .bool q, .int .i64 x, .int .i64 y, .int .i64 z, .slice p l c]] w fun e w' => e = .returned (.tuple #[noRes, .int .i64 0, .int .i64 0]) ∧ Below w.heap.size w w' := by
  go_enter Tryz.func18, Tryz.ntmps18
  go_wp2_with fail
  refine bodyPost_ret (ret_run Tryz.results18 rfl (Blk.newAt (by simp))) rfl ⟨rfl, ?_⟩
  exact ((Below.refl _ w).alloc (Nat.le_refl _) _).alloc (by simp) _

set_option maxHeartbeats 800000 in
theorem sameTexts_nil (w : World) : Calls Tryz.prog 19 #[.slice none 0 0, .slice none 0 0] w fun e w' => e = .returned (.bool true) ∧ w' = w := by
  go_enter Tryz.func19, Tryz.ntmps19
  go_wp2_with fail
  go_loopg [5] 1 (fun k v w' => v = .int .i64 0 ∧ w' = w ∧ k = 1)
  case atStart => exact ⟨rfl, rfl, rfl⟩
  case round =>
    obtain ⟨rfl, rfl, rfl⟩ := hrel
    go_wp2_with fail
    go_ret
    exact ⟨rfl, rfl⟩

set_option maxHeartbeats 800000 in
theorem alike_any (w : World) : Calls Tryz.prog 11 #[noRes, noRes] w fun e w' => e = .returned (.bool true) ∧ Below w.heap.size w w' := by
  have B0 : Below w.heap.size w ((w.alloc (.cells #[.string ⟨#[]⟩, .slice none 0 0, .slice none 0 0, .int .i64 0] 39)).alloc (.cells #[.string ⟨#[]⟩, .slice none 0 0, .slice none 0 0, .int .i64 0] 39)) := ((Below.refl _ w).alloc (Nat.le_refl _) _).alloc (by simp) _
  have H1 : Blk ((w.alloc (.cells #[.string ⟨#[]⟩, .slice none 0 0, .slice none 0 0, .int .i64 0] 39)).alloc (.cells #[.string ⟨#[]⟩, .slice none 0 0, .slice none 0 0, .int .i64 0] 39)) w.heap.size #[.string ⟨#[]⟩, .slice none 0 0, .slice none 0 0, .int .i64 0] 39 := (Blk.new _ _ _).alloc _
  have H2 : Blk ((w.alloc (.cells #[.string ⟨#[]⟩, .slice none 0 0, .slice none 0 0, .int .i64 0] 39)).alloc (.cells #[.string ⟨#[]⟩, .slice none 0 0, .slice none 0 0, .int .i64 0] 39)) (w.heap.size + 1) #[.string ⟨#[]⟩, .slice none 0 0, .slice none 0 0, .int .i64 0] 39 := Blk.newAt (by simp)
  go_enter Tryz.func11, Tryz.ntmps11
  go_wp2_with fail
  go_loopg [5] 1 (fun k v w' => v = .int .i64 0 ∧ Below w.heap.size w w' ∧ Blk w' w.heap.size #[.string ⟨#[]⟩, .slice none 0 0, .slice none 0 0, .int .i64 0] 39 ∧ Blk w' (w.heap.size + 1) #[.string ⟨#[]⟩, .slice none 0 0, .slice none 0 0, .int .i64 0] 39 ∧ k = 1)
  case atStart => exact ⟨rfl, B0, H1, H2, rfl⟩
  case round =>
    obtain ⟨rfl, B1, K1, K2, rfl⟩ := hrel
    obtain ⟨c0, c1, c2, c3, _⟩ := K1.four
    obtain ⟨d0, d1, d2, d3, _⟩ := K2.four
    go_wp2_with (go_at_call 19; refine (sameTexts_nil _).mono ?_; rintro e w2 ⟨rfl, rfl⟩)
    go_ret
    exact ⟨rfl, B1⟩

/-- The files of a job, as they came in. -/
def FlsAt (w : World) (pf : Option Addr) (len : Nat) : Prop := ∀ i, i < len → ∃ b o x y z, pf = some ⟨b, o, none⟩ ∧ b < w.heap.size ∧ w.cell? ⟨b, o + i * 3, none⟩ = some (.string x) ∧ w.cell? ⟨b, o + i * 3 + 1, none⟩ = some (.string y) ∧ w.cell? ⟨b, o + i * 3 + 2, none⟩ = some (.bool z)

theorem infoFile : (Tryz.prog.info? 95).map (fun i => (i.zero, i.size, i.bytes)) = some (some (.agg #[.string ⟨#[]⟩, .string ⟨#[]⟩, .bool false]), 3, 40) := by kernel_rfl

set_option maxRecDepth 100000 in
set_option maxHeartbeats 1600000 in
theorem made_any (s : ByteArray) (q : Bool) (x y z : Int) (p : Option Addr) (l c : Nat) (w : World) (hF : FlsAt w p l) (hl : l * 40 ≤ 140737488351232) :
    Calls Tryz.prog 17 #[.agg #[.string s, .bool q, .int .i64 x, .int .i64 y, .int .i64 z, .slice p l c]] w fun e w' => Below w.heap.size w w' ∧ ∃ p' l' c', e = .returned (.agg #[.string s, .bool q, .int .i64 x, .int .i64 y, .int .i64 z, .slice p' l' c']) := by
  obtain ⟨i0, hi0, hz0, hz1, hz2⟩ := info_parts infoFile
  have HI := hide (And.intro hi0 (And.intro hz0 (And.intro hz1 hz2)))
  clear hi0 hz0 hz1 hz2
  have HF := hide hF
  clear hF
  have HB0 := hide (show Below w.heap.size w (((w.alloc (.cells #[.string s, .bool q, .int .i64 x, .int .i64 y, .int .i64 z, .slice p l c] 33)).alloc (.cells #[.string ⟨#[]⟩, .bool false, .int .i64 0, .int .i64 0, .int .i64 0, .slice none 0 0] 66)).alloc (.cells #[.string s, .bool q, .int .i64 x, .int .i64 y, .int .i64 z, .slice none 0 0] 66)) from (((Below.refl _ w).alloc (Nat.le_refl _) _).alloc (by simp) _).alloc (by simp; omega) _)
  have HJ0 := hide (show Blk (((w.alloc (.cells #[.string s, .bool q, .int .i64 x, .int .i64 y, .int .i64 z, .slice p l c] 33)).alloc (.cells #[.string ⟨#[]⟩, .bool false, .int .i64 0, .int .i64 0, .int .i64 0, .slice none 0 0] 66)).alloc (.cells #[.string s, .bool q, .int .i64 x, .int .i64 y, .int .i64 z, .slice none 0 0] 66)) w.heap.size #[.string s, .bool q, .int .i64 x, .int .i64 y, .int .i64 z, .slice p l c] 33 from ((Blk.new _ _ _).alloc _).alloc _)
  have HR0 := hide (show Blk (((w.alloc (.cells #[.string s, .bool q, .int .i64 x, .int .i64 y, .int .i64 z, .slice p l c] 33)).alloc (.cells #[.string ⟨#[]⟩, .bool false, .int .i64 0, .int .i64 0, .int .i64 0, .slice none 0 0] 66)).alloc (.cells #[.string s, .bool q, .int .i64 x, .int .i64 y, .int .i64 z, .slice none 0 0] 66)) (w.heap.size + 1) #[.string ⟨#[]⟩, .bool false, .int .i64 0, .int .i64 0, .int .i64 0, .slice none 0 0] 66 from (Blk.newAt (by simp)).alloc _)
  have HK0 := hide (show Blk (((w.alloc (.cells #[.string s, .bool q, .int .i64 x, .int .i64 y, .int .i64 z, .slice p l c] 33)).alloc (.cells #[.string ⟨#[]⟩, .bool false, .int .i64 0, .int .i64 0, .int .i64 0, .slice none 0 0] 66)).alloc (.cells #[.string s, .bool q, .int .i64 x, .int .i64 y, .int .i64 z, .slice none 0 0] 66)) (w.heap.size + 1 + 1) #[.string s, .bool q, .int .i64 x, .int .i64 y, .int .i64 z, .slice none 0 0] 66 from Blk.newAt (by simp))
  go_enter Tryz.func17, Tryz.ntmps17
  go_wp2_with fail
  go_loopg [4] l (fun k v w' => ∃ (i : Nat) (ra : Option Addr) (rl rc : Nat) (xs : List Value), v = .int .i64 i ∧ i + k = l ∧ Below w.heap.size w w' ∧ Blk w' w.heap.size #[.string s, .bool q, .int .i64 x, .int .i64 y, .int .i64 z, .slice p l c] 33 ∧ Blk w' (w.heap.size + 1) #[.string ⟨#[]⟩, .bool false, .int .i64 0, .int .i64 0, .int .i64 0, .slice none 0 0] 66 ∧ Blk w' (w.heap.size + 1 + 1) #[.string s, .bool q, .int .i64 x, .int .i64 y, .int .i64 z, .slice ra rl rc] 66 ∧ w'.ownsRow 0 95 3 (.slice ra rl rc) i xs ∧ (∀ k, (Value.slice ra rl rc).ownBlock = some k → w.heap.size ≤ k))
  case atStart => exact ⟨0, none, 0, 0, [], rfl, by omega, HB0.out, HJ0.out, HR0.out, HK0.out, World.ownsRow_nil _ _ _ _, fun k e => by cases e⟩
  case round =>
    obtain ⟨i, ra, rl, rc, xs, rfl, hik, hB, hJ, hR, hK, hown, hrow⟩ := hrel
    clear HB0 HJ0 HR0 HK0
    have hnj := own_blk hown hJ (by decide)
    have hnr := own_blk hown hR (by decide)
    have hnk := own_blk hown hK (by decide)
    have hKl := hK.lt
    have hKn : ¬ w.heap.size + 1 + 1 = wr.heap.size := by omega
    obtain ⟨j0, j1, j2, j3, j4, j5, jf⟩ := hJ.six
    obtain ⟨k0, k1, k2, k3, k4, k5, kf⟩ := hK.six
    by_cases hil : i < l
    · have hd : decide ((i : Int) < (l : Nat)) = true := by rw [decide_eq_true_iff]; omega
      obtain ⟨b, o, fx, fy, fz, rfl, hbl, e0, e1, e2⟩ := HF.out i hil
      have f0 := (hB.cell (p := ⟨b, o + i * 3, none⟩) hbl).trans e0
      have f1 := (hB.cell (p := ⟨b, o + i * 3 + 1, none⟩) hbl).trans e1
      have f2 := (hB.cell (p := ⟨b, o + i * 3 + 2, none⟩) hbl).trans e2
      have hml : i + 1 ≤ maxLen := by unfold maxLen; omega
      have hbytes : (i + 1) * 40 ≤ 140737488355328 := by omega
      have hw1 : IntKind.i64.wrap ((i : Int) + 1) = (i : Int) + 1 := wrapE _ (by omega) (by omega)
      have hsz := hB.size
      have HO := hide (And.intro hown (And.intro hrow (And.intro hnj (And.intro hnr hnk))))
      clear hown hrow hnj hnr hnk e0 e1 e2
      go_wp2_with (at_builtin; refine wpList_append_lies _ rfl _ _ 64 rfl 0 95 i0 (.agg #[.string ⟨#[]⟩, .string ⟨#[]⟩, .bool false]) 3 40 Tryz.underlying64 HI.out.1 HI.out.2.1 HI.out.2.2.1 HI.out.2.2.2 rfl (by decide) (.slice ra rl rc) i xs rfl ((HO.out.1.alloc _).alloc _) ⟨wr.heap.size + 1, 0, none⟩ 1 1 [.string fx, .string fy, .bool fz] rfl rfl (blk_news (Blk.newAt (by simp))) (by intro u hu; simp at hu; rcases hu with rfl | rfl | rfl <;> rfl) (by decide) hml hbytes (Nat.zero_le _) (wr.heap.size + 2) (by simp) ?_; intro g cap w3 hown3 hgrow3 hat3 hlt3; (have K3 := grown_blk ((hK.alloc (.cells #[.string fx, .string fy, .bool fz] 94)).alloc (.cells #[.string fx, .string fy, .bool fz] 95)) hgrow3 HO.out.2.2.2.2); (have k35 : w3.cell? ⟨w.heap.size + 1 + 1, 5, none⟩ = some (.slice ra rl rc) := K3.cell 5 rfl); (have kf3 := K3.fz))
      have hsz2 := hB.size
      have B3 : Below w.heap.size w w3 := ((hB.alloc hsz2 _).alloc (by simp; omega) _).grown hgrow3 (by simp; omega) HO.out.2.1
      have J3 := grown_blk ((hJ.alloc (.cells #[.string fx, .string fy, .bool fz] 94)).alloc (.cells #[.string fx, .string fy, .bool fz] 95)) hgrow3 HO.out.2.2.1
      have R3 := grown_blk ((hR.alloc (.cells #[.string fx, .string fy, .bool fz] 94)).alloc (.cells #[.string fx, .string fy, .bool fz] 95)) hgrow3 HO.out.2.2.2.1
      have hge : ∀ k, (Value.slice (some ⟨g, 0, none⟩) (i + 1) cap).ownBlock = some k → w.heap.size ≤ k := fun k hk => by
        simp only [Value.ownBlock, Option.some.injEq] at hk
        rcases hat3 with e | e
        · exact HO.out.2.1 k (by rw [e, hk])
        · omega
      have N3 := own_blk hown3 K3 (by decide)
      go_roundg (gk - 1)
      case measure => omega
      case rel => exact ⟨i + 1, some ⟨g, 0, none⟩, i + 1, cap, _, by go_num, by omega, B3.setCell (by show w.heap.size ≤ w.heap.size + 1 + 1; omega) _, J3.other (by show w.heap.size + 1 + 1 ≠ w.heap.size; omega) _, R3.other (by show w.heap.size + 1 + 1 ≠ w.heap.size + 1; omega) _, K3.set 5 _ rfl, own_set hown3 N3 _, hge⟩
    · have hd : decide ((i : Int) < (l : Nat)) = false := by rw [decide_eq_false_iff_not]; omega
      obtain ⟨r0, r1, r2, r3, r4, r5, rf⟩ := hR.six
      go_wp2_with fail
      refine bodyPost_ret (ret_job Tryz.results17 rfl (hR.put6 _ _ _ _ _ _)) rfl ⟨?_, _, _, _, rfl⟩
      exact below_put6 hB (by omega) _ _ _ _ _ _

set_option maxHeartbeats 800000 in
theorem run_any (s : ByteArray) (q : Bool) (x y z : Int) (p : Option Addr) (l c : Nat) (w : World) (hF : FlsAt w p l) (hl : l * 40 ≤ 140737488351232) :
    Calls Tryz.prog 10 #[.agg #[.string s, .bool q, .int .i64 x, .int .i64 y, .int .i64 z, .slice p l c]] w fun e w' => e = .returned (.tuple #[noRes, .int .i64 0, .int .i64 0]) ∧ Below w.heap.size w w' := by
  have hF2 : ∀ w', Below w.heap.size w w' → FlsAt w' p l := fun w' hB i hi => by
    obtain ⟨b, o, fx, fy, fz, rfl, hbl, e0, e1, e2⟩ := hF i hi
    exact ⟨b, o, fx, fy, fz, rfl, Nat.lt_of_lt_of_le hbl hB.size, (hB.cell (p := ⟨b, o + i * 3, none⟩) hbl).trans e0, (hB.cell (p := ⟨b, o + i * 3 + 1, none⟩) hbl).trans e1, (hB.cell (p := ⟨b, o + i * 3 + 2, none⟩) hbl).trans e2⟩
  have HF := hide hF2
  clear hF hF2
  have B0 : Below w.heap.size w ((w.alloc (.cells #[.string s, .bool q, .int .i64 x, .int .i64 y, .int .i64 z, .slice p l c] 33)).alloc (.cells #[.string ⟨#[]⟩, .slice none 0 0, .slice none 0 0, .int .i64 0] 39)) := ((Below.refl _ w).alloc (Nat.le_refl _) _).alloc (by simp) _
  have R0 : Blk ((w.alloc (.cells #[.string s, .bool q, .int .i64 x, .int .i64 y, .int .i64 z, .slice p l c] 33)).alloc (.cells #[.string ⟨#[]⟩, .slice none 0 0, .slice none 0 0, .int .i64 0] 39)) (w.heap.size + 1) #[.string ⟨#[]⟩, .slice none 0 0, .slice none 0 0, .int .i64 0] 39 := Blk.newAt (by simp)
  have HB := hide (And.intro B0 R0)
  clear B0 R0
  go_enter Tryz.func10, Tryz.ntmps10
  go_wp2_with fail
  refine (made_any s q x y z p l c _ (HF.out _ HB.out.1) hl).mono ?_
  rintro e w1 ⟨B1, p', l', c', rfl⟩
  have R1 := HB.out.2.below B1
  have B2 := HB.out.1.trans (B1.mono (by simp; omega))
  clear HB B1
  have R1l := R1.lt
  have R1n : ¬ w.heap.size + 1 = w1.heap.size := by omega
  go_wp2_with (go_at_call 18; refine (Run_any _ _ _ _ _ _ _ _ _).mono ?_; rintro e w2 ⟨rfl, B3⟩; (have R2 := (R1.alloc (.cells #[.string s, .bool q, .int .i64 x, .int .i64 y, .int .i64 z, .slice p' l' c'] 66)).below B3); (obtain ⟨r0, r1, r2, r3, rf⟩ := R2.four))
  refine bodyPost_ret (ret_run Tryz.results10 rfl (R2.put4 _ _ _ _)) rfl ⟨rfl, ?_⟩
  have hs2 := B2.size
  have B4 : Below w.heap.size w w2 := (B2.alloc hs2 _).trans (B3.mono (by simp; omega))
  have hle : w.heap.size ≤ w.heap.size + 1 := by omega
  exact (((B4.setCell (p := ⟨w.heap.size + 1, 0, none⟩) hle _).setCell (p := ⟨w.heap.size + 1, 1, none⟩) hle _).setCell (p := ⟨w.heap.size + 1, 2, none⟩) hle _).setCell (p := ⟨w.heap.size + 1, 3, none⟩) hle _
end Go.Proofs.YtmjdaifalgpdnaaGreat

namespace Go.Proofs.YtmjdaifalgpdnaaGreat
open Go.RowKit

theorem FlsAt.below {w w' : World} {p : Option Addr} {l : Nat} (h : FlsAt w p l) (hB : Below w.heap.size w w') : FlsAt w' p l := fun i hi => by
  obtain ⟨b, o, fx, fy, fz, rfl, hbl, e0, e1, e2⟩ := h i hi
  exact ⟨b, o, fx, fy, fz, rfl, Nat.lt_of_lt_of_le hbl hB.size, (hB.cell (p := ⟨b, o + i * 3, none⟩) hbl).trans e0, (hB.cell (p := ⟨b, o + i * 3 + 1, none⟩) hbl).trans e1, (hB.cell (p := ⟨b, o + i * 3 + 2, none⟩) hbl).trans e2⟩

set_option maxRecDepth 100000 in
set_option maxHeartbeats 1600000 in
theorem Plain_any (s : ByteArray) (q : Bool) (x y z : Int) (p : Option Addr) (l c : Nat) (w : World) (hF : FlsAt w p l) (hl : l * 40 ≤ 140737488351232) :
    Calls Tryz.prog 4 #[.agg #[.string s, .bool q, .int .i64 x, .int .i64 y, .int .i64 z, .slice p l c]] w fun e w' => e = .returned (.bool true) ∧ Below w.heap.size w w' := by
  have J0 := Blk.new w #[.string s, .bool q, .int .i64 x, .int .i64 y, .int .i64 z, .slice p l c] 33
  have B0 : Below w.heap.size w (w.alloc (.cells #[.string s, .bool q, .int .i64 x, .int .i64 y, .int .i64 z, .slice p l c] 33)) := (Below.refl _ w).alloc (Nat.le_refl _) _
  have HB := hide (And.intro hF (And.intro J0 B0))
  clear J0 B0 hF
  go_enter Tryz.func4, Tryz.ntmps4
  go_wp2_with fail
  refine (pprint_any s _).mono ?_
  rintro e w1 ⟨rfl, B1⟩
  have J1 := HB.out.2.1.below B1
  have K1 : Below w.heap.size w w1 := HB.out.2.2.trans (B1.mono (by simp))
  have j10 : w1.cell? ⟨w.heap.size, 0, none⟩ = some (.string s) := J1.cell 0 rfl
  clear B1
  go_wp2_with fail
  refine (check_any s w1).mono ?_
  rintro e w2 ⟨rfl, B2⟩
  have J2 := J1.below B2
  have K2 := K1.trans (B2.mono K1.size)
  have j20 : w2.cell? ⟨w.heap.size, 0, none⟩ = some (.string s) := J2.cell 0 rfl
  clear B2 J1 K1 j10
  go_wp2_with fail
  refine (script_any s w2).mono ?_
  rintro e w3 ⟨B3, lv, rfl, -, pa, n, cap, rfl⟩
  have J3 := J2.below B3
  have K3 := K2.trans (B3.mono K2.size)
  clear B3 J2 K2 j20
  have q1 : ((errS s).1 == (errS s).1) = true := by simp
  have q2 : ((errS s).2 == (errS s).2) = true := by simp
  by_cases h0 : (errS s).1 = 0
  · have hd : ((errS s).1 == 0) = true := by simpa using h0
    obtain ⟨t, ht⟩ : ∃ t, t = printS s := ⟨_, rfl⟩
    rw [← ht]
    have HT := hide (And.intro h0 ht)
    clear h0 ht
    go_upto_region 8 with (go_at_call 7; refine (num_any _ _).mono ?_; rintro e w9 ⟨rfl, h9⟩; (have h9 := h9.symm); subst h9)
    go_wp2_with fail
    refine (pprint_any t w3).mono ?_
    rintro e w4 ⟨rfl, B4⟩
    have J4 := J3.below B4
    have K4 := K3.trans (B4.mono K3.size)
    clear B4 J3 K3
    go_wp2_with fail
    refine (check_any t w4).mono ?_
    rintro e w5 ⟨rfl, B5⟩
    have J5 := J4.below B5
    have K5 := K4.trans (B5.mono K4.size)
    clear B5 J4 K4
    by_cases hz : t.size ≤ 1000
    · obtain ⟨pe, pp⟩ := print_again HT.out.1 (by rw [← HT.out.2]; exact hz)
      rw [← HT.out.2] at pe pp
      rw [pe, pp]
      dsimp only
      clear pe pp
      have hzi : ¬ (1000 : Int) < (t.size : Int) := by omega
      obtain ⟨a0, a1, a2, a3, a4, a5, af⟩ := J5.six
      go_upto_region 14 with (go_at_call 7; refine (num_any _ _).mono ?_; rintro e w9 ⟨rfl, h9⟩; (have h9 := h9.symm); subst h9)
      have s5 := K5.size
      have M6 := Blk.new w5 #[.string t, .bool q, .int .i64 x, .int .i64 y, .int .i64 z, .slice p l c] 33
      have J6 := J5.alloc (.cells #[.string t, .bool q, .int .i64 x, .int .i64 y, .int .i64 z, .slice p l c] 33)
      have K6 := K5.alloc s5 (.cells #[.string t, .bool q, .int .i64 x, .int .i64 y, .int .i64 z, .slice p l c] 33)
      have n6 : ¬ w.heap.size = w5.heap.size := by have := J5.lt; omega
      obtain ⟨mb, hmb⟩ : ∃ mb, mb = w5.heap.size := ⟨_, rfl⟩
      rw [← hmb] at M6 n6 ⊢
      clear hmb
      generalize w5.alloc (.cells #[.string t, .bool q, .int .i64 x, .int .i64 y, .int .i64 z, .slice p l c] 33) = w6 at *
      clear J5 K5 s5 a0 a1 a2 a3 a4 a5 af
      obtain ⟨a0, a1, a2, a3, a4, a5, af⟩ := J6.six
      have hs6 := K6.size
      have F6 := HB.out.1.below K6
      have HF6 := hide F6
      clear F6
      go_wp2_with fail
      refine (run_any s q x y z p l c w6 HF6.out hl).mono ?_
      rintro e w7 ⟨rfl, B7⟩
      have M7 := M6.below B7
      have K7 := K6.trans (B7.mono hs6)
      clear B7 J6 K6 M6 HF6 a0 a1 a2 a3 a4 a5 af
      go_upto_region 15 with fail
      have s7 := K7.size
      have X8 := Blk.new w7 #[.string ⟨#[]⟩, .slice none 0 0, .slice none 0 0, .int .i64 0] 39
      have M8 := M7.alloc (.cells #[.string ⟨#[]⟩, .slice none 0 0, .slice none 0 0, .int .i64 0] 39)
      have K8 := K7.alloc s7 (.cells #[.string ⟨#[]⟩, .slice none 0 0, .slice none 0 0, .int .i64 0] 39)
      obtain ⟨xb, hxb⟩ : ∃ xb, xb = w7.heap.size := ⟨_, rfl⟩
      rw [← hxb] at X8 ⊢
      clear hxb
      generalize w7.alloc (.cells #[.string ⟨#[]⟩, .slice none 0 0, .slice none 0 0, .int .i64 0] 39) = w8 at *
      obtain ⟨a0, a1, a2, a3, a4, a5, af⟩ := M8.six
      have F8 := HB.out.1.below K8
      have HF8 := hide F8
      clear F8 M7 K7
      go_wp2_with fail
      refine (run_any t q x y z p l c w8 HF8.out hl).mono ?_
      rintro e w9 ⟨rfl, B9⟩
      have X9 := X8.below B9
      have K9 := K8.trans (B9.mono K8.size)
      clear B9 M8 K8 X8 HF8 a0 a1 a2 a3 a4 a5 af
      go_upto_region 16 with fail
      have s9 := K9.size
      have Y10 := Blk.new w9 #[.string ⟨#[]⟩, .slice none 0 0, .slice none 0 0, .int .i64 0] 39
      have X10 := X9.alloc (.cells #[.string ⟨#[]⟩, .slice none 0 0, .slice none 0 0, .int .i64 0] 39)
      have K10 := K9.alloc s9 (.cells #[.string ⟨#[]⟩, .slice none 0 0, .slice none 0 0, .int .i64 0] 39)
      obtain ⟨yb, hyb⟩ : ∃ yb, yb = w9.heap.size := ⟨_, rfl⟩
      rw [← hyb] at Y10 ⊢
      clear hyb
      generalize w9.alloc (.cells #[.string ⟨#[]⟩, .slice none 0 0, .slice none 0 0, .int .i64 0] 39) = w10 at *
      obtain ⟨a0, a1, a2, a3, af⟩ := X10.four
      obtain ⟨b0, b1, b2, b3, bf⟩ := Y10.four
      clear X9 K9
      go_wp2_with fail
      refine (alike_any w10).mono ?_
      rintro e w11 ⟨rfl, B11⟩
      have K11 := K10.trans (B11.mono K10.size)
      clear B11 K10 X10 Y10 a0 a1 a2 a3 af b0 b1 b2 b3 bf
      have hte : (t.toList == t.toList) = true := by simp
      go_wp2_with (go_at_call 7; refine (num_any _ _).mono ?_; rintro e w12 ⟨rfl, h9⟩; (have h9 := h9.symm); subst h9)
      go_ret
      exact ⟨rfl, K11⟩
    · have pe : errS t = (1, 0) := by unfold errS; rw [if_pos (by omega)]
      have pp : printS t = ⟨#[]⟩ := by unfold printS; rw [pe]; rfl
      rw [pe, pp]
      dsimp only
      clear pe pp
      have hzi : (1000 : Int) < (t.size : Int) := by omega
      go_wp2_with (go_at_call 7; refine (num_any _ _).mono ?_; rintro e w9 ⟨rfl, h9⟩; (have h9 := h9.symm); subst h9)
      go_ret
      exact ⟨rfl, K5⟩
  · have hd : ((errS s).1 == 0) = false := by simpa using h0
    have HP := hide (show printS s = ⟨#[]⟩ by unfold printS; rw [if_neg h0])
    rw [HP.out]
    clear h0
    go_wp2_with (go_at_call 7; refine (num_any _ _).mono ?_; rintro e w9 ⟨rfl, h9⟩; (have h9 := h9.symm); subst h9)
    go_ret
    exact ⟨rfl, K3⟩
end Go.Proofs.YtmjdaifalgpdnaaGreat
