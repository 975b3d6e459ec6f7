import Derived.Test.YtjlgccfibkcgbaaProT
import Derived.Laws.CopyOwn
namespace Go.Proofs.Ytjlgccfibkcgbaa
open Go.RowKit

/-- Words, as many as are asked for. -/
def padTo (ws : List Nat) (n : Nat) : List Nat := ws ++ List.replicate (n - ws.length) 0

theorem padTo_len (ws : List Nat) (n : Nat) : (padTo ws n).length = max ws.length n := by simp [padTo]; omega
theorem padTo_holds {ws : List Nat} {F : Nat → Bool} (h : HoldsP ws F) (n : Nat) : HoldsP (padTo ws n) F := by
  refine ⟨fun x hx => ?_, fun q => ?_⟩
  · simp only [padTo, List.mem_append, List.mem_replicate] at hx
    rcases hx with hx | ⟨_, rfl⟩
    · exact h.1 x hx
    · omega
  · rw [← h.2 q]
    congr 1
    simp only [padTo, List.getD_eq_getElem?_getD]
    by_cases hl : q / 64 < ws.length
    · rw [List.getElem?_append_left hl]
    · rw [List.getElem?_append_right (by omega), List.getElem?_eq_none (l := ws) (by omega), List.getElem?_replicate]
      split <;> rfl

theorem info94 : (Try.prog.info? 94).map (·.size) = some 1 := by kernel_rfl

theorem info94' : (Try.prog.info? 94).map (fun i => (i.zero, i.size, i.bytes)) = some (some (.int .u64 0), 1, 8) := by kernel_rfl

/-- 'make([]uint64, n)'. -/
theorem make_words (n : Nat) (h : n ≤ 1048576) (w : World) : (Instr.makeSlice 79 (.int .i64 (n : Int)) (.int .i64 (n : Int))).run Try.prog w = .ok (.slice (some ⟨w.heap.size, 0, none⟩) n n) (w.alloc (.cells (Array.replicate n (Value.int .u64 0)) 94)) := by
  have := run_make_row' (P := Try.prog) 79 94 (.int .u64 0) 8 Try.underlying79 info94' rfl .i64 .i64 n (by omega) (by omega) w
  have e : madeCells #[Value.int .u64 0] n = Array.replicate n (Value.int .u64 0) := by
    apply Array.ext
    · simp [madeCells]
    · intro i h1 h2
      simp [madeCells, Nat.mod_one]
  rw [e] at this
  exact this

theorem words_at {w : World} {pa : Option Addr} {cap : Nat} {ws : List Nat} (h : Words w (.slice pa ws.length cap) ws) (hp : 0 < (ws.map fun x => Value.int .u64 (x : Nat)).length) : ∃ ad, pa = some ad ∧ ∀ j v, (ws.map fun x => Value.int .u64 (x : Nat))[j]? = some v → w.cell? (ad.add j) = some v := by
  rcases h.2 with ⟨h1, h2⟩ | ⟨g, cap', cur, h1, h2⟩
  · simp at hp; omega
  · simp only [Value.slice.injEq] at h1
    obtain ⟨rfl, -, rfl⟩ := h1
    refine ⟨_, rfl, fun j v hj => ?_⟩
    have hjl : j < ws.length := by
      have := (List.getElem?_eq_some_iff.1 hj).1
      simpa using this
    have := World.ownsRow.cellAt h j (by omega)
    rw [hj] at this
    by_cases h0 : j = 0
    · subst h0; simpa [Addr.add] using this
    · simpa [Addr.add, h0] using this

theorem copy_words (w : World) (pa : Option Addr) (cap n : Nat) (ws : List Nat) (hn : ws.length < n) (hv : Words w (.slice pa ws.length cap) ws) :
    ∃ w1, (Builtin.copy_ #[79, 79] 3 #[.slice (some ⟨w.heap.size, 0, none⟩) n n, .slice pa ws.length cap]).run Try.prog (w.alloc (.cells (Array.replicate n (Value.int .u64 0)) 94)) = .ok (goInt ws.length) w1 ∧ w1.heap[w.heap.size]? = some (.cells ((padTo ws n).map fun x => Value.int .u64 (x : Nat)).toArray 94 (0, 0)) ∧ Below w.heap.size w w1 := by
  have hg0 : (w.alloc (.cells (Array.replicate n (Value.int .u64 0)) 94)).heap[w.heap.size]? = some (.cells (Array.replicate n (Value.int .u64 0)) 94 (0, 0)) := Blk.new w _ _
  have hb : Below w.heap.size w (w.alloc (.cells (Array.replicate n (Value.int .u64 0)) 94)) := (Below.refl _ w).alloc (Nat.le_refl _) _
  have hwa : Words (w.alloc (.cells (Array.replicate n (Value.int .u64 0)) 94)) (.slice pa ws.length cap) ws := World.ownsRow.alloc hv _
  have hpad : (padTo ws n).map (fun x => Value.int .u64 (x : Nat)) = (ws.map fun x => Value.int .u64 (x : Nat)) ++ (List.replicate n (Value.int .u64 0)).drop ws.length := by
    simp [padTo]
  by_cases h0 : ws.length = 0
  · have hrun := run_copy_none (P := Try.prog) (w.alloc (.cells (Array.replicate n (Value.int .u64 0)) 94)) 79 79 3 94 (some ⟨w.heap.size, 0, none⟩) pa n n ws.length cap Try.underlying79 info94 (by rw [h0]; exact Nat.zero_min n)
    refine ⟨_, by rw [hrun, h0]; rfl, ?_, hb⟩
    rw [hg0, hpad, List.eq_nil_of_length_eq_zero h0]
    simp
  · obtain ⟨ad, rfl, hsrc⟩ := words_at hwa (by rw [List.length_map]; omega)
    have hrun := run_copy_row (P := Try.prog) (w.alloc (.cells (Array.replicate n (Value.int .u64 0)) 94)) 79 79 3 94 w.heap.size 0 n n ad ws.length cap (Array.replicate n (Value.int .u64 0)) 94 (ws.map fun x => Value.int .u64 (x : Nat)) Try.underlying79 info94 hg0 (by rw [List.length_map]; exact (Nat.min_eq_left (by omega)).symm) hsrc (by simp; omega) (by intro u hu; simp only [List.mem_map] at hu; obtain ⟨x, _, rfl⟩ := hu; rfl)
    refine ⟨_, by rw [hrun, List.length_map], ?_, below_setRow hb (Nat.le_refl _) _⟩
    rw [hpad]
    simpa using setRow_heap (w.alloc (.cells (Array.replicate n (Value.int .u64 0)) 94)) w.heap.size _ _ 94 _ hg0

/-- What grow does. -/
def GrowPost (w : World) (pb : Nat) (v : Value) (ws : List Nat) (w' : World) : Prop :=
  ∃ v', Blk w' pb #[v'] 81 ∧ Words w' v' ws ∧ Kp pb w w' ∧ v'.ownBlock ≠ some pb ∧ (v' = v ∨ ∀ k, v'.ownBlock = some k → w.heap.size ≤ k)

set_option maxRecDepth 100000 in
set_option maxHeartbeats 1000000 in
theorem grow_any (pb : Nat) (v : Value) (ws : List Nat) (n : Nat) (hn : n ≤ 1048576) (w : World) (hB : Blk w pb #[v] 81) (hv : Words w v ws) (hvb : v.ownBlock ≠ some pb) :
    Calls Try.prog 63 #[.pointer (some ⟨pb, 0, none⟩), .int .i64 (n : Nat)] w fun e w' => e = .returned (.tuple #[]) ∧ GrowPost w pb v (padTo ws n) w' := by
  have hpl := hB.lt
  obtain ⟨pa, cap, rfl⟩ := hv.form
  have c0 : w.cell? ⟨pb, 0, none⟩ = some (.slice pa ws.length cap) := hB.cell 0 rfl
  have cf := hB.fz
  by_cases hlt : ws.length < n
  · have hd : decide (((ws.length : Nat) : Int) < (n : Nat)) = true := by simp; omega
    go_enter Try.func63, Try.ntmps63
    have hmk := make_words n hn
    obtain ⟨w1, hcp, hw1, hB1⟩ := copy_words w pa cap n ws hlt hv
    have b1 := hB.below hB1
    have d0 : w1.cell? ⟨pb, 0, none⟩ = some (.slice pa ws.length cap) := b1.cell 0 rfl
    have df := b1.fz
    have HW := hide (And.intro hw1 hB1)
    clear hw1 hB1
    go_wp2_with fail
    refine bodyPost_end (results_none rfl _ _ _) rfl ?_
    have hlen : (padTo ws n).length = n := by rw [padTo_len]; omega
    have hW : Words (w1.setCell ⟨pb, 0, none⟩ (.slice (some ⟨w.heap.size, 0, none⟩) n n)) (.slice (some ⟨w.heap.size, 0, none⟩) n n) (padTo ws n) := by
      refine ⟨by simp, .inr ⟨w.heap.size, n, ((padTo ws n).map fun x => Value.int .u64 (x : Nat)).toArray, by rw [hlen], Nat.zero_le _, ?_, by omega, by unfold maxLen; omega, ?_, ?_⟩⟩
      · rw [Below.heap_setCell _ _ _ _ (by simp; omega)]; exact HW.out.1
      · simp [hlen]
      · rw [Nat.mul_one]
        exact List.take_of_length_le (by simp)
    exact ⟨rfl, _, b1.set 0 _ rfl, hW, (Kp.below HW.out.2).set _ _, fun e => by simp [Value.ownBlock] at e; omega, .inr fun k hk => by simp [Value.ownBlock] at hk; omega⟩
  · have hd : decide (((ws.length : Nat) : Int) < (n : Nat)) = false := by simp; omega
    go_enter Try.func63, Try.ntmps63
    go_wp2_with fail
    refine bodyPost_end (results_none rfl _ _ _) rfl ?_
    have e : padTo ws n = ws := by rw [padTo, show n - ws.length = 0 from by omega]; simp
    rw [e]
    exact ⟨rfl, _, hB, hv, Kp.refl _ _, hvb, .inl rfl⟩
end Go.Proofs.Ytjlgccfibkcgbaa

namespace Go.Proofs.Ytjlgccfibkcgbaa
open Go.RowKit

theorem Words.put {w : World} {g cap : Nat} {ws : List Nat} (h : Words w (.slice (some ⟨g, 0, none⟩) ws.length cap) ws) {i : Nat} (hi : i < ws.length) (x : Nat) :
    Words (w.setCell ⟨g, i, none⟩ (.int .u64 (x : Nat))) (.slice (some ⟨g, 0, none⟩) (ws.set i x).length cap) (ws.set i x) := by
  have := ownsRow_setAt h (j := i) (by omega) (.int .u64 (x : Nat))
  unfold Words
  rw [List.length_set, List.map_set]
  exact this

theorem holdsP_or {ws : List Nat} {F : Nat → Bool} (h : HoldsP ws F) {q : Nat} (hq : q / 64 < ws.length) : HoldsP (ws.set (q / 64) (ws.getD (q / 64) 0 ||| 2 ^ (q % 64))) (fun c => F c || decide (c = q)) := by
  have hp := two_pow_lt (show q % 64 < 64 by omega)
  refine ⟨fun x hx => ?_, fun c => ?_⟩
  · rcases List.mem_or_eq_of_mem_set hx with hx | rfl
    · exact h.1 x hx
    · have := Nat.or_lt_two_pow (n := 64) (x := ws.getD (q / 64) 0) (y := 2 ^ (q % 64)) (by simpa using h.get _) (by simpa using hp)
      simpa using this
  · rw [List.getD_eq_getElem?_getD, List.getElem?_set]
    by_cases hz : q / 64 = c / 64
    · rw [if_pos hz, if_pos hq]
      simp only [Option.getD_some]
      rw [Nat.testBit_or, hz, h.2 c, Nat.testBit_two_pow]
      congr 1
      rw [Bool.eq_iff_iff]; simp; omega
    · rw [if_neg hz, ← List.getD_eq_getElem?_getD, h.2 c]
      have : decide (c = q) = false := by simp; intro h; subst h; exact hz rfl
      show F c = (F c || decide (c = q))
      rw [this, Bool.or_false]

/-- What a set of places has become. -/
def SetPost (w : World) (pb : Nat) (v : Value) (G : Nat → Bool) (n : Nat) (w' : World) : Prop :=
  ∃ v' ws', Blk w' pb #[v'] 81 ∧ Words w' v' ws' ∧ HoldsP ws' G ∧ ws'.length ≤ n ∧ Kq pb v.ownBlock w w' ∧ v'.ownBlock ≠ some pb ∧ Fresh w v.ownBlock v'.ownBlock

set_option maxRecDepth 100000 in
set_option maxHeartbeats 1000000 in
theorem add_any (pb : Nat) (v : Value) (ws : List Nat) (F : Nat → Bool) (q n : Nat) (hq : q / 64 < n) (hn : n ≤ 1000) (w : World) (hB : Blk w pb #[v] 81) (hv : Words w v ws) (hF : HoldsP ws F) (hvb : v.ownBlock ≠ some pb) (hw : ws.length ≤ n) :
    Calls Try.prog 45 #[.pointer (some ⟨pb, 0, none⟩), .int .i64 (q : Nat)] w fun e w' => e = .returned (.tuple #[]) ∧ SetPost w pb v (fun c => F c || decide (c = q)) n w' := by
  have hpl := hB.lt
  have HFF := hide (padTo_holds hF (q / 64 + 1))
  have HV := hide (And.intro hv hvb)
  clear hF
  go_enter Try.func45, Try.ntmps45
  go_wp2_with fail
  rw [show ((q : Int) / 64 + 1) = ((q / 64 + 1 : Nat) : Int) from by omega]
  refine (grow_any pb v ws (q / 64 + 1) (by omega) w hB HV.out.1 HV.out.2).mono ?_
  rintro e w1 ⟨rfl, v1, b1, hv1, k1, hvb1, hfr1⟩
  have hlen : (padTo ws (q / 64 + 1)).length ≤ n := by rw [padTo_len]; omega
  have hlt : q / 64 < (padTo ws (q / 64 + 1)).length := by rw [padTo_len]; omega
  generalize padTo ws (q / 64 + 1) = ws1 at *
  obtain ⟨g, cap, rfl, hg, hc⟩ := hv1.lay (by omega)
  have c0 := hv1.cell hlt
  have cb : w1.cell? ⟨pb, 0, none⟩ = some (.slice (some ⟨g, 0, none⟩) ws1.length cap) := b1.cell 0 rfl
  have HX := hide (holdsP_or HFF.out hlt)
  have hx := HFF.out.get (q / 64)
  have HW := hide (hv1.put hlt (ws1.getD (q / 64) 0 ||| 2 ^ (q % 64)))
  have hcf : w1.frozen? ⟨g, q / 64, none⟩ = false := by
    rcases hv1.2 with ⟨h', _⟩ | ⟨g', cap', cur, h', _, hg', _⟩
    · cases h'
    · simp only [Value.slice.injEq, Option.some.injEq, Addr.mk.injEq, and_true, true_and] at h'
      obtain ⟨rfl, rfl⟩ := h'
      simp [World.frozen?, hg']
  have hL : (ws1.set (q / 64) (ws1.getD (q / 64) 0 ||| 2 ^ (q % 64))).length = ws1.length := by simp
  rw [hL] at HW
  have HL := hide hL
  clear hL hv1 HFF
  generalize hws2 : ws1.set (q / 64) (ws1.getD (q / 64) 0 ||| 2 ^ (q % 64)) = ws2 at *
  clear hws2
  generalize ws1.getD (q / 64) 0 = x at *
  have hwp := wrap_pow (show q % 64 < 64 by omega)
  have hor : bits .or .u64 (x : Int) ((2 : Int) ^ (q % 64)) = ((x ||| 2 ^ (q % 64) : Nat) : Int) := by
    have := bits_or_u64_nat x (2 ^ (q % 64)) hx (two_pow_lt (by omega))
    rw [← this]; simp
  have hwp : IntKind.u64.wrap ((2 : Int) ^ (q % 64)) = (2 : Int) ^ (q % 64) := by rw [hwp]; simp
  have hd : (q : Int) / 64 < (ws1.length : Nat) := by omega
  go_wp2_with fail
  go_region
  go_wp2_with fail
  refine bodyPost_end (results_none rfl _ _ _) rfl ?_
  have hgpb : g ≠ pb := fun e => hvb1 (by rw [e]; rfl)
  have hfr : Fresh w v.ownBlock (Value.slice (some ⟨g, 0, none⟩) ws1.length cap).ownBlock := by
    rcases hfr1 with e | e
    · rw [e]; exact .inl rfl
    · exact .inr e
  have hgk : v.ownBlock = some g ∨ w.heap.size ≤ g := by
    rcases hfr with e | e
    · exact .inl e.symm
    · exact .inr (e g rfl)
  refine ⟨rfl, .slice (some ⟨g, 0, none⟩) ws1.length cap, ws2, ?_, HW.out, HX.out, by rw [HL.out]; exact hlen, ?_, hvb1, hfr⟩
  · exact b1.other (by simpa using hgpb) _
  · exact kq_drew (kq_setRow (Kq.of_kp k1) hgk _ _)
end Go.Proofs.Ytjlgccfibkcgbaa

namespace Go.Proofs.Ytjlgccfibkcgbaa
open Go.RowKit

theorem holdsP_word {ws : List Nat} {F : Nat → Bool} (h : HoldsP ws F) {j x : Nat} (hj : j < ws.length) (hx : x < 18446744073709551616) : HoldsP (ws.set j (ws.getD j 0 ||| x)) (fun c => F c || (decide (c / 64 = j) && x.testBit (c % 64))) := by
  refine ⟨fun y hy => ?_, fun c => ?_⟩
  · rcases List.mem_or_eq_of_mem_set hy with hy | rfl
    · exact h.1 y hy
    · have := Nat.or_lt_two_pow (n := 64) (x := ws.getD j 0) (y := x) (by simpa using h.get _) (by simpa using hx)
      simpa using this
  · rw [List.getD_eq_getElem?_getD, List.getElem?_set]
    by_cases hz : j = c / 64
    · rw [if_pos hz, if_pos hj]
      simp only [Option.getD_some]
      rw [Nat.testBit_or, hz, h.2 c]
      simp
    · rw [if_neg hz, ← List.getD_eq_getElem?_getD, h.2 c]
      have : decide (c / 64 = j) = false := by simp; omega
      show F c = (F c || (decide (c / 64 = j) && x.testBit (c % 64)))
      rw [this, Bool.false_and, Bool.or_false]

theorem HoldsP.of_eq {ws : List Nat} {F G : Nat → Bool} (h : HoldsP ws F) (e : ∀ c, F c = G c) : HoldsP ws G := ⟨h.1, fun c => (h.2 c).trans (e c)⟩

theorem Words.kq {b : Nat} {row : Option Nat} {w w' : World} {v : Value} {ws : List Nat} (h : Words w v ws) (hk : Kq b row w w') (hb : v.ownBlock ≠ some b) (hr : ∀ k, v.ownBlock = some k → row ≠ some k) : Words w' v ws := by
  refine ⟨h.1, ?_⟩
  rcases h.2 with hn | ⟨g, cap, cur, rfl, h0, hg, rest⟩
  · exact .inl hn
  · exact .inr ⟨g, cap, cur, rfl, h0, by rw [hk.block g (Array.getElem?_eq_some_iff.1 hg).1 (fun e => hb (by simp [Value.ownBlock, e])) (fun e => hr g rfl e.symm)]; exact hg, rest⟩
theorem Words.other {w : World} {v : Value} {ws : List Nat} (h : Words w v ws) {p : Addr} (hp : v.ownBlock ≠ some p.block) (u : Value) : Words (w.setCell p u) v ws := by
  refine ⟨h.1, ?_⟩
  rcases h.2 with hn | ⟨g, cap, cur, rfl, h0, hg, rest⟩
  · exact .inl hn
  · exact .inr ⟨g, cap, cur, rfl, h0, by rw [Below.heap_setCell _ _ _ _ (fun e => hp (by simp [Value.ownBlock, e]))]; exact hg, rest⟩
theorem Words.lt {w : World} {v : Value} {ws : List Nat} (h : Words w v ws) : ∀ k, v.ownBlock = some k → k < w.heap.size := fun k hk => (World.ownsRow.lt h k hk).2

set_option maxRecDepth 100000 in
set_option maxHeartbeats 1000000 in
theorem addAll_any (pb : Nat) (v vo : Value) (ws os : List Nat) (F H : Nat → Bool) (n : Nat) (hn : n ≤ 1000) (w : World) (hB : Blk w pb #[v] 81) (hv : Words w v ws) (hF : HoldsP ws F) (hvb : v.ownBlock ≠ some pb) (hw : ws.length ≤ n) (ho : Words w vo os) (hH : HoldsP os H) (hob : vo.ownBlock ≠ some pb) (hov : ∀ k, vo.ownBlock = some k → v.ownBlock ≠ some k) (hol : os.length ≤ n) :
    Calls Try.prog 48 #[.pointer (some ⟨pb, 0, none⟩), .agg #[vo]] w fun e w' => e = .returned (.tuple #[]) ∧ SetPost w pb v (fun c => F c || H c) n w' := by
  have hpl := hB.lt
  have HFF := hide (padTo_holds hF os.length)
  have HV := hide (And.intro hv (And.intro hvb (And.intro ho (And.intro hH (And.intro hob hov)))))
  obtain ⟨po, co, rfl⟩ := ho.form
  clear hF hvb hv hH hob hov
  go_enter Try.func48, Try.ntmps48
  go_wp2_with fail
  have hvl := HV.out.1.lt
  have hol2 := HV.out.2.2.1.lt
  refine (grow_any pb v ws os.length (by omega) _ (hB.alloc _) (World.ownsRow.alloc HV.out.1 _) HV.out.2.1).mono ?_
  rintro e w1 ⟨rfl, v1, b1, hv1, k1, hvb1, hfr1⟩
  have O1 := (Blk.new w #[.slice po os.length co] 81).kp k1 (by omega)
  have hlen : (padTo ws os.length).length ≤ n := by rw [padTo_len]; omega
  have hlt : os.length ≤ (padTo ws os.length).length := by rw [padTo_len]; omega
  generalize padTo ws os.length = ws1 at *
  have K1 : Kq pb v.ownBlock w w1 := Kq.of_kp (((Kp.refl pb w).alloc _).trans k1)
  have ho1 : Words w1 (.slice po os.length co) os := HV.out.2.2.1.kq (Kq.of_kp (row := none) (((Kp.refl pb w).alloc _).trans k1)) HV.out.2.2.2.2.1 (fun k _ => by simp)
  have hsz : w.heap.size < w1.heap.size := O1.lt
  have hfr : Fresh w v.ownBlock v1.ownBlock := by
    rcases hfr1 with e | e
    · rw [e]; exact .inl rfl
    · exact .inr fun k hk => by have := e k hk; simp at this; omega
  have hov1 : ∀ k, (Value.slice po os.length co).ownBlock = some k → v1.ownBlock ≠ some k := by
    intro k hk
    exact hfr.ne (hol2 k hk) (HV.out.2.2.2.2.2 k hk)
  have hvo1 : v1.ownBlock ≠ some w.heap.size := by
    rcases hfr1 with e | e
    · rw [e]; intro e2; have := hvl _ e2; omega
    · intro e2; exact absurd (e _ e2) (by simp)
  have o0 : w1.cell? ⟨w.heap.size, 0, none⟩ = some (.slice po os.length co) := O1.cell 0 rfl
  have HH1 := hide (And.intro hfr (And.intro hov1 (And.intro hvo1 (And.intro hvb1 HV.out.2.2.2.1))))
  clear hfr hov1 hvo1 hvb1 hfr1 hvl hol2 ho hB
  obtain ⟨p1, c1, rfl⟩ := hv1.form
  go_wp2_with fail
  go_loopg [14] os.length (fun k i w' => ∃ (j : Nat) (wsj : List Nat), i = .int .i64 j ∧ j + k = os.length ∧ Blk w' pb #[.slice p1 ws1.length c1] 81 ∧ Words w' (.slice p1 ws1.length c1) wsj ∧ wsj.length = ws1.length ∧ Words w' (.slice po os.length co) os ∧ Kq pb v.ownBlock w w' ∧ Hid (HoldsP wsj (fun c => F c || (decide (c / 64 < j) && H c))))
  case atStart =>
    refine ⟨0, ws1, rfl, by omega, b1, hv1, rfl, ho1, K1, HFF.out.of_eq fun c => by simp⟩
  case round =>
    obtain ⟨j, wsj, rfl, hk, hb, hwj, hlj, hoj, hKj, HJ⟩ := hrel
    by_cases hj : j < os.length
    · have hd : decide ((j : Int) < (os.length : Nat)) = true := by simp; omega
      obtain ⟨g, cap, hge, hg, hcap⟩ := hwj.lay (by omega)
      simp only [Value.slice.injEq] at hge
      obtain ⟨rfl, -, rfl⟩ := hge
      obtain ⟨g2, cap2, hge2, hg2, hcap2⟩ := hoj.lay (by omega)
      simp only [Value.slice.injEq] at hge2
      obtain ⟨rfl, -, rfl⟩ := hge2
      have q0 := hoj.cell hj
      have hwj' : Words wr (.slice (some ⟨g, 0, none⟩) wsj.length c1) wsj := by rw [hlj]; exact hwj
      have x0 := hwj'.cell (show j < wsj.length by omega)
      have hb0 : wr.cell? ⟨pb, 0, none⟩ = some (.slice (some ⟨g, 0, none⟩) ws1.length c1) := hb.cell 0 rfl
      have hcf : wr.frozen? ⟨g, j, none⟩ = false := by
        rcases hwj.2 with ⟨h', _⟩ | ⟨g', cap', cur, h', _, hg', _⟩
        · cases h'
        · simp only [Value.slice.injEq, Option.some.injEq, Addr.mk.injEq, and_true] at h'
          obtain ⟨rfl, -, rfl⟩ := h'
          simp [World.frozen?, hg']
      have hy := HH1.out.2.2.2.2.get j
      have hx := HJ.out.get j
      have HX := hide (holdsP_word HJ.out (show j < wsj.length by omega) hy)
      have HW := hide (hwj'.put (show j < wsj.length by omega) (wsj.getD j 0 ||| os.getD j 0))
      have hL : (wsj.set j (wsj.getD j 0 ||| os.getD j 0)).length = ws1.length := by rw [List.length_set, hlj]
      rw [hL] at HW
      have HL := hide hL
      have HB := hide (And.intro HH1.out.2.2.2.2.2 HJ.out.2)
      clear hL hwj hwj' HJ
      generalize hws2 : wsj.set j (wsj.getD j 0 ||| os.getD j 0) = ws2 at *
      clear hws2
      generalize wsj.getD j 0 = x at *
      generalize hyy : os.getD j 0 = y at *
      have HYY := hide hyy
      clear hyy
      have hor : bits .or .u64 (x : Int) (y : Int) = ((x ||| y : Nat) : Int) := bits_or_u64_nat x y hx hy
      have hd2 : (j : Int) < (ws1.length : Nat) := by omega
      go_wp2_with fail
      go_roundg (gk - 1)
      case measure => omega
      obtain ⟨hfr, hov1, hvo1, hvb1, hH⟩ := HH1.out
      have hgpb : g ≠ pb := fun e => hvb1 (by rw [e]; rfl)
      have hgg : g2 ≠ g := fun e => hov1 g2 rfl (by rw [e]; rfl)
      have hgk : v.ownBlock = some g ∨ w.heap.size ≤ g := by
        rcases hfr with e | e
        · exact .inl e.symm
        · exact .inr (e g rfl)
      refine ⟨j + 1, ws2, by go_num, by omega, hb.other (by simpa using hgpb) _, HW.out, HL.out, hoj.other (by simpa [Value.ownBlock] using hgg) _, kq_setRow hKj hgk _ _, HX.out.of_eq fun c => ?_⟩
      have hHc := HB.out.1 c
      by_cases hc : c / 64 = j
      · rw [hc, HYY.out] at hHc
        have e1 : decide (c / 64 < j) = false := by simp; omega
        have e2 : decide (c / 64 < j + 1) = true := by simp; omega
        have e3 : decide (c / 64 = j) = true := by simp; omega
        rw [e1, e2, e3, hHc]; simp
      · have e1 : decide (c / 64 < j + 1) = decide (c / 64 < j) := by rw [Bool.eq_iff_iff]; simp; omega
        have e3 : decide (c / 64 = j) = false := by simp; omega
        rw [e1, e3]; simp
    · have hd : decide ((j : Int) < (os.length : Nat)) = false := by simp; omega
      go_wp2_with fail
      refine bodyPost_end (results_none rfl _ _ _) rfl ?_
      obtain ⟨hfr, hov1, hvo1, hvb1, hH⟩ := HH1.out
      refine ⟨rfl, _, wsj, hb, hwj, HJ.out.of_eq fun c => ?_, by omega, hKj, hvb1, hfr⟩
      cases hc : decide (c / 64 < j)
      · have : H c = false := by
          rw [← hH.2 c, List.getD_eq_getElem?_getD, List.getElem?_eq_none (by simp at hc; omega)]
          simp
        rw [this]; rfl
      · rfl
end Go.Proofs.Ytjlgccfibkcgbaa
