import Derived.Test.YtpnecblofjpgfaaGreatDoorMatV
namespace Go.Proofs.YtpnecblofjpgfaaGreatDoor
open Go.RowKit Go.Shelf

/-- The spans before any group is known. -/
def span0 (p q g : Nat) : List Int := (p : Int) :: (q : Int) :: List.replicate (2 * g) (-1)
theorem info3 : (Tryz.prog.info? 3).map (fun i => (i.zero, i.size, i.bytes)) = some (some (.int .i64 0), 1, 8) := by kernel_rfl

theorem span0_more (p q t : Nat) : span0 p q t ++ [-1, -1] = span0 p q (t + 1) := by
  unfold span0
  rw [show 2 * (t + 1) = 2 * t + 2 from by omega, ← List.replicate_append_replicate]
  rfl
theorem span0_len (p q t : Nat) : (span0 p q t).length = 2 * t + 2 := by unfold span0; simp

theorem ints_two (w : World) (a b : Int) : Ints (w.alloc (.cells #[.int .i64 a, .int .i64 b] 3)) (.slice (some ⟨w.heap.size, 0, none⟩) 2 2) [a, b] :=
  ⟨rfl, .inr ⟨w.heap.size, 2, #[.int .i64 a, .int .i64 b], rfl, Nat.zero_le _, Blk.new w _ _, Nat.le_refl _, by unfold maxLen; omega, rfl, rfl⟩⟩

theorem canR_nat {x : Ex} {s : ByteArray} {p q : Nat} : CanR x s p q ↔ p ≤ q ∧ q ≤ s.size ∧ (x.first = true → p = 0) ∧ (x.last = true → q = s.size) ∧ SeqR s x.parts p q := by
  unfold CanR
  rw [Int.toNat_natCast, Int.toNat_natCast]
  constructor
  · rintro ⟨_, h2, h3, h4, h5, h6⟩
    exact ⟨by omega, by omega, fun h => by have := h4 h; omega, fun h => by have := h5 h; omega, h6⟩
  · rintro ⟨h2, h3, h4, h5, h6⟩
    exact ⟨by omega, by omega, by omega, fun h => by have := h4 h; omega, fun h => by have := h5 h; omega, h6⟩

theorem begin_can {C : MC} {p : Nat} : BeginR C p ↔ ∃ q : Nat, CanR C.x C.s p q := by
  unfold BeginR
  constructor
  · rintro ⟨h1, e, h2, h3, h4⟩
    exact ⟨e, canR_nat.2 ⟨SeqR.low _ _ _ _ h4, h2, h1, h3, h4⟩⟩
  · rintro ⟨q, hq⟩
    obtain ⟨h1, h2, h3, h4, h5⟩ := canR_nat.1 hq
    exact ⟨h3, q, h2, h4, h5⟩

/-- What best answers, where there is a match. -/
def BestP (C : MC) (w : World) (p : Nat) (r : Ending) (w' : World) : Prop :=
  ∃ v D' q ss, r = .returned v ∧ MS C w' D' ∧ Kp C.mm w w' ∧ CanR C.x C.s p (q : Nat) ∧ (∀ q' : Nat, CanR C.x C.s p q' → q' ≤ q) ∧ SpanR C.s C.x.parts p q (span0 p q C.x.groups) ss ∧ Ints w' v ss ∧ ss.length = 2 * C.x.groups + 2 ∧ ∀ k, v.ownBlock = some k → w.heap.size ≤ k

set_option maxRecDepth 100000 in
set_option maxHeartbeats 2000000 in
theorem best_any (C : MC) (ok : C.Ok) (hWG : WFs C.x.groups C.x.parts) (hG9 : C.x.groups ≤ 9) (hAt : AtW C (firstIx 0 C.x.parts) C.x.parts) (p : Nat) (hp : p ≤ C.s.size) (hB : BeginR C p) (w : World) (D : DataW Value) (h : MS C w D) :
    Calls Tryz.prog 26 #[.pointer (some ⟨C.mb, 0, none⟩), .int .i64 (p : Nat)] w (BestP C w p) := by
  have hsm := ok.small
  have m0 : w.cell? ⟨C.mb, 0, none⟩ = some (.pointer (some ⟨C.xb, 0, none⟩)) := h.m.cell 0 rfl
  have m1 : w.cell? ⟨C.mb, 1, none⟩ = some (.string C.s) := h.m.cell 1 rfl
  have x1 : w.cell? ⟨C.xb, 1, none⟩ = some (.bool C.x.last) := h.x.cell 1 rfl
  have x3 : w.cell? ⟨C.xb, 3, none⟩ = some (.int .i64 (firstIx 0 C.x.parts)) := h.x.cell 3 rfl
  have HH := hide (And.intro h (And.intro hAt (And.intro hWG hB)))
  clear h hAt hWG hB
  obtain ⟨fi, hfi⟩ : ∃ fi, fi = firstIx 0 C.x.parts := ⟨_, rfl⟩
  have HFI := hide hfi
  rw [← hfi] at x3
  clear hfi
  go_enter Tryz.func26, Tryz.ntmps26
  go_upto_if 19 with fail
  go_cut [5] (fun en wc => ∃ (q : Nat) (D1 : DataW Value), en = .int .i64 (q : Nat) ∧ q ≤ C.s.size ∧ Hid (CanR C.x C.s p (q : Nat) ∧ (∀ q' : Nat, CanR C.x C.s p q' → q' ≤ q) ∧ MS C wc D1 ∧ Kp C.mm w wc))
  case first =>
    cases hl : C.x.last
    · rw [hl] at x1
      have HL := hide hl
      clear hl
      have HMS := hide HH.out.1
      have HE := hide (And.intro HFI.out HH.out.2.1)
      go_wp2_with fail
      go_region_held3 (fun w' => w'.cell? ⟨C.mb, 0, none⟩ = some (.pointer (some ⟨C.xb, 0, none⟩)) ∧ w'.cell? ⟨C.xb, 3, none⟩ = some (.int .i64 fi)) (go_keep)
        (first
          | (go_at_call 38; refine (only_any C ok p hp _ D HMS.out.drew).mono ?_; rintro e1 w1 ⟨y1, rfl, hy1, hb1⟩; have l1 := cell_below hb1 m0; have l2 := cell_below hb1 x3; have h1 := HMS.out.drew.below hb1; obtain ⟨gy1, cy1, rfl, -, -⟩ := hy1.form)
          | (go_at_call 42; refine (listE_all C ok C.x.parts fi _ _ _ D (by rw [HE.out.1]; exact HE.out.2) h1 hy1).mono ?_; rintro e2 w2 ⟨y2, D2, rfl, hy2, h2, K2⟩; have o1 := cell_kp h1 K2 l1; have o2 := cell_kp h1 K2 l2; obtain ⟨gy2, cy2, rfl, -, -⟩ := hy2.form)
          | (go_at_call 43; refine (last_any _ _ C.s.size _ hsm hy2).mono ?_; rintro e5 w5 ⟨r, rfl, hr, rfl⟩))
      obtain ⟨hB1, e0, he0, hB2, hB3⟩ := HH.out.2.2.2
      have hbest : ∃ m : Nat, r = (m : Int) ∧ m ≤ C.s.size ∧ CanR C.x C.s p (m : Nat) ∧ ∀ q' : Nat, CanR C.x C.s p q' → q' ≤ m := by
        rcases hr with ⟨_, h0⟩ | ⟨m, hm, hb⟩
        · exact absurd ⟨p, rfl, hB3⟩ (h0 e0)
        · obtain ⟨⟨p', rfl, hs⟩, hmax⟩ := hb
          have hmn := hy2.bound m ⟨p', rfl, hs⟩
          refine ⟨m, hm, hmn, canR_nat.2 ⟨SeqR.low _ _ _ _ hs, hmn, hB1, (fun h => by rw [HL.out] at h; cases h), hs⟩, fun q' hc => ?_⟩
          exact hmax q' ⟨p', rfl, (canR_nat.1 hc).2.2.2.2⟩
      obtain ⟨m, rfl, hmn, hcan, hmax⟩ := hbest
      have HB := hide (And.intro hcan (And.intro hmax (And.intro h2 ((Kp.below (b := C.mm) hb1).undrew.trans K2))))
      clear hr hcan hmax hB1 hB2 hB3
      go_wp2_with fail
      go_meet
      case rel => exact ⟨m, D2, rfl, hmn, HB⟩
    · rw [hl] at x1
      have HL := hide hl
      clear hl
      go_wp2_with fail
      go_meet
      case rel =>
        obtain ⟨hB1, e0, he0, hB2, hB3⟩ := HH.out.2.2.2
        have := hB2 HL.out
        subst this
        exact ⟨C.s.size, D, rfl, Nat.le_refl _, canR_nat.2 ⟨hp, Nat.le_refl _, hB1, fun _ => rfl, hB3⟩, fun q' hc => (canR_nat.1 hc).2.1, HH.out.1, Kp.refl _ _⟩
  case rest =>
    obtain ⟨q, D1, rfl, hqn, HZ⟩ := hcut
    generalize wc = w2 at *
    clear m0 m1 x1 x3
    have hb3 : Below w2.heap.size w2 (w2.alloc (.cells #[.int .i64 (p : Nat), .int .i64 (q : Nat)] 3)) := (Below.refl _ _).alloc (Nat.le_refl _) _
    have hm3 := HZ.out.2.2.1.below hb3
    have m0'' : (w2.alloc (.cells #[.int .i64 (p : Nat), .int .i64 (q : Nat)] 3)).cell? ⟨C.mb, 0, none⟩ = some (.pointer (some ⟨C.xb, 0, none⟩)) := hm3.m.cell 0 rfl
    have x4'' : (w2.alloc (.cells #[.int .i64 (p : Nat), .int .i64 (q : Nat)] 3)).cell? ⟨C.xb, 4, none⟩ = some (.int .i64 C.x.groups) := hm3.x.cell 4 rfl
    clear hm3 hb3
    go_wp2_with fail
    obtain ⟨i0, hi, hz0, hz1, hz2⟩ := info_parts info3
    have HI := hide (And.intro hi (And.intro hz0 (And.intro hz1 hz2)))
    clear hi hz0 hz1 hz2
    go_loopg [6, 43] C.x.groups (fun k sv iv w' => ∃ (t : Nat) (pa : Option Addr) (cap : Nat), sv = .slice pa (2 * t + 2) cap ∧ iv = .int .i64 (t : Nat) ∧ t + k = C.x.groups ∧ Hid (Ints w' (.slice pa (2 * t + 2) cap) (span0 p q t) ∧ Below w2.heap.size w2 w' ∧ ∀ k, (Value.slice pa (2 * t + 2) cap).ownBlock = some k → w2.heap.size ≤ k))
    case atStart =>
      refine ⟨0, _, _, rfl, rfl, by omega, ?_, (Below.refl _ _).alloc (Nat.le_refl _) _, fun k e => by cases e; exact Nat.le_refl _⟩
      exact ints_two w2 _ _
    case round =>
      obtain ⟨t, pa, cap, rfl, rfl, htk, HR⟩ := hrel
      by_cases ht : t < C.x.groups
      · have d5 : decide ((t : Int) < (C.x.groups : Int)) = true := by simp; omega
        have f1 : (wr.alloc (.cells #[.int .i64 (-1), .int .i64 (-1)] 3)).ownsRow 0 3 1 (.slice pa (2 * t + 2) cap) (2 * t + 2) ((span0 p q t).map fun x => Value.int .i64 x) := by
          have := HR.out.1
          unfold Ints at this
          rw [span0_len] at this
          exact this.alloc _
        have hbytes : (2 * t + 2 + 2) * 8 ≤ 140737488355328 := by omega
        have hml : 2 * t + 2 + 2 ≤ maxLen := by unfold maxLen; omega
        go_wp2_with (at_builtin; refine wpList_append_lies _ rfl _ _ 22 rfl 0 3 i0 (.int .i64 0) 1 8 Tryz.underlying22 HI.out.1 HI.out.2.1 HI.out.2.2.1 HI.out.2.2.2 rfl (by decide) (.slice pa (2 * t + 2) cap) (2 * t + 2) ((span0 p q t).map fun x => Value.int .i64 x) rfl f1 ⟨wr.heap.size, 0, none⟩ 2 2 [.int .i64 (-1), .int .i64 (-1)] rfl rfl (blk_news (Blk.newAt rfl)) (by intro u hu; simp at hu; subst hu; rfl) (by decide) hml hbytes (Nat.zero_le _) (wr.heap.size + 1) (by simp) ?_; intro g1 cap1 w4 hown1 hgrow1 hat1 hlt1)
        go_roundg (gk - 1)
        case measure => omega
        obtain ⟨h1, h2, h3⟩ := HR.out
        have hle := h2.size
        refine ⟨t + 1, some ⟨g1, 0, none⟩, cap1, rfl, by go_num, by omega, ?_, ?_, fun k e => ?_⟩
        · unfold Ints
          rw [← span0_more, List.map_append, List.length_append, span0_len]
          exact hown1
        · exact (h2.alloc hle _).grown hgrow1 (by simp; omega) h3
        · cases e
          show w2.heap.size ≤ g1
          rcases hat1 with e | e
          · exact h3 _ e
          · omega
      · have d5 : decide ((t : Int) < (C.x.groups : Int)) = false := by simp; omega
        obtain rfl : t = C.x.groups := by omega
        obtain ⟨h1, h2, h3⟩ := HR.out
        obtain ⟨hcan, hmax, hm2, hk2⟩ := HZ.out
        obtain ⟨h, hAt, hWG, hB⟩ := HH.out
        have hms := hm2.below h2
        obtain ⟨sb, cap9, hsv, hsl, hsc⟩ := h1.lay (by rw [span0_len]; omega)
        have hsb : (Value.slice pa (2 * C.x.groups + 2) cap).ownBlock = some sb := by rw [hsv]; rfl
        have hge := h3 sb hsb
        have hcall := span_list C ok C.x.groups hG9 C.x.parts (firstIx 0 C.x.parts) p q _ sb _ wr D1 hAt hWG (by rw [span0_len]; omega) (by rw [span0_len]; omega) hp hqn (canR_nat.1 hcan).2.2.2.2 hms h1 hsb
        have y0 : wr.cell? ⟨C.mb, 0, none⟩ = some (.pointer (some ⟨C.xb, 0, none⟩)) := hms.m.cell 0 rfl
        have y3 : wr.cell? ⟨C.xb, 3, none⟩ = some (.int .i64 (firstIx 0 C.x.parts)) := hms.x.cell 3 rfl
        have HY := hide (And.intro hge (And.intro hk2 (And.intro hcan (And.intro hmax (And.intro h2 hsb)))))
        clear h1 h2 h3 hm2 hk2 hcan hmax h hB hAt hWG hms hsv hsl hsc hge hsb
        go_wp2_with fail
        refine hcall.mono ?_
        rintro r w9 ⟨ss, D9, rfl, hS9, hI9, hl9, hm9, hF9⟩
        clear hcall
        go_wp2_with fail
        go_ret
        obtain ⟨hge, hk2, hcan, hmax, h2, hsb⟩ := HY.out
        have hsz := hk2.size
        have hk3 := hk2.trans (Kp.below h2)
        refine ⟨_, D9, q, ss, rfl, hm9, ⟨hF9.os.trans hk3.os, hF9.tape.trans hk3.tape, hF9.output.trans hk3.output, Nat.le_trans hk3.size hF9.size, fun k hk hn => (hF9.block k (Nat.lt_of_lt_of_le hk hk3.size) hn (fun e => by cases e; omega)).trans (hk3.block k hk hn)⟩, hcan, hmax, hS9, hI9, by rw [hl9, span0_len], fun k e => ?_⟩
        have e2 : some k = some sb := by rw [← hsb]; exact e.symm
        cases e2
        omega
end Go.Proofs.YtpnecblofjpgfaaGreatDoor

namespace Go.Proofs.YtpnecblofjpgfaaGreatDoor
open Go.RowKit Go.Shelf

set_option maxRecDepth 100000 in
set_option maxHeartbeats 1000000 in
theorem newMatcher_any (xb : Nat) (w : World) :
    Calls Tryz.prog 15 #[.pointer (some ⟨xb, 0, none⟩)] w fun e w' => e = .returned (.pointer (some ⟨w.heap.size + 1, 0, none⟩)) ∧ w' = (w.alloc (.map #[] 0)).alloc (.cells #[.pointer (some ⟨xb, 0, none⟩), .string ⟨#[]⟩, .map (some w.heap.size)] 63) := by
  have hmm := @run_makeMap Tryz.prog
  go_enter Tryz.func15, Tryz.ntmps15
  go_wp2_with fail
  go_ret
  exact ⟨rfl, rfl⟩

theorem run_clear_empty {w : World} {mm cl : Nat} (h : w.heap[mm]? = some (.map #[] cl)) : (Builtin.clear_ #[61] 0 #[.map (some mm)]).run Tryz.prog w = .ok (.tuple #[]) w := by
  have e : ({ w with heap := w.heap.setIfInBounds mm (.map #[] cl) } : World) = w := by
    have : w.heap.setIfInBounds mm (.map #[] cl) = w.heap := by
      apply Array.ext_getElem?
      intro i
      by_cases hi : mm = i
      · subst hi
        rw [Array.getElem?_setIfInBounds_self, h]
        have := (Array.getElem?_eq_some_iff.1 h).1
        simp [this]
      · rw [Array.getElem?_setIfInBounds_ne hi]
    rw [this]
  simp [Builtin.clear_, run_underlying Tryz.underlying61, MapKept.run_getObj_map h, MapKept.run_setObj_map _ h, Result.andThen]
  exact e

set_option maxRecDepth 100000 in
set_option maxHeartbeats 1000000 in
theorem turnTo_any (s s0 : ByteArray) (mb xb mm cl : Nat) (w : World) (h : Blk w mb #[.pointer (some ⟨xb, 0, none⟩), .string s0, .map (some mm)] 63) (hm : w.heap[mm]? = some (.map #[] cl)) :
    Calls Tryz.prog 23 #[.pointer (some ⟨mb, 0, none⟩), .string s] w fun e w' => e = .returned (.tuple #[]) ∧ Blk w' mb #[.pointer (some ⟨xb, 0, none⟩), .string s, .map (some mm)] 63 ∧ Kp mb w w' := by
  have m1 : w.cell? ⟨mb, 1, none⟩ = some (.string s0) := h.cell 1 rfl
  have m2 : w.cell? ⟨mb, 2, none⟩ = some (.map (some mm)) := h.cell 2 rfl
  have mf := h.fz 1
  have hcl := run_clear_empty hm
  cases hd : (s.toList == s0.toList)
  · go_enter Tryz.func23, Tryz.ntmps23
    go_wp2_with fail
    refine bodyPost_end (results_none rfl _ _ _) rfl ?_
    exact ⟨rfl, h.set 1 _ rfl, (Kp.refl _ _).set 1 _⟩
  · have hs : s = s0 := WideShapes.bytes_inj (by rw [ByteArray.toList_eq, ByteArray.toList_eq] at hd; simpa using hd)
    have HS := hide hs
    clear hs
    go_enter Tryz.func23, Tryz.ntmps23
    go_wp2_with fail
    refine bodyPost_end (results_none rfl _ _ _) rfl ?_
    refine ⟨rfl, ?_, Kp.refl _ _⟩
    rw [HS.out]; exact h

theorem owns_empty {w : World} {mm : Nat} (h : w.heap[mm]? = some (.map #[] 0)) : w.ownsMap Tryz.prog 84 asIs mm 0 (.map []) := by
  obtain ⟨es, cl, h1, F, hs, hD⟩ := World.ownsMap_made w Tryz.prog 84 asIs
  rw [heap_alloc_new] at h1
  cases h1
  exact ⟨#[], 0, h, F, hs, hD⟩

/-- The matcher when it is new. -/
theorem MS.new {C : MC} {w : World} (hm : Blk w C.mb #[.pointer (some ⟨C.xb, 0, none⟩), .string C.s, .map (some C.mm)] 63) (hx : Blk w C.xb #[.bool C.x.first, .bool C.x.last, C.pv, .int .i64 (firstIx 0 C.x.parts), .int .i64 C.x.groups] 81) (hf : Flat w C.pv C.all) (hmap : w.heap[C.mm]? = some (.map #[] 0)) : MS C w (.map []) := by
  have hn : ∀ k, Maps.has (.map [] : DataW Value) k = false := fun k => rfl
  refine ⟨hm, hx, hf, ⟨0, owns_empty hmap, ?_⟩, Maps.isMap_empty, fun i c p _ h => ?_⟩
  · unfold missing
    have := List.length_filter_le (fun k => !Maps.has (.map [] : DataW Value) k) (univ C)
    omega
  · rw [hn] at h; cases h

/-- The table is not touched. -/
theorem TabOk.keep {w w' : World} (h : TabOk w) (hk : w'.heap[0]? = w.heap[0]?) : TabOk w' := fun j hj => (World.cell?_of_block hk).trans (h j hj)
theorem TabOk.cells {w : World} (h : TabOk w) : ∃ c t f, w.heap[0]? = some (.cells c t f) := by
  have h0 := h 0 (by decide)
  have hl := World.block_lt_of_cell? w ⟨0, 0, none⟩ h0
  simp only [World.cell?] at h0
  split at h0
  · next c t f e => exact ⟨c, t, f, e⟩
  · cases h0
theorem TabOk.lt {w : World} (h : TabOk w) : 0 < w.heap.size := World.block_lt_of_cell? w ⟨0, 0, none⟩ (h 0 (by decide))
theorem TabOk.below {w w' : World} (h : TabOk w) (hb : Below w.heap.size w w') : TabOk w' := h.keep (hb.block 0 h.lt)
theorem TabOk.kpm {C : MC} {w w' : World} {D : DataW Value} (h : TabOk w) (hm : MS C w D) (hk : Kp C.mm w w') : TabOk w' := by
  obtain ⟨c, t, f, e⟩ := h.cells
  exact h.keep (hk.block 0 h.lt (hm.notMap e))

/-- What from answers. -/
def FromPost (C : MC) (w : World) (at_ : Nat) (r : Ending) (w' : World) : Prop :=
  ∃ v, r = .returned v ∧ Kq C.mb (some C.mm) w w' ∧ ((v = .slice none 0 0 ∧ ∀ p : Nat, at_ ≤ p → ∀ q, ¬ CanR C.x C.s p q) ∨ ∃ (p q : Nat) (ss : List Int), at_ ≤ p ∧ (∀ p' : Nat, at_ ≤ p' → p' < p → ∀ q', ¬ CanR C.x C.s p' q') ∧ CanR C.x C.s p q ∧ (∀ q' : Nat, CanR C.x C.s p q' → q' ≤ q) ∧ SpanR C.s C.x.parts p q (span0 p q C.x.groups) ss ∧ Ints w' v ss ∧ ss.length = 2 * C.x.groups + 2 ∧ ∀ k, v.ownBlock = some k → w.heap.size ≤ k)

theorem canR_toNat {x : Ex} {s : ByteArray} {p : Nat} {q : Int} (h : CanR x s p q) : CanR x s p (q.toNat : Nat) := by
  have h0 := h.1
  have h1 := h.2.1
  rw [show ((q.toNat : Nat) : Int) = q by omega]
  exact h

set_option maxRecDepth 100000 in
set_option maxHeartbeats 1000000 in
theorem from_any (C : MC) (ok : C.Ok) (hWG : WFs C.x.groups C.x.parts) (hG9 : C.x.groups ≤ 9) (hAt : AtW C (firstIx 0 C.x.parts) C.x.parts) (at_ : Nat) (hat : at_ ≤ C.s.size) (w : World) (hm : Blk w C.mb #[.pointer (some ⟨C.xb, 0, none⟩), .string ⟨#[]⟩, .map (some C.mm)] 63) (hx : Blk w C.xb #[.bool C.x.first, .bool C.x.last, C.pv, .int .i64 (firstIx 0 C.x.parts), .int .i64 C.x.groups] 81) (hf : Flat w C.pv C.all) (hmap : w.heap[C.mm]? = some (.map #[] 0)) (hxm : C.xb ≠ C.mb) (hpm : C.pv.ownBlock ≠ some C.mb) (hT : TabOk w) (hm0 : C.mb ≠ 0) :
    Calls Tryz.prog 16 #[.pointer (some ⟨C.mb, 0, none⟩), .string C.s, .int .i64 (at_ : Nat)] w (FromPost C w at_) := by
  have hsm := ok.small
  have hturn := turnTo_any C.s ⟨#[]⟩ C.mb C.xb C.mm 0 w hm hmap
  have hmm : C.mm ≠ C.mb := by
    intro e
    have := hm
    unfold Blk at this
    rw [← e, hmap] at this
    cases this
  have HH := hide (And.intro hWG (And.intro hAt (And.intro hx (And.intro hf (And.intro hmap hT)))))
  clear hWG hAt hx hf hmap hm hT
  go_enter Tryz.func16, Tryz.ntmps16
  go_wp2_with fail
  refine hturn.mono ?_
  rintro r w1 ⟨rfl, b1, k1⟩
  clear hturn
  obtain ⟨hWG, hAt, hx, hf, hmap, hT⟩ := HH.out
  have hms1 : MS C w1 (.map []) := MS.new b1 (hx.kp k1 hxm) (hf.kp k1 hpm) ((k1.block _ (Array.getElem?_eq_some_iff.1 hmap).1 hmm).trans hmap)
  have hT1 : TabOk w1 := hT.keep (k1.block 0 hT.lt (fun e => hm0 e.symm))
  have HM := hide (And.intro hms1 (And.intro k1 hT1))
  clear hms1 hx hf hmap b1 k1 HH hT hT1
  have HG := hide (And.intro hWG hAt)
  clear hWG hAt
  go_wp2_with fail
  refine (begins_any C ok HG.out.2 w1 _ HM.out.1).mono ?_
  rintro r w2 ⟨v2, D2, rfl, hv2, hm2, K2⟩
  obtain ⟨g2, c2, rfl, -, -⟩ := hv2.form
  have HB := hide (And.intro hv2 (And.intro hm2 (And.intro K2 (HM.out.2.2.kpm HM.out.1 K2))))
  clear hv2 hm2 K2
  go_wp2_with fail
  refine (firstFrom_any _ _ C.s.size at_ _ hsm hat HB.out.1 HB.out.2.2.2).mono ?_
  rintro r w3 ⟨pl, rfl, hpl, rfl⟩
  have hkk : ∀ w9 : World, Kp C.mm w1 w9 → Kq C.mb (some C.mm) w w9 := fun w9 hk => by
    have k1 := HM.out.2.1
    exact ⟨hk.os.trans k1.os, hk.tape.trans k1.tape, hk.output.trans k1.output, Nat.le_trans k1.size hk.size, fun k h1 h2 h3 => (hk.block k (Nat.lt_of_lt_of_le h1 k1.size) (fun e => h3 (by rw [e]))).trans (k1.block k h1 h2)⟩
  rcases hpl with ⟨rfl, hno⟩ | ⟨p, rfl, h1, h2, h3⟩
  · have HN := hide (And.intro hno (hkk _ HB.out.2.2.1))
    clear hno hkk
    go_wp2_with fail
    go_ret
    refine ⟨_, rfl, HN.out.2, .inl ⟨rfl, fun p hp q hc => ?_⟩⟩
    have hc' := canR_toNat hc
    have := canR_nat.1 hc'
    exact HN.out.1 p hp ⟨by omega, begin_can.2 ⟨_, hc'⟩⟩
  · have HN := hide (And.intro h2 (And.intro h3 hkk))
    have hpn : p ≤ C.s.size := h2.1
    clear h2 h3 hkk
    go_wp2_with fail
    refine (best_any C ok HG.out.1 hG9 HG.out.2 p hpn HN.out.1.2 _ D2 HB.out.2.1).mono ?_
    rintro r w4 ⟨v, D4, q, ss, rfl, hm4, hk4, hc, hmax, hS, hI, hl, hrow⟩
    obtain ⟨sb, cap, rfl, hsl, hsc⟩ := hI.lay (by omega)
    have HZ := hide (And.intro hk4 (And.intro hc (And.intro hmax (And.intro hS (And.intro hI (And.intro hl hrow))))))
    clear hm4 hk4 hc hmax hS hI hrow hl
    go_wp2_with fail
    go_ret
    obtain ⟨hk4, hc, hmax, hS, hI, hl, hrow⟩ := HZ.out
    refine ⟨_, rfl, HN.out.2.2 _ (HB.out.2.2.1.trans hk4), .inr ⟨p, q, ss, h1, fun p' hp1 hp2 q' hc' => ?_, hc, hmax, hS, hI, hl, fun k e => ?_⟩⟩
    · have hc2 := canR_toNat hc'
      have hh := canR_nat.1 hc2
      have := HN.out.2.1 p' hp1 ⟨by omega, begin_can.2 ⟨_, hc2⟩⟩
      omega
    · have := hrow k e
      have h5 := HB.out.2.2.1.size
      have h6 := HM.out.2.1.size
      omega
end Go.Proofs.YtpnecblofjpgfaaGreatDoor

namespace Go.Proofs.YtpnecblofjpgfaaGreatDoor
open Go.RowKit Go.Shelf

mutual
def nodes : Part → Nat
  | .mk _ kids _ _ _ _ => 1 + nodesL kids
def nodesL : List Part → Nat
  | [] => 0
  | x :: xs => nodes x + nodesL xs
end
theorem nodesL_snoc : ∀ (l : List Part) (x : Part), nodesL (l ++ [x]) = nodesL l + nodes x
  | [], x => by simp only [List.nil_append, nodesL]; omega
  | y :: l, x => by simp only [List.cons_append, nodesL, nodesL_snoc l x]; omega
theorem nodes_upd (x : Part) (a b : Int) : nodes (upd x a b) = nodes x := by
  obtain ⟨g, kids, neg, ps, mn, mx⟩ := x
  simp only [Go.Proofs.YtpnecblofjpgfaaGreatDoor.upd, nodes]
theorem nodes_count (s : ByteArray) (r : Part × St) : nodes (countS s r).1 = nodes r.1 := by
  unfold countS
  split
  · rfl
  · split
    · exact nodes_upd _ _ _
    · split
      · exact nodes_upd _ _ _
      · rfl

mutual
theorem layA_nodes : ∀ (x : Part) (lo : Nat) (W : Nat → Nat) (group inner : Int) (ks : List PP), LayA lo x W group inner ks → ks.length + 1 ≤ nodes x
  | .mk g kids neg ps mn mx, lo, W, group, inner, ks, h => by
    simp only [LayA] at h
    simp only [nodes]
    split at h
    · rw [h.2.1]; simp
    · have := layL_nodes kids lo ks h.2.2
      omega
theorem layL_nodes : ∀ (ps : List Part) (lo : Nat) (qs : List PP), LayL lo ps qs → qs.length ≤ nodesL ps
  | [], lo, qs, h => by simp only [LayL] at h; rw [h]; simp
  | x :: xs, lo, qs, h => by
    simp only [LayL] at h
    obtain ⟨p, ks, rest, rfl, h1, -, -, -, h2⟩ := h
    have a1 := layA_nodes x _ _ _ _ _ h1
    have a2 := layL_nodes xs _ _ h2
    simp only [nodesL, List.length_cons, List.length_append]
    omega
end

theorem nodes_all (s : ByteArray) (n : Nat) :
    (∀ st, st.i ≤ s.size → (partS s n st).2.bad = false → st.i + nodes (partS s n st).1 ≤ (partS s n st).2.i) ∧ (∀ st, st.i ≤ s.size → (escS s n st).2.bad = false → st.i + nodes (escS s n st).1 ≤ (escS s n st).2.i) ∧ (∀ inner st l, st.i ≤ s.size → (partsS s inner n st l).2.bad = false → st.i + nodesL (partsS s inner n st l).1 ≤ (partsS s inner n st l).2.i + nodesL l) := by
  induction n with
  | zero =>
    refine ⟨fun st _ h => ?_, fun st _ h => ?_, fun inner st l _ h => ?_⟩
    · simp only [partS, spoil_bad] at h; cases h
    · simp only [escS, spoil_bad] at h; cases h
    · simp only [partsS]; omega
  | succ n ih =>
    obtain ⟨ihp, ihe, ihs⟩ := ih
    refine ⟨fun st hst h => ?_, fun st hst h => ?_, fun inner st l hst h => ?_⟩
    · rw [partS] at h ⊢
      split
      · next hc => rw [if_pos hc] at h; cases h
      · next hc =>
        rw [if_neg hc] at h
        have hlt : st.i < s.size := by
          simp only [not_or] at hc
          exact peekOk_lt (by simpa using hc.1)
        have h1 := Fwd.adv hlt
        have ha : (adv st).i = st.i + 1 := rfl
        have key : ∀ r : Part × St, (countS s r).2.bad = false → r.2.i ≤ s.size → (r.2.bad = false → st.i + nodes r.1 ≤ r.2.i) → st.i + nodes (countS s r).1 ≤ (countS s r).2.i := fun r hb hr hn => by
          rw [nodes_count]
          have hf := (Fwd.count (s := s) hr).1
          have hb2 : r.2.bad = false := by
            cases hbb : r.2.bad
            · rfl
            · rw [countS_bad hbb, hbb] at hb; cases hb
          have := hn hb2
          omega
        refine key _ h ?_ ?_
        · split
          · exact h1.2.1
          · split
            · exact (Fwd.set _ h1.2.1).2.1
            · split
              · exact ((fwd_all s n).2.1 _ h1.2.1).2.1
              · exact h1.2.1
        · split
          · intro _; simp only [nodes, nodesL]; omega
          · split
            · intro _
              have := (Fwd.set (s := s) (st := adv st) (s.size + 2) h1.2.1).1
              simp only [nodes, nodesL]; omega
            · split
              · intro hb
                have := ihe (adv st) h1.2.1 hb
                omega
              · intro _; simp only [singleP, nodes, nodesL]; omega
    · rw [escS] at h ⊢
      split
      · next hc => rw [if_pos hc] at h; cases h
      · next hc =>
        rw [if_neg hc] at h
        have hlt : st.i < s.size := by
          simp only [not_or] at hc
          exact peekOk_lt (by simpa using hc.1)
        have ha : (adv st).i = st.i + 1 := rfl
        split
        · simp only [singleP, nodes, nodesL]; omega
        · next hd =>
          rw [if_neg hd] at h
          split
          · simp only [singleP, nodes, nodesL]; omega
          · next he =>
            rw [if_neg he] at h
            have hop : (opened st).i = st.i + 1 := rfl
            have h3 := ihs true (opened st) [] (by omega) (eatIf_good (eatIf_good h))
            have e1 := eatIf_ge s 92 (partsS s true n (opened st) []).2
            have e2 := eatIf_ge s 41 (eatIf s 92 (partsS s true n (opened st) []).2)
            simp only [nodes]
            simp only [nodesL] at h3
            omega
    · rw [partsS] at h ⊢
      split
      · exact Nat.le_refl _
      · next hc =>
        rw [if_neg hc] at h
        have hf := ((fwd_all s n).1 st hst).1
        cases hb : (partS s n st).2.bad
        · have a1 := ihp st hst hb
          have a2 := ihs inner (partS s n st).2 (l ++ [(partS s n st).1]) hf.2.1 h
          rw [nodesL_snoc] at a2
          omega
        · rw [parts_bad s inner n _ _ hb, hb] at h; cases h

/-- What a text that is an expression has been read to. -/
theorem ex_facts (s : ByteArray) (hs : s.size ≤ 1048576) (hb : (exS s).2.bad = false) : WFs (exS s).1.groups (exS s).1.parts ∧ (exS s).1.groups ≤ 9 ∧ MMs (exS s).1.parts ∧ nodesL (exS s).1.parts ≤ s.size := by
  have hz : zeroed ⟨0, false, 0⟩ = ⟨0, false, 0⟩ := rfl
  have h1 : (advIf s 94 (zeroed ⟨0, false, 0⟩)).i ≤ s.size := by
    rw [hz]
    unfold advIf; split
    · next hc => exact peekOk_lt (isB_ok hc)
    · exact Nat.zero_le _
  have hg : (advIf s 94 (zeroed ⟨0, false, 0⟩)).g = 0 := by rw [hz]; unfold advIf adv; split <;> rfl
  have hbp : (partsS s false (2 * s.size + 2) (advIf s 94 (zeroed ⟨0, false, 0⟩)) []).2.bad = false := by
    have : (exS s).2.bad = (advIf s 36 (partsS s false (2 * s.size + 2) (advIf s 94 (zeroed ⟨0, false, 0⟩)) []).2).bad := rfl
    rw [advIf_b] at this
    rw [← this]; exact hb
  have w1 := ((wf_all s hs (2 * s.size + 2) (by omega)).2.2 false (advIf s 94 (zeroed ⟨0, false, 0⟩)) [] h1 trivial (by simp; omega)).2.1
  have f1 := (fwd_all s (2 * s.size + 2)).2.2 false (advIf s 94 (zeroed ⟨0, false, 0⟩)) [] h1
  have m1 := (mm_all s (2 * s.size + 2)).2.2 false (advIf s 94 (zeroed ⟨0, false, 0⟩)) [] trivial hbp
  have n1 := (nodes_all s (2 * s.size + 2)).2.2 false (advIf s 94 (zeroed ⟨0, false, 0⟩)) [] h1 hbp
  simp only [nodesL] at n1
  refine ⟨w1, f1.2.2 (by omega), m1, ?_⟩
  have f2 := f1.2.1
  show nodesL (partsS s false (2 * s.size + 2) (advIf s 94 (zeroed ⟨0, false, 0⟩)) []).1 ≤ s.size
  omega
end Go.Proofs.YtpnecblofjpgfaaGreatDoor

namespace Go.Proofs.YtpnecblofjpgfaaGreatDoor
open Go.RowKit Go.Shelf

/-- The text is an expression. -/
def Good (s : ByteArray) : Prop := (exS s).2.bad = false ∧ (exS s).2.i = s.size
instance (s : ByteArray) : Decidable (Good s) := by unfold Good; infer_instance

/-- What Match answers where it finds a match, or none. -/
def FoundPost (x : Ex) (s : ByteArray) (w : World) (at_ : Nat) (v : Value) (w' : World) : Prop :=
  (v = .slice none 0 0 ∧ ∀ p : Nat, at_ ≤ p → ∀ q, ¬ CanR x s p q) ∨ ∃ (p q : Nat) (ss : List Int), at_ ≤ p ∧ (∀ p' : Nat, at_ ≤ p' → p' < p → ∀ q', ¬ CanR x s p' q') ∧ CanR x s p q ∧ (∀ q' : Nat, CanR x s p q' → q' ≤ q) ∧ SpanR s x.parts p q (span0 p q x.groups) ss ∧ Ints w' v ss ∧ ss.length = 2 * x.groups + 2 ∧ ∀ k, v.ownBlock = some k → w.heap.size ≤ k

def MatchPost (e s : ByteArray) (at_ : Int) (w : World) (r : Ending) (w' : World) : Prop :=
  Below w.heap.size w w' ∧ ∃ v en pl, r = .returned (.tuple #[v, .int .i64 en, .int .i64 pl]) ∧
    (((60 < e.size ∨ 200 < s.size) ∧ v = .slice none 0 0 ∧ en = 1 ∧ pl = 0) ∨
     (¬ (60 < e.size ∨ 200 < s.size) ∧ ¬ Good e ∧ v = .slice none 0 0 ∧ en = 2 ∧ pl = (exS e).2.i) ∨
     (¬ (60 < e.size ∨ 200 < s.size) ∧ Good e ∧ (at_ < 0 ∨ (s.size : Int) < at_) ∧ v = .slice none 0 0 ∧ en = 5 ∧ pl = 0) ∨
     (¬ (60 < e.size ∨ 200 < s.size) ∧ Good e ∧ 0 ≤ at_ ∧ at_ ≤ s.size ∧ en = 0 ∧ pl = 0 ∧ FoundPost (exS e).1 s w at_.toNat v w'))

theorem results_tmp3 {fn : Func} {a b c : Tmp} (h : fn.results = #[.tmp a, .tmp b, .tmp c]) (tmps : Array Value) (P : Program) (w : World) :
    (results fn tmps).run P w = .ok (.tuple #[tmps.getD a undef, tmps.getD b undef, tmps.getD c undef]) w := by
  simp [results, h]

theorem flatAgree {w w' : World} {pv : Value} {ps : List PP} (h : Flat w pv ps) (hk : ∀ k, pv.ownBlock = some k → w'.heap[k]? = w.heap[k]?) : Flat w' pv ps := by
  refine ⟨h.1, ?_⟩
  rcases h.2 with hn | ⟨g, cap, cur, rfl, h0, hg, rest⟩
  · exact .inl hn
  · exact .inr ⟨g, cap, cur, rfl, h0, by rw [hk g rfl]; exact hg, rest⟩

set_option maxRecDepth 100000 in
set_option maxHeartbeats 1000000 in
theorem Match_any (e s : ByteArray) (at_ : Int) (w : World) (he : e.size ≤ 1048576) (hs : s.size ≤ 1048576) (hT : TabOk w) :
    Calls Tryz.prog 6 #[.string e, .string s, .int .i64 at_] w (MatchPost e s at_ w) := by
  have hmf : ∀ (fn : Fn) (first cap : Array Value) (w : World), (Instr.makeFunc fn first cap).run Tryz.prog w = .ok (.func fn first cap) w := fun _ _ _ _ => rfl
  have HT := hide hT
  clear hT
  by_cases hlen : 60 < e.size ∨ 200 < s.size
  · have HL := hide hlen
    have key : decide ((60 : Int) < (e.size : Nat)) = true ∨ (decide ((60 : Int) < (e.size : Nat)) = false ∧ decide ((200 : Int) < (s.size : Nat)) = true) := by
      by_cases h : 60 < e.size
      · left; simp; omega
      · right; constructor <;> simp <;> omega
    clear hlen
    rcases key with l1 | ⟨l1, l2⟩
    all_goals
      go_enter Tryz.func6, Tryz.ntmps6
      go_wp2_with fail
      refine bodyPost_ret (results_tmp3 rfl _ _ _) rfl ?_
      exact ⟨(Below.refl _ w).alloc (Nat.le_refl _) _, _, 1, 0, rfl, .inl ⟨HL.out, rfl, rfl, rfl⟩⟩
  · have l1 : decide ((60 : Int) < (e.size : Nat)) = false := by simp; omega
    have l2 : decide ((200 : Int) < (s.size : Nat)) = false := by simp; omega
    have hb1 : Below w.heap.size w ((w.alloc (.cells #[.string e] 9)).alloc (.cells #[.pointer none] 38)) := ((Below.refl _ w).alloc (Nat.le_refl _) _).alloc (by simp) _
    have hs1 : ((w.alloc (.cells #[.string e] 9)).alloc (.cells #[.pointer none] 38)).heap.size = w.heap.size + 2 := by simp
    have B0 : Blk ((w.alloc (.cells #[.string e] 9)).alloc (.cells #[.pointer none] 38)) w.heap.size #[.string e] 9 := (Blk.new w _ _).alloc _
    have B1 : Blk ((w.alloc (.cells #[.string e] 9)).alloc (.cells #[.pointer none] 38)) (w.heap.size + 1) #[.pointer none] 38 := Blk.newAt (by simp)
    have hcall := caught_any 13 #[.pointer (some ⟨w.heap.size, 0, none⟩), .pointer (some ⟨w.heap.size + 1, 0, none⟩)] ((w.alloc (.cells #[.string e] 9)).alloc (.cells #[.pointer none] 38))
      (fun w' => Kp (w.heap.size + 1) (((w.alloc (.cells #[.string e] 9)).alloc (.cells #[.pointer none] 38)).alloc (.cells #[.int .i64 0, .int .i64 0] 40)) w' ∧ Good e ∧ ∃ xb pv qs, Blk w' (w.heap.size + 1) #[.pointer (some ⟨xb, 0, none⟩)] 38 ∧ PX w' (w.heap.size + 3) xb (exS e).1 pv qs)
      (fun en pl w' => Kp (w.heap.size + 1) (((w.alloc (.cells #[.string e] 9)).alloc (.cells #[.pointer none] 38)).alloc (.cells #[.int .i64 0, .int .i64 0] 40)) w' ∧ ¬ Good e ∧ en = 2 ∧ pl = (exS e).2.i)
      (fun a w => by simp [go_sem])
      ((match1_any e w.heap.size (w.heap.size + 1) (.pointer none) _ he (B0.alloc _) (B1.alloc _)).mono (by
        rintro r w' ⟨hk, h⟩
        refine ⟨(Blk.newAt (by rw [hs1])).kp hk (by omega), ?_⟩
        rcases h with ⟨g1, g2, xb, pv, qs, rfl, h1, h2⟩ | ⟨g1, rfl⟩
        · refine .inl ⟨rfl, hk, ⟨g1, g2⟩, xb, pv, qs, h1, ?_⟩
          have : (((w.alloc (.cells #[.string e] 9)).alloc (.cells #[.pointer none] 38)).alloc (.cells #[.int .i64 0, .int .i64 0] 40)).heap.size = w.heap.size + 3 := by simp
          rw [this] at h2
          exact h2
        · exact .inr ⟨2, _, rfl, hk, g1, rfl, rfl⟩))
    have HL := hide (And.intro hlen (And.intro hb1 hs1))
    clear hlen hb1 B0 B1 hs1
    go_enter Tryz.func6, Tryz.ntmps6
    go_wp2_with fail
    refine hcall.mono ?_
    clear hcall
    rintro r w3 (⟨w0, ⟨hk0, hgood, xb, pv, qs, hvb, hPX⟩, rfl, hk3⟩ | ⟨w0, en, pl, ⟨hk0, hbad, rfl, rfl⟩, rfl, hk3⟩)
    · obtain ⟨hlen, hb1, hs1⟩ := HL.out
      have hb2 : Below w.heap.size w w0 := Kp.toBelow (hb1.alloc (by rw [hs1]; omega) _) hk0 (by omega)
      have hb3 : Below w.heap.size w w3 := Kp.toBelow hb2 hk3 (by rw [hs1]; omega)
      rw [hs1] at hk3
      obtain ⟨hX, hxl, hlay, hfl, hpl⟩ := hPX
      have hvb3 := hvb.kp hk3 (by omega)
      have hX3 := hX.kp hk3 (by omega)
      have hfl3 := hfl.kp hk3 (fun e => by have := hpl _ e; omega)
      have hb4 : Below w3.heap.size w3 (w3.alloc (.cells #[.int .i64 0, .int .i64 0] 40)) := (Below.refl _ _).alloc (Nat.le_refl _) _
      have G4 := Blk.new w3 #[.int .i64 0, .int .i64 0] 40
      have g40 : (w3.alloc (.cells #[.int .i64 0, .int .i64 0] 40)).cell? ⟨w3.heap.size, 0, none⟩ = some (.int .i64 0) := G4.cell 0 rfl
      have g41 : (w3.alloc (.cells #[.int .i64 0, .int .i64 0] 40)).cell? ⟨w3.heap.size, 1, none⟩ = some (.int .i64 0) := G4.cell 1 rfl
      have v4 : (w3.alloc (.cells #[.int .i64 0, .int .i64 0] 40)).cell? ⟨w.heap.size + 1, 0, none⟩ = some (.pointer (some ⟨xb, 0, none⟩)) := (hvb3.below hb4).cell 0 rfl
      have hb5 := hb3.trans (hb4.mono hb3.size)
      by_cases hat : at_ < 0 ∨ (s.size : Int) < at_
      · have key : decide (at_ < 0) = true ∨ (decide (at_ < 0) = false ∧ decide ((s.size : Int) < at_) = true) := by
          by_cases h : at_ < 0
          · left; simp [h]
          · right; constructor <;> simp <;> omega
        have HZ := hide (And.intro hb5 (And.intro hgood (And.intro hat hlen)))
        clear hb1 hb2 hb3 hb4 hb5 hk0 hk3 hvb hvb3 hX hX3 hfl hfl3 hlay hpl hgood hat G4 HL hlen hs1 hxl
        rcases key with a1 | ⟨a1, a2⟩
        all_goals
          go_wp2_with fail
          refine bodyPost_ret (results_tmp3 rfl _ _ _) rfl ?_
          obtain ⟨hb5, hgood, hat, hlen⟩ := HZ.out
          exact ⟨hb5, _, 5, 0, rfl, .inr (.inr (.inl ⟨hlen, hgood, hat, rfl, rfl, rfl⟩))⟩
      · have a1 : decide (at_ < 0) = false := by simp; omega
        have a2 : decide ((s.size : Int) < at_) = false := by simp; omega
        obtain ⟨n, rfl⟩ : ∃ n : Nat, at_ = n := ⟨at_.toNat, by omega⟩
        have a3 : decide (s.size < n) = false := by simp at a2 ⊢; omega
        have hns : n ≤ s.size := by omega
        have hnm := newMatcher_any xb (w3.alloc (.cells #[.int .i64 0, .int .i64 0] 40))
        have HZ := hide (And.intro hb5 (And.intro hgood (And.intro hat (And.intro (hX3.below hb4) (And.intro (hfl3.alloc (.cells #[.int .i64 0, .int .i64 0] 40)) (And.intro hlay (And.intro hpl hxl)))))))
        clear hb1 hb2 hb3 hb4 hb5 hk0 hk3 hvb hvb3 hX hX3 hfl hfl3 hlay hpl hgood hat G4 hs1 hxl HL
        go_wp2_with fail
        refine hnm.mono ?_
        rintro r w5 ⟨rfl, hw5⟩
        clear hnm
        obtain ⟨hb5, hgood, hat, hX4, hfl4, hlay, hpl, hxl⟩ := HZ.out
        obtain ⟨hwf, hg9, hmms, hnod⟩ := ex_facts e he hgood.1
        have hs4 : w3.heap.size + 1 ≤ (w3.alloc (.cells #[.int .i64 0, .int .i64 0] 40)).heap.size := by simp
        generalize hw4 : w3.alloc (.cells #[.int .i64 0, .int .i64 0] 40) = w4 at *
        let C : MC := ⟨s, qs, w4.heap.size + 1, xb, w4.heap.size, pv, (exS e).1⟩
        have hok : C.Ok := ⟨by show s.size ≤ 60000; omega, by show qs.length ≤ 1048576; have := layL_nodes _ _ _ hlay; omega⟩
        have hxlt : xb < w4.heap.size := hX4.lt
        have hb6 : Below w4.heap.size w4 w5 := by rw [hw5]; exact ((Below.refl _ _).alloc (Nat.le_refl _) _).alloc (by simp) _
        have hAt : AtW C (firstIx 0 (exS e).1.parts) (exS e).1.parts := ⟨⟨0, qs, [], rfl, by simp [C], hlay⟩, WFs.mono hg9 _ hwf, hmms⟩
        have hcall := from_any C hok hwf hg9 hAt n hns w5 (by rw [hw5]; exact Blk.newAt (by simp [C])) (hX4.below hb6) (flatAgree hfl4 fun k e2 => hb6.block k (hfl4.lt k e2)) (by rw [hw5]; exact (Below.heap_alloc _ _ _ (by simp [C])).trans (heap_alloc_new w4 _)) (by show xb ≠ w4.heap.size + 1; omega) (fun e2 => by have := hfl4.lt _ e2; simp only [C] at this; omega) (HT.out.below (hb5.trans (hb6.mono hb5.size))) (by show w4.heap.size + 1 ≠ 0; omega)
        have HY := hide (And.intro hb5 (And.intro hgood hb6))
        clear hX4 hfl4 hlay hwf hmms hnod hAt hgood hat
        have hs5 : (w4.heap.size + 2) ≤ w5.heap.size := by rw [hw5]; simp
        clear hw5
        go_wp2_with fail
        refine hcall.mono ?_
        rintro r w6 ⟨v, rfl, hk6, hv⟩
        clear hcall
        go_wp2_with fail
        refine bodyPost_ret (results_tmp3 rfl _ _ _) rfl ?_
        obtain ⟨hb5, hgood, hb6⟩ := HY.out
        have hle := hb5.size
        have hb7 : Below w.heap.size w w6 := (hb5.trans (hb6.mono hle)).trans ⟨hk6.os, hk6.tape, hk6.output, hk6.size, fun k hk => hk6.block k (by omega) (by show k ≠ w4.heap.size + 1; omega) (fun e => by have : k = w4.heap.size := Option.some.inj e; omega)⟩
        refine ⟨hb7, v, 0, 0, rfl, .inr (.inr (.inr ⟨hlen, hgood, by omega, by omega, rfl, rfl, ?_⟩))⟩
        rw [Int.toNat_natCast]
        rcases hv with h1 | ⟨p, q, ss, h1, h2, h3, h4, h5, h6, h7, h8⟩
        · exact .inl h1
        · exact .inr ⟨p, q, ss, h1, h2, h3, h4, h5, h6, h7, fun k e2 => by have := h8 k e2; omega⟩
    · obtain ⟨hlen, hb1, hs1⟩ := HL.out
      have hb2 : Below w.heap.size w w0 := Kp.toBelow (hb1.alloc (by rw [hs1]; omega) _) hk0 (by omega)
      have hb3 : Below w.heap.size w w3 := Kp.toBelow hb2 hk3 (by rw [hs1]; omega)
      have hb4 : Below w3.heap.size w3 (w3.alloc (.cells #[.int .i64 2, .int .i64 ((exS e).2.i : Nat)] 40)) := (Below.refl _ _).alloc (Nat.le_refl _) _
      have G4 := Blk.new w3 #[.int .i64 2, .int .i64 ((exS e).2.i : Nat)] 40
      have g40 : (w3.alloc (.cells #[.int .i64 2, .int .i64 ((exS e).2.i : Nat)] 40)).cell? ⟨w3.heap.size, 0, none⟩ = some (.int .i64 2) := G4.cell 0 rfl
      have g41 : (w3.alloc (.cells #[.int .i64 2, .int .i64 ((exS e).2.i : Nat)] 40)).cell? ⟨w3.heap.size, 1, none⟩ = some (.int .i64 ((exS e).2.i : Nat)) := G4.cell 1 rfl
      have hb5 := hb3.trans (hb4.mono hb3.size)
      have HZ := hide (And.intro hb5 (And.intro hbad hlen))
      clear hk0 hbad hk3 hb1 hb2 hb3 hb4 hb5 G4 HL hlen hs1
      go_wp2_with fail
      go_region
      all_goals go_wp2_with fail
      all_goals
        refine bodyPost_ret (results_tmp3 rfl _ _ _) rfl ?_
        obtain ⟨hb5, hbad, hlen⟩ := HZ.out
        exact ⟨hb5.drew, _, 2, _, rfl, .inr (.inl ⟨hlen, hbad, rfl, rfl, rfl⟩)⟩
end Go.Proofs.YtpnecblofjpgfaaGreatDoor

namespace Go.Proofs.YtpnecblofjpgfaaGreatDoor
open Go.RowKit Go.Shelf

/-- Each group's span lies within, or is none. -/
def Pairs (lo hi : Nat) (ss : List Int) : Prop := ∀ k : Nat, 1 ≤ k → (ss.getD (2 * k) 0 = -1 ∧ ss.getD (2 * k + 1) 0 = -1) ∨ ((lo : Int) ≤ ss.getD (2 * k) 0 ∧ ss.getD (2 * k) 0 ≤ ss.getD (2 * k + 1) 0 ∧ ss.getD (2 * k + 1) 0 ≤ hi) ∨ ss.length ≤ 2 * k + 1

theorem getD_set (ss : List Int) (i j : Nat) (v : Int) : (ss.set i v).getD j 0 = if i = j ∧ j < ss.length then v else ss.getD j 0 := by
  rw [List.getD_eq_getElem?_getD, List.getD_eq_getElem?_getD, List.getElem?_set]
  by_cases h : i = j
  · subst h
    by_cases hl : i < ss.length
    · simp [hl]
    · simp [hl]
  · simp [h]

theorem LoopR.lo {s : ByteArray} {x : Part} {e n p l n' l' : Nat} (h : LoopR s x e n p l n' l') : p ≤ s.size → l ≤ p → l ≤ l' := fun h1 h2 => (h.ge h1 h2).1

mutual
theorem spanR_ok (s : ByteArray) (G lo hi : Nat) (hh : hi ≤ s.size) : ∀ (ps : List Part) (p e : Nat) (ss ss' : List Int), WFs G ps → lo ≤ p → p ≤ e → e ≤ hi → SeqR s ps p e → Pairs lo hi ss → SpanR s ps p e ss ss' → Pairs lo hi ss' ∧ ss'.length = ss.length ∧ ss'.getD 0 0 = ss.getD 0 0 ∧ ss'.getD 1 0 = ss.getD 1 0
  | [], p, e, ss, ss', _, _, _, _, _, hP, h => by
    simp only [SpanR] at h
    subst h
    exact ⟨hP, rfl, rfl, rfl⟩
  | x :: xs, p, e, ss, ss', hw, h1, h2, h3, hs, hP, h => by
    simp only [SpanR] at h
    simp only [WFs] at hw
    obtain ⟨m, ss1, hb, hc, hr⟩ := h
    have b1 := Copies.bound (N := s.size) (fun p q hp ha => AtomR.bound s x p q hp ha) hb.1.1 (by omega)
    have b2 := SeqR.bound s xs m e b1.2 hb.1.2
    obtain ⟨c1, c2, c3, c4⟩ := spanC_ok s G lo hi hh x p m ss ss1 hw.1 h1 b1.1 (by omega) hP hc
    obtain ⟨d1, d2, d3, d4⟩ := spanR_ok s G lo hi hh xs m e ss1 ss' hw.2 (by omega) b2.1 h3 hb.1.2 c1 hr
    exact ⟨d1, d2.trans c2, d3.trans c3, d4.trans c4⟩
theorem spanC_ok (s : ByteArray) (G lo hi : Nat) (hh : hi ≤ s.size) : ∀ (x : Part) (p e : Nat) (ss ss' : List Int), WF G x → lo ≤ p → p ≤ e → e ≤ hi → Pairs lo hi ss → SpanC s x p e ss ss' → Pairs lo hi ss' ∧ ss'.length = ss.length ∧ ss'.getD 0 0 = ss.getD 0 0 ∧ ss'.getD 1 0 = ss.getD 1 0
  | .mk g kids neg ps mn mx, p, e, ss, ss', hw, h1, h2, h3, hP, h => by
    simp only [SpanC] at h
    simp only [WF] at hw
    split at h
    · subst h
      exact ⟨hP, rfl, rfl, rfl⟩
    · next hg =>
      obtain ⟨n, l, hl, h⟩ := h
      split at h
      · subst h
        exact ⟨hP, rfl, rfl, rfl⟩
      · next hn =>
        have hlo := hl.lo (by omega) (Nat.le_refl _)
        have hat : AtomR s (.mk g kids neg ps mn mx) l e := by
          rcases hl.last with ⟨h0, _⟩ | ⟨_, h4⟩
          · omega
          · exact h4
        have hsz := (hl.ge (by omega) (Nat.le_refl _)).2
        have hb := AtomR.bound s _ l e hsz hat
        have hseq : SeqR s kids l e := (atomR_group (x := .mk g kids neg ps mn mx) (by simpa [Part.g] using hg) l e).1 hat
        have hP2 : Pairs lo hi ((ss.set (2 * g) l).set (2 * g + 1) e) := by
          intro k hk
          simp only [List.length_set]
          rw [getD_set, getD_set, getD_set, getD_set, List.length_set]
          by_cases hkg : k = g
          · subst hkg
            by_cases hlen : 2 * k + 1 < ss.length
            · right; left
              rw [if_neg (by omega), if_pos ⟨rfl, by omega⟩, if_pos ⟨rfl, hlen⟩]
              omega
            · right; right; omega
          · rw [if_neg (by omega), if_neg (by omega), if_neg (by omega), if_neg (by omega)]
            exact hP k hk
        obtain ⟨d1, d2, d3, d4⟩ := spanR_ok s G lo hi hh kids l e _ ss' hw.2.2.2.2.2.2.2 (by omega) hb.1 h3 hseq hP2 h
        refine ⟨d1, by rw [d2, List.length_set, List.length_set], ?_, ?_⟩
        · rw [d3, getD_set, getD_set, if_neg (by omega), if_neg (by omega)]
        · rw [d4, getD_set, getD_set, if_neg (by omega), if_neg (by omega)]
end

theorem pairs_span0 (lo hi p q g : Nat) : Pairs lo hi (span0 p q g) := by
  intro k hk
  by_cases hl : 2 * k + 1 < 2 * g + 2
  · left
    unfold span0
    constructor
    · rw [show 2 * k = (2 * k - 2) + 1 + 1 from by omega]
      simp only [List.getD_cons_succ]
      rw [List.getD_eq_getElem?_getD, List.getElem?_replicate, if_pos (by omega)]; rfl
    · rw [show 2 * k + 1 = (2 * k - 1) + 1 + 1 from by omega]
      simp only [List.getD_cons_succ]
      rw [List.getD_eq_getElem?_getD, List.getElem?_replicate, if_pos (by omega)]; rfl
  · right; right
    rw [span0_len]; omega
end Go.Proofs.YtpnecblofjpgfaaGreatDoor
