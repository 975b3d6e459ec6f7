import Derived.Test.YtjlgccfibkcgbaaProZN
namespace Go.Proofs.Ytjlgccfibkcgbaa
open Go.RowKit Go.Shelf

set_option maxRecDepth 100000 in
set_option maxHeartbeats 1000000 in
theorem spanList_any (C : MC) (ok : C.Ok) (Gm : Nat) (ps : List Part) (ih : ∀ x, x ∈ ps → SpanCC C Gm x) : SpanLC C Gm ps := by
  intro i p e sv sb ss w D hA hW hlen hp he hs h hI hsb hu
  have hfew := ok.few
  have hsm := ok.small
  have hsl : sb < w.heap.size := by
    rcases hI.2 with ⟨h1, h2⟩ | ⟨g', cap', cur, h1, _, hg', _⟩
    · rw [h1] at hsb; cases hsb
    · rw [h1] at hsb; cases hsb; exact (Array.getElem?_eq_some_iff.1 hg').1
  have HH := hide (And.intro h (And.intro hI (And.intro hA (And.intro hs (And.intro hu (And.intro hW ih))))))
  clear h hI hA hs hu hW ih
  go_enter Try.func35, Try.ntmps35
  go_wp2_with fail
  go_loopg [2, 3] ps.length (fun k iv bv w' => ∃ (i' : Int) (b : Nat) (qs : List Part) (ss1 : List Int) (D1 : DataW Value), iv = .int .i64 i' ∧ bv = .int .i64 (b : Nat) ∧ qs.length = k ∧ b ≤ C.s.size ∧ Hid (AtW C i' qs ∧ WFs Gm qs ∧ (∀ x, x ∈ qs → x ∈ ps) ∧ SeqR C.s qs b e ∧ ss1.length = ss.length ∧ Ints w' sv ss1 ∧ SpF C w D sb w' D1 ∧ ∀ ss', SpanR C.s qs b e ss1 ss' → SpanR C.s ps p e ss ss'))
  case atStart =>
    obtain ⟨h, hI, hA, hs, hu, hW, ih⟩ := HH.out
    exact ⟨i, p, ps, ss, D, rfl, rfl, rfl, hp, hA, hW, fun _ h => h, hs, rfl, hI, SpF.refl h sb, fun _ h => h⟩
  case round =>
    obtain ⟨i', b, qs, ss1, D1, rfl, rfl, hk, hbs, HR⟩ := hrel
    cases qs with
    | nil =>
      obtain rfl := HR.out.1.at_.nil
      go_wp2_with fail
      refine bodyPost_end (results_none rfl _ _ _) rfl ?_
      obtain ⟨r1, r2, r3, r4, r5, r6, r7, r8⟩ := HR.out
      exact ⟨ss1, D1, rfl, r8 ss1 (by simp only [SpanR]), r6, r5, r7⟩
    | cons x xs =>
      obtain ⟨j, P, rfl, hjl, hP, hAn, hAi⟩ := HR.out.1.cons
      have hms := HR.out.2.2.2.2.2.2.1.ms
      obtain ⟨g, cap, hpv, hgl, hcap⟩ := hms.parts hP.get
      have d0 : ((j : Int) == -1) = false := by rw [beq_eq_false_iff_ne]; omega
      have d0' : ¬ (j : Int) = -1 := by omega
      have hex : ∃ m, Copies (AtomR C.s x) x.mn x.mx 0 b m ∧ SeqR C.s xs m e := by
        have := HR.out.2.2.2.1
        simp only [SeqR] at this
        exact this
      have hcall := partEnd_any C ok x xs (j : Int) HR.out.1 b e hbs he hex wr D1 hms
      clear hms
      go_wp2_with fail
      refine hcall.mono ?_
      rintro r w1 ⟨m, D2, rfl, hbest, hm2, hs2⟩
      obtain ⟨r1, r2, r3, r4, r5, r6, r7, r8⟩ := HR.out
      have hmb := Copies.bound (N := C.s.size) (fun p q hp ha => AtomR.bound C.s x p q hp ha) hbest.1.1 hbs
      simp only [WFs] at r2
      have hI1 : Ints w1 sv ss1 := r6.agree (fun k ek => by
        rw [hsb] at ek
        cases ek
        exact hs2.kp.block sb (Nat.lt_of_lt_of_le hsl r7.kq.size) (fun em => HH.out.2.2.2.2.1 (.inr (.inr (.inl em)))))
      have hu1 : ¬ Used C D1 sb := r7.unused HH.out.2.2.2.2.1 hsl
      have hu2 : ¬ Used C D2 sb := hs2.unused hu1 (Nat.lt_of_lt_of_le hsl r7.kq.size)
      have hcall2 := HH.out.2.2.2.2.2.2 x (r3 x (List.mem_cons_self ..)) xs (j : Int) b m sv sb ss1 w1 D2 r1 r2.1 (by omega) hbs hmb.2 hbest.1.1 hm2 hI1 hsb hu2
      have HQ := hide (And.intro r2 (And.intro hbest (And.intro r7 (And.intro r8 (And.intro hs2 (And.intro hm2 (And.intro r3 r5)))))))
      clear r1 r2 r3 r4 r5 r6 r7 r8 hbest hs2 hm2 hI1 hu1 hu2 hcall
      go_wp2_with fail
      refine hcall2.mono ?_
      rintro r w2 ⟨ss2, D3, rfl, hS2, hI2, hl2, hF2⟩
      have m0 : w2.cell? ⟨C.mb, 0, none⟩ = some (.pointer (some ⟨C.xb, 0, none⟩)) := hF2.ms.m.cell 0 rfl
      have x2 : w2.cell? ⟨C.xb, 2, none⟩ = some (.slice (some ⟨g, 0, none⟩) C.all.length cap) := by rw [← hpv]; exact hF2.ms.x.cell 2 rfl
      have hfl := hF2.ms.flat
      rw [hpv] at hfl
      obtain ⟨-, -, -, -, -, -, p6, -, -⟩ := part_cells hfl hP.get
      clear hfl
      go_wp2_with fail
      go_roundg (gk - 1)
      case measure => simp at hk; omega
      obtain ⟨r2, hbest, r7, r8, hs2, hm2, r3, r5⟩ := HQ.out
      refine ⟨P.next, m, xs, ss2, D3, rfl, rfl, by simp at hk; omega, hmb.2, hAn, r2.2, fun y hy => r3 y (List.mem_cons_of_mem _ hy), hbest.1.2, by omega, hI2, (r7.trans (SpF.of_step hm2 hs2 sb)).trans hF2, fun ss' hs' => r8 ss' ?_⟩
      simp only [SpanR]
      exact ⟨m, ss2, hbest, hS2, hs'⟩

mutual
theorem span_kids (C : MC) (ok : C.Ok) (Gm : Nat) (hGm : Gm ≤ 9) : ∀ x : Part, SpanCC C Gm x
  | .mk g kids neg ps mn mx => spanCopies_any C ok Gm hGm (.mk g kids neg ps mn mx) (spanList_any C ok Gm kids (fun x hx => span_each C ok Gm hGm kids x hx))
theorem span_each (C : MC) (ok : C.Ok) (Gm : Nat) (hGm : Gm ≤ 9) : ∀ (ps : List Part) (x : Part), x ∈ ps → SpanCC C Gm x
  | [], x, h => by cases h
  | y :: ys, x, h => by
    rcases List.mem_cons.1 h with hxy | h
    · rw [hxy]; exact span_kids C ok Gm hGm y
    · exact span_each C ok Gm hGm ys x h
end
theorem span_list (C : MC) (ok : C.Ok) (Gm : Nat) (hGm : Gm ≤ 9) (ps : List Part) : SpanLC C Gm ps := spanList_any C ok Gm ps (span_each C ok Gm hGm ps)
end Go.Proofs.Ytjlgccfibkcgbaa

namespace Go.Proofs.Ytjlgccfibkcgbaa
open Go.RowKit Go.Shelf

/-- The spans before any group is known. -/
def span0 (p q g : Nat) : List Int := (p : Int) :: (q : Int) :: List.replicate (2 * g) (-1)

/-- What best answers. -/
def BestPost (C : MC) (w : World) (D : DataW Value) (p : Nat) (r : Ending) (w' : World) : Prop :=
  ∃ v D', r = .returned v ∧ MS C w' D' ∧ Step C w D w' D' ∧ ((v = .slice none 0 0 ∧ ∀ q, ¬ CanR C.x C.s p q) ∨ ∃ (q : Nat) (ss : List Int), CanR C.x C.s p q ∧ (∀ q' : Nat, CanR C.x C.s p q' → q' ≤ q) ∧ SpanR C.s C.x.parts p q (span0 p q C.x.groups) ss ∧ Ints w' v ss ∧ ss.length = 2 * C.x.groups + 2 ∧ ∀ k, v.ownBlock = some k → w.heap.size ≤ k)

theorem lastV_none {G : Nat → Bool} {n : Nat} (h : ∀ q, G q = true → q < n) : lastV G n = -1 ↔ ∀ q, G q = false := by
  unfold lastV
  cases hd : down G n with
  | nil =>
    simp only [true_iff]
    intro q
    cases hq : G q
    · rfl
    · have := (mem_down G n q).2 ⟨h q hq, hq⟩
      rw [hd] at this; cases this
  | cons a l =>
    constructor
    · intro h; simp only [] at h; omega
    · intro hz
      have := (mem_down G n a).1 (by rw [hd]; simp)
      rw [hz a] at this
      cases this.2
theorem lastV_some {G : Nat → Bool} {n q : Nat} (h : ∀ q, G q = true → q < n) (hq : lastV G n = (q : Int)) : G q = true ∧ ∀ q', G q' = true → q' ≤ q := by
  unfold lastV at hq
  cases hd : down G n with
  | nil => rw [hd] at hq; simp only [] at hq; omega
  | cons a l =>
    rw [hd] at hq
    simp only [] at hq
    obtain rfl : a = q := by omega
    refine ⟨((mem_down G n a).1 (by rw [hd]; simp)).2, fun q' hq' => ?_⟩
    have hm := (mem_down G n q').2 ⟨h q' hq', hq'⟩
    have hs := down_sorted G n
    rw [hd] at hm hs
    rcases List.mem_cons.1 hm with rfl | hm
    · exact Nat.le_refl _
    · have := (List.pairwise_cons.1 hs).1 q' hm; omega
theorem lastV_form (G : Nat → Bool) (n : Nat) : lastV G n = -1 ∨ ∃ q : Nat, lastV G n = (q : Int) := by
  unfold lastV
  cases down G n with
  | nil => exact .inl rfl
  | cons a l => exact .inr ⟨a, rfl⟩

theorem info3 : (Try.prog.info? 3).map (fun i => (i.zero, i.size, i.bytes)) = some (some (.int .i64 0), 1, 8) := by kernel_rfl

theorem span0_more (p q t : Nat) : span0 p q t ++ [-1, -1] = span0 p q (t + 1) := by
  unfold span0
  rw [show 2 * (t + 1) = 2 * t + 2 from by omega, ← List.replicate_append_replicate]
  rfl
theorem span0_len (p q t : Nat) : (span0 p q t).length = 2 * t + 2 := by unfold span0; simp

theorem ints_two (w : World) (a b : Int) : Ints (w.alloc (.cells #[.int .i64 a, .int .i64 b] 3)) (.slice (some ⟨w.heap.size, 0, none⟩) 2 2) [a, b] :=
  ⟨rfl, .inr ⟨w.heap.size, 2, #[.int .i64 a, .int .i64 b], rfl, Nat.zero_le _, Blk.new w _ _, Nat.le_refl _, by unfold maxLen; omega, rfl, rfl⟩⟩

theorem SpF.toStep {C : MC} {w U : World} {D D' : DataW Value} {sb : Nat} (h : SpF C w D sb U D') {w0 : World} {D0 : DataW Value} (h0 : Step C w0 D0 w D) (hs : w0.heap.size ≤ sb) : Step C w0 D0 U D' :=
  ⟨⟨h.kq.os.trans h0.kp.os, h.kq.tape.trans h0.kp.tape, h.kq.output.trans h0.kp.output, Nat.le_trans h0.kp.size h.kq.size, fun k hk hn => (h.kq.block k (Nat.lt_of_lt_of_le hk h0.kp.size) hn (fun e => by cases e; omega)).trans (h0.kp.block k hk hn)⟩, fun k hr => by
    rcases h.rows k hr with e | e
    · exact h0.rows k e
    · exact .inr (Nat.le_trans h0.kp.size e)⟩

set_option maxRecDepth 100000 in
set_option maxHeartbeats 2000000 in
theorem best_any (C : MC) (ok : C.Ok) (hWG : WFs C.x.groups C.x.parts) (hG9 : C.x.groups ≤ 9) (hAt : AtW C (firstIx 0 C.x.parts) C.x.parts) (p : Nat) (hp : p ≤ C.s.size) (w : World) (D : DataW Value) (h : MS C w D) :
    Calls Try.prog 24 #[.pointer (some ⟨C.mb, 0, none⟩), .int .i64 (p : Nat)] w (BestPost C w D p) := by
  have hsm := ok.small
  have m0 : w.cell? ⟨C.mb, 0, none⟩ = some (.pointer (some ⟨C.xb, 0, none⟩)) := h.m.cell 0 rfl
  have x0 : w.cell? ⟨C.xb, 0, none⟩ = some (.bool C.x.first) := h.x.cell 0 rfl
  have x3 : w.cell? ⟨C.xb, 3, none⟩ = some (.int .i64 (firstIx 0 C.x.parts)) := h.x.cell 3 rfl
  by_cases hbeg : C.x.first = true ∧ 0 < p
  · have d1 : decide (0 < p) = true := by simp [hbeg.2]
    rw [hbeg.1] at x0
    have HH := hide (And.intro h hbeg)
    clear h hbeg hAt hWG
    go_enter Try.func24, Try.ntmps24
    go_wp2_with fail
    go_ret
    obtain ⟨h, hbeg⟩ := HH.out
    refine ⟨_, D, rfl, h, Step.refl _ _ _, .inl ⟨rfl, fun q hc => ?_⟩⟩
    have := hc.2.2.2.1 hbeg.1
    omega
  · have hcall := list_all C ok C.x.parts (firstIx 0 C.x.parts) p w D hAt hp h
    have HH := hide (And.intro h (And.intro hbeg (And.intro hAt hWG)))
    clear h hAt hWG
    have key : (C.x.first = true ∧ decide (0 < p) = false) ∨ C.x.first = false := by
      cases hf : C.x.first
      · exact .inr rfl
      · refine .inl ⟨rfl, ?_⟩
        by_cases h0 : 0 < p
        · exact absurd ⟨hf, h0⟩ hbeg
        · simp [h0]
    clear hbeg
    rcases key with ⟨k1, k2⟩ | k1
    all_goals
      rw [k1] at x0
      go_enter Try.func24, Try.ntmps24
      go_wp2_with fail
      refine hcall.mono ?_
      rintro r w1 ⟨v1, G1, D1, rfl, hv1, hG1, hm1, hst1, hrow1⟩
      clear hcall
      obtain ⟨ws, u1, u2, u3⟩ := hv1
      have hlast := last_any v1 ws G1 u2 (by unfold MC.L at u3; omega) w1 u1
      have hlt : ∀ q, G1 q = true → q < 64 * ws.length := fun q hq => holdsP_lt u2 hq
      go_wp2_with fail
      refine hlast.mono ?_
      rintro r w2 ⟨rfl, hb2⟩
      clear hlast
      have hm2 := hm1.below hb2
      have hst2 : Step C w D w2 D1 := hst1.trans (Step.below hb2)
      have m0' : w2.cell? ⟨C.mb, 0, none⟩ = some (.pointer (some ⟨C.xb, 0, none⟩)) := hm2.m.cell 0 rfl
      have m1' : w2.cell? ⟨C.mb, 1, none⟩ = some (.string C.s) := hm2.m.cell 1 rfl
      have x1' : w2.cell? ⟨C.xb, 1, none⟩ = some (.bool C.x.last) := hm2.x.cell 1 rfl
      have x3' : w2.cell? ⟨C.xb, 3, none⟩ = some (.int .i64 (firstIx 0 C.x.parts)) := hm2.x.cell 3 rfl
      have x4' : w2.cell? ⟨C.xb, 4, none⟩ = some (.int .i64 C.x.groups) := hm2.x.cell 4 rfl
      rcases lastV_form G1 (64 * ws.length) with hl | ⟨q, hl⟩
      · have HZ := hide (And.intro hm2 (And.intro hst2 (And.intro hG1 (And.intro hl hlt))))
        rw [hl]
        clear hm2 hst2 hG1 hl hlt hm1 hst1 hrow1 u1 u2 u3 hb2
        go_wp2_with fail
        go_ret
        obtain ⟨hm2, hst2, hG1, hl, hlt⟩ := HZ.out
        refine ⟨_, D1, rfl, hm2, hst2, .inl ⟨rfl, fun q hc => ?_⟩⟩
        have h1 := (hG1 q.toNat).2 (by have := hc.2.2.2.2.2; rw [Int.toNat_natCast] at this; exact this)
        rw [(lastV_none hlt).1 hl q.toNat] at h1
        cases h1
      · rw [hl]
        obtain ⟨hgq, hgm⟩ := lastV_some hlt hl
        have hseq := (hG1 q).1 hgq
        have hbq := SeqR.bound C.s C.x.parts p q hp hseq
        have hmax : ∀ q' : Nat, SeqR C.s C.x.parts p q' → q' ≤ q := fun q' h => hgm q' ((hG1 q').2 h)
        have HZ := hide (And.intro hm2 (And.intro hst2 (And.intro hseq hmax)))
        clear hm2 hst2 hG1 hl hlt hm1 hst1 hrow1 u1 u2 u3 hb2 hgq hgm hseq hmax
        by_cases hend : C.x.last = true ∧ q < C.s.size
        · have d2 : decide (q < C.s.size) = true := by simp [hend.2]
          rw [hend.1] at x1'
          have HE := hide hend
          clear hend
          go_wp2_with fail
          go_ret
          obtain ⟨hm2, hst2, hseq, hmax⟩ := HZ.out
          refine ⟨_, D1, rfl, hm2, hst2, .inl ⟨rfl, fun q' hc => ?_⟩⟩
          have h1 := hmax q'.toNat (by have := hc.2.2.2.2.2; rw [Int.toNat_natCast] at this; exact this)
          have h2 := hc.2.2.2.2.1 HE.out.1
          have h3 := hc.2.1
          have h4 := HE.out.2
          omega
        · have key2 : (C.x.last = true ∧ decide (q < C.s.size) = false) ∨ C.x.last = false := by
            cases hf : C.x.last
            · exact .inr rfl
            · refine .inl ⟨rfl, ?_⟩
              by_cases h0 : q < C.s.size
              · exact absurd ⟨hf, h0⟩ hend
              · simp [h0]
          have HE := hide hend
          clear hend
          have hb3 : Below w2.heap.size w2 (w2.alloc (.cells #[.int .i64 (p : Nat), .int .i64 (q : Nat)] 3)) := (Below.refl _ _).alloc (Nat.le_refl _) _
          have hm3 := HZ.out.1.below hb3
          have m0'' : (w2.alloc (.cells #[.int .i64 (p : Nat), .int .i64 (q : Nat)] 3)).cell? ⟨C.mb, 0, none⟩ = some (.pointer (some ⟨C.xb, 0, none⟩)) := hm3.m.cell 0 rfl
          have x4'' : (w2.alloc (.cells #[.int .i64 (p : Nat), .int .i64 (q : Nat)] 3)).cell? ⟨C.xb, 4, none⟩ = some (.int .i64 C.x.groups) := hm3.x.cell 4 rfl
          clear hm3 hb3
          rcases key2 with ⟨l1, l2⟩ | l1
          all_goals
            rw [l1] at x1'
            go_wp2_with fail
            obtain ⟨i0, hi, hz0, hz1, hz2⟩ := info_parts info3
            have HI := hide (And.intro hi (And.intro hz0 (And.intro hz1 hz2)))
            clear hi hz0 hz1 hz2
            go_loopg [6, 59] C.x.groups (fun k sv iv w' => ∃ (t : Nat) (pa : Option Addr) (cap : Nat), sv = .slice pa (2 * t + 2) cap ∧ iv = .int .i64 (t : Nat) ∧ t + k = C.x.groups ∧ Hid (Ints w' (.slice pa (2 * t + 2) cap) (span0 p q t) ∧ Below w2.heap.size w2 w' ∧ ∀ k, (Value.slice pa (2 * t + 2) cap).ownBlock = some k → w2.heap.size ≤ k))
            case atStart =>
              refine ⟨0, _, _, rfl, rfl, by omega, ?_, (Below.refl _ _).alloc (Nat.le_refl _) _, fun k e => by cases e; exact Nat.le_refl _⟩
              exact ints_two w2 _ _
            case round =>
              obtain ⟨t, pa, cap, rfl, rfl, htk, HR⟩ := hrel
              by_cases ht : t < C.x.groups
              · have d5 : decide ((t : Int) < (C.x.groups : Int)) = true := by simp; omega
                have f1 : (wr.alloc (.cells #[.int .i64 (-1), .int .i64 (-1)] 3)).ownsRow 0 3 1 (.slice pa (2 * t + 2) cap) (2 * t + 2) ((span0 p q t).map fun x => Value.int .i64 x) := by
                  have := HR.out.1
                  unfold Ints at this
                  rw [span0_len] at this
                  exact this.alloc _
                have hbytes : (2 * t + 2 + 2) * 8 ≤ 140737488355328 := by omega
                have hml : 2 * t + 2 + 2 ≤ maxLen := by unfold maxLen; omega
                go_wp2_with (at_builtin; refine wpList_append_lies _ rfl _ _ 22 rfl 0 3 i0 (.int .i64 0) 1 8 Try.underlying22 HI.out.1 HI.out.2.1 HI.out.2.2.1 HI.out.2.2.2 rfl (by decide) (.slice pa (2 * t + 2) cap) (2 * t + 2) ((span0 p q t).map fun x => Value.int .i64 x) rfl f1 ⟨wr.heap.size, 0, none⟩ 2 2 [.int .i64 (-1), .int .i64 (-1)] rfl rfl (blk_news (Blk.newAt rfl)) (by intro u hu; simp at hu; subst hu; rfl) (by decide) hml hbytes (Nat.zero_le _) (wr.heap.size + 1) (by simp) ?_; intro g1 cap1 w4 hown1 hgrow1 hat1 hlt1)
                go_roundg (gk - 1)
                case measure => omega
                obtain ⟨h1, h2, h3⟩ := HR.out
                have hle := h2.size
                refine ⟨t + 1, some ⟨g1, 0, none⟩, cap1, rfl, by go_num, by omega, ?_, ?_, fun k e => ?_⟩
                · unfold Ints
                  rw [← span0_more, List.map_append, List.length_append, span0_len]
                  exact hown1
                · exact (h2.alloc hle _).grown hgrow1 (by simp; omega) h3
                · cases e
                  show w2.heap.size ≤ g1
                  rcases hat1 with e | e
                  · exact h3 _ e
                  · omega
              · have d5 : decide ((t : Int) < (C.x.groups : Int)) = false := by simp; omega
                obtain rfl : t = C.x.groups := by omega
                obtain ⟨h1, h2, h3⟩ := HR.out
                obtain ⟨hm2, hst2, hseq, hmax⟩ := HZ.out
                obtain ⟨h, hbeg, hAt, hWG⟩ := HH.out
                have hms := hm2.below h2
                obtain ⟨sb, cap9, hsv, hsl, hsc⟩ := h1.lay (by rw [span0_len]; omega)
                have hsb : (Value.slice pa (2 * C.x.groups + 2) cap).ownBlock = some sb := by rw [hsv]; rfl
                have hge := h3 sb hsb
                have hcall := span_list C ok C.x.groups hG9 C.x.parts (firstIx 0 C.x.parts) p q _ sb _ wr D1 hAt hWG (by rw [span0_len]; omega) hp hbq.2 hseq hms h1 hsb (hm2.fresh hge)
                have y0 : wr.cell? ⟨C.mb, 0, none⟩ = some (.pointer (some ⟨C.xb, 0, none⟩)) := hms.m.cell 0 rfl
                have y3 : wr.cell? ⟨C.xb, 3, none⟩ = some (.int .i64 (firstIx 0 C.x.parts)) := hms.x.cell 3 rfl
                have HY := hide (And.intro hge (And.intro hst2 (And.intro hseq (And.intro hmax (And.intro h2 (And.intro hsb hbeg))))))
                clear h1 h2 h3 hm2 hst2 hseq hmax h hbeg hAt hWG hms hsv hsl hsc hge hsb
                go_wp2_with fail
                refine hcall.mono ?_
                rintro r w9 ⟨ss, D9, rfl, hS9, hI9, hl9, hF9⟩
                clear hcall
                go_wp2_with fail
                go_ret
                obtain ⟨hge, hst2, hseq, hmax, h2, hsb, hbeg⟩ := HY.out
                have hsz := hst2.kp.size
                refine ⟨_, D9, rfl, hF9.ms, hF9.toStep (hst2.trans (Step.below h2)) (by omega), .inr ⟨q, ss, ⟨by omega, by omega, by omega, fun hf => ?_, fun hl => ?_, ?_⟩, fun q' hc => ?_, hS9, hI9, by rw [hl9, span0_len], fun k e => ?_⟩⟩
                · by_cases h0 : 0 < p
                  · exact absurd ⟨hf, h0⟩ hbeg
                  · omega
                · intro h0
                  exact HE.out ⟨hl, by omega⟩
                · rw [Int.toNat_natCast, Int.toNat_natCast]; exact hseq
                · have := hc.2.2.2.2.2
                  rw [Int.toNat_natCast, Int.toNat_natCast] at this
                  exact hmax q' this
                · have e2 : some k = some sb := by rw [← hsb]; exact e.symm
                  cases e2
                  omega
end Go.Proofs.Ytjlgccfibkcgbaa
