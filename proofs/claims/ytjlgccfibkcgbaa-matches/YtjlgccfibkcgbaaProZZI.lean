import Derived.Test.YtjlgccfibkcgbaaProZZD
namespace Go.Proofs.Ytjlgccfibkcgbaa
open Go.RowKit Go.Shelf

theorem icells_made (n : Nat) : madeCells #[.int .i64 0] n = ((List.replicate n (0 : Int)).map fun x => Value.int .i64 x).toArray := by
  apply Array.ext
  · simp [madeCells]
  · intro i h1 h2
    simp [madeCells, Nat.mod_one]

theorem make_ints (n : Nat) (h : n ≤ 1000) (w : World) : (Instr.makeSlice 22 (.int .i64 (n : Int)) (.int .i64 (n : Int))).run Try.prog w = .ok (.slice (some ⟨w.heap.size, 0, none⟩) n n) (w.alloc (.cells ((List.replicate n (0 : Int)).map fun x => Value.int .i64 x).toArray 3)) := by
  have := run_make_row' (P := Try.prog) 22 3 (.int .i64 0) 8 Try.underlying22 info3 rfl .i64 .i64 n (by omega) (by omega) w
  rw [icells_made] at this
  exact this

/-- What the reference's best answers. -/
def BestC (x : Ex) (s : ByteArray) (w : World) (p : Nat) (r : Ending) (w' : World) : Prop :=
  Below w.heap.size w w' ∧ ((r = .returned (.tuple #[.int .i64 0, .slice none 0 0, .bool false]) ∧ ∀ q, ¬ CanR x s p q) ∨
    ∃ (q sb : Nat) (ss : List Int), r = .returned (.tuple #[.int .i64 q, .slice (some ⟨sb, 0, none⟩) (2 * x.groups) (2 * x.groups), .bool true]) ∧ CanR x s p q ∧ (∀ q' : Nat, CanR x s p q' → q' ≤ q) ∧
      RSeq s x.parts p q (clearS x.parts ((p : Int) :: (q : Int) :: List.replicate (2 * x.groups) 0)) ss ∧ Blk w' sb ((ss.drop 2).map fun x => Value.int .i64 x).toArray 3 ∧ ss.length = 2 * x.groups + 2 ∧ w.heap.size ≤ sb)

set_option maxRecDepth 100000 in
set_option maxHeartbeats 3200000 in
theorem rbest_any (s : ByteArray) (hs : s.size ≤ 1048576) (x : Ex) (hx : ExWF x) (v : Value) (p : Nat) (hp : p ≤ s.size) (w : World) (hv : ExV w x v) :
    Calls Try.prog 25 #[v, .string s, .int .i64 p] w (BestC x s w p) := by
  have IH := hide (seqC_all s hs x.groups x.parts hx.wf hx.len)
  have hG9 := hx.nine
  obtain ⟨fi, la, parts, gr⟩ := x
  obtain ⟨ka, kl, kc, xs, rfl, hRow, hKR⟩ := hv
  dsimp only at hRow hKR IH hG9
  have hB := Blk.new w #[.bool fi, .bool la, .slice ka kl kc, .int .i64 gr] 33
  obtain ⟨c0, c1, c2, c3, cf⟩ := hB.four
  have hb0 : Below w.heap.size w (w.alloc (.cells #[.bool fi, .bool la, .slice ka kl kc, .int .i64 gr] 33)) := (Below.refl _ _).alloc (Nat.le_refl _) _
  have HK := hide (And.intro hRow (And.intro hKR (And.intro hb0 (And.intro hB hx))))
  clear hRow hKR hx hb0 hB
  by_cases hf : fi = true ∧ 0 < p
  · obtain ⟨rfl, hp0⟩ := hf
    have hp1 : (0 : Int) < p := by omega
    go_enter Try.func25, Try.ntmps25
    go_wp2_with fail
    refine bodyPost_ret (results_tmp3 rfl _ _ _) rfl ?_
    exact ⟨HK.out.2.2.1, .inl ⟨rfl, fun q h => by have := h.2.2.2.1 rfl; omega⟩⟩
  · have key : fi = false ∨ (fi = true ∧ p = 0) := by
      cases fi
      · exact .inl rfl
      · exact .inr ⟨rfl, by have : ¬ 0 < p := fun h => hf ⟨rfl, h⟩; omega⟩
    have HF : Hid (fi = true → (p : Int) ≤ 0) := by
      rcases key with h | ⟨_, h⟩
      · intro h2; rw [h] at h2; cases h2
      · intro _; omega
    clear hf
    go_enter Try.func25, Try.ntmps25
    go_upto_region 1 with fail
    go_cut [17] (fun b wc => b = .bool false ∧ wc = w.alloc (.cells #[.bool fi, .bool la, .slice ka kl kc, .int .i64 gr] 33))
    case first =>
      rcases key with rfl | ⟨rfl, rfl⟩
      · go_wp2_with fail
        go_meet
        case rel => exact ⟨by simp, rfl⟩
      · go_wp2_with fail
        go_meet
        case rel => exact ⟨by simp, rfl⟩
    case rest =>
      obtain ⟨rfl, rfl⟩ := hcut
      clear key
      go_wp2_with fail
      refine (IH.out _ ka kl kc xs 0 p (HK.out.1.below HK.out.2.2.1) (HK.out.2.1.below HK.out.2.2.1) (Nat.zero_le _) hp).mono ?_
      rintro e1 w1 ⟨gc, C, rfl, hBc, hgc, hC, hb1⟩
      rw [List.drop_zero] at hC
      have HC := hide hC
      have hBx1 := HK.out.2.2.2.1.below hb1
      have hbw : Below w.heap.size w w1 := HK.out.2.2.1.trans (hb1.mono (by simp))
      clear hC c0 c1 c2 c3 cf hb1
      have hgc2 : w.heap.size < gc := by simp at hgc; omega
      go_wp2_with fail
      go_loopg [10, 11] (s.size + 1) (fun k qq kk w' => ∃ q : Int, qq = .int .i64 q ∧ (p : Int) - 1 ≤ q ∧ q ≤ s.size ∧ q + 1 ≤ k ∧ Blk w' gc (bcells (s.size + 1) C) 4 ∧ Blk w' w.heap.size #[.bool fi, .bool la, .slice ka kl kc, .int .i64 gr] 33 ∧ Below w.heap.size w w' ∧ Hid (∀ m : Nat, q < m → ¬ CanR ⟨fi, la, parts, gr⟩ s p m))
      case atStart =>
        exact ⟨s.size, rfl, by omega, by omega, by omega, hBc, hBx1, hbw, fun m hm hR => by have := hR.2.2.1; omega⟩
      case round =>
        obtain ⟨q, rfl, hpq, hqs, hqk, hBc2, hBx2, hBel, HN⟩ := hrel
        clear hBc hBx1 hbw
        obtain ⟨c0, c1, c2, c3, cf⟩ := hBx2.four
        by_cases hqp : (p : Int) ≤ q
        · obtain ⟨qn, rfl⟩ := Int.eq_ofNat_of_zero_le (show 0 ≤ q by omega)
          have hql1 : qn < s.size + 1 := by omega
          have y1 := hBc2.cell qn (bcells_get hql1)
          go_upto_region 7 with fail
          go_cut [44] (fun b wc => b = .bool (C qn && (!la || decide (qn = s.size))) ∧ wc = wr)
          case first =>
            cases hCq : C qn
            · rw [hCq] at y1
              go_wp2_with fail
              go_meet
              case rel => exact ⟨by simp [hCq], rfl⟩
            · rw [hCq] at y1
              cases la
              · go_wp2_with fail
                go_meet
                case rel => exact ⟨by simp [hCq], rfl⟩
              · go_wp2_with fail
                go_meet
                case rel =>
                  refine ⟨?_, rfl⟩
                  rw [hCq]
                  simp only [Bool.true_and, Bool.not_true, Bool.false_or, Value.bool.injEq]
                  rw [Bool.eq_iff_iff]
                  simp
                  omega
          case rest =>
            obtain ⟨rfl, rfl⟩ := hcut
            cases ht : (C qn && (!la || decide (qn = s.size)))
            · have hnR : ¬ CanR ⟨fi, la, parts, gr⟩ s p qn := by
                rintro ⟨_, _, _, _, h5, h6⟩
                have hc := (HC.out qn (by omega)).2 h6
                rw [hc] at ht
                simp at ht
                have := h5 ht.1
                omega
              have HD : Hid (∀ m : Nat, (qn : Int) - 1 < m → ¬ CanR ⟨fi, la, parts, gr⟩ s p m) := fun m hm => by
                by_cases he : m = qn
                · subst he; exact hnR
                · exact HN.out m (by omega)
              clear ht hnR y1
              go_wp2_with fail
              go_roundg (gk - 1)
              case measure => omega
              case rel => exact ⟨(qn : Int) - 1, rfl, by omega, by omega, by omega, hBc2, hBx2, hBel, HD.out⟩
            · have HCan : Hid (CanR ⟨fi, la, parts, gr⟩ s p qn) := by
                simp at ht
                refine ⟨by omega, hqp, by omega, HF.out, fun h => ?_, (HC.out qn (by omega)).1 ht.1⟩
                rcases ht.2 with h2 | h2
                · dsimp only at h; rw [h2] at h; cases h
                · omega
              clear ht y1
              obtain ⟨n, hn⟩ : ∃ n : Nat, n = 2 * gr := ⟨_, rfl⟩
              have v1 : IntKind.i64.wrap (2 * (gr : Int)) = (n : Int) := (i64w _ (by omega)).trans (by omega)
              have hmk := make_ints n (by omega)
              have HBB := hide (And.intro hBx2 hBel)
              have hxl := hBx2.lt
              clear hBx2 hBel hBc2
              have hn0 := hide hn
              clear hn
              obtain ⟨W2, hW2⟩ : ∃ W2, W2 = (wc.alloc (.cells (Array.replicate n (.int .i64 0)) 3)).alloc (.cells #[.string s, .slice (some ⟨wc.heap.size, 0, none⟩) n n] 87) := ⟨_, rfl⟩
              obtain ⟨hBx2, hBel⟩ := HBB.out
              have hsz := hBel.size
              have hPk : PkC W2 (wc.heap.size + 1) wc.heap.size s n ((p : Int) :: (qn : Int) :: List.replicate n 0) := by
                rw [hW2]
                refine ⟨Blk.newAt (by simp), ?_, by simp, by omega⟩
                have := (Blk.new wc (Array.replicate n (.int .i64 0)) 3).alloc (.cells #[.string s, .slice (some ⟨wc.heap.size, 0, none⟩) n n] 87)
                simpa using this
              have hBel2 : Below w.heap.size w W2 := by
                rw [hW2]
                exact (hBel.alloc hsz _).alloc (by simp; omega) _
              have hBx3 : Blk W2 w.heap.size #[.bool fi, .bool la, .slice ka kl kc, .int .i64 gr] 33 := by
                rw [hW2]
                exact (hBx2.alloc _).alloc _
              obtain ⟨hRow, hKR, -, -, hx⟩ := HK.out
              have hRowB : Row (fun k => k < w.heap.size) w (.slice ka kl kc) parts.length xs := hRow.mono (fun _ _ h => h)
              have hKRB : KRep (fun k => k < w.heap.size) w parts xs := KRep.mono (fun _ _ h => h) _ _ hKR
              have hag2 : Agree (fun k => k < w.heap.size) w W2 := ⟨hBel2.size, fun k hk _ => hBel2.block k hk⟩
              have hcall := clear_any parts gr w.heap.size (wc.heap.size + 1) wc.heap.size s n _ ka kl kc xs W2 hx.wf (by simp; have := hn0.out; omega) hG9 hx.len (by omega) (by omega) hPk (hRowB.agree hag2) (KRep.agree hag2 _ _ hKRB)
              have HCa := hide (And.intro hcall (And.intro hBel2 (And.intro hBx3 (And.intro hRowB hKRB))))
              rw [hW2] at HCa
              clear hcall hBel2 hBx3 hRowB hKRB hag2 hRow hKR hPk hBx2 hBel hx
              go_wp2_with fail
              refine HCa.out.1.mono ?_
              rintro e3 w3 ⟨rfl, hP3, hk3⟩
              rw [← hW2] at HCa hk3
              have hxs : w.heap.size ≠ wc.heap.size := by omega
              have hBx4 := HCa.out.2.2.1.kp hk3 hxs
              clear c0 c1 c2 c3 cf
              obtain ⟨c0, c1, c2, c3, cf⟩ := hBx4.four
              have hsz3 := hk3.size
              have hag3 : Agree (fun k => k < w.heap.size) w w3 := ⟨by have := HCa.out.2.1.size; omega, fun k hk hl => (hk3.block k (by have := HCa.out.2.1.size; omega) (by omega)).trans (HCa.out.2.1.block k hk)⟩
              have hl3 := hP3.len
              have hcall := seq_any parts gr w.heap.size (wc.heap.size + 1) wc.heap.size s n _ p qn ka kl kc xs w3 hs HK.out.2.2.2.2.wf (by have := hn0.out; omega) hG9 HK.out.2.2.2.2.len (by omega) (by omega) hP3 (HCa.out.2.2.2.1.agree hag3) (KRep.agree hag3 _ _ HCa.out.2.2.2.2) hp (by have := HCan.out.2.2.2.2.2; simpa using this)
              have HCb := hide (And.intro hcall hk3)
              clear hcall hk3 hP3 hag3 hBx4
              go_wp2_with fail
              refine HCb.out.1.mono ?_
              rintro e4 w4 ⟨rfl, ss, hS4, hP4, hk4⟩
              have d1 := hP4.blk.cell 1 rfl
              have HZ := hide (And.intro hS4 (And.intro hP4 hk4))
              clear hS4 hP4 hk4 c0 c1 c2 c3 cf
              go_wp2_with fail
              go_quiet (fail)
              go_wp2_with fail
              refine bodyPost_ret (results_tmp3 rfl _ _ _) rfl ?_
              obtain ⟨hS4, hP4, hk4⟩ := HZ.out
              have hkw := HCb.out.2.trans hk4
              have hn := hn0.out
              subst hn
              have hl4 := hP4.len
              refine ⟨?_, .inr ⟨qn, wc.heap.size, ss, rfl, HCan.out, fun q' h => ?_, hS4, hP4.row.drewN _, hl4, by omega⟩⟩
              · have hfin : Below w.heap.size w w4 := HCa.out.2.1.trans ⟨hkw.os, hkw.tape, hkw.output, hkw.size, fun k hk => hkw.block k (by have := HCa.out.2.1.size; omega) (by omega)⟩
                exact ⟨hfin.os, hfin.tape, hfin.output, hfin.size, hfin.block⟩
              · by_cases hc : qn < q'
                · exact absurd h (HN.out q' (by omega))
                · omega
        · go_wp2_with fail
          refine bodyPost_ret (results_tmp3 rfl _ _ _) rfl ?_
          refine ⟨hBel, .inl ⟨rfl, fun q' h => ?_⟩⟩
          have h1 := h.2.1
          obtain ⟨m, rfl⟩ := Int.eq_ofNat_of_zero_le (show 0 ≤ q' by omega)
          exact HN.out m (by omega) h
end Go.Proofs.Ytjlgccfibkcgbaa

namespace Go.Proofs.Ytjlgccfibkcgbaa
open Go.RowKit Go.Shelf

/-- What Find answers. -/
def FindC (x : Ex) (s : ByteArray) (w : World) (at_ : Nat) (r : Ending) (w' : World) : Prop :=
  Below w.heap.size w w' ∧ ∃ v, r = .returned v ∧ ((v = .slice none 0 0 ∧ ∀ p : Nat, at_ ≤ p → ∀ q, ¬ CanR x s p q) ∨
    ∃ (p q : Nat) (ss : List Int), at_ ≤ p ∧ (∀ p' : Nat, at_ ≤ p' → p' < p → ∀ q', ¬ CanR x s p' q') ∧ CanR x s p q ∧ (∀ q' : Nat, CanR x s p q' → q' ≤ q) ∧
      RSeq s x.parts p q (clearS x.parts ((p : Int) :: (q : Int) :: List.replicate (2 * x.groups) 0)) ss ∧ Ints w' v ((p : Int) :: (q : Int) :: ss.drop 2) ∧ ss.length = 2 * x.groups + 2 ∧ ∀ k, v.ownBlock = some k → w.heap.size ≤ k)

set_option maxRecDepth 100000 in
set_option maxHeartbeats 3200000 in
theorem find_any (s : ByteArray) (hs : s.size ≤ 1048576) (x : Ex) (hx : ExWF x) (v : Value) (at_ : Nat) (hat : at_ ≤ s.size) (w : World) (hv : ExV w x v) :
    Calls Try.prog 17 #[v, .string s, .int .i64 at_, .bool false] w (FindC x s w at_) := by
  have HV := hide (And.intro hx hv)
  have hG9 := hx.nine
  obtain ⟨fi, la, parts, gr⟩ := x
  dsimp only at hG9
  obtain ⟨ka, kl, kc, xs, rfl, -, -⟩ := hv
  clear hx
  have hB := Blk.new w #[.bool fi, .bool la, .slice ka kl kc, .int .i64 gr] 33
  have hb0 : Below w.heap.size w (w.alloc (.cells #[.bool fi, .bool la, .slice ka kl kc, .int .i64 gr] 33)) := (Below.refl _ _).alloc (Nat.le_refl _) _
  go_enter Try.func17, Try.ntmps17
  go_wp2_with fail
  generalize w.alloc (.cells #[.bool fi, .bool la, .slice ka kl kc, .int .i64 gr] 33) = w0 at *
  go_loopg [9, 10, 11, 12] (s.size + 1) (fun k pp qq sp okk w' => ∃ p : Nat, pp = .int .i64 p ∧ at_ ≤ p ∧ p ≤ s.size + 1 ∧ s.size + 1 ≤ p + k ∧ Blk w' w.heap.size #[.bool fi, .bool la, .slice ka kl kc, .int .i64 gr] 33 ∧ Hid (Below w.heap.size w w' ∧ ∀ p' : Nat, at_ ≤ p' → p' < p → ∀ q', ¬ CanR ⟨fi, la, parts, gr⟩ s p' q'))
  case atStart => exact ⟨at_, rfl, Nat.le_refl _, by omega, by omega, hB, hb0, fun p' h1 h2 => by omega⟩
  case round =>
    obtain ⟨p, rfl, hap, hps, hpk, hBx, HR⟩ := hrel
    clear hB hb0
    obtain ⟨c0, c1, c2, c3, cf⟩ := hBx.four
    by_cases hpl : p ≤ s.size
    · go_wp2_with fail
      refine (rbest_any s hs ⟨fi, la, parts, gr⟩ HV.out.1 _ p hpl _ (HV.out.2.below HR.out.1)).mono ?_
      rintro e1 w1 ⟨hb1, h1⟩
      have hBel : Below w.heap.size w w1 := HR.out.1.trans (hb1.mono HR.out.1.size)
      rcases h1 with ⟨rfl, hno⟩ | ⟨q, sb, ss, rfl, hcan, hmax, hS, hB, hl, hsb⟩
      · have HN : Hid (Below w.heap.size w w1 ∧ ∀ p' : Nat, at_ ≤ p' → p' < p + 1 → ∀ q', ¬ CanR ⟨fi, la, parts, gr⟩ s p' q') := ⟨hBel, fun p' h1 h2 => by
          by_cases he : p' = p
          · subst he; exact hno
          · exact HR.out.2 p' h1 (by omega)⟩
        clear hno hBel
        go_wp2_with fail
        go_roundg (gk - 1)
        case measure => omega
        case rel => exact ⟨p + 1, by go_num, by omega, by omega, by omega, hBx.below hb1, HN.out⟩
      · have hsl := hB.lt
        have hwsz := HR.out.1.size
        have HZ := hide (And.intro hcan (And.intro hmax (And.intro hS (And.intro hB (And.intro hl (And.intro hsb hBel))))))
        clear hcan hmax hS hB hBel hb1
        obtain ⟨i0, hi, hz0, hz1, hz2⟩ := info_parts info3
        have HI := hide (And.intro hi (And.intro hz0 (And.intro hz1 hz2)))
        clear hi hz0 hz1 hz2
        have hnil : (w1.alloc (.cells #[.int .i64 p, .int .i64 q] 3)).ownsRow 0 3 1 (.slice none 0 0) 0 [] := World.ownsRow_nil _ _ _ _
        have hml : 0 + 2 ≤ maxLen := by unfold maxLen; omega
        go_upto_region 8 with (at_builtin; refine wpList_append_lies _ rfl _ _ 22 rfl 0 3 i0 (.int .i64 0) 1 8 Try.underlying22 HI.out.1 HI.out.2.1 HI.out.2.2.1 HI.out.2.2.2 rfl (by decide) (.slice none 0 0) 0 [] rfl hnil ⟨w1.heap.size, 0, none⟩ 2 2 [.int .i64 p, .int .i64 q] rfl rfl (blk_news (Blk.newAt rfl)) (by intro u hu; simp at hu; rcases hu with rfl | rfl <;> rfl) (by decide) hml (by omega) (Nat.zero_le _) (w1.heap.size + 1) (by simp) ?_; intro g1 cap1 w4 hown1 hgrow1 hat1 hlt1)
        have hown1' : w4.ownsRow 0 3 1 (.slice (some ⟨g1, 0, none⟩) 2 cap1) 2 [.int .i64 p, .int .i64 q] := hown1
        obtain ⟨hcan, hmax, hS, hB, hl, hsb, hBel⟩ := HZ.out
        have hb4 : Below w1.heap.size w1 w4 := ((Below.refl _ w1).alloc (Nat.le_refl _) (.cells #[.int .i64 p, .int .i64 q] 3)).grown hgrow1 (by simp) (fun k e => by cases e)
        have hB4 := hB.below hb4
        have hBel4 : Below w.heap.size w w4 := hBel.trans (hb4.mono hBel.size)
        have hsz1 := hBel.size
        have hg1 : g1 = w1.heap.size + 1 := by
          rcases hat1 with e | e
          · cases e
          · exact e
        subst hg1
        by_cases hg0 : gr = 0
        · subst hg0
          have hcap : 2 ≤ cap1 := by
            rcases hown1'.2 with ⟨h, _⟩ | ⟨g, cap, cur, h, _, _, hle, _⟩
            · cases h
            · cases h; exact hle
          have HY := hide (And.intro hcan (And.intro hmax (And.intro hS (And.intro hB4 (And.intro hl (And.intro hBel4 hown1'))))))
          clear hcan hmax hS hB hB4 hl hBel4 hown1' hown1 hgrow1 hat1 hb4 hBel hnil hml HZ
          go_wp2_with fail
          go_ret
          obtain ⟨hcan, hmax, hS, hB4, hl, hBel4, hown⟩ := HY.out
          refine ⟨hBel4, _, rfl, .inr ⟨p, q, ss, hap, HR.out.2, hcan, hmax, hS, ?_, hl, fun k e => ?_⟩⟩
          · have hd : ss.drop 2 = [] := List.drop_eq_nil_of_le (by omega)
            rw [hd]
            exact hown
          · cases e
            show w.heap.size ≤ w1.heap.size + 1
            omega
        · have hlen : (ss.drop 2).length = 2 * gr := by rw [List.length_drop]; omega
          have hml2 : 2 + 2 * gr ≤ maxLen := by unfold maxLen; omega
          have HY := hide (And.intro hcan (And.intro hmax (And.intro hS (And.intro hl (And.intro hBel4 hb4)))))
          clear hcan hmax hS hB hl hBel4 hown1 hgrow1 hat1 hb4 hBel hnil hml HZ
          go_wp2_with (at_builtin; refine wpList_append_lies _ rfl _ _ 22 rfl 0 3 i0 (.int .i64 0) 1 8 Try.underlying22 HI.out.1 HI.out.2.1 HI.out.2.2.1 HI.out.2.2.2 rfl (by decide) (.slice (some ⟨w1.heap.size + 1, 0, none⟩) 2 cap1) 2 [.int .i64 p, .int .i64 q] rfl hown1' ⟨sb, 0, none⟩ (2 * gr) (2 * gr) ((ss.drop 2).map fun x => Value.int .i64 x) rfl (by rw [List.length_map, hlen, Nat.mul_one]) (blk_news hB4) (by intro u hu; obtain ⟨y, _, rfl⟩ := List.mem_map.1 hu; rfl) (by omega) hml2 (by omega) (Nat.zero_le _) w4.heap.size rfl ?_; intro g2 cap2 w5 hown2 hgrow2 hat2 hlt2)
          go_ret
          obtain ⟨hcan, hmax, hS, hl, hBel4, hb4⟩ := HY.out
          refine ⟨hBel4.grown hgrow2 (by have := hBel4.size; omega) (fun k e => by cases e; show w.heap.size ≤ w1.heap.size + 1; omega), _, rfl, .inr ⟨p, q, ss, hap, HR.out.2, hcan, hmax, hS, ?_, hl, fun k e => ?_⟩⟩
          · have hle : ((p : Int) :: (q : Int) :: ss.drop 2).length = 2 + 2 * gr := by simp only [List.length_cons, hlen]; omega
            unfold Ints
            rw [hle]
            exact hown2
          · cases e
            have := hBel4.size
            show w.heap.size ≤ g2
            rcases hat2 with e | e
            · cases e
              show w.heap.size ≤ w1.heap.size + 1
              omega
            · omega
    · go_wp2_with fail
      go_ret
      exact ⟨HR.out.1, _, rfl, .inl ⟨rfl, fun p' h1 q' hc => by
        have := hc.2.1
        have := hc.2.2.1
        exact HR.out.2 p' h1 (by omega) q' hc⟩⟩
end Go.Proofs.Ytjlgccfibkcgbaa

namespace Go.Proofs.Ytjlgccfibkcgbaa
open Go.RowKit Go.Shelf

/-- What the reference's Match has found. -/
def FoundR (x : Ex) (s : ByteArray) (w : World) (at_ : Nat) (v : Value) (w' : World) : Prop :=
  (v = .slice none 0 0 ∧ ∀ p : Nat, at_ ≤ p → ∀ q, ¬ CanR x s p q) ∨
    ∃ (p q : Nat) (ss : List Int), at_ ≤ p ∧ (∀ p' : Nat, at_ ≤ p' → p' < p → ∀ q', ¬ CanR x s p' q') ∧ CanR x s p q ∧ (∀ q' : Nat, CanR x s p q' → q' ≤ q) ∧
      RSeq s x.parts p q (clearS x.parts ((p : Int) :: (q : Int) :: List.replicate (2 * x.groups) 0)) ss ∧ Ints w' v ((p : Int) :: (q : Int) :: ss.drop 2) ∧ ss.length = 2 * x.groups + 2 ∧ ∀ k, v.ownBlock = some k → w.heap.size ≤ k

def RMatchPost (e s : ByteArray) (at_ : Int) (w : World) (r : Ending) (w' : World) : Prop :=
  Below w.heap.size w w' ∧ ∃ v en pl, r = .returned (.tuple #[v, .int .i64 en, .int .i64 pl]) ∧
    ((¬ Good e ∧ v = .slice none 0 0 ∧ en = 2 ∧ pl = (exS e).2.i) ∨
     (Good e ∧ (at_ < 0 ∨ (s.size : Int) < at_) ∧ v = .slice none 0 0 ∧ en = 5 ∧ pl = 0) ∨
     (Good e ∧ 0 ≤ at_ ∧ at_ ≤ s.size ∧ en = 0 ∧ pl = 0 ∧ FoundR (exS e).1 s w at_.toNat v w'))

set_option maxRecDepth 100000 in
/-- A text too long: at once. -/
theorem rmatch_long (e s : ByteArray) (at_ : Int) (w : World) (hl : 60 < e.size ∨ 200 < s.size) :
    Calls Try.prog 7 #[.string e, .string s, .int .i64 at_] w fun r w' => r = .returned (.tuple #[.slice none 0 0, .int .i64 1, .int .i64 0]) ∧ Below w.heap.size w w' := by
  have key : decide ((60 : Int) < (e.size : Nat)) = true ∨ (decide ((60 : Int) < (e.size : Nat)) = false ∧ decide ((200 : Int) < (s.size : Nat)) = true) := by
    by_cases h : 60 < e.size
    · left; simp; omega
    · right; constructor <;> simp <;> omega
  clear hl
  rcases key with l1 | ⟨l1, l2⟩
  all_goals
    go_enter Try.func7, Try.ntmps7
    go_wp2_with fail
    refine bodyPost_ret (results_tmp3 rfl _ _ _) rfl ?_
    exact ⟨rfl, Below.refl _ _⟩

set_option maxRecDepth 100000 in
theorem match_long (e s : ByteArray) (at_ : Int) (w : World) (hl : 60 < e.size ∨ 200 < s.size) :
    Calls Try.prog 6 #[.string e, .string s, .int .i64 at_] w fun r w' => r = .returned (.tuple #[.slice none 0 0, .int .i64 1, .int .i64 0]) ∧ Below w.heap.size w w' := by
  have key : decide ((60 : Int) < (e.size : Nat)) = true ∨ (decide ((60 : Int) < (e.size : Nat)) = false ∧ decide ((200 : Int) < (s.size : Nat)) = true) := by
    by_cases h : 60 < e.size
    · left; simp; omega
    · right; constructor <;> simp <;> omega
  clear hl
  rcases key with l1 | ⟨l1, l2⟩
  all_goals
    go_enter Try.func6, Try.ntmps6
    go_wp2_with fail
    refine bodyPost_ret (results_tmp3 rfl _ _ _) rfl ?_
    exact ⟨rfl, (Below.refl _ w).alloc (Nat.le_refl _) _⟩

set_option maxRecDepth 100000 in
set_option maxHeartbeats 1000000 in
theorem rmatch_any (e s : ByteArray) (at_ : Int) (w : World) (he : e.size ≤ 60) (hs : s.size ≤ 200) :
    Calls Try.prog 7 #[.string e, .string s, .int .i64 at_] w (RMatchPost e s at_ w) := by
  have l1 : decide ((60 : Int) < (e.size : Nat)) = false := by simp; omega
  have l2 : decide ((200 : Int) < (s.size : Nat)) = false := by simp; omega
  go_enter Try.func7, Try.ntmps7
  go_wp2_with fail
  refine (readEx_any e w (by omega)).mono ?_
  rintro r w1 ⟨ka, kl, kc, xs, rfl, hR, hK, hb1⟩
  by_cases hg : Good e
  · have hgd : decide (Good e) = true := by simp [hg]
    have hWX := ex_wf e (by omega) hg
    have HG := hide (And.intro hg (And.intro hb1 (And.intro hR (And.intro hK hWX))))
    clear hg hb1 hR hK hWX
    by_cases ha : at_ < 0 ∨ (s.size : Int) < at_
    · have HA := hide ha
      have key : decide (at_ < 0) = true ∨ (decide (at_ < 0) = false ∧ decide ((s.size : Int) < at_) = true) := by
        by_cases h : at_ < 0
        · left; simp [h]
        · right; constructor <;> simp <;> omega
      clear ha
      rcases key with l3 | ⟨l3, l4⟩
      all_goals
        go_wp2_with fail
        refine bodyPost_ret (results_tmp3 rfl _ _ _) rfl ?_
        refine ⟨?_, _, _, _, rfl, .inr (.inl ⟨HG.out.1, HA.out, rfl, rfl, rfl⟩)⟩
        exact HG.out.2.1.alloc HG.out.2.1.size _
    · have l3 : decide (at_ < 0) = false := by simp; omega
      have l4 : decide ((s.size : Int) < at_) = false := by simp; omega
      obtain ⟨an, rfl⟩ := Int.eq_ofNat_of_zero_le (show 0 ≤ at_ by omega)
      go_wp2_with fail
      have hb2 : Below w1.heap.size w1 (w1.alloc (.cells #[.bool (exS e).1.first, .bool (exS e).1.last, .slice ka kl kc, .int .i64 (exS e).1.groups] 33)) := (Below.refl _ _).alloc (Nat.le_refl _) _
      have hb3 := HG.out.2.1.trans (hb2.mono HG.out.2.1.size)
      refine (find_any s (by omega) (exS e).1 HG.out.2.2.2.2 _ an (by omega) _ ⟨ka, kl, kc, xs, rfl, HG.out.2.2.1.below hb2, KRep.below HG.out.2.2.2.1 hb2⟩).mono ?_
      rintro r w3 ⟨hb4, v, rfl, hF⟩
      have HF := hide (And.intro hF (hb3.trans (hb4.mono hb3.size)))
      have hsz := hb3.size
      clear hF hb2 hb3 hb4
      go_wp2_with fail
      refine bodyPost_ret (results_tmp3 rfl _ _ _) rfl ?_
      refine ⟨HF.out.2, _, _, _, rfl, .inr (.inr ⟨HG.out.1, by omega, by omega, rfl, rfl, ?_⟩)⟩
      rw [Int.toNat_natCast]
      show FoundR (exS e).1 s w an v w3
      rcases HF.out.1 with h | ⟨p, q, ss, h1, h2, h3, h4, h5, h6, h7, h8⟩
      · exact .inl h
      · exact .inr ⟨p, q, ss, h1, h2, h3, h4, h5, h6, h7, fun k e => Nat.le_trans hsz (h8 k e)⟩
  · have hgd : decide (Good e) = false := by simp [hg]
    have HG := hide (And.intro hg hb1)
    clear hg hb1 hR hK
    go_wp2_with fail
    refine bodyPost_ret (results_tmp3 rfl _ _ _) rfl ?_
    refine ⟨?_, _, _, _, rfl, .inl ⟨HG.out.1, rfl, rfl, rfl⟩⟩
    exact HG.out.2.alloc HG.out.2.size _
end Go.Proofs.Ytjlgccfibkcgbaa

namespace Go.Proofs.Ytjlgccfibkcgbaa
open Go.RowKit Go.Shelf

set_option maxRecDepth 100000 in
set_option maxHeartbeats 1000000 in
theorem sameInts_any (u v : Value) (xs : List Int) (w : World) (hu : Ints w u xs) (hv : Ints w v xs) (hn : 0 < xs.length) (hm : xs.length ≤ 1000) :
    Calls Try.prog 9 #[u, v] w fun r w' => r = .returned (.bool true) ∧ Below w.heap.size w w' := by
  obtain ⟨g, cap, rfl, hg, hc⟩ := hu.lay hn
  obtain ⟨g2, cap2, rfl, hg2, hc2⟩ := hv.lay hn
  obtain ⟨n, hnn⟩ : ∃ n, n = xs.length := ⟨_, rfl⟩
  have HU := hide (And.intro hu (And.intro hv hnn))
  rw [← hnn] at hc hc2 hn hm ⊢
  clear hu hv hnn
  go_enter Try.func9, Try.ntmps9
  go_wp2_with fail
  go_loopg [5] n (fun k iv w' => ∃ i : Nat, iv = .int .i64 i ∧ i + k = n ∧ Hid (Below w.heap.size w w'))
  case atStart => exact ⟨0, rfl, by omega, Below.refl _ _⟩
  case round =>
    obtain ⟨i, rfl, hik, HB⟩ := hrel
    by_cases hi : i < n
    · have hd : (i : Int) < n := by omega
      have y1 := (HB.out.cell (p := ⟨g, i, none⟩) hg).trans (HU.out.1.cell (by have := HU.out.2.2; omega))
      have y2 := (HB.out.cell (p := ⟨g2, i, none⟩) hg2).trans (HU.out.2.1.cell (by have := HU.out.2.2; omega))
      go_wp2_with fail
      go_quiet (fail)
      go_wp2_with fail
      go_roundg (gk - 1)
      case measure => omega
      case rel => exact ⟨i + 1, by go_num, by omega, ⟨HB.out.os, HB.out.tape, HB.out.output, HB.out.size, HB.out.block⟩⟩
    · have hd : ¬ (i : Int) < n := by omega
      go_wp2_with fail
      go_ret
      exact ⟨rfl, HB.out⟩

/-- What both find is the same. -/
theorem found_eq {x : Ex} {s : ByteArray} {p q : Nat} {ss ss' : List Int} (hN : ∃ hi, Num 0 hi (grpsL x.parts)) (hC : Cov 0 x.groups (grpsL x.parts)) (h : SpanR s x.parts p q (span0 p q x.groups) ss)
    (h' : RSeq s x.parts p q (clearS x.parts ((p : Int) :: (q : Int) :: List.replicate (2 * x.groups) 0)) ss') (hl : ss'.length = 2 * x.groups + 2) : (p : Int) :: (q : Int) :: ss'.drop 2 = ss := by
  obtain ⟨hi, -, hnd, hpos⟩ := hN
  have hbare := clearS_bare x.parts ((p : Int) :: (q : Int) :: List.replicate (2 * x.groups) 0)
  rw [clear_span0 (fun g hg => (hpos g hg).1) hC] at h' hbare
  have ho := rseq_off s _ _ _ _ _ h'
  have he := SpanR.unique s _ _ _ _ _ _ h (rseq_span s _ _ _ _ _ hnd hbare h')
  rw [he]
  have h0 : ss'.getD 0 0 = p := ho.2 0 (fun hm => by have := (hpos _ hm).1; omega)
  have h1 : ss'.getD 1 0 = q := ho.2 1 (fun hm => by have := (hpos _ hm).1; omega)
  match ss', hl, h0, h1 with
  | a :: b :: r, _, h0, h1 =>
    simp only [List.getD_cons_zero, List.getD_cons_succ] at h0 h1
    rw [h0, h1]; rfl
  | [_], hl, _, _ => simp at hl
  | [], hl, _, _ => simp at hl

set_option maxRecDepth 100000 in
set_option maxHeartbeats 1000000 in
theorem Matches_any (e s : ByteArray) (at_ : Int) (w : World) :
    Calls Try.prog 3 #[.string e, .string s, .int .i64 at_] w fun r w' => r = .returned (.bool true) ∧ Below w.heap.size w w' := by
  have heq : ∀ (w : World) (a : Option Addr) (n c : Nat), (binOp .eql 22 (.slice a n c) (.slice none 0 0)).run Try.prog w = .ok (.bool a.isNone) w := fun w a n c => Lib.run_eql_slice_nil w 22 3 a n c 0 0 Try.underlying22
  by_cases hlong : 60 < e.size ∨ 200 < s.size
  · go_enter Try.func3, Try.ntmps3
    go_wp2_with fail
    refine (match_long e s at_ w hlong).mono ?_
    rintro r w1 ⟨rfl, hb1⟩
    go_wp2_with fail
    refine (rmatch_long e s at_ w1 hlong).mono ?_
    rintro r w2 ⟨rfl, hb2⟩
    have HZ := hide (hb1.trans (hb2.mono hb1.size))
    clear hb1 hb2
    go_wp2_with (go_at_call 8; refine (num_any _ _).mono ?_; rintro e w' ⟨rfl, rfl⟩)
    go_ret
    exact ⟨rfl, HZ.out⟩
  · have he : e.size ≤ 60 := by omega
    have hs : s.size ≤ 200 := by omega
    have HN := hide (ex_num e)
    have HC := hide (ex_cov e)
    clear hlong
    go_enter Try.func3, Try.ntmps3
    go_wp2_with fail
    refine (Match_any e s at_ w (by omega) (by omega)).mono ?_
    rintro r w1 ⟨hb1, v, en, pl, rfl, hM⟩
    go_wp2_with fail
    refine (rmatch_any e s at_ w1 he hs).mono ?_
    rintro r w2 ⟨hb2, v2, en2, pl2, rfl, hR⟩
    have hb3 := hb1.trans (hb2.mono hb1.size)
    rcases hM with ⟨hc, -⟩ | ⟨-, hg, rfl, rfl, rfl⟩ | ⟨-, hg, ha, rfl, rfl, rfl⟩ | ⟨-, hg, h0, h1, rfl, rfl, hF⟩
    · exfalso; omega
    · rcases hR with ⟨-, rfl, rfl, rfl⟩ | ⟨hg2, -⟩ | ⟨hg2, -⟩
      · have HZ := hide hb3
        clear hb1 hb2 hb3 hg
        go_wp2_with (go_at_call 8; refine (num_any _ _).mono ?_; rintro e w' ⟨rfl, rfl⟩)
        go_ret
        exact ⟨rfl, HZ.out⟩
      · exact absurd hg2 hg
      · exact absurd hg2 hg
    · rcases hR with ⟨hg2, -⟩ | ⟨-, -, rfl, rfl, rfl⟩ | ⟨-, h0, h1, -⟩
      · exact absurd hg hg2
      · have HZ := hide hb3
        clear hb1 hb2 hb3 hg ha
        go_wp2_with (go_at_call 8; refine (num_any _ _).mono ?_; rintro e w' ⟨rfl, rfl⟩)
        go_ret
        exact ⟨rfl, HZ.out⟩
      · exfalso; omega
    · rcases hR with ⟨hg2, -⟩ | ⟨-, ha, -⟩ | ⟨-, -, -, rfl, rfl, hF2⟩
      · exact absurd hg hg2
      · exfalso; omega
      · rcases hF with ⟨rfl, hno⟩ | ⟨p0, q0, ss, f1, f2, f3, f4, f5, f6, f7, f8⟩
        · rcases hF2 with ⟨rfl, -⟩ | ⟨p1, q1, s1, k1, k2, k3, k4, k5, k6, k7, k8⟩
          · have HZ := hide hb3
            clear hb1 hb2 hb3 hg hno
            go_wp2_with (go_at_call 8; refine (num_any _ _).mono ?_; rintro e w' ⟨rfl, rfl⟩)
            go_ret
            exact ⟨rfl, HZ.out⟩
          · exact absurd k3 (hno p1 k1 q1)
        · rcases hF2 with ⟨rfl, hno⟩ | ⟨p1, q1, s1, k1, k2, k3, k4, k5, k6, k7, k8⟩
          · exact absurd f3 (hno p0 f1 q0)
          · obtain rfl : p0 = p1 := by
              by_cases h : p0 < p1
              · exact absurd f3 (k2 p0 f1 h q0)
              · by_cases h' : p1 < p0
                · exact absurd k3 (f2 p1 k1 h' q1)
                · omega
            obtain rfl : q0 = q1 := by
              have := f4 q1 k3
              have := k4 q0 f3
              omega
            rw [found_eq HN.out HC.out f5 k5 k7] at k6
            have f6' : Ints w2 v ss := f6.agree (fun k e => hb2.block k (by
              obtain ⟨g, cap, hv, hg', _⟩ := f6.lay (by rw [f7]; omega)
              rw [hv] at e
              cases e
              exact hg'))
            have hgr := (ex_facts e (by omega) hg.1).2.1
            have hcall := sameInts_any v v2 ss w2 f6' k6 (by omega) (by omega)
            obtain ⟨g, cap, rfl, -, -⟩ := f6'.lay (by omega)
            obtain ⟨g2, cap2, rfl, -, -⟩ := k6.lay (by omega)
            have HZ := hide (And.intro hcall hb3)
            clear hcall hb1 hb2 hb3 hg f1 f2 f3 f4 f5 f6 f7 f8 k1 k2 k3 k4 k5 k6 k7 k8 f6' HN HC
            go_wp2_with (first | (go_at_call 8; refine (num_any _ _).mono ?_; rintro e w' ⟨rfl, rfl⟩) | (go_at_call 9; refine HZ.out.1.mono ?_; rintro e w3 ⟨rfl, hb9⟩))
            go_ret
            exact ⟨rfl, HZ.out.2.trans (hb9.mono HZ.out.2.size)⟩
end Go.Proofs.Ytjlgccfibkcgbaa
