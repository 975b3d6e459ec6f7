import Derived.Test.YtmjdaifalgpdnaaGreatRefJ
import Derived.Deep.RegionWith
namespace Go.Proofs.YtmjdaifalgpdnaaGreat
open Go.RowKit

theorem info72 : (Tryz.prog.info? 151).map (fun i => (i.zero, i.size, i.bytes)) = some (some (.agg #[.int .i64 0, .slice none 0 0, .bool false, .string ⟨#[]⟩, .int .i64 0, .int .i64 0]), 6, 72) := by kernel_rfl

section
variable {s : ByteArray} {inner : Bool} {n : Nat} {st : St} {l : List Part}
theorem partsS_stop (h : stopped s st ∨ (inner = true ∧ isEsc s st 41 = true)) (k : Nat) : partsS s inner k st l = (l, st) := by
  cases k
  · rw [partsS]
  · rw [partsS, if_pos h]
theorem partsS_go (h : ¬ (stopped s st ∨ (inner = true ∧ isEsc s st 41 = true))) (k : Nat) : partsS s inner (k + 1) st l = partsS s inner k (partS s k st).2 (l ++ [(partS s k st).1]) := by
  rw [partsS, if_neg h]
end

theorem Row.lt {ok : Nat → Prop} {w : World} {v : Value} {n : Nat} {xs : List Value} (h : Row ok w v n xs) : ∀ k, v.ownBlock = some k → k < w.heap.size := fun k hk => (h.1.lt k hk).2

theorem grown_kp {b : Nat} {W w w' : World} {row : Option Nat} (h : Kp b W w) (hg : w.grownBy w' row) (hr : ∀ k, row = some k → W.heap.size ≤ k) : Kp b W w' :=
  ⟨hg.os.trans h.os, hg.tape.trans h.tape, hg.output.trans h.output, Nat.le_trans h.size hg.size, fun k hk hb => (hg.block k (Nat.lt_of_lt_of_le hk h.size) (fun e => by have := hr k e.symm; omega)).trans (h.block k hk hb)⟩
theorem grown_rd {b : Nat} {s : ByteArray} {st : St} {w w' : World} {row : Option Nat} (h : RD w b s st) (hg : w.grownBy w' row) (hr : ∀ k, row = some k → k ≠ b) : RD w' b s st := by
  have := hg.block b h.lt (fun e => hr b e.symm rfl)
  unfold RD at h ⊢
  rw [this]; exact h
theorem grown_agree {ok : Nat → Prop} {w w' : World} {row : Option Nat} (hg : w.grownBy w' row) (hr : ∀ k, row = some k → ¬ ok k) : Agree ok w w' :=
  ⟨hg.size, fun k hk hl => hg.block k hl (fun e => hr k e.symm hk)⟩

theorem blk_news {w : World} {k : Nat} {c : Array Value} {t : TypeId} (h : Blk w k c t) : ∀ j u, c.toList[j]? = some u → w.cell? ((⟨k, 0, none⟩ : Addr).add j) = some u := fun j u hu => by
  have hadd : (⟨k, 0, none⟩ : Addr).add j = ⟨k, j, none⟩ := by unfold Addr.add; split <;> simp_all
  rw [hadd, cell_of_row w k j c t (0, 0) h]
  simpa using hu

theorem KRep.agree2 {ok ok' : Nat → Prop} {w w' : World} (ha : Agree ok w w') (hm : ∀ k, ok k → k < w.heap.size → ok' k) (l : List Part) (xs : List Value) (h : KRep ok w l xs) : KRep ok' w' l xs := by
  have h1 := KRep.mono (ok' := fun k => ok k ∧ ok' k) (fun k hk hl => ⟨hk, hm k hk hl⟩) l xs h
  exact KRep.mono (fun k hk _ => hk.2) _ _ (KRep.agree (w' := w') ⟨ha.1, fun k hk hl => ha.2 k hk.1 hl⟩ _ _ h1)
theorem PRep.agree2 {ok ok' : Nat → Prop} {w w' : World} (ha : Agree ok w w') (hm : ∀ k, ok k → k < w.heap.size → ok' k) (p : Part) (xs : List Value) (h : PRep ok w p xs) : PRep ok' w' p xs := by
  have h1 := PRep.mono (ok' := fun k => ok k ∧ ok' k) (fun k hk hl => ⟨hk, hm k hk hl⟩) p xs h
  exact PRep.mono (fun k hk _ => hk.2) _ _ (PRep.agree (w' := w') ⟨ha.1, fun k hk hl => ha.2 k hk.1 hl⟩ _ _ h1)

set_option maxHeartbeats 1600000 in
theorem parts_any (n : Nat) (ih : ∀ k, k < n → PartC k) : PartsC n := by
  intro b s st inner w h hs hi hg hn hn'
  have IH : Hid (∀ k, k < n → PartC k) := ih
  clear ih
  have hbl := h.lt
  obtain ⟨i0, hi0, hz0, hz1, hz2⟩ := info_parts info72
  have HI0 := hide hi0
  have HZ0 := hide hz0
  have HZ1 := hide hz1
  have HZ2 := hide hz2
  clear hi0 hz0 hz1 hz2
  go_enter Tryz.func79, Tryz.ntmps79
  go_wp2_with fail
  go_loopg [5] n (fun k v w' => ∃ st' l xs ka kl kc, v = .slice ka kl kc ∧ RD w' b s st' ∧ Kp b w w' ∧ Row (fun k => w.heap.size ≤ k) w' (.slice ka kl kc) l.length xs ∧ KRep (fun k => w.heap.size ≤ k ∧ some k ≠ (Value.slice ka kl kc).ownBlock) w' l xs ∧ st'.i ≤ s.size ∧ st'.g ≤ 9 ∧ (st'.bad = true ∨ 2 * (s.size - st'.i) + 2 ≤ k) ∧ l.length + k = n ∧ Hid (partsS s inner n st [] = partsS s inner k st' l))
  case atStart =>
    exact ⟨st, [], [], none, 0, 0, rfl, h, Kp.refl b w, Row.nil _ _, by simp only [KRep], hi, hg, .inr hn, by simp, rfl⟩
  case round =>
    obtain ⟨st', l, xs, ka, kl, kc, rfl, hR, hK, hRow, hKR, hi', hg', hbd, hln, HL⟩ := hrel
    have HLN := hide hln
    clear hln h
    have r0 := hR.c0
    have r1 := hR.c1
    have r2 := hR.c2
    have rf := hR.fz
    cases hb : st'.bad
    · rw [hb] at r2
      have HB : Hid (st'.bad = false) := hb
      have hbd' : 2 * (s.size - st'.i) + 2 ≤ gk := by rcases hbd with h | h; (rw [hb] at h; cases h); exact h
      clear hb hbd
      by_cases hlt : st'.i < s.size
      · have hd : decide ((st'.i : Int) < s.size) = true := by simp; omega
        cases h47 : isB s st' 47
        · have H47 : Hid (isB s st' 47 = false) := h47
          clear h47
          cases h36 : isB s st' 36
          · have H36 : Hid (isB s st' 36 = false) := h36
            clear h36
            have HNS : Hid (¬ stopped s st') := by
              unfold Hid stopped
              rw [HB.out, H47.out, H36.out]; simp; omega
            obtain ⟨k', rfl⟩ : ∃ k', gk = k' + 1 := ⟨gk - 1, by omega⟩
            have hlen : l.length + (k' + 1) = n := HLN.out
            have IHk : Hid (PartC k') := IH.out k' (by omega)
            cases inner
            · go_wp2_with fail
              go_quiet (first | (go_at_call_of 27 (Value.int .u8 47); exact Calls.quiet_of (is_of H47.out (hR.drewN _) hs)) | (go_at_call_of 27 (Value.int .u8 36); exact Calls.quiet_of (is_of H36.out (hR.drewN _) hs)))
              go_wp2_with fail
              refine (IHk.out b s st' _ (hR.drewN nq) hs hi' hg' (by omega) (by omega)).mono ?_
              rintro e w2 ⟨v2, rfl, hPV, R2, K2⟩
              have hF := ((fwd_all s k').1 st' hi')
              have HP2 : Hid (partsS s false n st [] = partsS s false k' (partS s k' st').2 (l ++ [(partS s k' st').1])) := HL.out.trans (partsS_go (by intro h; rcases h with h | h; exact HNS.out h; cases h.1) k')
              generalize hq : partS s k' st' = q at *
              clear hq
              obtain ⟨⟨gg, kids, neg, ps, mn, mx⟩, st2⟩ := q
              dsimp only at R2 hPV hF
              obtain ⟨ka2, kl2, kc2, xs2, rfl, hRow2, hKR2⟩ := hPV
              have hAg : Agree (fun k => w.heap.size ≤ k) wr w2 := ((Agree.refl _ wr).drewN nq).kp K2 (by omega)
              have hRowA := hRow.agree hAg
              have hKRA := KRep.agree (w' := w2) (⟨hAg.1, fun k hk hl => hAg.2 k hk.1 hl⟩) _ _ hKR
              have hszz : wr.heap.size ≤ w2.heap.size := hAg.1
              have hKw := (hK.drewN nq).trans K2
              have hbytes : (l.length + 1) * 72 ≤ 140737488355328 := by omega
              have hml : l.length + 1 ≤ maxLen := by unfold maxLen; omega
              have HH := hide (show _ from And.intro hRow.lt (And.intro hRow.2 (And.intro hKR2 (And.intro hRow2 (And.intro hF hKRA)))))
              clear hF hKR hRow hKR2 hRow2 hKRA
              go_wp2_with (at_builtin; refine wpList_append_lies _ rfl _ _ 55 rfl 0 151 i0 (.agg #[.int .i64 0, .slice none 0 0, .bool false, .string ⟨#[]⟩, .int .i64 0, .int .i64 0]) 6 72 Tryz.underlying55 HI0.out HZ0.out HZ1.out HZ2.out rfl (by decide) (.slice ka kl kc) l.length xs rfl ((hRowA.1.alloc _).alloc _) ⟨w2.heap.size + 1, 0, none⟩ 1 1 [.int .i64 gg, .slice ka2 kl2 kc2, .bool neg, .string ps, .int .i64 mn, .int .i64 mx] rfl rfl (blk_news (Blk.newAt (by simp))) (by intro u hu; simp at hu; rcases hu with rfl | rfl | rfl | rfl | rfl | rfl <;> rfl) (by decide) hml hbytes (Nat.zero_le _) (w2.heap.size + 2) (by simp) ?_; intro g cap w3 hown3 hgrow3 hat3 hlt3)
              obtain ⟨hlt0, hge0, hKR2, hRow2, hF, hKRA⟩ := HH.out
              have hge3 : w.heap.size ≤ g := by
                rcases hat3 with h | h
                · exact hge0 g h
                · have := hKw.size; omega
              have hAg3 : Agree (fun k => w.heap.size ≤ k ∧ some k ≠ (Value.slice ka kl kc).ownBlock) w2 w3 := by
                refine Agree.trans (((Agree.refl _ w2).alloc _).alloc _) (grown_agree hgrow3 ?_)
                intro k hk hc
                exact hc.2 hk.symm
              have hAg4 : Agree (fun k => wr.heap.size ≤ k) w2 w3 := by
                refine Agree.trans (((Agree.refl _ w2).alloc _).alloc _) (grown_agree hgrow3 ?_)
                intro k hk hc
                have := hlt0 k hk
                omega
              have hne : ∀ k, wr.heap.size ≤ k → k < w2.heap.size → w.heap.size ≤ k ∧ some k ≠ (Value.slice (some ⟨g, 0, none⟩) (l.length + 1) cap).ownBlock := by
                intro k hk hl
                refine ⟨by have := hK.size; omega, ?_⟩
                intro e
                have e' : k = g := by simpa [Value.ownBlock] using e
                rcases hat3 with h | h
                · have := hlt0 g h; omega
                · omega
              have hne2 : ∀ k, (w.heap.size ≤ k ∧ some k ≠ (Value.slice ka kl kc).ownBlock) → k < w2.heap.size → w.heap.size ≤ k ∧ some k ≠ (Value.slice (some ⟨g, 0, none⟩) (l.length + 1) cap).ownBlock := by
                intro k hk hl
                refine ⟨hk.1, ?_⟩
                intro e
                have e' : k = g := by simpa [Value.ownBlock] using e
                rcases hat3 with h | h
                · exact hk.2 (by rw [h, e'])
                · omega
              have X1 := KRep.mono (ok' := fun k => w.heap.size ≤ k ∧ some k ≠ (Value.slice (some ⟨g, 0, none⟩) (l.length + 1) cap).ownBlock) hne2 _ _ hKRA
              have hR3 : RD w3 b s st2 := grown_rd ((R2.alloc _).alloc _) hgrow3 (fun k hk => by have := hge0 k hk; omega)
              have hK3 : Kp b w w3 := grown_kp ((hKw.alloc _).alloc _) hgrow3 hge0
              have X2 : KRep (fun k => w.heap.size ≤ k ∧ some k ≠ (Value.slice (some ⟨g, 0, none⟩) (l.length + 1) cap).ownBlock) w3 l xs := KRep.agree2 hAg3 hne2 _ _ hKRA
              have X3 : PRep (fun k => w.heap.size ≤ k ∧ some k ≠ (Value.slice (some ⟨g, 0, none⟩) (l.length + 1) cap).ownBlock) w3 (.mk gg kids neg ps mn mx) [.int .i64 gg, .slice ka2 kl2 kc2, .bool neg, .string ps, .int .i64 mn, .int .i64 mx] := by
                refine PRep.agree2 hAg4 hne _ _ ?_
                simp only [PRep]
                exact ⟨ka2, kl2, kc2, xs2, rfl, hRow2, hKR2⟩
              have X4 := KRep.snoc _ _ _ _ X2 X3
              have hi2 := hF.1.2.1
              have hg2 := hF.1.2.2 hg'
              have hp2 : st2.bad = true ∨ 2 * (s.size - st2.i) + 2 ≤ k' := by rcases hF.2 with h | h; exact .inl h; right; omega
              have X5 : Row (fun k => w.heap.size ≤ k) w3 (.slice (some ⟨g, 0, none⟩) (l.length + 1) cap) (l.length + 1) (xs ++ [.int .i64 gg, .slice ka2 kl2 kc2, .bool neg, .string ps, .int .i64 mn, .int .i64 mx]) := ⟨hown3, fun k hk => (by have hgk : g = k := (by simpa [Value.ownBlock] using hk); omega)⟩
              have XX := hide (show _ from And.intro hR3 (And.intro hK3 (And.intro X5 (And.intro X4 (And.intro hi2 (And.intro hg2 hp2))))))
              clear hlt0 hge0 hKR2 hRow2 hF hKRA X1 X2 X3 X4 X5 hR3 hK3 hi2 hg2 hp2 hne hne2 hAg3 hAg4 hge3 hown3 hgrow3 hat3
              go_wp2_with fail
              go_roundg k'
              case measure => omega
              case rel =>
                obtain ⟨hR3, hK3, X5, X4, hi2, hg2, hp2⟩ := XX.out
                exact ⟨st2, l ++ [.mk gg kids neg ps mn mx], _, some ⟨g, 0, none⟩, l.length + 1, cap, rfl, hR3, hK3, by simpa using X5, X4, hi2, hg2, hp2, by simp; omega, HP2⟩
            · cases hcl : isEsc s st' 41
              · have HCL : Hid (isEsc s st' 41 = false) := hcl
                clear hcl
                go_wp2_with fail
                go_quiet (first | (go_at_call_of 27 (Value.int .u8 47); exact Calls.quiet_of (is_of H47.out (hR.drewN _) hs)) | (go_at_call_of 27 (Value.int .u8 36); exact Calls.quiet_of (is_of H36.out (hR.drewN _) hs)))
                go_wp2_with fail
                refine (closing_of HCL.out (hR.drewN nq) hs hi').mono ?_
                rintro e w1 ⟨rfl, m2, rfl⟩
                go_wp2_with fail
                refine (IHk.out b s st' _ (hR.drewN (nq + m2)) hs hi' hg' (by omega) (by omega)).mono ?_
                rintro e w2 ⟨v2, rfl, hPV, R2, K2⟩
                have hF := ((fwd_all s k').1 st' hi')
                have HP2 : Hid (partsS s true n st [] = partsS s true k' (partS s k' st').2 (l ++ [(partS s k' st').1])) := HL.out.trans (partsS_go (by intro h; rcases h with h | h; exact HNS.out h; rw [HCL.out] at h; cases h.2) k')
                generalize hq : partS s k' st' = q at *
                clear hq
                obtain ⟨⟨gg, kids, neg, ps, mn, mx⟩, st2⟩ := q
                dsimp only at R2 hPV hF
                obtain ⟨ka2, kl2, kc2, xs2, rfl, hRow2, hKR2⟩ := hPV
                have hAg : Agree (fun k => w.heap.size ≤ k) wr w2 := ((Agree.refl _ wr).drewN (nq + m2)).kp K2 (by omega)
                have hRowA := hRow.agree hAg
                have hKRA := KRep.agree (w' := w2) (⟨hAg.1, fun k hk hl => hAg.2 k hk.1 hl⟩) _ _ hKR
                have hszz : wr.heap.size ≤ w2.heap.size := hAg.1
                have hKw := (hK.drewN (nq + m2)).trans K2
                have hbytes : (l.length + 1) * 72 ≤ 140737488355328 := by omega
                have hml : l.length + 1 ≤ maxLen := by unfold maxLen; omega
                have HH := hide (show _ from And.intro hRow.lt (And.intro hRow.2 (And.intro hKR2 (And.intro hRow2 (And.intro hF hKRA)))))
                clear hF hKR hRow hKR2 hRow2 hKRA
                go_wp2_with (at_builtin; refine wpList_append_lies _ rfl _ _ 55 rfl 0 151 i0 (.agg #[.int .i64 0, .slice none 0 0, .bool false, .string ⟨#[]⟩, .int .i64 0, .int .i64 0]) 6 72 Tryz.underlying55 HI0.out HZ0.out HZ1.out HZ2.out rfl (by decide) (.slice ka kl kc) l.length xs rfl ((hRowA.1.alloc _).alloc _) ⟨w2.heap.size + 1, 0, none⟩ 1 1 [.int .i64 gg, .slice ka2 kl2 kc2, .bool neg, .string ps, .int .i64 mn, .int .i64 mx] rfl rfl (blk_news (Blk.newAt (by simp))) (by intro u hu; simp at hu; rcases hu with rfl | rfl | rfl | rfl | rfl | rfl <;> rfl) (by decide) hml hbytes (Nat.zero_le _) (w2.heap.size + 2) (by simp) ?_; intro g cap w3 hown3 hgrow3 hat3 hlt3)
                obtain ⟨hlt0, hge0, hKR2, hRow2, hF, hKRA⟩ := HH.out
                have hge3 : w.heap.size ≤ g := by
                  rcases hat3 with h | h
                  · exact hge0 g h
                  · have := hKw.size; omega
                have hAg3 : Agree (fun k => w.heap.size ≤ k ∧ some k ≠ (Value.slice ka kl kc).ownBlock) w2 w3 := by
                  refine Agree.trans (((Agree.refl _ w2).alloc _).alloc _) (grown_agree hgrow3 ?_)
                  intro k hk hc
                  exact hc.2 hk.symm
                have hAg4 : Agree (fun k => wr.heap.size ≤ k) w2 w3 := by
                  refine Agree.trans (((Agree.refl _ w2).alloc _).alloc _) (grown_agree hgrow3 ?_)
                  intro k hk hc
                  have := hlt0 k hk
                  omega
                have hne : ∀ k, wr.heap.size ≤ k → k < w2.heap.size → w.heap.size ≤ k ∧ some k ≠ (Value.slice (some ⟨g, 0, none⟩) (l.length + 1) cap).ownBlock := by
                  intro k hk hl
                  refine ⟨by have := hK.size; omega, ?_⟩
                  intro e
                  have e' : k = g := by simpa [Value.ownBlock] using e
                  rcases hat3 with h | h
                  · have := hlt0 g h; omega
                  · omega
                have hne2 : ∀ k, (w.heap.size ≤ k ∧ some k ≠ (Value.slice ka kl kc).ownBlock) → k < w2.heap.size → w.heap.size ≤ k ∧ some k ≠ (Value.slice (some ⟨g, 0, none⟩) (l.length + 1) cap).ownBlock := by
                  intro k hk hl
                  refine ⟨hk.1, ?_⟩
                  intro e
                  have e' : k = g := by simpa [Value.ownBlock] using e
                  rcases hat3 with h | h
                  · exact hk.2 (by rw [h, e'])
                  · omega
                have X1 := KRep.mono (ok' := fun k => w.heap.size ≤ k ∧ some k ≠ (Value.slice (some ⟨g, 0, none⟩) (l.length + 1) cap).ownBlock) hne2 _ _ hKRA
                have hR3 : RD w3 b s st2 := grown_rd ((R2.alloc _).alloc _) hgrow3 (fun k hk => by have := hge0 k hk; omega)
                have hK3 : Kp b w w3 := grown_kp ((hKw.alloc _).alloc _) hgrow3 hge0
                have X2 : KRep (fun k => w.heap.size ≤ k ∧ some k ≠ (Value.slice (some ⟨g, 0, none⟩) (l.length + 1) cap).ownBlock) w3 l xs := KRep.agree2 hAg3 hne2 _ _ hKRA
                have X3 : PRep (fun k => w.heap.size ≤ k ∧ some k ≠ (Value.slice (some ⟨g, 0, none⟩) (l.length + 1) cap).ownBlock) w3 (.mk gg kids neg ps mn mx) [.int .i64 gg, .slice ka2 kl2 kc2, .bool neg, .string ps, .int .i64 mn, .int .i64 mx] := by
                  refine PRep.agree2 hAg4 hne _ _ ?_
                  simp only [PRep]
                  exact ⟨ka2, kl2, kc2, xs2, rfl, hRow2, hKR2⟩
                have X4 := KRep.snoc _ _ _ _ X2 X3
                have hi2 := hF.1.2.1
                have hg2 := hF.1.2.2 hg'
                have hp2 : st2.bad = true ∨ 2 * (s.size - st2.i) + 2 ≤ k' := by rcases hF.2 with h | h; exact .inl h; right; omega
                have X5 : Row (fun k => w.heap.size ≤ k) w3 (.slice (some ⟨g, 0, none⟩) (l.length + 1) cap) (l.length + 1) (xs ++ [.int .i64 gg, .slice ka2 kl2 kc2, .bool neg, .string ps, .int .i64 mn, .int .i64 mx]) := ⟨hown3, fun k hk => (by have hgk : g = k := (by simpa [Value.ownBlock] using hk); omega)⟩
                have XX := hide (show _ from And.intro hR3 (And.intro hK3 (And.intro X5 (And.intro X4 (And.intro hi2 (And.intro hg2 hp2))))))
                clear hlt0 hge0 hKR2 hRow2 hF hKRA X1 X2 X3 X4 X5 hR3 hK3 hi2 hg2 hp2 hne hne2 hAg3 hAg4 hge3 hown3 hgrow3 hat3
                go_wp2_with fail
                go_roundg k'
                case measure => omega
                case rel =>
                  obtain ⟨hR3, hK3, X5, X4, hi2, hg2, hp2⟩ := XX.out
                  exact ⟨st2, l ++ [.mk gg kids neg ps mn mx], _, some ⟨g, 0, none⟩, l.length + 1, cap, rfl, hR3, hK3, by simpa using X5, X4, hi2, hg2, hp2, by simp; omega, HP2⟩
              · have HCL : Hid (isEsc s st' 41 = true) := hcl
                clear hcl
                go_wp2_with fail
                go_quiet (first | (go_at_call_of 27 (Value.int .u8 47); exact Calls.quiet_of (is_of H47.out (hR.drewN _) hs)) | (go_at_call_of 27 (Value.int .u8 36); exact Calls.quiet_of (is_of H36.out (hR.drewN _) hs)))
                go_wp2_with fail
                refine (closing_of HCL.out (hR.drewN nq) hs hi').mono ?_
                rintro e w1 ⟨rfl, m2, rfl⟩
                go_wp2_with fail
                go_ret
                refine ⟨ka, kl, kc, xs, rfl, ?_, ?_, ?_, ?_⟩
                · rw [HL.out, partsS_stop (.inr ⟨rfl, HCL.out⟩)]; exact hRow.agree ((Agree.refl _ _).drewN _)
                · rw [HL.out, partsS_stop (.inr ⟨rfl, HCL.out⟩)]; exact KRep.mono (fun k hk _ => hk.1) _ _ (KRep.agree ((Agree.refl _ _).drewN _) _ _ hKR)
                · rw [HL.out, partsS_stop (.inr ⟨rfl, HCL.out⟩)]; exact hR.drewN _
                · exact hK.drewN _
          · have H36 : Hid (isB s st' 36 = true) := h36
            clear h36
            go_wp2_with fail
            go_quiet (first | (go_at_call_of 27 (Value.int .u8 47); exact Calls.quiet_of (is_of H47.out (hR.drewN _) hs)) | (go_at_call_of 27 (Value.int .u8 36); exact Calls.quiet_of (is_of H36.out (hR.drewN _) hs)))
            go_wp2_with fail
            go_ret
            refine ⟨ka, kl, kc, xs, rfl, ?_, ?_, ?_, ?_⟩
            · rw [HL.out, partsS_stop (.inl (.inr (.inr (.inr H36.out))))]; exact hRow.agree ((Agree.refl _ _).drewN _)
            · rw [HL.out, partsS_stop (.inl (.inr (.inr (.inr H36.out))))]; exact KRep.mono (fun k hk _ => hk.1) _ _ (KRep.agree ((Agree.refl _ _).drewN _) _ _ hKR)
            · rw [HL.out, partsS_stop (.inl (.inr (.inr (.inr H36.out))))]; exact hR.drewN _
            · exact hK.drewN _
        · have H47 : Hid (isB s st' 47 = true) := h47
          clear h47
          go_wp2_with fail
          go_quiet (first | (go_at_call_of 27 (Value.int .u8 47); exact Calls.quiet_of (is_of H47.out (hR.drewN _) hs)))
          go_wp2_with fail
          go_ret
          refine ⟨ka, kl, kc, xs, rfl, ?_, ?_, ?_, ?_⟩
          · rw [HL.out, partsS_stop (.inl (.inr (.inr (.inl H47.out))))]; exact hRow.agree ((Agree.refl _ _).drewN _)
          · rw [HL.out, partsS_stop (.inl (.inr (.inr (.inl H47.out))))]; exact KRep.mono (fun k hk _ => hk.1) _ _ (KRep.agree ((Agree.refl _ _).drewN _) _ _ hKR)
          · rw [HL.out, partsS_stop (.inl (.inr (.inr (.inl H47.out))))]; exact hR.drewN _
          · exact hK.drewN _
      · have hd : decide ((st'.i : Int) < s.size) = false := by simp; omega
        go_wp2_with fail
        go_quiet (fail)
        go_wp2_with fail
        go_ret
        refine ⟨ka, kl, kc, xs, rfl, ?_, ?_, ?_, ?_⟩
        · rw [HL.out, partsS_stop (.inl (.inr (.inl (by omega))))]; exact hRow.agree ((Agree.refl _ _).drewN _)
        · rw [HL.out, partsS_stop (.inl (.inr (.inl (by omega))))]; exact KRep.mono (fun k hk _ => hk.1) _ _ (KRep.agree ((Agree.refl _ _).drewN _) _ _ hKR)
        · rw [HL.out, partsS_stop (.inl (.inr (.inl (by omega))))]; exact hR.drewN _
        · exact hK.drewN _
    · rw [hb] at r2
      have HB : Hid (st'.bad = true) := hb
      clear hb hbd
      go_wp2_with fail
      go_quiet (fail)
      go_wp2_with fail
      go_ret
      refine ⟨ka, kl, kc, xs, rfl, ?_, ?_, ?_, ?_⟩
      · rw [HL.out, partsS_stop (.inl (.inl HB.out))]; exact hRow.agree ((Agree.refl _ _).drewN _)
      · rw [HL.out, partsS_stop (.inl (.inl HB.out))]; exact KRep.mono (fun k hk _ => hk.1) _ _ (KRep.agree ((Agree.refl _ _).drewN _) _ _ hKR)
      · rw [HL.out, partsS_stop (.inl (.inl HB.out))]; exact hR.drewN _
      · exact hK.drewN _

end Go.Proofs.YtmjdaifalgpdnaaGreat
