import Derived.Test.YtpnecblofjpgfaaGreatDoorRefN
import Derived.RegionTactic
import Derived.BigRegion
namespace Go.Proofs.YtpnecblofjpgfaaGreatDoor
open Go.RowKit

/-- What Read hands back: an expression out of its variable, and two values. -/
theorem ret_read {fn : Func} {p u v : Tmp} (hres : fn.results = #[.cell p 33, .tmp u, .tmp v]) {w : World} {k : Nat} {a0 a1 a2 a3 : Value} {tmps : Array Value} (ht : tmps.getD p undef = .pointer (some ⟨k, 0, none⟩)) (h : Blk w k #[a0, a1, a2, a3] 33) :
    (results fn tmps).run Tryz.prog w = .ok (.tuple #[.agg #[a0, a1, a2, a3], tmps.getD u undef, tmps.getD v undef]) w := by
  obtain ⟨c0, c1, c2, c3, _⟩ := h.four
  have ht' : tmps[p]?.getD undef = .pointer (some ⟨k, 0, none⟩) := by simpa using ht
  simp [results, hres, ht', go_sem, c0, c1, c2, c3]

set_option maxHeartbeats 1600000 in
theorem read_any (s : ByteArray) (w : World) (hs : s.size ≤ 1048576) :
    Calls Tryz.prog 10 #[.string s] w fun e w' => ∃ ka kl kc xs, e = .returned (.tuple #[.agg #[.bool (exprS s (2 * s.size + 2) ⟨0, false, 0⟩).1.first, .bool (exprS s (2 * s.size + 2) ⟨0, false, 0⟩).1.last, .slice ka kl kc, .int .i64 (exprS s (2 * s.size + 2) ⟨0, false, 0⟩).1.groups], .int .i64 (exprS s (2 * s.size + 2) ⟨0, false, 0⟩).2.i, .bool (!(exprS s (2 * s.size + 2) ⟨0, false, 0⟩).2.bad && decide ((exprS s (2 * s.size + 2) ⟨0, false, 0⟩).2.i = s.size))]) ∧
      Row (fun k => w.heap.size ≤ k) w' (.slice ka kl kc) (exprS s (2 * s.size + 2) ⟨0, false, 0⟩).1.parts.length xs ∧ KRep (fun k => w.heap.size ≤ k) w' (exprS s (2 * s.size + 2) ⟨0, false, 0⟩).1.parts xs ∧ Below w.heap.size w w' := by
  have R0 : RD ((w.alloc (.cells #[.bool false, .bool false, .slice none 0 0, .int .i64 0] 33)).alloc (.cells #[.string s, .int .i64 0, .bool false, .int .i64 0] 49)) (w.heap.size + 1) s ⟨0, false, 0⟩ := Blk.newAt (by simp)
  go_enter Tryz.func10, Tryz.ntmps10
  go_wp2_with fail
  refine (expr_any (2 * s.size + 2) (w.heap.size + 1) s ⟨0, false, 0⟩ _ R0 hs (Nat.zero_le _) (by simp) (by omega)).mono ?_
  rintro e w2 ⟨ka, kl, kc, xs, rfl, hRow, hKR, R2, K2⟩
  have B2 := ((Blk.new w #[.bool false, .bool false, .slice none 0 0, .int .i64 0] 33).alloc (.cells #[.string s, .int .i64 0, .bool false, .int .i64 0] 49)).kp K2 (by omega)
  have K3 : Below w.heap.size w w2 := by
    have := ((Below.refl w.heap.size w).alloc (Nat.le_refl _) (.cells #[.bool false, .bool false, .slice none 0 0, .int .i64 0] 33)).alloc (by simp) (.cells #[.string s, .int .i64 0, .bool false, .int .i64 0] 49)
    exact this.trans ⟨K2.os, K2.tape, K2.output, K2.size, fun k hk => K2.block k (by simp; omega) (by omega)⟩
  have hRow3 := hRow.mono (ok' := fun k => w.heap.size + 2 ≤ k) (fun k hk _ => by simpa using hk)
  have hKR3 := KRep.mono (ok' := fun k => w.heap.size + 2 ≤ k) (fun k hk _ => by simpa using hk) _ _ hKR
  have hsz := K2.size
  simp only [World.size_alloc] at hsz
  clear hRow hKR K2 R0
  generalize hq : exprS s (2 * s.size + 2) ⟨0, false, 0⟩ = q at *
  have HE := hide hq
  clear hq
  obtain ⟨⟨fi, la, kids, gr⟩, ⟨i2, b2, g2⟩⟩ := q
  dsimp only at hRow3 hKR3
  have r0 := R2.c0
  have r1 := R2.c1
  have r2 := R2.c2
  dsimp only at r1 r2
  obtain ⟨x0, x1, x2, x3, xf⟩ := B2.four
  have C3 := Blk.new w2 #[.bool fi, .bool la, .slice ka kl kc, .int .i64 gr] 33
  have R3 := R2.alloc (.cells #[.bool fi, .bool la, .slice ka kl kc, .int .i64 gr] 33)
  have B3 := B2.alloc (.cells #[.bool fi, .bool la, .slice ka kl kc, .int .i64 gr] 33)
  have K4 := K3.alloc K3.size (.cells #[.bool fi, .bool la, .slice ka kl kc, .int .i64 gr] 33)
  have A4 := (Agree.refl (fun k => w.heap.size + 2 ≤ k) w2).alloc (.cells #[.bool fi, .bool la, .slice ka kl kc, .int .i64 gr] 33)
  have hRow4 := hRow3.agree A4
  have hKR4 := KRep.agree A4 _ _ hKR3
  go_wp2_with fail
  clear R2 B2 K3 A4 hRow3 hKR3 r0 r1 r2 x0 x1 x2 x3 xf
  have hne : ¬ w.heap.size = w2.heap.size := by omega
  have hne2 : ¬ w.heap.size + 1 = w2.heap.size := by omega
  generalize hW : w2.alloc (.cells #[.bool fi, .bool la, .slice ka kl kc, .int .i64 gr] 33) = W at *
  generalize hr6 : w2.heap.size = r6 at *
  clear hW hr6 hsz
  have r0 := R3.c0
  have r1 := R3.c1
  have r2 := R3.c2
  dsimp only at r1 r2
  obtain ⟨x0, x1, x2, x3, xf⟩ := B3.four
  obtain ⟨y0, y1, y2, y3, yf⟩ := C3.four
  have HK := hide (show _ from And.intro hRow4 (And.intro hKR4 (And.intro K4 B3)))
  clear hRow4 hKR4 K4 B3 R3 C3
  cases b2
  · go_region
    all_goals
      go_wp2_with fail
      obtain ⟨hRow4, hKR4, K4, B3⟩ := HK.out
      have hA : Agree (fun k => w.heap.size + 2 ≤ k) W (((((W.setCell ⟨w.heap.size, 0, none⟩ (.bool fi)).setCell ⟨w.heap.size, 1, none⟩ (.bool la)).setCell ⟨w.heap.size, 2, none⟩ (.slice ka kl kc)).setCell ⟨w.heap.size, 3, none⟩ (.int .i64 gr)).drew) := (Agree.refl _ W).put4 (k := w.heap.size) (by omega) (.bool fi) (.bool la) (.slice ka kl kc) (.int .i64 gr)
      refine bodyPost_ret (ret_read Tryz.results10 rfl (B3.put4 _ _ _ _).drew) rfl ⟨ka, kl, kc, xs, ?_, ?_, ?_, ?_⟩
      · rw [HE.out]
        exact ret3 rfl rfl (congrArg Value.bool (beq_dec i2 s.size))
      · rw [HE.out]; exact (hRow4.agree hA).mono (fun k hk _ => by omega)
      · rw [HE.out]; exact KRep.mono (fun k hk _ => by omega) _ _ (KRep.agree hA _ _ hKR4)
      · exact ((((K4.setCell (Nat.le_refl _) _).setCell (Nat.le_refl _) _).setCell (Nat.le_refl _) _).setCell (Nat.le_refl _) _).drew
  · go_region
    all_goals
      go_wp2_with fail
      obtain ⟨hRow4, hKR4, K4, B3⟩ := HK.out
      have hA : Agree (fun k => w.heap.size + 2 ≤ k) W (((((W.setCell ⟨w.heap.size, 0, none⟩ (.bool fi)).setCell ⟨w.heap.size, 1, none⟩ (.bool la)).setCell ⟨w.heap.size, 2, none⟩ (.slice ka kl kc)).setCell ⟨w.heap.size, 3, none⟩ (.int .i64 gr)).drew) := (Agree.refl _ W).put4 (k := w.heap.size) (by omega) (.bool fi) (.bool la) (.slice ka kl kc) (.int .i64 gr)
      refine bodyPost_ret (ret_read Tryz.results10 rfl (B3.put4 _ _ _ _).drew) rfl ⟨ka, kl, kc, xs, ?_, ?_, ?_, ?_⟩
      · rw [HE.out]
        exact ret3 rfl rfl rfl
      · rw [HE.out]; exact (hRow4.agree hA).mono (fun k hk _ => by omega)
      · rw [HE.out]; exact KRep.mono (fun k hk _ => by omega) _ _ (KRep.agree hA _ _ hKR4)
      · exact ((((K4.setCell (Nat.le_refl _) _).setCell (Nat.le_refl _) _).setCell (Nat.le_refl _) _).setCell (Nat.le_refl _) _).drew
end Go.Proofs.YtpnecblofjpgfaaGreatDoor
