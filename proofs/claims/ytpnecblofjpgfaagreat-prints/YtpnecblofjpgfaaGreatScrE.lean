import Derived.Test.YtpnecblofjpgfaaGreatScrD
namespace Go.Proofs.YtpnecblofjpgfaaGreat
open Go.RowKit

/-- An expression as a value, of which the groups are known. -/
def ExA (v : Value) (g : Nat) : Prop := ∃ fi la ka kl kc, v = .agg #[.bool fi, .bool la, .slice ka kl kc, .int .i64 g]

theorem Fwd.advIf {s : ByteArray} {st : St} (c : Int) (h : st.i ≤ s.size) : Fwd s st (advIf s c st) := by
  unfold Go.Proofs.YtpnecblofjpgfaaGreat.advIf
  split
  · next hc => exact Fwd.adv (peekOk_lt (isB_ok hc))
  · exact Fwd.refl h
theorem expr_le (s : ByteArray) (n : Nat) (st : St) (h : st.i ≤ s.size) : st.i ≤ (exprS s n st).2.i ∧ (exprS s n st).2.i ≤ s.size := by
  have h1 := Fwd.advIf (st := zeroed st) 94 h
  have h2 := (fwd_all s n).2.2 false (advIf s 94 (zeroed st)) [] h1.2.1
  have h3 := Fwd.advIf 36 h2.2.1
  have h4 := (h1.trans h2).trans h3
  exact ⟨h4.1, h4.2.1⟩

def patternS (s : ByteArray) (n : Nat) (st : St) : (Nat × ByteArray) × St :=
  if 60 < (exprS s n st).2.i - st.i then (((exprS s n st).1.groups, ⟨#[]⟩), { (exprS s n st).2 with i := st.i + 60, bad := true })
  else (((exprS s n st).1.groups, s.extract st.i (exprS s n st).2.i), eatIf s 47 (exprS s n st).2)

/-- An expression out of its variable, and a value. -/
theorem ret_pat {fn : Func} {p u : Tmp} (hres : fn.results = #[.cell p 46, .tmp u]) {w : World} {k : Nat} {a0 a1 a2 a3 : Value} {tmps : Array Value} (ht : tmps.getD p undef = .pointer (some ⟨k, 0, none⟩)) (h : Blk w k #[a0, a1, a2, a3] 46) :
    (results fn tmps).run Tryz.prog w = .ok (.tuple #[.agg #[a0, a1, a2, a3], tmps.getD u undef]) w := by
  obtain ⟨c0, c1, c2, c3, _⟩ := h.four
  have ht' : tmps[p]?.getD undef = .pointer (some ⟨k, 0, none⟩) := by simpa using ht
  simp [results, hres, ht', go_sem, c0, c1, c2, c3]

set_option maxHeartbeats 1600000 in
theorem pattern_any (n b : Nat) (s : ByteArray) (st : St) (w : World) (h : RD w b s st) (hs : s.size ≤ 1048576) (hi : st.i ≤ s.size) (hn : 2 * (s.size - st.i) + 2 ≤ n) (hn' : n ≤ 4000000) :
    Calls Tryz.prog 44 #[.pointer (some ⟨b, 0, none⟩)] w fun e w' => ∃ v, e = .returned (.tuple #[v, .string (patternS s n st).1.2]) ∧ ExA v (patternS s n st).1.1 ∧ RD w' b s (patternS s n st).2 ∧ Kp b w w' := by
  have h1 := h.c1
  have hbl := h.lt
  have hRa := h.alloc (.cells #[.bool false, .bool false, .slice none 0 0, .int .i64 0] 46)
  have hKa : Kp b w (w.alloc (.cells #[.bool false, .bool false, .slice none 0 0, .int .i64 0] 46)) := (Kp.refl b w).alloc _
  have hBx := Blk.new w #[.bool false, .bool false, .slice none 0 0, .int .i64 0] 46
  go_enter Tryz.func44, Tryz.ntmps44
  go_wp2_with fail
  refine (expr_any n b s st _ hRa hs hi hn hn').mono ?_
  rintro e w1 ⟨ka, kl, kc, xs, rfl, -, -, hR1, hK1⟩
  have hB1 := hBx.kp hK1 (by omega)
  have hKK := hKa.trans hK1
  obtain ⟨hge, hle⟩ := expr_le s n st hi
  have hbl1 := hR1.lt
  have hwl1 := hB1.lt
  obtain ⟨c0, c1, c2, c3, cf⟩ := hB1.four
  clear hRa hKa hBx h1
  generalize hp : exprS s n st = p at *
  have HP := hide hp
  clear hp
  obtain ⟨x, q⟩ := p
  dsimp only at *
  have r0 := hR1.c0
  have r1 := hR1.c1
  have r2 := hR1.c2
  have rf := hR1.fz
  by_cases hl : 60 < q.i - st.i
  · have hd : decide ((60 : Int) < (q.i : Int) - st.i) = true := by simp; omega
    go_wp2_with fail
    have hne : w.heap.size ≠ b := by omega
    have hBf := ((((hB1.other (p := ⟨b, 1, none⟩) (Ne.symm hne) (.int .i64 ((st.i : Int) + 60))).other (p := ⟨b, 2, none⟩) (Ne.symm hne) (.bool true)).put4 (.bool x.first) (.bool x.last) (.slice ka kl kc) (.int .i64 x.groups)).alloc (.cells #[.bool x.first, .bool x.last, .slice ka kl kc, .int .i64 x.groups] 46))
    refine bodyPost_ret (ret_pat rfl rfl hBf) rfl ?_
    have e2 : patternS s n st = ((x.groups, ⟨#[]⟩), { q with i := st.i + 60, bad := true }) := by unfold patternS; rw [HP.out, if_pos hl]
    rw [e2]
    refine ⟨_, rfl, ⟨_, _, _, _, _, rfl⟩, ?_, ?_⟩
    · have hR2 : RD ((w1.setCell ⟨b, 1, none⟩ (.int .i64 ((st.i : Int) + 60))).setCell ⟨b, 2, none⟩ (.bool true)) b s { q with i := st.i + 60, bad := true } := (hR1.set1 _ (st.i + 60) rfl).set2 true
      exact ((((hR2.other hne _).other hne _).other hne _).other hne _).alloc _
    · exact (Kp.put4 ((hKK.set 1 _).set 2 _) (Nat.le_refl _) _ _ _ _).alloc _
  · have hd : decide ((60 : Int) < (q.i : Int) - st.i) = false := by simp; omega
    go_wp2_with fail
    go_quiet (fail)
    have hne : w.heap.size ≠ b := by omega
    have e2 : patternS s n st = ((x.groups, s.extract st.i q.i), eatIf s 47 q) := by unfold patternS; rw [HP.out, if_neg hl]
    have hX : Blk ((w1.alloc (.cells #[.bool x.first, .bool x.last, .slice ka kl kc, .int .i64 x.groups] 46)).drewN nq) w1.heap.size #[.bool x.first, .bool x.last, .slice ka kl kc, .int .i64 x.groups] 46 := (Blk.new _ _ _).drewN nq
    have hB2 := (hB1.alloc (.cells #[.bool x.first, .bool x.last, .slice ka kl kc, .int .i64 x.groups] 46)).drewN nq
    have hR2 := (hR1.alloc (.cells #[.bool x.first, .bool x.last, .slice ka kl kc, .int .i64 x.groups] 46)).drewN nq
    have hK2 := (hKK.alloc (.cells #[.bool x.first, .bool x.last, .slice ka kl kc, .int .i64 x.groups] 46)).drewN nq
    have hX1 := hX.lt
    cases hb : q.bad
    · rw [hb] at r2
      have e3 : eatIf s 47 q = eatS s 47 q := eatIf_ok hb
      have HB := hide hb
      clear hb
      go_wp2_with fail
      refine (eat_any b s q 47 _ hR2 hs).mono ?_
      rintro e w3 ⟨rfl, hR3, hK3⟩
      have hX3 := hX.kp hK3 (by omega)
      have hB3 := hB2.kp hK3 (by omega)
      obtain ⟨y0, y1, y2, y3, yf⟩ := hX3.four
      obtain ⟨z0, z1, z2, z3, zf⟩ := hB3.four
      go_wp2_with fail
      have hBf := hB3.put4 (.bool x.first) (.bool x.last) (.slice ka kl kc) (.int .i64 x.groups)
      refine bodyPost_ret (ret_pat rfl rfl hBf) rfl ?_
      rw [e2, e3]
      refine ⟨_, rfl, ⟨_, _, _, _, _, rfl⟩, ?_, ?_⟩
      · exact hR3.put4 hne _ _ _ _
      · exact Kp.put4 (hK2.trans hK3) (Nat.le_refl _) _ _ _ _
    · rw [hb] at r2
      have e3 : eatIf s 47 q = q := eatIf_bad hb
      clear hb
      go_wp2_with fail
      have hBf := hB2.put4 (.bool x.first) (.bool x.last) (.slice ka kl kc) (.int .i64 x.groups)
      refine bodyPost_ret (ret_pat rfl rfl hBf) rfl ?_
      rw [e2, e3]
      refine ⟨_, rfl, ⟨_, _, _, _, _, rfl⟩, ?_, ?_⟩
      · exact hR2.put4 hne _ _ _ _
      · exact Kp.put4 hK2 (Nat.le_refl _) _ _ _ _
end Go.Proofs.YtpnecblofjpgfaaGreat
