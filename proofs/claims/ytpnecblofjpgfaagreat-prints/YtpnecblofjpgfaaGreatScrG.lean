import Derived.Test.YtpnecblofjpgfaaGreatScrF
namespace Go.Proofs.YtpnecblofjpgfaaGreat
open Go.RowKit

def pieceL : List UInt8 := [49, 50, 51, 52, 53, 54, 55, 56, 57, 110, 38, 92, 47]

/-- A piece of a replacement: where the reader then is. -/
def pieceS (s : ByteArray) (groups : Nat) (st : St) : St :=
  if peekOk s st = false ∨ peekC s st = 10 then spoil st else
  if peekC s st ≠ 92 then adv st else
  if peekOk s (adv st) = false ∨ hasL pieceL (peekC s (adv st)) = false ∨ (49 ≤ peekC s (adv st) ∧ peekC s (adv st) ≤ 57 ∧ (groups : Int) < peekC s (adv st) - 48) then spoil (adv st) else
  adv (adv st)

def PcV (v : Value) : Prop := ∃ k c n, v = .agg #[.int .u8 k, .int .u8 c, .int .i64 n]

section
variable {w : World} {k : Nat} {t : TypeId} {a0 a1 a2 : Value}
theorem Blk.three (h : Blk w k #[a0, a1, a2] t) : w.cell? ⟨k, 0, none⟩ = some a0 ∧ w.cell? ⟨k, 1, none⟩ = some a1 ∧ w.cell? ⟨k, 2, none⟩ = some a2 ∧ ∀ o, w.frozen? ⟨k, o, none⟩ = false :=
  ⟨h.cell 0 rfl, h.cell 1 rfl, h.cell 2 rfl, h.fz⟩
theorem Blk.put3 (h : Blk w k #[a0, a1, a2] t) (b0 b1 b2 : Value) : Blk (((w.setCell ⟨k, 0, none⟩ b0).setCell ⟨k, 1, none⟩ b1).setCell ⟨k, 2, none⟩ b2) k #[b0, b1, b2] t :=
  ((h.set 0 b0 rfl).set 1 b1 rfl).set 2 b2 rfl
theorem Kp.put3 {b : Nat} {W w : World} (h : Kp b W w) {k : Nat} (hk : W.heap.size ≤ k) (b0 b1 b2 : Value) : Kp b W (((w.setCell ⟨k, 0, none⟩ b0).setCell ⟨k, 1, none⟩ b1).setCell ⟨k, 2, none⟩ b2) :=
  ((h.setNew hk _).setNew hk _).setNew hk _
theorem RD.put3 {w : World} {b : Nat} {s : ByteArray} {st : St} (h : RD w b s st) {k : Nat} (hk : k ≠ b) (b0 b1 b2 : Value) : RD (((w.setCell ⟨k, 0, none⟩ b0).setCell ⟨k, 1, none⟩ b1).setCell ⟨k, 2, none⟩ b2) b s st :=
  ((h.other hk _).other hk _).other hk _
end
/-- A piece that is handed back out of its variable. -/
theorem ret_piece {fn : Func} {p : Tmp} (hres : fn.results = #[.cell p 106]) {w : World} {k : Nat} {a0 a1 a2 : Value} {tmps : Array Value} (ht : tmps.getD p undef = .pointer (some ⟨k, 0, none⟩)) (h : Blk w k #[a0, a1, a2] 106) :
    (results fn tmps).run Tryz.prog w = .ok (.agg #[a0, a1, a2]) w := by
  obtain ⟨c0, c1, c2, _⟩ := h.three
  have ht' : tmps[p]?.getD undef = .pointer (some ⟨k, 0, none⟩) := by simpa using ht
  simp [results, hres, ht', go_sem, c0, c1, c2]

theorem has_piece (c : Int) (w : World) : Calls Tryz.prog 35 #[.string ⟨#[49, 50, 51, 52, 53, 54, 55, 56, 57, 110, 38, 92, 47]⟩, .int .u8 c] w fun e w' => e = .returned (.bool (hasL pieceL c)) ∧ w' = w :=
  has_any ⟨#[49, 50, 51, 52, 53, 54, 55, 56, 57, 110, 38, 92, 47]⟩ c w (by decide)

set_option maxRecDepth 100000 in
set_option maxHeartbeats 1600000 in
theorem piece_any (g b : Nat) (s : ByteArray) (st : St) (w : World) (h : RD w b s st) (hs : s.size ≤ 1048576) (_hi : st.i ≤ s.size) (_hg : g ≤ 9) :
    Calls Tryz.prog 62 #[.pointer (some ⟨b, 0, none⟩), .int .i64 g] w fun e w' => ∃ v, e = .returned v ∧ PcV v ∧ RD w' b s (pieceS s g st) ∧ Kp b w w' := by
  have hbl := h.lt
  have hR0 := h.alloc (.cells #[.int .u8 0, .int .u8 0, .int .i64 0] 106)
  have hK0 : Kp b w (w.alloc (.cells #[.int .u8 0, .int .u8 0, .int .i64 0] 106)) := (Kp.refl b w).alloc _
  have hB0 := Blk.new w #[.int .u8 0, .int .u8 0, .int .i64 0] 106
  have hne : w.heap.size ≠ b := by omega
  have hlo := peekC_lo s st
  have hhi := peekC_hi s st
  have hlo2 := peekC_lo s (adv st)
  have hhi2 := peekC_hi s (adv st)
  go_enter Tryz.func62, Tryz.ntmps62
  go_wp2_with fail
  generalize w.alloc (.cells #[.int .u8 0, .int .u8 0, .int .i64 0] 106) = w0 at *
  refine (peek_any b s st w0 hR0 hs).mono ?_
  rintro e w1 ⟨rfl, hw1⟩
  replace hw1 : Same w0 w1 := hw1
  have hR1 := hw1.rd hR0
  have hK1 := hw1.kp hK0
  have hB1 := hw1.blk hB0
  clear hw1 hR0 hK0 hB0
  have r1 := hR1.c1
  have r2 := hR1.c2
  have rf := hR1.fz
  obtain ⟨z0, z1, z2, zf⟩ := hB1.three
  have HP : Hid (pieceS s g st = if peekOk s st = false ∨ peekC s st = 10 then spoil st else if peekC s st ≠ 92 then adv st else if peekOk s (adv st) = false ∨ hasL pieceL (peekC s (adv st)) = false ∨ (49 ≤ peekC s (adv st) ∧ peekC s (adv st) ≤ 57 ∧ (g : Int) < peekC s (adv st) - 48) then spoil (adv st) else adv (adv st)) := rfl
  have hpk := fun h => peekOk_lt (s := s) (st := st) h
  have HK : Hid (peekOk s st = true → st.i < s.size) := hpk
  clear hpk
  have hp2 := fun w2 (hR2 : RD w2 b s (adv st)) => peek_any b s (adv st) w2 hR2 hs
  have HP2 := hide hp2
  clear hp2
  generalize peekC s st = pc at *
  generalize peekOk s st = ok at *
  cases ok
  · have E := hide (show pieceS s g st = spoil st by rw [HP.out, if_pos (.inl rfl)])
    clear HP
    go_wp2_with fail
    refine bodyPost_ret (ret_piece rfl rfl ((hB1.other (p := ⟨b, 2, none⟩) (Ne.symm hne) _).put3 _ _ _)) rfl ?_
    rw [E.out]
    exact ⟨_, rfl, ⟨_, _, _, rfl⟩, (hR1.spoil).put3 hne _ _ _, Kp.put3 (hK1.set 2 _) (Nat.le_refl _) _ _ _⟩
  · have hlt := HK.out rfl
    by_cases h10 : pc = 10
    · subst h10
      have E := hide (show pieceS s g st = spoil st by rw [HP.out, if_pos (.inr rfl)])
      clear HP
      go_wp2_with fail
      refine bodyPost_ret (ret_piece rfl rfl ((hB1.other (p := ⟨b, 2, none⟩) (Ne.symm hne) _).put3 _ _ _)) rfl ?_
      rw [E.out]
      exact ⟨_, rfl, ⟨_, _, _, rfl⟩, (hR1.spoil).put3 hne _ _ _, Kp.put3 (hK1.set 2 _) (Nat.le_refl _) _ _ _⟩
    · by_cases h38 : pc = 38
      · subst h38
        have E := hide (show pieceS s g st = adv st by rw [HP.out, if_neg (by simp), if_pos (by decide)])
        clear HP
        go_wp2_with fail
        refine bodyPost_ret (ret_piece rfl rfl ((hB1.other (p := ⟨b, 1, none⟩) (Ne.symm hne) _).put3 _ _ _)) rfl ?_
        rw [E.out]
        exact ⟨_, rfl, ⟨_, _, _, rfl⟩, (hR1.adv rfl).put3 hne _ _ _, Kp.put3 (hK1.set 1 _) (Nat.le_refl _) _ _ _⟩
      · by_cases h92 : pc = 92
        · subst h92
          have E := hide (show pieceS s g st = if peekOk s (adv st) = false ∨ hasL pieceL (peekC s (adv st)) = false ∨ (49 ≤ peekC s (adv st) ∧ peekC s (adv st) ≤ 57 ∧ (g : Int) < peekC s (adv st) - 48) then spoil (adv st) else adv (adv st) by rw [HP.out, if_neg (by simp), if_neg (by decide)])
          have hl2 : peekOk s (adv st) = true → (adv st).i < s.size := fun h => peekOk_lt h
          have HL2 := hide hl2
          have hR1' := hR1.adv (i := (st.i : Int) + 1) rfl
          have hB1' := hB1.other (p := ⟨b, 1, none⟩) (Ne.symm hne) (.int .i64 ((st.i : Int) + 1))
          have hK1' := hK1.set 1 (.int .i64 ((st.i : Int) + 1))
          clear HP hl2
          go_wp2_with fail
          refine (HP2.out _ hR1').mono ?_
          rintro e w2 ⟨rfl, hw2⟩
          replace hw2 : Same (w1.setCell ⟨b, 1, none⟩ (.int .i64 ((st.i : Int) + 1))) w2 := hw2
          have hR2 := hw2.rd hR1'
          have hK2 := hw2.kp hK1'
          have hB2 := hw2.blk hB1'
          clear hw2 hR1 hK1 hB1 hR1' hK1' hB1' r1 r2 rf z0 z1 z2 zf HP2
          have r1 := hR2.c1
          have r2 := hR2.c2
          have rf := hR2.fz
          obtain ⟨z0, z1, z2, zf⟩ := hB2.three
          generalize hq : adv st = q at *
          generalize peekC s q = pd at *
          generalize peekOk s q = ok at *
          cases ok
          · have E2 := hide (show pieceS s g st = spoil q by rw [E.out, if_pos (.inl rfl)])
            clear E
            go_wp2_with fail
            refine bodyPost_ret (ret_piece rfl rfl ((hB2.other (p := ⟨b, 2, none⟩) (Ne.symm hne) _).put3 _ _ _)) rfl ?_
            rw [E2.out]
            exact ⟨_, rfl, ⟨_, _, _, rfl⟩, (hR2.spoil).put3 hne _ _ _, Kp.put3 (hK2.set 2 _) (Nat.le_refl _) _ _ _⟩
          · have hlt2 := HL2.out rfl
            cases hh : hasL pieceL pd
            · have E2 := hide (show pieceS s g st = spoil q by rw [E.out, if_pos (.inr (.inl hh))])
              have HH := hide hh
              clear E hh
              go_wp2_with (go_at_call 35; refine (has_piece pd _).mono ?_; rintro e w3 ⟨rfl, rfl⟩; rw [HH.out])
              refine bodyPost_ret (ret_piece rfl rfl ((hB2.other (p := ⟨b, 2, none⟩) (Ne.symm hne) _).put3 _ _ _)) rfl ?_
              rw [E2.out]
              exact ⟨_, rfl, ⟨_, _, _, rfl⟩, (hR2.spoil).put3 hne _ _ _, Kp.put3 (hK2.set 2 _) (Nat.le_refl _) _ _ _⟩
            · have HH := hide hh
              by_cases hdg : 49 ≤ pd ∧ pd ≤ 57
              · obtain ⟨hd1, hd2⟩ := hdg
                by_cases hgr : (g : Int) < pd - 48
                · have E2 := hide (show pieceS s g st = spoil q by rw [E.out, if_pos (.inr (.inr ⟨hd1, hd2, hgr⟩))])
                  clear E hh
                  go_wp2_with (go_at_call 35; refine (has_piece pd _).mono ?_; rintro e w3 ⟨rfl, rfl⟩; rw [HH.out])
                  refine bodyPost_ret (ret_piece rfl rfl ((hB2.other (p := ⟨b, 2, none⟩) (Ne.symm hne) _).put3 _ _ _)) rfl ?_
                  rw [E2.out]
                  exact ⟨_, rfl, ⟨_, _, _, rfl⟩, (hR2.spoil).put3 hne _ _ _, Kp.put3 (hK2.set 2 _) (Nat.le_refl _) _ _ _⟩
                · have E2 := hide (show pieceS s g st = adv q by rw [E.out, if_neg (by simp [hh]; omega)])
                  clear E hh
                  go_wp2_with (go_at_call 35; refine (has_piece pd _).mono ?_; rintro e w3 ⟨rfl, rfl⟩; rw [HH.out])
                  refine bodyPost_ret (ret_piece rfl rfl ((hB2.other (p := ⟨b, 1, none⟩) (Ne.symm hne) _).put3 _ _ _)) rfl ?_
                  rw [E2.out]
                  exact ⟨_, rfl, ⟨_, _, _, rfl⟩, (hR2.adv rfl).put3 hne _ _ _, Kp.put3 (hK2.set 1 _) (Nat.le_refl _) _ _ _⟩
              · have E2 := hide (show pieceS s g st = adv q by rw [E.out, if_neg (by simp [hh]; omega)])
                clear E hh
                have key : (pd ≤ 57 ∧ ¬ 49 ≤ pd) ∨ ¬ pd ≤ 57 := by omega
                clear hdg
                by_cases hn : pd = 110
                · subst hn
                  clear key
                  go_wp2_with (go_at_call 35; refine (has_piece _ _).mono ?_; rintro e w3 ⟨rfl, rfl⟩; rw [HH.out])
                  refine bodyPost_ret (ret_piece rfl rfl ((hB2.other (p := ⟨b, 1, none⟩) (Ne.symm hne) _).put3 _ _ _)) rfl ?_
                  rw [E2.out]
                  exact ⟨_, rfl, ⟨_, _, _, rfl⟩, (hR2.adv rfl).put3 hne _ _ _, Kp.put3 (hK2.set 1 _) (Nat.le_refl _) _ _ _⟩
                · rcases key with ⟨k1, k2⟩ | k1
                  all_goals
                    go_wp2_with (go_at_call 35; refine (has_piece pd _).mono ?_; rintro e w3 ⟨rfl, rfl⟩; rw [HH.out])
                    refine bodyPost_ret (ret_piece rfl rfl ((hB2.other (p := ⟨b, 1, none⟩) (Ne.symm hne) _).put3 _ _ _)) rfl ?_
                    rw [E2.out]
                    exact ⟨_, rfl, ⟨_, _, _, rfl⟩, (hR2.adv rfl).put3 hne _ _ _, Kp.put3 (hK2.set 1 _) (Nat.le_refl _) _ _ _⟩
        · have E := hide (show pieceS s g st = adv st by rw [HP.out, if_neg (by simp [h10]), if_pos h92])
          clear HP
          go_wp2_with fail
          refine bodyPost_ret (ret_piece rfl rfl ((hB1.other (p := ⟨b, 1, none⟩) (Ne.symm hne) _).put3 _ _ _)) rfl ?_
          rw [E.out]
          exact ⟨_, rfl, ⟨_, _, _, rfl⟩, (hR1.adv rfl).put3 hne _ _ _, Kp.put3 (hK1.set 1 _) (Nat.le_refl _) _ _ _⟩
end Go.Proofs.YtpnecblofjpgfaaGreat
