import Derived.Test.YtmjdaifalgpdnaaGreatScrE
namespace Go.Proofs.YtmjdaifalgpdnaaGreat
open Go.RowKit

/-- Nothing has turned but what was drawn. -/
def Same (w w' : World) : Prop := ∃ n, w' = w.drewN n
section
variable {w w' W : World} {b k : Nat} {s : ByteArray} {st : St}
theorem Same.rd (h : Same w w') (hR : RD w b s st) : RD w' b s st := by obtain ⟨n, rfl⟩ := h; exact hR
theorem Same.blk (h : Same w w') {c : Array Value} {t : TypeId} (hB : Blk w k c t) : Blk w' k c t := by obtain ⟨n, rfl⟩ := h; exact hB
theorem Same.kp (h : Same w w') (hK : Kp b W w) : Kp b W w' := by obtain ⟨n, rfl⟩ := h; exact hK.drewN n
end

/-- An address: what it is, its number, its expression's text. -/
structure AdT where
  kind : Int
  num : Int
  text : ByteArray

/-- An address as a value. -/
def AdV (v : Value) (a : AdT) : Prop := ∃ fi la ka kl kc g, v = .agg #[.int .u8 a.kind, .int .i64 a.num, .bool fi, .bool la, .slice ka kl kc, .int .i64 g, .string a.text]

def numL (s : ByteArray) : Nat → Int → St → Int × St
  | 0, a, st => (a, st)
  | n + 1, a, st => if amongB s st digitsL then numL s n (10 * a + (digitS s 48 st).1) (digitS s 48 st).2 else (a, st)

def addrS (s : ByteArray) (n : Nat) (st : St) : AdT × St :=
  if isB s st 36 then (⟨36, 0, ⟨#[]⟩⟩, adv st) else
  if isB s st 47 then (⟨47, 0, (patternS s n (adv st)).1.2⟩, (patternS s n (adv st)).2) else
  if amongB s st digits1L = false then (⟨0, 0, ⟨#[]⟩⟩, st) else
  (⟨110, (numL s 4 0 st).1, ⟨#[]⟩⟩, (numL s 4 0 st).2)

section
variable {w : World} {k : Nat} {t : TypeId} {a0 a1 a2 a3 a4 a5 a6 : Value}
theorem Blk.seven (h : Blk w k #[a0, a1, a2, a3, a4, a5, a6] t) : w.cell? ⟨k, 0, none⟩ = some a0 ∧ w.cell? ⟨k, 1, none⟩ = some a1 ∧ w.cell? ⟨k, 2, none⟩ = some a2 ∧ w.cell? ⟨k, 3, none⟩ = some a3 ∧ w.cell? ⟨k, 4, none⟩ = some a4 ∧ w.cell? ⟨k, 5, none⟩ = some a5 ∧ w.cell? ⟨k, 6, none⟩ = some a6 ∧ ∀ o, w.frozen? ⟨k, o, none⟩ = false :=
  ⟨h.cell 0 rfl, h.cell 1 rfl, h.cell 2 rfl, h.cell 3 rfl, h.cell 4 rfl, h.cell 5 rfl, h.cell 6 rfl, h.fz⟩
theorem Blk.put7 (h : Blk w k #[a0, a1, a2, a3, a4, a5, a6] t) (b0 b1 b2 b3 b4 b5 b6 : Value) :
    Blk (((((((w.setCell ⟨k, 0, none⟩ b0).setCell ⟨k, 1, none⟩ b1).setCell ⟨k, 2, none⟩ b2).setCell ⟨k, 3, none⟩ b3).setCell ⟨k, 4, none⟩ b4).setCell ⟨k, 5, none⟩ b5).setCell ⟨k, 6, none⟩ b6) k #[b0, b1, b2, b3, b4, b5, b6] t := by
  have h0 := h.set 0 b0 (c' := #[b0, a1, a2, a3, a4, a5, a6]) rfl
  have h1 := h0.set 1 b1 (c' := #[b0, b1, a2, a3, a4, a5, a6]) rfl
  have h2 := h1.set 2 b2 (c' := #[b0, b1, b2, a3, a4, a5, a6]) rfl
  have h3 := h2.set 3 b3 (c' := #[b0, b1, b2, b3, a4, a5, a6]) rfl
  have h4 := h3.set 4 b4 (c' := #[b0, b1, b2, b3, b4, a5, a6]) rfl
  have h5 := h4.set 5 b5 (c' := #[b0, b1, b2, b3, b4, b5, a6]) rfl
  exact h5.set 6 b6 rfl
theorem Kp.put7 {b : Nat} {W w : World} (h : Kp b W w) {k : Nat} (hk : W.heap.size ≤ k) (b0 b1 b2 b3 b4 b5 b6 : Value) :
    Kp b W (((((((w.setCell ⟨k, 0, none⟩ b0).setCell ⟨k, 1, none⟩ b1).setCell ⟨k, 2, none⟩ b2).setCell ⟨k, 3, none⟩ b3).setCell ⟨k, 4, none⟩ b4).setCell ⟨k, 5, none⟩ b5).setCell ⟨k, 6, none⟩ b6) :=
  ((((((h.setNew hk _).setNew hk _).setNew hk _).setNew hk _).setNew hk _).setNew hk _).setNew hk _
theorem RD.put7 {w : World} {b : Nat} {s : ByteArray} {st : St} (h : RD w b s st) {k : Nat} (hk : k ≠ b) (b0 b1 b2 b3 b4 b5 b6 : Value) :
    RD (((((((w.setCell ⟨k, 0, none⟩ b0).setCell ⟨k, 1, none⟩ b1).setCell ⟨k, 2, none⟩ b2).setCell ⟨k, 3, none⟩ b3).setCell ⟨k, 4, none⟩ b4).setCell ⟨k, 5, none⟩ b5).setCell ⟨k, 6, none⟩ b6) b s st :=
  ((((((h.other hk _).other hk _).other hk _).other hk _).other hk _).other hk _).other hk _
end

/-- An address that is handed back out of its variable. -/
theorem ret_addr {fn : Func} {p : Tmp} (hres : fn.results = #[.cell p 59]) {w : World} {k : Nat} {a0 a1 a2 a3 a4 a5 a6 : Value} {tmps : Array Value} (ht : tmps.getD p undef = .pointer (some ⟨k, 0, none⟩)) (h : Blk w k #[a0, a1, a2, a3, a4, a5, a6] 59) :
    (results fn tmps).run Tryz.prog w = .ok (.agg #[a0, a1, a2, a3, a4, a5, a6]) w := by
  obtain ⟨c0, c1, c2, c3, c4, c5, c6, _⟩ := h.seven
  have ht' : tmps[p]?.getD undef = .pointer (some ⟨k, 0, none⟩) := by simpa using ht
  simp [results, hres, ht', go_sem, c0, c1, c2, c3, c4, c5, c6]

set_option maxRecDepth 100000 in
set_option maxHeartbeats 1600000 in
theorem addr_any (n b : Nat) (s : ByteArray) (st : St) (w : World) (h : RD w b s st) (hs : s.size ≤ 1048576) (hi : st.i ≤ s.size) (hn : 2 * (s.size - st.i) + 2 ≤ n) (hn' : n ≤ 4000000) :
    Calls Tryz.prog 40 #[.pointer (some ⟨b, 0, none⟩)] w fun e w' => ∃ v, e = .returned v ∧ AdV v (addrS s n st).1 ∧ RD w' b s (addrS s n st).2 ∧ Kp b w w' := by
  have hbl := h.lt
  have hR0 := h.alloc (.cells #[.int .u8 0, .int .i64 0, .bool false, .bool false, .slice none 0 0, .int .i64 0, .string ⟨#[]⟩] 59)
  have hK0 : Kp b w (w.alloc (.cells #[.int .u8 0, .int .i64 0, .bool false, .bool false, .slice none 0 0, .int .i64 0, .string ⟨#[]⟩] 59)) := (Kp.refl b w).alloc _
  have hB0 := Blk.new w #[.int .u8 0, .int .i64 0, .bool false, .bool false, .slice none 0 0, .int .i64 0, .string ⟨#[]⟩] 59
  go_enter Tryz.func40, Tryz.ntmps40
  go_wp2_with fail
  generalize w.alloc (.cells #[.int .u8 0, .int .i64 0, .bool false, .bool false, .slice none 0 0, .int .i64 0, .string ⟨#[]⟩] 59) = w0 at *
  have hne : w.heap.size ≠ b := by omega
  refine (is_any b s st 36 w0 hR0 hs).mono ?_
  rintro e w1 ⟨rfl, n1, hw1⟩
  have hR1 : RD w1 b s st := by rw [hw1]; exact hR0
  have hK1 : Kp b w w1 := by rw [hw1]; exact hK0.drewN n1
  have hB1 : Blk w1 w.heap.size #[.int .u8 0, .int .i64 0, .bool false, .bool false, .slice none 0 0, .int .i64 0, .string ⟨#[]⟩] 59 := by rw [hw1]; exact hB0
  clear hw1 hR0 hK0 hB0
  have r1 := hR1.c1
  have rf := hR1.fz
  obtain ⟨z0, z1, z2, z3, z4, z5, z6, zf⟩ := hB1.seven
  cases hd : isB s st 36
  · clear z0 z1 z2 z3 z4 z5 z6 zf r1 rf
    go_wp2_with fail
    refine (is_any b s st 47 w1 hR1 hs).mono ?_
    rintro e w2 ⟨rfl, n2, hw2⟩
    have hR2 : RD w2 b s st := by rw [hw2]; exact hR1
    have hK2 : Kp b w w2 := by rw [hw2]; exact hK1.drewN n2
    have hB2 : Blk w2 w.heap.size #[.int .u8 0, .int .i64 0, .bool false, .bool false, .slice none 0 0, .int .i64 0, .string ⟨#[]⟩] 59 := by rw [hw2]; exact hB1
    clear hw2 hR1 hK1 hB1
    have r1 := hR2.c1
    have rf := hR2.fz
    obtain ⟨z0, z1, z2, z3, z4, z5, z6, zf⟩ := hB2.seven
    cases hsl : isB s st 47
    · clear z0 z1 z2 z3 z4 z5 z6 zf r1 rf
      go_wp2_with fail
      refine (among_digits1 b s rfl hR2 hs).mono ?_
      rintro e w3 ⟨rfl, n3, hw3⟩
      have hR3 : RD w3 b s st := by rw [hw3]; exact hR2
      have hK3 : Kp b w w3 := by rw [hw3]; exact hK2.drewN n3
      have hB3 : Blk w3 w.heap.size #[.int .u8 0, .int .i64 0, .bool false, .bool false, .slice none 0 0, .int .i64 0, .string ⟨#[]⟩] 59 := by rw [hw3]; exact hB2
      clear hw3 hR2 hK2 hB2
      obtain ⟨z0, z1, z2, z3, z4, z5, z6, zf⟩ := hB3.seven
      cases hdg : amongB s st digits1L
      · go_wp2_with fail
        refine bodyPost_ret (ret_addr rfl rfl (hB3.put7 _ _ _ _ _ _ _)) rfl ?_
        have e2 : addrS s n st = (⟨0, 0, ⟨#[]⟩⟩, st) := by unfold addrS; rw [hd, hsl, hdg]; rfl
        rw [e2]
        exact ⟨_, rfl, ⟨_, _, _, _, _, _, rfl⟩, hR3.put7 hne _ _ _ _ _ _ _, Kp.put7 hK3 (Nat.le_refl _) _ _ _ _ _ _ _⟩
      · have e2 : addrS s n st = (⟨110, (numL s 4 0 st).1, ⟨#[]⟩⟩, (numL s 4 0 st).2) := by unfold addrS; rw [hd, hsl, hdg]; rfl
        have HE2 := hide e2
        clear e2
        have hwl := hB3.lt
        have hbl3 := hR3.lt
        have hA0 := Blk.new w3 #[.int .u8 110, .int .i64 0, .bool false, .bool false, .slice none 0 0, .int .i64 0, .string ⟨#[]⟩] 59
        have hR4 := hR3.alloc (.cells #[.int .u8 110, .int .i64 0, .bool false, .bool false, .slice none 0 0, .int .i64 0, .string ⟨#[]⟩] 59)
        have hK4 := hK3.alloc (.cells #[.int .u8 110, .int .i64 0, .bool false, .bool false, .slice none 0 0, .int .i64 0, .string ⟨#[]⟩] 59)
        have hB4 := hB3.alloc (.cells #[.int .u8 110, .int .i64 0, .bool false, .bool false, .slice none 0 0, .int .i64 0, .string ⟨#[]⟩] 59)
        clear z0 z1 z2 z3 z4 z5 z6 zf hR3 hK3 hB3
        go_wp2_with fail
        generalize w3.alloc (.cells #[.int .u8 110, .int .i64 0, .bool false, .bool false, .slice none 0 0, .int .i64 0, .string ⟨#[]⟩] 59) = w4 at *
        generalize w3.heap.size = ab at *
        go_loopg [6, 7] 4 (fun c kv dv w' => ∃ (j : Nat) (cur : St) (a : Int), kv = .int .i64 j ∧ j + c = 4 ∧ RD w' b s cur ∧ Blk w' ab #[.int .u8 110, .int .i64 a, .bool false, .bool false, .slice none 0 0, .int .i64 0, .string ⟨#[]⟩] 59 ∧ Blk w' w.heap.size #[.int .u8 0, .int .i64 0, .bool false, .bool false, .slice none 0 0, .int .i64 0, .string ⟨#[]⟩] 59 ∧ Kp b w w' ∧ cur.i ≤ s.size ∧ 0 ≤ a ∧ a ≤ 9999 ∧ (j ≤ 3 → a ≤ 999) ∧ (j ≤ 2 → a ≤ 99) ∧ (j ≤ 1 → a ≤ 9) ∧ (j ≤ 0 → a ≤ 0) ∧ Hid (numL s c a cur = numL s 4 0 st))
        case atStart => exact ⟨0, st, 0, rfl, rfl, hR4, hA0, hB4, hK4, hi, by omega, by omega, by omega, by omega, by omega, by omega, rfl⟩
        case round =>
          obtain ⟨j, cur, a, rfl, hjk, hR, hA, hB, hK, hci, ha0, ha9, ha3, ha2, ha1, ha00, HE⟩ := hrel
          clear hR4 hA0 hB4 hK4
          have hal := hA.lt
          obtain ⟨y0, y1, y2, y3, y4, y5, y6, yf⟩ := hA.seven
          by_cases hgo : 0 < gk ∧ amongB s cur digitsL = true
          · obtain ⟨hk, hx⟩ := hgo
            obtain ⟨k, rfl⟩ : ∃ k, gk = k + 1 := ⟨gk - 1, by omega⟩
            have hE := HE.out
            rw [numL, if_pos hx] at hE
            have HE3 := hide hE
            have hj : (j : Int) < 4 := by omega
            have hdl := digit_lo s cur
            have hdh := digit_hi s 48 cur
            clear hE HE y0 y1 y2 y3 y4 y5 y6 yf
            go_upto_region 14 with (go_at_call 51; refine (among_digits b s hx hR hs).mono ?_; rintro e w5 ⟨rfl, hw5⟩; replace hw5 : Same wr w5 := hw5)
            have hR5 := hw5.rd hR
            have hA5 := hw5.blk hA
            have hB5 := hw5.blk hB
            have hK5 := hw5.kp hK
            clear hw5
            go_wp2_with fail
            refine (digit_any b s cur 48 w5 hR5 hs).mono ?_
            rintro e w6 ⟨rfl, hR6, hK6⟩
            have hA6 := hA5.kp hK6 (by omega)
            have hB6 := hB5.kp hK6 (by omega)
            have hK7 := hK5.trans hK6
            obtain ⟨y0, y1, y2, y3, y4, y5, y6, yf⟩ := hA6.seven
            clear hR hA hB hK hR5 hA5 hB5 hK5
            generalize hdg2 : digitS s 48 cur = dg at *
            have HDG := hide hdg2
            clear hdg2
            obtain ⟨dv, dst⟩ := dg
            dsimp only at hdl hdh hR6
            go_wp2_with fail
            go_roundg k
            case measure => omega
            case rel =>
              have hle := digit_le s 48 cur hci
              rw [HDG.out] at hle
              exact ⟨j + 1, dst, 10 * a + dv, by go_num, by omega, hR6.other (by show ab ≠ b; omega) _, hA6.set 1 _ rfl, hB6.other (by show ab ≠ w.heap.size; omega) _, hK7.setNew (by show w.heap.size ≤ ab; omega) _, hle, by omega, by omega, by omega, by omega, by omega, by omega, HE3.out⟩
          · have hE : numL s 4 0 st = (a, cur) := by
              rw [← HE.out]
              cases hk : gk with
              | zero => rfl
              | succ k =>
                rw [numL, if_neg]
                intro h
                exact hgo ⟨by omega, h⟩
            have key : ((j : Int) < 4 ∧ amongB s cur digitsL = false) ∨ ¬ (j : Int) < 4 := by
              by_cases h0 : 0 < gk
              · left
                refine ⟨by omega, ?_⟩
                cases hx : amongB s cur digitsL
                · rfl
                · exact absurd ⟨h0, hx⟩ hgo
              · right; omega
            have HF := hide hE
            clear hE HE hgo
            go_upto_region 12 with fail
            go_cut [45] (fun bv wc => bv = .bool false ∧ Same wr wc)
            case first =>
              rcases key with ⟨h1, h2⟩ | h1
              · go_wp2_with (go_at_call 51; refine (among_digits b s h2 hR hs).mono ?_; rintro e w5 ⟨rfl, hw5⟩; replace hw5 : Same wr w5 := hw5)
                go_meet
                case rel => exact ⟨rfl, hw5⟩
              · go_wp2_with fail
                go_meet
                case rel => exact ⟨rfl, 0, rfl⟩
            case rest =>
              obtain ⟨rfl, hsm⟩ := hcut
              have hR5 := hsm.rd hR
              have hA5 := hsm.blk hA
              have hB5 := hsm.blk hB
              have hK5 := hsm.kp hK
              clear key hsm hR hA hB hK y0 y1 y2 y3 y4 y5 y6 yf
              obtain ⟨y0, y1, y2, y3, y4, y5, y6, yf⟩ := hA5.seven
              obtain ⟨z0, z1, z2, z3, z4, z5, z6, zf⟩ := hB5.seven
              go_wp2_with fail
              refine bodyPost_ret (ret_addr rfl rfl (hB5.put7 _ _ _ _ _ _ _)) rfl ?_
              rw [HE2.out, HF.out]
              exact ⟨_, rfl, ⟨_, _, _, _, _, _, rfl⟩, hR5.put7 hne _ _ _ _ _ _ _, Kp.put7 hK5 (Nat.le_refl _) _ _ _ _ _ _ _⟩
    · have hlt := peekOk_lt (isB_ok hsl)
      go_wp2_with fail
      refine (pattern_any n b s (adv st) _ (hR2.adv rfl) hs (by simp [adv]; omega) (by simp [adv]; omega) hn').mono ?_
      rintro e w4 ⟨v, rfl, ⟨fi, la, ka, kl, kc, rfl⟩, hR4, hK4⟩
      have hK5 := (hK2.set 1 (.int .i64 ((st.i : Int) + 1))).trans hK4
      have hB4 := (hB2.other (p := ⟨b, 1, none⟩) (Ne.symm hne) (.int .i64 ((st.i : Int) + 1))).kp hK4 (by omega)
      clear z0 z1 z2 z3 z4 z5 z6 zf r1 rf
      obtain ⟨z0, z1, z2, z3, z4, z5, z6, zf⟩ := hB4.seven
      have hwl := hB4.lt
      have e2 : addrS s n st = (⟨47, 0, (patternS s n (adv st)).1.2⟩, (patternS s n (adv st)).2) := by unfold addrS; rw [hd, hsl]; rfl
      have HE := hide e2
      clear e2
      go_wp2_with fail
      refine bodyPost_ret (ret_addr rfl rfl ((hB4.put7 _ _ _ _ _ _ _).alloc _)) rfl ?_
      rw [HE.out]
      exact ⟨_, rfl, ⟨_, _, _, _, _, _, rfl⟩, (hR4.put7 hne _ _ _ _ _ _ _).alloc _, (Kp.put7 hK5 (Nat.le_refl _) _ _ _ _ _ _ _).alloc _⟩
  · have hlt := peekOk_lt (isB_ok hd)
    go_wp2_with fail
    refine bodyPost_ret (ret_addr rfl rfl ((hB1.other (p := ⟨b, 1, none⟩) (Ne.symm hne) _).put7 _ _ _ _ _ _ _)) rfl ?_
    have e2 : addrS s n st = (⟨36, 0, ⟨#[]⟩⟩, adv st) := by unfold addrS; rw [hd]; rfl
    rw [e2]
    exact ⟨_, rfl, ⟨_, _, _, _, _, _, rfl⟩, (hR1.adv rfl).put7 hne _ _ _ _ _ _ _, Kp.put7 (hK1.set 1 _) (Nat.le_refl _) _ _ _ _ _ _ _⟩
end Go.Proofs.YtmjdaifalgpdnaaGreat

namespace Go.Proofs.YtmjdaifalgpdnaaGreat
open Go.RowKit

def pieceL : List UInt8 := [49, 50, 51, 52, 53, 54, 55, 56, 57, 110, 38, 92, 47]

/-- A piece of a replacement: where the reader then is. -/
def pieceS (s : ByteArray) (groups : Nat) (st : St) : St :=
  if peekOk s st = false ∨ peekC s st = 10 then spoil st else
  if peekC s st ≠ 92 then adv st else
  if peekOk s (adv st) = false ∨ hasL pieceL (peekC s (adv st)) = false ∨ (49 ≤ peekC s (adv st) ∧ peekC s (adv st) ≤ 57 ∧ (groups : Int) < peekC s (adv st) - 48) then spoil (adv st) else
  adv (adv st)

def PcV (v : Value) : Prop := ∃ k c n, v = .agg #[.int .u8 k, .int .u8 c, .int .i64 n]

section
variable {w : World} {k : Nat} {t : TypeId} {a0 a1 a2 : Value}
theorem Blk.three (h : Blk w k #[a0, a1, a2] t) : w.cell? ⟨k, 0, none⟩ = some a0 ∧ w.cell? ⟨k, 1, none⟩ = some a1 ∧ w.cell? ⟨k, 2, none⟩ = some a2 ∧ ∀ o, w.frozen? ⟨k, o, none⟩ = false :=
  ⟨h.cell 0 rfl, h.cell 1 rfl, h.cell 2 rfl, h.fz⟩
theorem Blk.put3 (h : Blk w k #[a0, a1, a2] t) (b0 b1 b2 : Value) : Blk (((w.setCell ⟨k, 0, none⟩ b0).setCell ⟨k, 1, none⟩ b1).setCell ⟨k, 2, none⟩ b2) k #[b0, b1, b2] t :=
  ((h.set 0 b0 rfl).set 1 b1 rfl).set 2 b2 rfl
theorem Kp.put3 {b : Nat} {W w : World} (h : Kp b W w) {k : Nat} (hk : W.heap.size ≤ k) (b0 b1 b2 : Value) : Kp b W (((w.setCell ⟨k, 0, none⟩ b0).setCell ⟨k, 1, none⟩ b1).setCell ⟨k, 2, none⟩ b2) :=
  ((h.setNew hk _).setNew hk _).setNew hk _
theorem RD.put3 {w : World} {b : Nat} {s : ByteArray} {st : St} (h : RD w b s st) {k : Nat} (hk : k ≠ b) (b0 b1 b2 : Value) : RD (((w.setCell ⟨k, 0, none⟩ b0).setCell ⟨k, 1, none⟩ b1).setCell ⟨k, 2, none⟩ b2) b s st :=
  ((h.other hk _).other hk _).other hk _
end
/-- A piece that is handed back out of its variable. -/
theorem ret_piece {fn : Func} {p : Tmp} (hres : fn.results = #[.cell p 128]) {w : World} {k : Nat} {a0 a1 a2 : Value} {tmps : Array Value} (ht : tmps.getD p undef = .pointer (some ⟨k, 0, none⟩)) (h : Blk w k #[a0, a1, a2] 128) :
    (results fn tmps).run Tryz.prog w = .ok (.agg #[a0, a1, a2]) w := by
  obtain ⟨c0, c1, c2, _⟩ := h.three
  have ht' : tmps[p]?.getD undef = .pointer (some ⟨k, 0, none⟩) := by simpa using ht
  simp [results, hres, ht', go_sem, c0, c1, c2]

theorem has_piece (c : Int) (w : World) : Calls Tryz.prog 41 #[.string ⟨#[49, 50, 51, 52, 53, 54, 55, 56, 57, 110, 38, 92, 47]⟩, .int .u8 c] w fun e w' => e = .returned (.bool (hasL pieceL c)) ∧ w' = w :=
  has_any ⟨#[49, 50, 51, 52, 53, 54, 55, 56, 57, 110, 38, 92, 47]⟩ c w (by decide)

set_option maxRecDepth 100000 in
set_option maxHeartbeats 1600000 in
theorem piece_any (g b : Nat) (s : ByteArray) (st : St) (w : World) (h : RD w b s st) (hs : s.size ≤ 1048576) (_hi : st.i ≤ s.size) (_hg : g ≤ 9) :
    Calls Tryz.prog 67 #[.pointer (some ⟨b, 0, none⟩), .int .i64 g] w fun e w' => ∃ v, e = .returned v ∧ PcV v ∧ RD w' b s (pieceS s g st) ∧ Kp b w w' := by
  have hbl := h.lt
  have hR0 := h.alloc (.cells #[.int .u8 0, .int .u8 0, .int .i64 0] 128)
  have hK0 : Kp b w (w.alloc (.cells #[.int .u8 0, .int .u8 0, .int .i64 0] 128)) := (Kp.refl b w).alloc _
  have hB0 := Blk.new w #[.int .u8 0, .int .u8 0, .int .i64 0] 128
  have hne : w.heap.size ≠ b := by omega
  have hlo := peekC_lo s st
  have hhi := peekC_hi s st
  have hlo2 := peekC_lo s (adv st)
  have hhi2 := peekC_hi s (adv st)
  go_enter Tryz.func67, Tryz.ntmps67
  go_wp2_with fail
  generalize w.alloc (.cells #[.int .u8 0, .int .u8 0, .int .i64 0] 128) = w0 at *
  refine (peek_any b s st w0 hR0 hs).mono ?_
  rintro e w1 ⟨rfl, hw1⟩
  replace hw1 : Same w0 w1 := hw1
  have hR1 := hw1.rd hR0
  have hK1 := hw1.kp hK0
  have hB1 := hw1.blk hB0
  clear hw1 hR0 hK0 hB0
  have r1 := hR1.c1
  have r2 := hR1.c2
  have rf := hR1.fz
  obtain ⟨z0, z1, z2, zf⟩ := hB1.three
  have HP : Hid (pieceS s g st = if peekOk s st = false ∨ peekC s st = 10 then spoil st else if peekC s st ≠ 92 then adv st else if peekOk s (adv st) = false ∨ hasL pieceL (peekC s (adv st)) = false ∨ (49 ≤ peekC s (adv st) ∧ peekC s (adv st) ≤ 57 ∧ (g : Int) < peekC s (adv st) - 48) then spoil (adv st) else adv (adv st)) := rfl
  have hpk := fun h => peekOk_lt (s := s) (st := st) h
  have HK : Hid (peekOk s st = true → st.i < s.size) := hpk
  clear hpk
  have hp2 := fun w2 (hR2 : RD w2 b s (adv st)) => peek_any b s (adv st) w2 hR2 hs
  have HP2 := hide hp2
  clear hp2
  generalize peekC s st = pc at *
  generalize peekOk s st = ok at *
  cases ok
  · have E := hide (show pieceS s g st = spoil st by rw [HP.out, if_pos (.inl rfl)])
    clear HP
    go_wp2_with fail
    refine bodyPost_ret (ret_piece rfl rfl ((hB1.other (p := ⟨b, 2, none⟩) (Ne.symm hne) _).put3 _ _ _)) rfl ?_
    rw [E.out]
    exact ⟨_, rfl, ⟨_, _, _, rfl⟩, (hR1.spoil).put3 hne _ _ _, Kp.put3 (hK1.set 2 _) (Nat.le_refl _) _ _ _⟩
  · have hlt := HK.out rfl
    by_cases h10 : pc = 10
    · subst h10
      have E := hide (show pieceS s g st = spoil st by rw [HP.out, if_pos (.inr rfl)])
      clear HP
      go_wp2_with fail
      refine bodyPost_ret (ret_piece rfl rfl ((hB1.other (p := ⟨b, 2, none⟩) (Ne.symm hne) _).put3 _ _ _)) rfl ?_
      rw [E.out]
      exact ⟨_, rfl, ⟨_, _, _, rfl⟩, (hR1.spoil).put3 hne _ _ _, Kp.put3 (hK1.set 2 _) (Nat.le_refl _) _ _ _⟩
    · by_cases h38 : pc = 38
      · subst h38
        have E := hide (show pieceS s g st = adv st by rw [HP.out, if_neg (by simp), if_pos (by decide)])
        clear HP
        go_wp2_with fail
        refine bodyPost_ret (ret_piece rfl rfl ((hB1.other (p := ⟨b, 1, none⟩) (Ne.symm hne) _).put3 _ _ _)) rfl ?_
        rw [E.out]
        exact ⟨_, rfl, ⟨_, _, _, rfl⟩, (hR1.adv rfl).put3 hne _ _ _, Kp.put3 (hK1.set 1 _) (Nat.le_refl _) _ _ _⟩
      · by_cases h92 : pc = 92
        · subst h92
          have E := hide (show pieceS s g st = if peekOk s (adv st) = false ∨ hasL pieceL (peekC s (adv st)) = false ∨ (49 ≤ peekC s (adv st) ∧ peekC s (adv st) ≤ 57 ∧ (g : Int) < peekC s (adv st) - 48) then spoil (adv st) else adv (adv st) by rw [HP.out, if_neg (by simp), if_neg (by decide)])
          have hl2 : peekOk s (adv st) = true → (adv st).i < s.size := fun h => peekOk_lt h
          have HL2 := hide hl2
          have hR1' := hR1.adv (i := (st.i : Int) + 1) rfl
          have hB1' := hB1.other (p := ⟨b, 1, none⟩) (Ne.symm hne) (.int .i64 ((st.i : Int) + 1))
          have hK1' := hK1.set 1 (.int .i64 ((st.i : Int) + 1))
          clear HP hl2
          go_wp2_with fail
          refine (HP2.out _ hR1').mono ?_
          rintro e w2 ⟨rfl, hw2⟩
          replace hw2 : Same (w1.setCell ⟨b, 1, none⟩ (.int .i64 ((st.i : Int) + 1))) w2 := hw2
          have hR2 := hw2.rd hR1'
          have hK2 := hw2.kp hK1'
          have hB2 := hw2.blk hB1'
          clear hw2 hR1 hK1 hB1 hR1' hK1' hB1' r1 r2 rf z0 z1 z2 zf HP2
          have r1 := hR2.c1
          have r2 := hR2.c2
          have rf := hR2.fz
          obtain ⟨z0, z1, z2, zf⟩ := hB2.three
          generalize hq : adv st = q at *
          generalize peekC s q = pd at *
          generalize peekOk s q = ok at *
          cases ok
          · have E2 := hide (show pieceS s g st = spoil q by rw [E.out, if_pos (.inl rfl)])
            clear E
            go_wp2_with fail
            refine bodyPost_ret (ret_piece rfl rfl ((hB2.other (p := ⟨b, 2, none⟩) (Ne.symm hne) _).put3 _ _ _)) rfl ?_
            rw [E2.out]
            exact ⟨_, rfl, ⟨_, _, _, rfl⟩, (hR2.spoil).put3 hne _ _ _, Kp.put3 (hK2.set 2 _) (Nat.le_refl _) _ _ _⟩
          · have hlt2 := HL2.out rfl
            cases hh : hasL pieceL pd
            · have E2 := hide (show pieceS s g st = spoil q by rw [E.out, if_pos (.inr (.inl hh))])
              have HH := hide hh
              clear E hh
              go_wp2_with (go_at_call 41; refine (has_piece pd _).mono ?_; rintro e w3 ⟨rfl, rfl⟩; rw [HH.out])
              refine bodyPost_ret (ret_piece rfl rfl ((hB2.other (p := ⟨b, 2, none⟩) (Ne.symm hne) _).put3 _ _ _)) rfl ?_
              rw [E2.out]
              exact ⟨_, rfl, ⟨_, _, _, rfl⟩, (hR2.spoil).put3 hne _ _ _, Kp.put3 (hK2.set 2 _) (Nat.le_refl _) _ _ _⟩
            · have HH := hide hh
              by_cases hdg : 49 ≤ pd ∧ pd ≤ 57
              · obtain ⟨hd1, hd2⟩ := hdg
                by_cases hgr : (g : Int) < pd - 48
                · have E2 := hide (show pieceS s g st = spoil q by rw [E.out, if_pos (.inr (.inr ⟨hd1, hd2, hgr⟩))])
                  clear E hh
                  go_wp2_with (go_at_call 41; refine (has_piece pd _).mono ?_; rintro e w3 ⟨rfl, rfl⟩; rw [HH.out])
                  refine bodyPost_ret (ret_piece rfl rfl ((hB2.other (p := ⟨b, 2, none⟩) (Ne.symm hne) _).put3 _ _ _)) rfl ?_
                  rw [E2.out]
                  exact ⟨_, rfl, ⟨_, _, _, rfl⟩, (hR2.spoil).put3 hne _ _ _, Kp.put3 (hK2.set 2 _) (Nat.le_refl _) _ _ _⟩
                · have E2 := hide (show pieceS s g st = adv q by rw [E.out, if_neg (by simp [hh]; omega)])
                  clear E hh
                  go_wp2_with (go_at_call 41; refine (has_piece pd _).mono ?_; rintro e w3 ⟨rfl, rfl⟩; rw [HH.out])
                  refine bodyPost_ret (ret_piece rfl rfl ((hB2.other (p := ⟨b, 1, none⟩) (Ne.symm hne) _).put3 _ _ _)) rfl ?_
                  rw [E2.out]
                  exact ⟨_, rfl, ⟨_, _, _, rfl⟩, (hR2.adv rfl).put3 hne _ _ _, Kp.put3 (hK2.set 1 _) (Nat.le_refl _) _ _ _⟩
              · have E2 := hide (show pieceS s g st = adv q by rw [E.out, if_neg (by simp [hh]; omega)])
                clear E hh
                have key : (pd ≤ 57 ∧ ¬ 49 ≤ pd) ∨ ¬ pd ≤ 57 := by omega
                clear hdg
                by_cases hn : pd = 110
                · subst hn
                  clear key
                  go_wp2_with (go_at_call 41; refine (has_piece _ _).mono ?_; rintro e w3 ⟨rfl, rfl⟩; rw [HH.out])
                  refine bodyPost_ret (ret_piece rfl rfl ((hB2.other (p := ⟨b, 1, none⟩) (Ne.symm hne) _).put3 _ _ _)) rfl ?_
                  rw [E2.out]
                  exact ⟨_, rfl, ⟨_, _, _, rfl⟩, (hR2.adv rfl).put3 hne _ _ _, Kp.put3 (hK2.set 1 _) (Nat.le_refl _) _ _ _⟩
                · rcases key with ⟨k1, k2⟩ | k1
                  all_goals
                    go_wp2_with (go_at_call 41; refine (has_piece pd _).mono ?_; rintro e w3 ⟨rfl, rfl⟩; rw [HH.out])
                    refine bodyPost_ret (ret_piece rfl rfl ((hB2.other (p := ⟨b, 1, none⟩) (Ne.symm hne) _).put3 _ _ _)) rfl ?_
                    rw [E2.out]
                    exact ⟨_, rfl, ⟨_, _, _, rfl⟩, (hR2.adv rfl).put3 hne _ _ _, Kp.put3 (hK2.set 1 _) (Nat.le_refl _) _ _ _⟩
        · have E := hide (show pieceS s g st = adv st by rw [HP.out, if_neg (by simp [h10]), if_pos h92])
          clear HP
          go_wp2_with fail
          refine bodyPost_ret (ret_piece rfl rfl ((hB1.other (p := ⟨b, 1, none⟩) (Ne.symm hne) _).put3 _ _ _)) rfl ?_
          rw [E.out]
          exact ⟨_, rfl, ⟨_, _, _, rfl⟩, (hR1.adv rfl).put3 hne _ _ _, Kp.put3 (hK1.set 1 _) (Nat.le_refl _) _ _ _⟩
end Go.Proofs.YtmjdaifalgpdnaaGreat
