import Derived.Test.YtmjdaifalgpdnaaGreatPscC
namespace Go.Proofs.YtmjdaifalgpdnaaGreat
open Go.RowKit

theorem digitS_yes {s : ByteArray} {st : St} (h : amongB s st digitsL = true) : digitS s 48 st = (peekC s st - 48, adv st) := by
  have h0 := peekC_lo s st
  have h1 := peekC_hi s st
  simp only [amongB, Bool.and_eq_true] at h
  have h2 : hasL digitsB.data.toList (peekC s st) = true := h.2
  rw [has_digits _ h0 h1] at h2
  simp only [Bool.and_eq_true, decide_eq_true_eq] at h2
  unfold digitS
  rw [if_pos ⟨h.1, h2.1, h2.2⟩]
  rfl
theorem among_digit {s : ByteArray} {st : St} (h : amongB s st digitsL = true) : 48 ≤ peekC s st ∧ peekC s st ≤ 57 := by
  have h0 := peekC_lo s st
  have h1 := peekC_hi s st
  simp only [amongB, Bool.and_eq_true] at h
  have h2 : hasL digitsB.data.toList (peekC s st) = true := h.2
  rw [has_digits _ h0 h1] at h2
  simpa using h2
theorem num_b (s : ByteArray) : ∀ (k : Nat) (a : Int) (st : St), st.bad = false → (numL s k a st).2.bad = false
  | 0, _, st, h => h
  | k + 1, a, st, h => by
    rw [numL]
    split
    · next hc => rw [digitS_yes hc]; exact num_b s k _ _ h
    · exact h

set_option maxRecDepth 100000 in
set_option maxHeartbeats 800000 in
theorem pnumber_any (b : Nat) (s : ByteArray) (st : St) (c : Int) (en : Int) (cv ov : Value) (w : World) (h : SR w b s st.i en cv ov) (hb : st.bad = false) (hs : s.size ≤ 1048576) (hi : st.i ≤ s.size) (hc0 : 48 ≤ c) (hc9 : c ≤ 57) :
    Calls Tryz.prog 81 #[.pointer (some ⟨b, 0, none⟩), .int .u8 c] w fun e w' => e = .returned (.int .i64 (numL s 3 (c - 48) st).1) ∧ SR w' b s (numL s 3 (c - 48) st).2.i en cv ov ∧ Kp b w w' := by
  have hw := u8_sub c hc0 hc9
  go_enter Tryz.func81, Tryz.ntmps81
  go_wp2_with fail
  go_loopg [5, 6] 3 (fun k vv kv w' => ∃ (j : Nat) (v : Int) (cur : St), vv = .int .i64 v ∧ kv = .int .i64 j ∧ j + k = 4 ∧ 1 ≤ j ∧ 0 ≤ v ∧ v < 10 ^ j ∧ SR w' b s cur.i en cv ov ∧ cur.bad = false ∧ Kp b w w' ∧ cur.i ≤ s.size ∧ Hid (numL s k v cur = numL s 3 (c - 48) st))
  case atStart => exact ⟨1, c - 48, st, rfl, rfl, rfl, by omega, by omega, by omega, h, hb, Kp.refl _ _, hi, rfl⟩
  case round =>
    obtain ⟨j, v, cur, rfl, rfl, hjk, hj1, hv0, hv1, hR, hcb, hK, hci, HE⟩ := hrel
    have hv2 : v ≤ 10000 := Int.le_trans (Int.le_of_lt hv1) (by
      have : j = 1 ∨ j = 2 ∨ j = 3 ∨ j = 4 := by omega
      rcases this with rfl | rfl | rfl | rfl <;> decide)
    have r0 := hR.c0
    have r1 := hR.c1
    by_cases hgo : 0 < gk ∧ amongB s cur digitsL = true
    · obtain ⟨hk, hx⟩ := hgo
      obtain ⟨k, rfl⟩ : ∃ k, gk = k + 1 := ⟨gk - 1, by omega⟩
      have hlt := amongB_lt hx
      have hpk : peekOk s cur = true := by simp [peekOk, hcb, hlt]
      have hE := HE.out
      rw [numL, if_pos hx, digitS_yes hx] at hE
      have HE2 := hide hE
      have HX := hide hx
      have hdg := among_digit hx
      obtain ⟨hd0, hd9⟩ := hdg
      have hwd := u8_sub _ hd0 hd9
      have hj : decide ((j : Int) < 4) = true := by simp; omega
      clear hE HE hx
      go_wp2_with (first | (go_at_call 69; refine (sIsNextOf digitsB HX.out hR hcb hs).mono ?_; rintro e w2 ⟨rfl, hw2⟩) | (go_at_call 63; refine (sTake (hw2.sr hR) hcb hs hpk).mono ?_; rintro e w3 ⟨rfl, hR3, hK3⟩))
      go_roundg k
      case measure => omega
      case rel =>
        refine ⟨j + 1, 10 * v + (peekC s cur - 48), adv cur, by go_num, by go_num, by omega, by omega, by omega, ?_, hR3, hcb, (hw2.kp hK).trans hK3, by simp [adv]; omega, HE2.out⟩
        have : j = 1 ∨ j = 2 ∨ j = 3 := by omega
        rcases this with rfl | rfl | rfl <;> simp at hv1 ⊢ <;> omega
    · have hE : numL s 3 (c - 48) st = (v, cur) := by
        rw [← HE.out]
        cases hk : gk with
        | zero => rfl
        | succ k =>
          rw [numL, if_neg]
          intro h
          exact hgo ⟨by omega, h⟩
      have key : (decide ((j : Int) < 4) = true ∧ amongB s cur digitsL = false) ∨ decide ((j : Int) < 4) = false := by
        by_cases h0 : 0 < gk
        · left
          refine ⟨by simp; omega, ?_⟩
          cases hx : amongB s cur digitsL
          · rfl
          · exact absurd ⟨h0, hx⟩ hgo
        · right; simp; omega
      have HF := hide hE
      clear hE HE hgo
      rcases key with ⟨h1, h2⟩ | h1
      · go_wp2_with (go_at_call 69; refine (sIsNextOf digitsB h2 hR hcb hs).mono ?_; rintro e w2 ⟨rfl, n2, rfl⟩)
        go_ret
        rw [HF.out]
        exact ⟨rfl, hR, hK.drewN _⟩
      · go_wp2_with fail
        go_ret
        rw [HF.out]
        exact ⟨rfl, hR, hK⟩

/-- A piece that is handed back out of its variable. -/
theorem ret_ppiece {w : World} {k : Nat} {a0 a1 : Value} {fn : Func} {p : Tmp} (hres : fn.results = #[.cell p 145]) {tmps : Array Value} (ht : tmps.getD p undef = .pointer (some ⟨k, 0, none⟩)) (h : Blk w k #[a0, a1] 145) :
    (results fn tmps).run Tryz.prog w = .ok (.agg #[a0, a1]) w := by
  have c0 : w.cell? ⟨k, 0, none⟩ = some a0 := h.cell 0 rfl
  have c1 : w.cell? ⟨k, 1, none⟩ = some a1 := h.cell 1 rfl
  have ht' : tmps[p]?.getD undef = .pointer (some ⟨k, 0, none⟩) := by simpa using ht
  simp [results, hres, ht', go_sem, c0, c1]

def pieceB : ByteArray := ⟨#[49, 50, 51, 52, 53, 54, 55, 56, 57, 110, 38, 92, 47]⟩
def escP (s : ByteArray) (g : Nat) (st : St) : St := if amongB s st pieceL = false ∨ (49 ≤ peekC s st ∧ peekC s st ≤ 57 ∧ (g : Int) < peekC s st - 48) then spoil st else adv st

theorem piece_digit (c : Int) (h0 : 0 ≤ c) (h1 : c < 256) (h : hasL pieceL c = true) (n1 : c ≠ 110) (n2 : c ≠ 38) (n3 : c ≠ 92) (n4 : c ≠ 47) : 49 ≤ c ∧ c ≤ 57 := by
  have key : ∀ k : Nat, k < 256 → (!hasL pieceL (k : Int) || ((k : Int) == 110) || ((k : Int) == 38) || ((k : Int) == 92) || ((k : Int) == 47) || (decide (49 ≤ (k : Int)) && decide ((k : Int) ≤ 57))) = true := by decide +kernel
  obtain ⟨k, rfl⟩ := Int.eq_ofNat_of_zero_le h0
  have := key k (by omega)
  rw [h] at this
  simp only [Bool.or_eq_true, Bool.and_eq_true, Bool.not_true, beq_iff_eq, decide_eq_true_eq] at this
  rcases this with ((((h | h) | h) | h) | h) | h
  · cases h
  all_goals omega

set_option maxRecDepth 100000 in
set_option maxHeartbeats 800000 in
theorem pescp_any (b g : Nat) (s : ByteArray) (st : St) (en : Int) (cv ov : Value) (w : World) (h : SR w b s st.i en cv ov) (hb : st.bad = false) (hs : s.size ≤ 1048576) (hi : st.i ≤ s.size) (_hg : g ≤ 9) :
    Calls Tryz.prog 90 #[.pointer (some ⟨b, 0, none⟩), .int .i64 g] w fun e w' => TookS w b s en cv ov (escP s g st) (fun e _ => ∃ t k, e = .returned (.agg #[.string t, .int .i64 k])) e w' := by
  have hbl := h.lt
  have h1 := h.alloc (.cells #[.string ⟨#[]⟩, .int .i64 0] 145)
  have k1 := (Kp.refl b w).alloc (.cells #[.string ⟨#[]⟩, .int .i64 0] 145)
  have B1 := Blk.new w #[.string ⟨#[]⟩, .int .i64 0] 145
  have p0 := peekC_lo s st
  have p1 := peekC_hi s st
  have HES : Hid (escP s g st = if amongB s st pieceL = false ∨ (49 ≤ peekC s st ∧ peekC s st ≤ 57 ∧ (g : Int) < peekC s st - 48) then spoil st else adv st) := rfl
  go_enter Tryz.func90, Tryz.ntmps90
  go_wp2_with fail
  refine (sTakeOneOf pieceB h1 hb hs hi).mono ?_
  rintro e w1 ⟨hK1, hT⟩
  have hne : w.heap.size ≠ b := by omega
  have B2 := B1.kp hK1 hne
  have K1 := k1.trans hK1
  clear h1 k1 B1 hK1 h
  rcases hT with ⟨-, ⟨rfl, hx⟩, hR1⟩ | ⟨hbd, rfl⟩
  · rw [oneOf_yes hx] at hR1
    replace hx : amongB s st pieceL = true := hx
    have hlt := amongB_lt hx
    have hhas : hasL pieceL (peekC s st) = true := by simp only [amongB, Bool.and_eq_true] at hx; exact hx.2
    have hpd := piece_digit (peekC s st) p0 p1 hhas
    rw [hx] at HES
    generalize peekC s st = c at *
    have HPD := hide hpd
    clear hpd hx hhas
    have q0 : w1.cell? ⟨w.heap.size, 0, none⟩ = some (.string ⟨#[]⟩) := B2.cell 0 rfl
    have q1 : w1.cell? ⟨w.heap.size, 1, none⟩ = some (.int .i64 0) := B2.cell 1 rfl
    have qf := B2.fz
    have c0 := hR1.c0
    have c1 : w1.cell? ⟨b, 1, none⟩ = some (.int .i64 ((st.i : Int) + 1)) := hR1.c1
    have hB3 : ∀ x y : Value, Blk ((w1.setCell ⟨w.heap.size, 0, none⟩ x).setCell ⟨w.heap.size, 1, none⟩ y) w.heap.size #[x, y] 145 := fun x y => (B2.set 0 x rfl).set 1 y rfl
    have hR3 : ∀ x y : Value, SR ((w1.setCell ⟨w.heap.size, 0, none⟩ x).setCell ⟨w.heap.size, 1, none⟩ y) b s (adv st).i en cv ov := fun x y => (hR1.other hne x).other hne y
    have hK3 : ∀ x y : Value, Kp b w ((w1.setCell ⟨w.heap.size, 0, none⟩ x).setCell ⟨w.heap.size, 1, none⟩ y) := fun x y => (K1.setNew (Nat.le_refl _) x).setNew (Nat.le_refl _) y
    have HK1 := hide K1
    have HB3 := hide (And.intro hB3 (And.intro hR3 hK3))
    clear hB3 hR3 hK3 B2 K1
    have hw1 : IntKind.i64.wrap ((st.i : Int) + 1 - 1) = (st.i : Int) := by rw [wrapE _ (by omega) (by omega)]; omega
    by_cases n1 : c = 110
    · subst n1
      have E := hide (show escP s g st = adv st by rw [HES.out, if_neg (fun h => h.elim (fun h => by cases h) (fun h => by omega))])
      go_wp2_with fail
      refine bodyPost_ret (ret_ppiece rfl rfl (HB3.out.1 _ _)) rfl ?_
      rw [E.out]
      exact ⟨HB3.out.2.2 _ _, .inl ⟨hb, ⟨_, _, rfl⟩, HB3.out.2.1 _ _⟩⟩
    · by_cases n2 : c = 38 ∨ c = 92 ∨ c = 47
      · have E := hide (show escP s g st = adv st by rw [HES.out, if_neg (fun h => h.elim (fun h => by cases h) (fun h => by omega))])
        clear HPD
        rcases n2 with rfl | rfl | rfl
        all_goals
          go_wp2_with fail
          go_region
          all_goals
            go_wp2_with fail
            refine bodyPost_ret (ret_ppiece rfl rfl ((HB3.out.1 _ _).drewN _)) rfl ?_
            rw [E.out]
            exact ⟨(HB3.out.2.2 _ _).drewN _, .inl ⟨hb, ⟨_, _, rfl⟩, (HB3.out.2.1 _ _).drewN _⟩⟩
      · have m2 : ¬ c = 38 := fun e => n2 (.inl e)
        have m3 : ¬ c = 92 := fun e => n2 (.inr (.inl e))
        have m4 : ¬ c = 47 := fun e => n2 (.inr (.inr e))
        obtain ⟨d0, d9⟩ := HPD.out n1 m2 m3 m4
        have hwc := u8_sub c (by omega) d9
        clear n2 HPD
        by_cases hgg : (g : Int) < c - 48
        · have E := hide (show escP s g st = spoil st by rw [HES.out, if_pos (.inr (by omega))])
          go_wp2_with fail
          refine (refuse_any b s (st.i + 1) en _ hR1.rd hs (by omega)).mono ?_
          rintro e w2 ⟨rfl, rfl⟩
          refine ⟨rfl, ?_⟩
          rw [E.out]
          exact ⟨HK1.out, .inr ⟨rfl, by rw [show (((st.i + 1 : Nat) : Int) - 1) = ((spoil st).i : Int) from by simp [spoil]]⟩⟩
        · have E := hide (show escP s g st = adv st by rw [HES.out, if_neg (fun h => h.elim (fun h => by cases h) (fun h => by omega))])
          go_wp2_with fail
          refine bodyPost_ret (ret_ppiece rfl rfl (HB3.out.1 _ _)) rfl ?_
          rw [E.out]
          exact ⟨HB3.out.2.2 _ _, .inl ⟨hb, ⟨_, _, rfl⟩, HB3.out.2.1 _ _⟩⟩
  · refine ⟨rfl, ?_⟩
    have hx : amongB s st pieceL = false := by
      cases hx : amongB s st pieceL
      · rfl
      · rw [oneOf_yes (show amongB s st pieceB.data.toList = true from hx)] at hbd
        exact absurd hbd (by show ¬ st.bad = true; rw [hb]; simp)
    rw [HES.out, if_pos (.inl hx), oneOf_no (show amongB s st pieceB.data.toList = false from hx)]
    exact ⟨K1, .inr ⟨rfl, rfl⟩⟩

theorem pieceS_ways (s : ByteArray) (g : Nat) (st : St) : ((peekOk s st = false ∨ hasL [10] (peekC s st) = true) ∧ pieceS s g st = spoil st) ∨ (peekOk s st = true ∧ peekC s st ≠ 92 ∧ pieceS s g st = adv st) ∨ (peekOk s st = true ∧ peekC s st = 92 ∧ pieceS s g st = escP s g (adv st)) := by
  have h10 : hasL [10] (peekC s st) = true ↔ peekC s st = 10 := by
    simp [hasL]
    exact eq_comm
  unfold pieceS
  by_cases h1 : peekOk s st = false ∨ peekC s st = 10
  · left
    rw [if_pos h1]
    exact ⟨h1.elim .inl (fun h => .inr (h10.2 h)), rfl⟩
  · right
    rw [if_neg h1]
    simp only [not_or] at h1
    have hok : peekOk s st = true := by simpa using h1.1
    by_cases h2 : peekC s st = 92
    · right
      rw [if_neg (by simpa using h2)]
      refine ⟨hok, h2, ?_⟩
      unfold escP amongB
      by_cases h3 : peekOk s (adv st) = true
      · rw [h3, Bool.true_and]
        simp
      · have h3' : peekOk s (adv st) = false := by simpa using h3
        rw [h3']
        simp
    · left
      rw [if_pos h2]
      exact ⟨hok, h2, rfl⟩

set_option maxRecDepth 100000 in
set_option maxHeartbeats 800000 in
theorem ppiece_any (b g : Nat) (s : ByteArray) (st : St) (en : Int) (cv ov : Value) (w : World) (h : SR w b s st.i en cv ov) (hb : st.bad = false) (hs : s.size ≤ 1048576) (hi : st.i ≤ s.size) (hg : g ≤ 9) :
    Calls Tryz.prog 83 #[.pointer (some ⟨b, 0, none⟩), .int .i64 g] w fun e w' => TookS w b s en cv ov (pieceS s g st) (fun e _ => ∃ t k, e = .returned (.agg #[.string t, .int .i64 k])) e w' := by
  have hbl := h.lt
  have h1 := h.alloc (.cells #[.string ⟨#[]⟩, .int .i64 0] 145)
  have k1 := (Kp.refl b w).alloc (.cells #[.string ⟨#[]⟩, .int .i64 0] 145)
  have B1 := Blk.new w #[.string ⟨#[]⟩, .int .i64 0] 145
  have hW := pieceS_ways s g st
  go_enter Tryz.func83, Tryz.ntmps83
  go_wp2_with fail
  refine (sTakeOther ⟨#[10]⟩ h1 hb hs hi).mono ?_
  rintro e w1 ⟨hK1, hT⟩
  have hne : w.heap.size ≠ b := by omega
  have B2 := B1.kp hK1 hne
  have K1 := k1.trans hK1
  clear h1 k1 B1 hK1 h
  rcases hT with ⟨-, ⟨rfl, hok, hno⟩, hR1⟩ | ⟨hbd, rfl⟩
  · have e1 : otherS s (ByteArray.mk #[10]).data.toList st = adv st := by unfold otherS; rw [if_neg (by rw [hok, hno]; simp)]
    rw [e1] at hR1
    have hlt := peekOk_lt hok
    replace hW : (peekC s st ≠ 92 ∧ pieceS s g st = adv st) ∨ (peekC s st = 92 ∧ pieceS s g st = escP s g (adv st)) := by
      rcases hW with ⟨h | h, _⟩ | h | h
      · rw [hok] at h; cases h
      · rw [show hasL [10] (peekC s st) = hasL (ByteArray.mk #[10]).data.toList (peekC s st) from rfl, hno] at h; cases h
      · exact .inl h.2
      · exact .inr h.2
    generalize peekC s st = c at *
    have q0 : w1.cell? ⟨w.heap.size, 0, none⟩ = some (.string ⟨#[]⟩) := B2.cell 0 rfl
    have q1 : w1.cell? ⟨w.heap.size, 1, none⟩ = some (.int .i64 0) := B2.cell 1 rfl
    have qf := B2.fz
    have c0 := hR1.c0
    have c1 : w1.cell? ⟨b, 1, none⟩ = some (.int .i64 ((st.i : Int) + 1)) := hR1.c1
    have hB3 : ∀ x y : Value, Blk ((w1.setCell ⟨w.heap.size, 0, none⟩ x).setCell ⟨w.heap.size, 1, none⟩ y) w.heap.size #[x, y] 145 := fun x y => (B2.set 0 x rfl).set 1 y rfl
    have hR3 : ∀ x y : Value, SR ((w1.setCell ⟨w.heap.size, 0, none⟩ x).setCell ⟨w.heap.size, 1, none⟩ y) b s (adv st).i en cv ov := fun x y => (hR1.other hne x).other hne y
    have hK3 : ∀ x y : Value, Kp b w ((w1.setCell ⟨w.heap.size, 0, none⟩ x).setCell ⟨w.heap.size, 1, none⟩ y) := fun x y => (K1.setNew (Nat.le_refl _) x).setNew (Nat.le_refl _) y
    have HB3 := hide (And.intro hB3 (And.intro hR3 hK3))
    have hw1 : IntKind.i64.wrap ((st.i : Int) + 1 - 1) = (st.i : Int) := by rw [wrapE _ (by omega) (by omega)]; omega
    rcases hW with ⟨hc, hW⟩ | ⟨hc, hW⟩
    · have E := hide hW
      clear hW hB3 hR3 hK3 B2 K1
      by_cases n1 : c = 38
      · subst n1
        go_wp2_with fail
        refine bodyPost_ret (ret_ppiece rfl rfl (HB3.out.1 _ _)) rfl ?_
        rw [E.out]
        exact ⟨HB3.out.2.2 _ _, .inl ⟨hb, ⟨_, _, rfl⟩, HB3.out.2.1 _ _⟩⟩
      · go_wp2_with fail
        go_region
        all_goals
          go_wp2_with fail
          refine bodyPost_ret (ret_ppiece rfl rfl ((HB3.out.1 _ _).drewN _)) rfl ?_
          rw [E.out]
          exact ⟨(HB3.out.2.2 _ _).drewN _, .inl ⟨hb, ⟨_, _, rfl⟩, (HB3.out.2.1 _ _).drewN _⟩⟩
    · subst hc
      have E := hide hW
      clear hW hB3 hR3 hK3 HB3 q0 q1 qf
      go_wp2_with fail
      refine (pescp_any b g s (adv st) en cv ov w1 hR1 hb hs (by simp [adv]; omega) hg).mono ?_
      rintro e w2 ⟨hK2, hT2⟩
      have B3 := B2.kp hK2 hne
      rcases hT2 with ⟨hb2, ⟨t, k, rfl⟩, hR2⟩ | ⟨hb2, rfl⟩
      · have q0 : w2.cell? ⟨w.heap.size, 0, none⟩ = some (.string ⟨#[]⟩) := B3.cell 0 rfl
        have q1 : w2.cell? ⟨w.heap.size, 1, none⟩ = some (.int .i64 0) := B3.cell 1 rfl
        have qf := B3.fz
        go_wp2_with fail
        refine bodyPost_ret (ret_ppiece rfl rfl ((B3.set 0 _ rfl).set 1 _ rfl)) rfl ?_
        rw [E.out]
        exact ⟨((K1.trans hK2).setNew (Nat.le_refl _) _).setNew (Nat.le_refl _) _, .inl ⟨hb2, ⟨_, _, rfl⟩, (hR2.other hne _).other hne _⟩⟩
      · refine ⟨rfl, ?_⟩
        rw [E.out]
        exact ⟨K1.trans hK2, .inr ⟨hb2, rfl⟩⟩
  · refine ⟨rfl, ?_⟩
    have hx : otherS s (ByteArray.mk #[10]).data.toList st = spoil st := by
      unfold otherS at hbd ⊢
      split
      · rfl
      · next hc => rw [if_neg hc] at hbd; exact absurd hbd (by show ¬ st.bad = true; rw [hb]; simp)
    have hW2 : pieceS s g st = spoil st := by
      rcases hW with h | h | h
      · exact h.2
      · exfalso
        have : peekOk s st = false ∨ hasL (ByteArray.mk #[10]).data.toList (peekC s st) = true := by
          unfold otherS at hx
          split at hx
          · assumption
          · have := congrArg St.bad hx
            rw [show (adv st).bad = st.bad from rfl, hb] at this
            cases this
        rcases this with h3 | h3
        · rw [h.1] at h3; cases h3
        · have h4 : pieceS s g st = spoil st := by
            unfold pieceS
            rw [if_pos]
            right
            have : hasL [10] (peekC s st) = true := h3
            simp [hasL] at this
            exact this.symm
          have := congrArg St.bad (h4.symm.trans h.2.2)
          rw [show (adv st).bad = st.bad from rfl, hb] at this
          cases this
      · exfalso
        have : peekOk s st = false ∨ hasL (ByteArray.mk #[10]).data.toList (peekC s st) = true := by
          unfold otherS at hx
          split at hx
          · assumption
          · have := congrArg St.bad hx
            rw [show (adv st).bad = st.bad from rfl, hb] at this
            cases this
        rcases this with h3 | h3
        · rw [h.1] at h3; cases h3
        · rw [h.2.1] at h3
          revert h3; decide
    rw [hW2, hx]
    exact ⟨K1, .inr ⟨rfl, rfl⟩⟩
end Go.Proofs.YtmjdaifalgpdnaaGreat
