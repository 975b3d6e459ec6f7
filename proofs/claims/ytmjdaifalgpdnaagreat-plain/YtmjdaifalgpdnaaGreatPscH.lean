import Derived.Test.YtmjdaifalgpdnaaGreatPscG
namespace Go.Proofs.YtmjdaifalgpdnaaGreat
open Go.RowKit

def addrB : ByteArray := ⟨#[49, 50, 51, 52, 53, 54, 55, 56, 57, 36, 47]⟩
def addrL : List UInt8 := [49, 50, 51, 52, 53, 54, 55, 56, 57, 36, 47]

theorem has_addr (c : Int) (h0 : 0 ≤ c) (h1 : c < 256) : hasL addrL c = (hasL digits1L c || (c == 36) || (c == 47)) := by
  have key : ∀ k : Nat, k < 256 → (hasL addrL (k : Int) == (hasL digits1L (k : Int) || ((k : Int) == 36) || ((k : Int) == 47))) = true := by decide +kernel
  obtain ⟨k, rfl⟩ := Int.eq_ofNat_of_zero_le h0
  simpa using key k (by omega)
theorem among_addr (s : ByteArray) (st : St) : amongB s st addrL = (amongB s st digits1L || isB s st 36 || isB s st 47) := by
  unfold amongB isB
  rw [has_addr _ (peekC_lo s st) (peekC_hi s st)]
  cases peekOk s st <;> simp
theorem among_d1 {s : ByteArray} {st : St} (h : amongB s st digits1L = true) : amongB s st digitsL = true := by
  have h0 := peekC_lo s st
  have h1 := peekC_hi s st
  have key : ∀ k : Nat, k < 256 → (!hasL digits1L (k : Int) || hasL digitsL (k : Int)) = true := by decide +kernel
  obtain ⟨k, hk⟩ := Int.eq_ofNat_of_zero_le h0
  simp only [amongB, Bool.and_eq_true] at h ⊢
  have h2 := key k (by omega)
  rw [← hk, h.2] at h2
  exact ⟨h.1, by simpa using h2⟩

/-- An address that must be there. -/
def addr1S (s : ByteArray) (n : Nat) (st : St) : St := if amongB s st addrL then (addrS s n st).2 else spoil st

/-- What an address is, by its first byte. -/
theorem addr_ways (s : ByteArray) (n : Nat) (st : St) (hok : amongB s st addrL = true) :
    (peekC s st = 36 ∧ (addrS s n st).2 = adv st ∧ (addrS s n st).1.kind ≠ 0) ∨ (peekC s st = 47 ∧ (addrS s n st).2 = (patternS s n (adv st)).2 ∧ (addrS s n st).1.kind ≠ 0) ∨ (49 ≤ peekC s st ∧ peekC s st ≤ 57 ∧ (addrS s n st).2 = (numL s 3 (peekC s st - 48) (adv st)).2 ∧ (addrS s n st).1.kind ≠ 0) := by
  rw [among_addr] at hok
  unfold addrS
  cases h36 : isB s st 36
  · cases h47 : isB s st 47
    · rw [h36, h47] at hok
      simp only [Bool.or_false] at hok
      right; right
      obtain ⟨_, h1, h2⟩ := digit1_yes hok
      refine ⟨h1, h2, ?_⟩
      rw [if_neg (by simp), if_neg (by simp), hok, if_neg (by simp)]
      have e : numL s 4 0 st = numL s 3 (peekC s st - 48) (adv st) := by
        rw [numL, if_pos (among_d1 hok), digitS_yes (among_d1 hok)]
        simp
      dsimp only
      rw [e]
      exact ⟨rfl, by decide⟩
    · right; left
      have : peekC s st = 47 := by simp only [isB, Bool.and_eq_true, beq_iff_eq] at h47; exact h47.2
      rw [if_neg (by simp), if_pos rfl]
      exact ⟨this, rfl, by dsimp only; decide⟩
  · left
    have : peekC s st = 36 := by simp only [isB, Bool.and_eq_true, beq_iff_eq] at h36; exact h36.2
    rw [if_pos rfl]
    exact ⟨this, rfl, by dsimp only; decide⟩
theorem addr_none (s : ByteArray) (n : Nat) (st : St) (hok : amongB s st addrL = false) : (addrS s n st).2 = st ∧ (addrS s n st).1.kind = 0 := by
  rw [among_addr] at hok
  simp only [Bool.or_eq_false_iff] at hok
  unfold addrS
  rw [hok.1.2, hok.2, hok.1.1]
  exact ⟨rfl, rfl⟩

/-- An address out of its variable. -/
theorem ret_paddr {w : World} {k : Nat} {a0 a1 : Value} {fn : Func} {p : Tmp} (hres : fn.results = #[.cell p 132]) {tmps : Array Value} (ht : tmps.getD p undef = .pointer (some ⟨k, 0, none⟩)) (h : Blk w k #[a0, a1] 132) :
    (results fn tmps).run Tryz.prog w = .ok (.agg #[a0, a1]) w := by
  have c0 : w.cell? ⟨k, 0, none⟩ = some a0 := h.cell 0 rfl
  have c1 : w.cell? ⟨k, 1, none⟩ = some a1 := h.cell 1 rfl
  have ht' : tmps[p]?.getD undef = .pointer (some ⟨k, 0, none⟩) := by simpa using ht
  simp [results, hres, ht', go_sem, c0, c1]

set_option maxRecDepth 100000 in
set_option maxHeartbeats 1600000 in
theorem paddress_any (n b : Nat) (s : ByteArray) (st : St) (en : Int) (cv ov : Value) (w : World) (h : SR w b s st.i en cv ov) (hb : st.bad = false) (hs : s.size ≤ 1048576) (hi : st.i ≤ s.size) (hn : 2 * (s.size - st.i) + 2 ≤ n) :
    Calls Tryz.prog 70 #[.pointer (some ⟨b, 0, none⟩)] w fun e w' => TookS w b s en cv ov (addr1S s n st) (fun e _ => ∃ x y, e = .returned (.agg #[.int .i64 x, .pointer y])) e w' := by
  have hbl := h.lt
  have h1 := h.alloc (.cells #[.int .i64 0, .pointer none] 132)
  have k1 := (Kp.refl b w).alloc (.cells #[.int .i64 0, .pointer none] 132)
  have B1 := Blk.new w #[.int .i64 0, .pointer none] 132
  have hne : w.heap.size ≠ b := by omega
  have HW := hide (addr_ways s n st)
  go_enter Tryz.func70, Tryz.ntmps70
  go_wp2_with fail
  refine (sTakeOneOf addrB h1 hb hs hi).mono ?_
  rintro e w1 ⟨hK1, hT⟩
  have B2 := B1.kp hK1 hne
  have K1 := k1.trans hK1
  clear h1 k1 B1 hK1 h
  rcases hT with ⟨-, ⟨rfl, hx⟩, hR1⟩ | ⟨hbd, rfl⟩
  · rw [oneOf_yes hx] at hR1
    replace hx : amongB s st addrL = true := hx
    have hlt := amongB_lt hx
    have hE : addr1S s n st = (addrS s n st).2 := by unfold addr1S; rw [hx]; rfl
    have hW := HW.out hx
    have q0 : w1.cell? ⟨w.heap.size, 0, none⟩ = some (.int .i64 0) := B2.cell 0 rfl
    have q1 : w1.cell? ⟨w.heap.size, 1, none⟩ = some (.pointer none) := B2.cell 1 rfl
    have qf := B2.fz
    have hab : (adv st).bad = false := hb
    have hai : (adv st).i = st.i + 1 := rfl
    clear HW hx
    rcases hW with ⟨hc, hW, -⟩ | ⟨hc, hW, -⟩ | ⟨hc1, hc2, hW, -⟩
    · have E := hide (hE.trans hW)
      clear hE hW
      rw [hc]
      go_wp2_with fail
      refine bodyPost_ret (ret_paddr rfl rfl ((B2.set 0 _ rfl).set 1 _ rfl)) rfl ?_
      rw [E.out]
      exact ⟨(K1.setNew (Nat.le_refl _) _).setNew (Nat.le_refl _) _, .inl ⟨hb, ⟨_, _, rfl⟩, (hR1.other hne _).other hne _⟩⟩
    · have E := hide (hE.trans hW)
      clear hE hW q0 q1 qf
      rw [hc]
      go_wp2_with fail
      refine (pexpression_any n b s (adv st) en cv ov w1 hR1 hab hs (by omega) (by omega)).mono ?_
      rintro e w2 ⟨hK2, hT2⟩
      have B3 := B2.kp hK2 hne
      rcases hT2 with ⟨hb2, ⟨v, rfl, xb, a0, a1, a2, a3, rfl, -, -⟩, hR2⟩ | ⟨hb2, rfl⟩
      · have q0 : w2.cell? ⟨w.heap.size, 0, none⟩ = some (.int .i64 0) := B3.cell 0 rfl
        have q1 : w2.cell? ⟨w.heap.size, 1, none⟩ = some (.pointer none) := B3.cell 1 rfl
        have qf := B3.fz
        go_wp2_with fail
        refine bodyPost_ret (ret_paddr rfl rfl ((B3.set 0 _ rfl).set 1 _ rfl)) rfl ?_
        rw [E.out]
        exact ⟨((K1.trans hK2).setNew (Nat.le_refl _) _).setNew (Nat.le_refl _) _, .inl ⟨hb2, ⟨_, _, rfl⟩, (hR2.other hne _).other hne _⟩⟩
      · refine ⟨rfl, ?_⟩
        rw [E.out]
        exact ⟨K1.trans hK2, .inr ⟨hb2, rfl⟩⟩
    · have E := hide (hE.trans hW)
      clear hE hW q0 q1 qf
      generalize peekC s st = c at *
      have d1 : ¬ c = 36 := by omega
      have d2 : ¬ c = 47 := by omega
      have hnb := num_b s 3 (c - 48) (adv st) hab
      go_wp2_with fail
      refine (pnumber_any b s (adv st) c en cv ov w1 hR1 hab hs (by omega) (by omega) hc2).mono ?_
      rintro e w2 ⟨rfl, hR2, hK2⟩
      have B3 := B2.kp hK2 hne
      generalize numL s 3 (c - 48) (adv st) = nn at *
      have q0 : w2.cell? ⟨w.heap.size, 0, none⟩ = some (.int .i64 0) := B3.cell 0 rfl
      have q1 : w2.cell? ⟨w.heap.size, 1, none⟩ = some (.pointer none) := B3.cell 1 rfl
      have qf := B3.fz
      go_wp2_with fail
      refine bodyPost_ret (ret_paddr rfl rfl ((B3.set 0 _ rfl).set 1 _ rfl)) rfl ?_
      rw [E.out]
      exact ⟨((K1.trans hK2).setNew (Nat.le_refl _) _).setNew (Nat.le_refl _) _, .inl ⟨hnb, ⟨_, _, rfl⟩, (hR2.other hne _).other hne _⟩⟩
  · refine ⟨rfl, ?_⟩
    have hx : amongB s st addrL = false := by
      cases hx : amongB s st addrL
      · rfl
      · rw [oneOf_yes (show amongB s st addrB.data.toList = true from hx)] at hbd
        exact absurd hbd (by show ¬ st.bad = true; rw [hb]; simp)
    have hE : addr1S s n st = spoil st := by unfold addr1S; rw [hx]; rfl
    rw [hE, oneOf_no (show amongB s st addrB.data.toList = false from hx)]
    exact ⟨K1, .inr ⟨rfl, rfl⟩⟩

theorem addrs_two (s : ByteArray) (n : Nat) (q : St) : (if (addrS s n q).1.kind = 0 then spoil (addrS s n q).2 else (addrS s n q).2) = addr1S s n q := by
  unfold addr1S
  cases hx : amongB s q addrL
  · obtain ⟨h1, h2⟩ := addr_none s n q hx
    rw [if_pos h2, h1]; rfl
  · have hk : (addrS s n q).1.kind ≠ 0 := by
      rcases addr_ways s n q hx with h | h | h
      · exact h.2.2
      · exact h.2.2
      · exact h.2.2.2
    rw [if_neg hk]; rfl
theorem addrs_ways (s : ByteArray) (n : Nat) (st : St) :
    (amongB s st addrL = false ∧ addrsS s n st = (0, st)) ∨
    (amongB s st addrL = true ∧ (addrsS s n st).1 ≠ 0 ∧ (addrS s n st).2.bad = true ∧ (addrsS s n st).2 = (addrS s n st).2) ∨
    (amongB s st addrL = true ∧ (addrsS s n st).1 ≠ 0 ∧ (addrS s n st).2.bad = false ∧ isB s (addrS s n st).2 44 = false ∧ (addrsS s n st).2 = (addrS s n st).2) ∨
    (amongB s st addrL = true ∧ (addrsS s n st).1 ≠ 0 ∧ (addrS s n st).2.bad = false ∧ isB s (addrS s n st).2 44 = true ∧ (addrsS s n st).2 = addr1S s n (adv (addrS s n st).2)) := by
  cases hx : amongB s st addrL
  · left
    obtain ⟨h1, h2⟩ := addr_none s n st hx
    refine ⟨rfl, ?_⟩
    unfold addrsS
    rw [if_neg (fun h => h.2.1 h2), h1, h2]
  · right
    have hk : (addrS s n st).1.kind ≠ 0 := by
      rcases addr_ways s n st hx with h | h | h
      · exact h.2.2
      · exact h.2.2
      · exact h.2.2.2
    have hk1 : (addrsS s n st).1 = (addrS s n st).1.kind := by unfold addrsS; split <;> rfl
    cases hbd : (addrS s n st).2.bad
    · cases h44 : isB s (addrS s n st).2 44
      · right; left
        refine ⟨rfl, by rw [hk1]; exact hk, rfl, rfl, ?_⟩
        unfold addrsS
        rw [if_neg (fun h => by rw [h44] at h; cases h.2.2)]
      · right; right
        refine ⟨rfl, by rw [hk1]; exact hk, rfl, rfl, ?_⟩
        unfold addrsS
        rw [if_pos ⟨hbd, hk, h44⟩]
        exact addrs_two s n _
    · left
      refine ⟨rfl, by rw [hk1]; exact hk, rfl, ?_⟩
      unfold addrsS
      rw [if_neg (fun h => by rw [hbd] at h; cases h.1)]

theorem infoAddrP : (Tryz.prog.info? 132).map (fun i => (i.zero, i.size, i.bytes)) = some (some (.agg #[.int .i64 0, .pointer none]), 2, 16) := by kernel_rfl

set_option maxRecDepth 100000 in
set_option maxHeartbeats 1600000 in
theorem paddresses_any (n b : Nat) (s : ByteArray) (st : St) (en : Int) (cv ov : Value) (w : World) (h : SR w b s st.i en cv ov) (hb : st.bad = false) (hs : s.size ≤ 1048576) (hi : st.i ≤ s.size) (hn : 2 * (s.size - st.i) + 2 ≤ n) :
    Calls Tryz.prog 60 #[.pointer (some ⟨b, 0, none⟩)] w fun e w' => TookS w b s en cv ov (addrsS s n st).2 (fun e _ => ∃ pa k cap, e = .returned (.slice pa k cap)) e w' := by
  have hbl := h.lt
  have hW := addrs_ways s n st
  have hal := addr_le s n st hi
  cases hx : amongB s st addrL
  · have hE : addrsS s n st = (0, st) := by
      rcases hW with h | h | h | h
      · exact h.2
      · rw [hx] at h; cases h.1
      · rw [hx] at h; cases h.1
      · rw [hx] at h; cases h.1
    have E := hide hE
    have HX := hide hx
    clear hE hW hx
    go_enter Tryz.func60, Tryz.ntmps60
    go_wp2_with (go_at_call 69; refine (sIsNextOf addrB HX.out h hb hs).mono ?_; rintro e w1 ⟨rfl, n1, rfl⟩)
    go_ret
    rw [E.out]
    exact ⟨(Kp.refl b w).drewN n1, .inl ⟨hb, ⟨_, _, _, rfl⟩, h⟩⟩
  · replace hW : ((addrS s n st).2.bad = true ∧ (addrsS s n st).2 = (addrS s n st).2) ∨ ((addrS s n st).2.bad = false ∧ isB s (addrS s n st).2 44 = false ∧ (addrsS s n st).2 = (addrS s n st).2) ∨ ((addrS s n st).2.bad = false ∧ isB s (addrS s n st).2 44 = true ∧ (addrsS s n st).2 = addr1S s n (adv (addrS s n st).2)) := by
      rcases hW with h | h | h | h
      · rw [hx] at h; cases h.1
      · exact .inl h.2.2
      · exact .inr (.inl h.2.2)
      · exact .inr (.inr h.2.2)
    have hE1 : addr1S s n st = (addrS s n st).2 := by unfold addr1S; rw [hx]; rfl
    have hpa := fun (W : World) (hW : SR W b s st.i en cv ov) => paddress_any n b s st en cv ov W hW hb hs hi hn
    rw [hE1] at hpa
    have HPA := hide hpa
    have HX := hide hx
    clear hx hE1 hpa
    generalize (addrS s n st).2 = q at *
    obtain ⟨i0, hi0, hz0, hz1, hz2⟩ := info_parts infoAddrP
    have HI := hide (And.intro hi0 (And.intro hz0 (And.intro hz1 hz2)))
    clear hi0 hz0 hz1 hz2
    go_enter Tryz.func60, Tryz.ntmps60
    go_wp2_with (go_at_call 69; refine (sIsNextOf addrB HX.out h hb hs).mono ?_; rintro e w1 ⟨rfl, hw1⟩)
    refine (HPA.out w1 (hw1.sr h)).mono ?_
    rintro e w2 ⟨hK2, hT2⟩
    have K2 := (hw1.kp (Kp.refl b w)).trans hK2
    clear HPA HX hw1 h hK2
    rcases hT2 with ⟨hb2, ⟨x, y, rfl⟩, hR2⟩ | ⟨hb2, rfl⟩
    · replace hW : (isB s q 44 = false ∧ (addrsS s n st).2 = q) ∨ (isB s q 44 = true ∧ (addrsS s n st).2 = addr1S s n (adv q)) := by
        rcases hW with h | h | h
        · rw [hb2] at h; cases h.1
        · exact .inl h.2
        · exact .inr h.2
      have R3 := hR2.alloc (.cells #[.int .i64 x, .pointer y] 132)
      have K3 := K2.alloc (.cells #[.int .i64 x, .pointer y] 132)
      have O3 : (w2.alloc (.cells #[.int .i64 x, .pointer y] 132)).ownsRow 0 132 2 (.slice (some ⟨w2.heap.size, 0, none⟩) 1 1) 1 [.int .i64 x, .pointer y] := World.ownsRow_lit w2 _ 1 (Nat.zero_le _) (by decide) rfl
      have hb2l := hR2.lt
      have hw2s := K2.size
      clear hR2 K2
      rcases hW with ⟨hx, hE⟩ | ⟨hx, hE⟩
      · have E := hide hE
        have e2 : advIf s 44 q = q := advIf_is hx
        have E2 := hide e2
        clear hE e2
        go_wp2_with (go_at_call 58; refine (sTakeIf 44 44 rfl hx R3 hb2 hs hal.2).mono ?_; rintro e w5 ⟨rfl, hR5, hK5⟩)
        go_ret
        rw [E.out]
        rw [E2.out] at hR5
        exact ⟨K3.trans hK5, .inl ⟨hb2, ⟨_, _, _, rfl⟩, hR5⟩⟩
      · have E := hide hE
        have e2 : advIf s 44 q = adv q := by unfold advIf; rw [hx]; rfl
        have E2 := hide e2
        have hlt := peekOk_lt (isB_ok hx)
        clear hE e2
        go_wp2_with (go_at_call 58; refine (sTakeIf 44 44 rfl hx R3 hb2 hs hal.2).mono ?_; rintro e w5 ⟨rfl, hR5, hK5⟩)
        rw [E2.out] at hR5
        have O5 := own_kp O3 hK5 (fun k hk => by simp only [Value.ownBlock, Option.some.injEq] at hk; omega)
        have K5 := K3.trans hK5
        clear O3 K3 R3 hK5 E2 hx
        refine (paddress_any n b s (adv q) en cv ov w5 hR5 hb2 hs (by simp [adv]; omega) (by simp [adv]; omega)).mono ?_
        rintro e w6 ⟨hK6, hT6⟩
        have O6 := own_kp O5 hK6 (fun k hk => by simp only [Value.ownBlock, Option.some.injEq] at hk; omega)
        have K6 := K5.trans hK6
        rcases hT6 with ⟨hb6, ⟨x2, y2, rfl⟩, hR6⟩ | ⟨hb6, rfl⟩
        · have O7 := World.ownsRow.alloc O6 (.cells #[.int .i64 x2, .pointer y2] 132)
          have R7 := hR6.alloc (.cells #[.int .i64 x2, .pointer y2] 132)
          have K7 := K6.alloc (.cells #[.int .i64 x2, .pointer y2] 132)
          have HO7 := hide (And.intro O7 (And.intro R7 K7))
          clear O7 R7 K7 O6 O5 K6 K5 hR5 hR6 hK6
          go_wp2_with (at_builtin; refine wpList_append_lies _ rfl _ _ 78 rfl 0 132 i0 (.agg #[.int .i64 0, .pointer none]) 2 16 Tryz.underlying78 HI.out.1 HI.out.2.1 HI.out.2.2.1 HI.out.2.2.2 rfl (by decide) (.slice (some ⟨w2.heap.size, 0, none⟩) 1 1) 1 [.int .i64 x, .pointer y] rfl HO7.out.1 ⟨w6.heap.size, 0, none⟩ 1 1 [.int .i64 x2, .pointer y2] rfl rfl (cell_two_new _ _ _ _) (by intro u hu; simp at hu; rcases hu with rfl | rfl <;> rfl) (by decide) (by decide) (by decide) (Nat.zero_le _) (w6.heap.size + 1) (by simp) ?_; intro g1 cap1 w8 hown8 hgrow8 hat8 hlt8)
          go_ret
          rw [E.out]
          refine ⟨kp_grown HO7.out.2.2 hgrow8 (fun k hk => by simp only [Value.ownBlock, Option.some.injEq] at hk; omega), .inl ⟨hb6, ⟨_, _, _, rfl⟩, grown_blk HO7.out.2.1 hgrow8 (by simp only [Value.ownBlock, ne_eq, Option.some.injEq]; omega)⟩⟩
        · refine ⟨rfl, ?_⟩
          rw [E.out]
          exact ⟨K6, .inr ⟨hb6, rfl⟩⟩
    · refine ⟨rfl, ?_⟩
      rcases hW with h | h | h
      · rw [h.2]
        exact ⟨K2, .inr ⟨hb2, rfl⟩⟩
      · rw [hb2] at h; cases h.1
      · rw [hb2] at h; cases h.1
end Go.Proofs.YtmjdaifalgpdnaaGreat
