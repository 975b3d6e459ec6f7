import Derived.Test.YtpnecblofjpgfaaGreatPscG
import Derived.Deep.RegionLaw
namespace Go.Proofs.YtpnecblofjpgfaaGreat
open Go.RowKit

def addrB : ByteArray := ⟨#[49, 50, 51, 52, 53, 54, 55, 56, 57, 36, 47]⟩
def addrL : List UInt8 := [49, 50, 51, 52, 53, 54, 55, 56, 57, 36, 47]

theorem has_addr (c : Int) (h0 : 0 ≤ c) (h1 : c < 256) : hasL addrL c = (hasL digits1L c || (c == 36) || (c == 47)) := by
  have key : ∀ k : Nat, k < 256 → (hasL addrL (k : Int) == (hasL digits1L (k : Int) || ((k : Int) == 36) || ((k : Int) == 47))) = true := by decide +kernel
  obtain ⟨k, rfl⟩ := Int.eq_ofNat_of_zero_le h0
  simpa using key k (by omega)
theorem among_addr (s : ByteArray) (st : St) : amongB s st addrL = (amongB s st digits1L || isB s st 36 || isB s st 47) := by
  unfold amongB isB
  rw [has_addr _ (peekC_lo s st) (peekC_hi s st)]
  cases peekOk s st <;> simp
theorem among_d1 {s : ByteArray} {st : St} (h : amongB s st digits1L = true) : amongB s st digitsL = true := by
  have h0 := peekC_lo s st
  have h1 := peekC_hi s st
  have key : ∀ k : Nat, k < 256 → (!hasL digits1L (k : Int) || hasL digitsL (k : Int)) = true := by decide +kernel
  obtain ⟨k, hk⟩ := Int.eq_ofNat_of_zero_le h0
  simp only [amongB, Bool.and_eq_true] at h ⊢
  have h2 := key k (by omega)
  rw [← hk, h.2] at h2
  exact ⟨h.1, by simpa using h2⟩

/-- An address that must be there. -/
def addr1S (s : ByteArray) (n : Nat) (st : St) : St := if amongB s st addrL then (addrS s n st).2 else spoil st

/-- What an address is, by its first byte. -/
theorem addr_ways (s : ByteArray) (n : Nat) (st : St) (hok : amongB s st addrL = true) :
    (peekC s st = 36 ∧ (addrS s n st).2 = adv st ∧ (addrS s n st).1.kind ≠ 0) ∨ (peekC s st = 47 ∧ (addrS s n st).2 = (patternS s n (adv st)).2 ∧ (addrS s n st).1.kind ≠ 0) ∨ (49 ≤ peekC s st ∧ peekC s st ≤ 57 ∧ (addrS s n st).2 = (numL s 3 (peekC s st - 48) (adv st)).2 ∧ (addrS s n st).1.kind ≠ 0) := by
  rw [among_addr] at hok
  unfold addrS
  cases h36 : isB s st 36
  · cases h47 : isB s st 47
    · rw [h36, h47] at hok
      simp only [Bool.or_false] at hok
      right; right
      obtain ⟨_, h1, h2⟩ := digit1_yes hok
      refine ⟨h1, h2, ?_⟩
      rw [if_neg (by simp), if_neg (by simp), hok, if_neg (by simp)]
      have e : numL s 4 0 st = numL s 3 (peekC s st - 48) (adv st) := by
        rw [numL, if_pos (among_d1 hok), digitS_yes (among_d1 hok)]
        simp
      dsimp only
      rw [e]
      exact ⟨rfl, by decide⟩
    · right; left
      have : peekC s st = 47 := by simp only [isB, Bool.and_eq_true, beq_iff_eq] at h47; exact h47.2
      rw [if_neg (by simp), if_pos rfl]
      exact ⟨this, rfl, by dsimp only; decide⟩
  · left
    have : peekC s st = 36 := by simp only [isB, Bool.and_eq_true, beq_iff_eq] at h36; exact h36.2
    rw [if_pos rfl]
    exact ⟨this, rfl, by dsimp only; decide⟩
theorem addr_none (s : ByteArray) (n : Nat) (st : St) (hok : amongB s st addrL = false) : (addrS s n st).2 = st ∧ (addrS s n st).1.kind = 0 := by
  rw [among_addr] at hok
  simp only [Bool.or_eq_false_iff] at hok
  unfold addrS
  rw [hok.1.2, hok.2, hok.1.1]
  exact ⟨rfl, rfl⟩

/-- An address out of its variable. -/
theorem ret_paddr {w : World} {k : Nat} {a0 a1 : Value} {fn : Func} {p : Tmp} (hres : fn.results = #[.cell p 110]) {tmps : Array Value} (ht : tmps.getD p undef = .pointer (some ⟨k, 0, none⟩)) (h : Blk w k #[a0, a1] 110) :
    (results fn tmps).run Tryz.prog w = .ok (.agg #[a0, a1]) w := by
  have c0 : w.cell? ⟨k, 0, none⟩ = some a0 := h.cell 0 rfl
  have c1 : w.cell? ⟨k, 1, none⟩ = some a1 := h.cell 1 rfl
  have ht' : tmps[p]?.getD undef = .pointer (some ⟨k, 0, none⟩) := by simpa using ht
  simp [results, hres, ht', go_sem, c0, c1]

set_option maxRecDepth 100000 in
set_option maxHeartbeats 1600000 in
theorem paddress_any (n b : Nat) (s : ByteArray) (st : St) (en : Int) (cv ov : Value) (w : World) (h : SR w b s st.i en cv ov) (hb : st.bad = false) (hs : s.size ≤ 1048576) (hi : st.i ≤ s.size) (hn : 2 * (s.size - st.i) + 2 ≤ n) :
    Calls Tryz.prog 65 #[.pointer (some ⟨b, 0, none⟩)] w fun e w' => TookS w b s en cv ov (addr1S s n st) (fun e _ => ∃ x y, e = .returned (.agg #[.int .i64 x, .pointer y])) e w' := by
  have hbl := h.lt
  have h1 := h.alloc (.cells #[.int .i64 0, .pointer none] 110)
  have k1 := (Kp.refl b w).alloc (.cells #[.int .i64 0, .pointer none] 110)
  have B1 := Blk.new w #[.int .i64 0, .pointer none] 110
  have hne : w.heap.size ≠ b := by omega
  have HW := hide (addr_ways s n st)
  go_enter Tryz.func65, Tryz.ntmps65
  go_wp2_with fail
  refine (sTakeOneOf addrB h1 hb hs hi).mono ?_
  rintro e w1 ⟨hK1, hT⟩
  have B2 := B1.kp hK1 hne
  have K1 := k1.trans hK1
  clear h1 k1 B1 hK1 h
  rcases hT with ⟨-, ⟨rfl, hx⟩, hR1⟩ | ⟨hbd, rfl⟩
  · rw [oneOf_yes hx] at hR1
    replace hx : amongB s st addrL = true := hx
    have hlt := amongB_lt hx
    have hE : addr1S s n st = (addrS s n st).2 := by unfold addr1S; rw [hx]; rfl
    have hW := HW.out hx
    have q0 : w1.cell? ⟨w.heap.size, 0, none⟩ = some (.int .i64 0) := B2.cell 0 rfl
    have q1 : w1.cell? ⟨w.heap.size, 1, none⟩ = some (.pointer none) := B2.cell 1 rfl
    have qf := B2.fz
    have hab : (adv st).bad = false := hb
    have hai : (adv st).i = st.i + 1 := rfl
    clear HW hx
    rcases hW with ⟨hc, hW, -⟩ | ⟨hc, hW, -⟩ | ⟨hc1, hc2, hW, -⟩
    · have E := hide (hE.trans hW)
      clear hE hW
      rw [hc]
      go_wp2_with fail
      refine bodyPost_ret (ret_paddr rfl rfl ((B2.set 0 _ rfl).set 1 _ rfl)) rfl ?_
      rw [E.out]
      exact ⟨(K1.setNew (Nat.le_refl _) _).setNew (Nat.le_refl _) _, .inl ⟨hb, ⟨_, _, rfl⟩, (hR1.other hne _).other hne _⟩⟩
    · have E := hide (hE.trans hW)
      clear hE hW q0 q1 qf
      rw [hc]
      go_wp2_with fail
      refine (pexpression_any n b s (adv st) en cv ov w1 hR1 hab hs (by omega) (by omega)).mono ?_
      rintro e w2 ⟨hK2, hT2⟩
      have B3 := B2.kp hK2 hne
      rcases hT2 with ⟨hb2, ⟨v, rfl, xb, a0, a1, a2, a3, rfl, -, -⟩, hR2⟩ | ⟨hb2, rfl⟩
      · have q0 : w2.cell? ⟨w.heap.size, 0, none⟩ = some (.int .i64 0) := B3.cell 0 rfl
        have q1 : w2.cell? ⟨w.heap.size, 1, none⟩ = some (.pointer none) := B3.cell 1 rfl
        have qf := B3.fz
        go_wp2_with fail
        refine bodyPost_ret (ret_paddr rfl rfl ((B3.set 0 _ rfl).set 1 _ rfl)) rfl ?_
        rw [E.out]
        exact ⟨((K1.trans hK2).setNew (Nat.le_refl _) _).setNew (Nat.le_refl _) _, .inl ⟨hb2, ⟨_, _, rfl⟩, (hR2.other hne _).other hne _⟩⟩
      · refine ⟨rfl, ?_⟩
        rw [E.out]
        exact ⟨K1.trans hK2, .inr ⟨hb2, rfl⟩⟩
    · have E := hide (hE.trans hW)
      clear hE hW q0 q1 qf
      generalize peekC s st = c at *
      have d1 : ¬ c = 36 := by omega
      have d2 : ¬ c = 47 := by omega
      have hnb := num_b s 3 (c - 48) (adv st) hab
      go_wp2_with fail
      refine (pnumber_any b s (adv st) c en cv ov w1 hR1 hab hs (by omega) (by omega) hc2).mono ?_
      rintro e w2 ⟨rfl, hR2, hK2⟩
      have B3 := B2.kp hK2 hne
      generalize numL s 3 (c - 48) (adv st) = nn at *
      have q0 : w2.cell? ⟨w.heap.size, 0, none⟩ = some (.int .i64 0) := B3.cell 0 rfl
      have q1 : w2.cell? ⟨w.heap.size, 1, none⟩ = some (.pointer none) := B3.cell 1 rfl
      have qf := B3.fz
      go_wp2_with fail
      refine bodyPost_ret (ret_paddr rfl rfl ((B3.set 0 _ rfl).set 1 _ rfl)) rfl ?_
      rw [E.out]
      exact ⟨((K1.trans hK2).setNew (Nat.le_refl _) _).setNew (Nat.le_refl _) _, .inl ⟨hnb, ⟨_, _, rfl⟩, (hR2.other hne _).other hne _⟩⟩
  · refine ⟨rfl, ?_⟩
    have hx : amongB s st addrL = false := by
      cases hx : amongB s st addrL
      · rfl
      · rw [oneOf_yes (show amongB s st addrB.data.toList = true from hx)] at hbd
        exact absurd hbd (by show ¬ st.bad = true; rw [hb]; simp)
    have hE : addr1S s n st = spoil st := by unfold addr1S; rw [hx]; rfl
    rw [hE, oneOf_no (show amongB s st addrB.data.toList = false from hx)]
    exact ⟨K1, .inr ⟨rfl, rfl⟩⟩

theorem addrs_two (s : ByteArray) (n : Nat) (q : St) : (if (addrS s n q).1.kind = 0 then spoil (addrS s n q).2 else (addrS s n q).2) = addr1S s n q := by
  unfold addr1S
  cases hx : amongB s q addrL
  · obtain ⟨h1, h2⟩ := addr_none s n q hx
    rw [if_pos h2, h1]; rfl
  · have hk : (addrS s n q).1.kind ≠ 0 := by
      rcases addr_ways s n q hx with h | h | h
      · exact h.2.2
      · exact h.2.2
      · exact h.2.2.2
    rw [if_neg hk]; rfl
theorem addrs_ways (s : ByteArray) (n : Nat) (st : St) :
    (amongB s st addrL = false ∧ addrsS s n st = (0, st)) ∨
    (amongB s st addrL = true ∧ (addrsS s n st).1 ≠ 0 ∧ (addrS s n st).2.bad = true ∧ (addrsS s n st).2 = (addrS s n st).2) ∨
    (amongB s st addrL = true ∧ (addrsS s n st).1 ≠ 0 ∧ (addrS s n st).2.bad = false ∧ isB s (addrS s n st).2 44 = false ∧ (addrsS s n st).2 = (addrS s n st).2) ∨
    (amongB s st addrL = true ∧ (addrsS s n st).1 ≠ 0 ∧ (addrS s n st).2.bad = false ∧ isB s (addrS s n st).2 44 = true ∧ (addrsS s n st).2 = addr1S s n (adv (addrS s n st).2)) := by
  cases hx : amongB s st addrL
  · left
    obtain ⟨h1, h2⟩ := addr_none s n st hx
    refine ⟨rfl, ?_⟩
    unfold addrsS
    rw [if_neg (fun h => h.2.1 h2), h1, h2]
  · right
    have hk : (addrS s n st).1.kind ≠ 0 := by
      rcases addr_ways s n st hx with h | h | h
      · exact h.2.2
      · exact h.2.2
      · exact h.2.2.2
    have hk1 : (addrsS s n st).1 = (addrS s n st).1.kind := by unfold addrsS; split <;> rfl
    cases hbd : (addrS s n st).2.bad
    · cases h44 : isB s (addrS s n st).2 44
      · right; left
        refine ⟨rfl, by rw [hk1]; exact hk, rfl, rfl, ?_⟩
        unfold addrsS
        rw [if_neg (fun h => by rw [h44] at h; cases h.2.2)]
      · right; right
        refine ⟨rfl, by rw [hk1]; exact hk, rfl, rfl, ?_⟩
        unfold addrsS
        rw [if_pos ⟨hbd, hk, h44⟩]
        exact addrs_two s n _
    · left
      refine ⟨rfl, by rw [hk1]; exact hk, rfl, ?_⟩
      unfold addrsS
      rw [if_neg (fun h => by rw [hbd] at h; cases h.1)]

theorem infoAddrP : (Tryz.prog.info? 110).map (fun i => (i.zero, i.size, i.bytes)) = some (some (.agg #[.int .i64 0, .pointer none]), 2, 16) := by kernel_rfl

set_option maxRecDepth 100000 in
set_option maxHeartbeats 1600000 in
theorem paddresses_any (n b : Nat) (s : ByteArray) (st : St) (en : Int) (cv ov : Value) (w : World) (h : SR w b s st.i en cv ov) (hb : st.bad = false) (hs : s.size ≤ 1048576) (hi : st.i ≤ s.size) (hn : 2 * (s.size - st.i) + 2 ≤ n) :
    Calls Tryz.prog 55 #[.pointer (some ⟨b, 0, none⟩)] w fun e w' => TookS w b s en cv ov (addrsS s n st).2 (fun e _ => ∃ pa k cap, e = .returned (.slice pa k cap)) e w' := by
  have hbl := h.lt
  have hW := addrs_ways s n st
  have hal := addr_le s n st hi
  cases hx : amongB s st addrL
  · have hE : addrsS s n st = (0, st) := by
      rcases hW with h | h | h | h
      · exact h.2
      · rw [hx] at h; cases h.1
      · rw [hx] at h; cases h.1
      · rw [hx] at h; cases h.1
    have E := hide hE
    have HX := hide hx
    clear hE hW hx
    go_enter Tryz.func55, Tryz.ntmps55
    go_wp2_with (go_at_call 64; refine (sIsNextOf addrB HX.out h hb hs).mono ?_; rintro e w1 ⟨rfl, n1, rfl⟩)
    go_ret
    rw [E.out]
    exact ⟨(Kp.refl b w).drewN n1, .inl ⟨hb, ⟨_, _, _, rfl⟩, h⟩⟩
  · replace hW : ((addrS s n st).2.bad = true ∧ (addrsS s n st).2 = (addrS s n st).2) ∨ ((addrS s n st).2.bad = false ∧ isB s (addrS s n st).2 44 = false ∧ (addrsS s n st).2 = (addrS s n st).2) ∨ ((addrS s n st).2.bad = false ∧ isB s (addrS s n st).2 44 = true ∧ (addrsS s n st).2 = addr1S s n (adv (addrS s n st).2)) := by
      rcases hW with h | h | h | h
      · rw [hx] at h; cases h.1
      · exact .inl h.2.2
      · exact .inr (.inl h.2.2)
      · exact .inr (.inr h.2.2)
    have hE1 : addr1S s n st = (addrS s n st).2 := by unfold addr1S; rw [hx]; rfl
    have hpa := fun (W : World) (hW : SR W b s st.i en cv ov) => paddress_any n b s st en cv ov W hW hb hs hi hn
    rw [hE1] at hpa
    have HPA := hide hpa
    have HX := hide hx
    clear hx hE1 hpa
    generalize (addrS s n st).2 = q at *
    obtain ⟨i0, hi0, hz0, hz1, hz2⟩ := info_parts infoAddrP
    have HI := hide (And.intro hi0 (And.intro hz0 (And.intro hz1 hz2)))
    clear hi0 hz0 hz1 hz2
    go_enter Tryz.func55, Tryz.ntmps55
    go_wp2_with (go_at_call 64; refine (sIsNextOf addrB HX.out h hb hs).mono ?_; rintro e w1 ⟨rfl, hw1⟩)
    refine (HPA.out w1 (hw1.sr h)).mono ?_
    rintro e w2 ⟨hK2, hT2⟩
    have K2 := (hw1.kp (Kp.refl b w)).trans hK2
    clear HPA HX hw1 h hK2
    rcases hT2 with ⟨hb2, ⟨x, y, rfl⟩, hR2⟩ | ⟨hb2, rfl⟩
    · replace hW : (isB s q 44 = false ∧ (addrsS s n st).2 = q) ∨ (isB s q 44 = true ∧ (addrsS s n st).2 = addr1S s n (adv q)) := by
        rcases hW with h | h | h
        · rw [hb2] at h; cases h.1
        · exact .inl h.2
        · exact .inr h.2
      have R3 := hR2.alloc (.cells #[.int .i64 x, .pointer y] 110)
      have K3 := K2.alloc (.cells #[.int .i64 x, .pointer y] 110)
      have O3 : (w2.alloc (.cells #[.int .i64 x, .pointer y] 110)).ownsRow 0 110 2 (.slice (some ⟨w2.heap.size, 0, none⟩) 1 1) 1 [.int .i64 x, .pointer y] := World.ownsRow_lit w2 _ 1 (Nat.zero_le _) (by decide) rfl
      have hb2l := hR2.lt
      have hw2s := K2.size
      clear hR2 K2
      rcases hW with ⟨hx, hE⟩ | ⟨hx, hE⟩
      · have E := hide hE
        have e2 : advIf s 44 q = q := advIf_is hx
        have E2 := hide e2
        clear hE e2
        go_wp2_with (go_at_call 53; refine (sTakeIf 44 44 rfl hx R3 hb2 hs hal.2).mono ?_; rintro e w5 ⟨rfl, hR5, hK5⟩)
        go_ret
        rw [E.out]
        rw [E2.out] at hR5
        exact ⟨K3.trans hK5, .inl ⟨hb2, ⟨_, _, _, rfl⟩, hR5⟩⟩
      · have E := hide hE
        have e2 : advIf s 44 q = adv q := by unfold advIf; rw [hx]; rfl
        have E2 := hide e2
        have hlt := peekOk_lt (isB_ok hx)
        clear hE e2
        go_wp2_with (go_at_call 53; refine (sTakeIf 44 44 rfl hx R3 hb2 hs hal.2).mono ?_; rintro e w5 ⟨rfl, hR5, hK5⟩)
        rw [E2.out] at hR5
        have O5 := own_kp O3 hK5 (fun k hk => by simp only [Value.ownBlock, Option.some.injEq] at hk; omega)
        have K5 := K3.trans hK5
        clear O3 K3 R3 hK5 E2 hx
        refine (paddress_any n b s (adv q) en cv ov w5 hR5 hb2 hs (by simp [adv]; omega) (by simp [adv]; omega)).mono ?_
        rintro e w6 ⟨hK6, hT6⟩
        have O6 := own_kp O5 hK6 (fun k hk => by simp only [Value.ownBlock, Option.some.injEq] at hk; omega)
        have K6 := K5.trans hK6
        rcases hT6 with ⟨hb6, ⟨x2, y2, rfl⟩, hR6⟩ | ⟨hb6, rfl⟩
        · have O7 := World.ownsRow.alloc O6 (.cells #[.int .i64 x2, .pointer y2] 110)
          have R7 := hR6.alloc (.cells #[.int .i64 x2, .pointer y2] 110)
          have K7 := K6.alloc (.cells #[.int .i64 x2, .pointer y2] 110)
          have HO7 := hide (And.intro O7 (And.intro R7 K7))
          clear O7 R7 K7 O6 O5 K6 K5 hR5 hR6 hK6
          go_wp2_with (at_builtin; refine wpList_append_lies _ rfl _ _ 64 rfl 0 110 i0 (.agg #[.int .i64 0, .pointer none]) 2 16 Tryz.underlying64 HI.out.1 HI.out.2.1 HI.out.2.2.1 HI.out.2.2.2 rfl (by decide) (.slice (some ⟨w2.heap.size, 0, none⟩) 1 1) 1 [.int .i64 x, .pointer y] rfl HO7.out.1 ⟨w6.heap.size, 0, none⟩ 1 1 [.int .i64 x2, .pointer y2] rfl rfl (cell_two_new _ _ _ _) (by intro u hu; simp at hu; rcases hu with rfl | rfl <;> rfl) (by decide) (by decide) (by decide) (Nat.zero_le _) (w6.heap.size + 1) (by simp) ?_; intro g1 cap1 w8 hown8 hgrow8 hat8 hlt8)
          go_ret
          rw [E.out]
          refine ⟨kp_grown HO7.out.2.2 hgrow8 (fun k hk => by simp only [Value.ownBlock, Option.some.injEq] at hk; omega), .inl ⟨hb6, ⟨_, _, _, rfl⟩, grown_blk HO7.out.2.1 hgrow8 (by simp only [Value.ownBlock, ne_eq, Option.some.injEq]; omega)⟩⟩
        · refine ⟨rfl, ?_⟩
          rw [E.out]
          exact ⟨K6, .inr ⟨hb6, rfl⟩⟩
    · refine ⟨rfl, ?_⟩
      rcases hW with h | h | h
      · rw [h.2]
        exact ⟨K2, .inr ⟨hb2, rfl⟩⟩
      · rw [hb2] at h; cases h.1
      · rw [hb2] at h; cases h.1
end Go.Proofs.YtpnecblofjpgfaaGreat

namespace Go.Proofs.YtpnecblofjpgfaaGreat
open Go.RowKit

def allB : ByteArray := ⟨#[123, 125, 58, 98, 116, 61, 97, 105, 99, 100, 68, 103, 71, 104, 72, 120, 110, 78, 112, 80, 113, 81, 115, 119, 121]⟩
theorem has_all (c : Int) (h0 : 0 ≤ c) (h1 : c < 256) : hasL allB.data.toList c = hasL cmdL c := by
  have key : ∀ k : Nat, k < 256 → (hasL allB.data.toList (k : Int) == hasL cmdL (k : Int)) = true := by decide +kernel
  obtain ⟨k, rfl⟩ := Int.eq_ofNat_of_zero_le h0
  simpa using key k (by omega)
theorem among_all (s : ByteArray) (st : St) : amongB s st allB.data.toList = amongB s st cmdL := by
  unfold amongB
  rw [has_all _ (peekC_lo s st) (peekC_hi s st)]
theorem has_no (c : Int) : hasL [125, 58] c = true ↔ c = 125 ∨ c = 58 := by
  simp only [hasL, List.any_cons, List.any_nil, Bool.or_false, Bool.or_eq_true, beq_iff_eq]
  constructor
  · rintro (h | h)
    · exact .inl h.symm
    · exact .inr h.symm
  · rintro (h | h)
    · exact .inl h.symm
    · exact .inr h.symm

/-- A command's letter, but for blocks. -/
def letS (s : ByteArray) (full sm : Bool) (st : St) : St := if amongB s st cmdL = false ∨ full = true ∨ (sm = true ∧ (peekC s st = 125 ∨ peekC s st = 58)) then spoil st else adv st

set_option maxRecDepth 100000 in
set_option maxHeartbeats 800000 in
theorem pletter_any (b n : Nat) (s : ByteArray) (st : St) (en : Int) (sm : Bool) (pl : Option Addr) (cl : Nat) (ov : Value) (w : World) (h : SR w b s st.i en (.slice pl n cl) ov) (hb : st.bad = false) (hs : s.size ≤ 1048576) (hi : st.i ≤ s.size) (hn : n ≤ 60) :
    Calls Tryz.prog 56 #[.pointer (some ⟨b, 0, none⟩), .bool sm] w fun e w' => TookS w b s en (.slice pl n cl) ov (letS s (decide (60 ≤ n)) sm st) (fun e _ => e = .returned (.int .u8 (peekC s st)) ∧ amongB s st cmdL = true) e w' := by
  have hbl := h.lt
  have p0 := peekC_lo s st
  have p1 := peekC_hi s st
  have hfi := firstIdx_has ⟨#[125, 58]⟩ (peekC s st) p0 p1
  have hL : letS s (decide (60 ≤ n)) sm st = if amongB s st cmdL = false ∨ decide (60 ≤ n) = true ∨ (sm = true ∧ (peekC s st = 125 ∨ peekC s st = 58)) then spoil st else adv st := rfl
  have HL := hide hL
  clear hL
  go_enter Tryz.func56, Tryz.ntmps56
  go_wp2_with fail
  refine (sTakeOneOf allB h hb hs hi).mono ?_
  rintro e w1 ⟨hK1, hT⟩
  clear h
  rcases hT with ⟨-, ⟨rfl, hx⟩, hR1⟩ | ⟨hbd, rfl⟩
  · rw [oneOf_yes hx] at hR1
    rw [among_all] at hx
    have hlt := amongB_lt hx
    rw [hx] at HL
    have HX := hide hx
    clear hx
    have c3 := hR1.c3
    have c1 : w1.cell? ⟨b, 1, none⟩ = some (.int .i64 ((st.i : Int) + 1)) := hR1.c1
    have refuse : ∀ W : World, SR W b s (adv st).i en (.slice pl n cl) ov → Calls Tryz.prog 60 #[.pointer (some ⟨b, 0, none⟩)] W fun e w' => e = .panicked (gaveUp en (spoil st).i) ∧ w' = W := fun W hW => (refuse_any b s (st.i + 1) en W (SR.rd hW) hs (by omega)).mono (by
      rintro e w' ⟨rfl, rfl⟩
      exact ⟨by rw [show (((st.i + 1 : Nat) : Int) - 1) = ((spoil st).i : Int) from by simp [spoil]], rfl⟩)
    have HRF := hide refuse
    clear refuse
    by_cases h60 : n = 60
    · have hd : ((n : Int) == 60) = true := by simp; omega
      have E := hide (show letS s (decide (60 ≤ n)) sm st = spoil st by rw [HL.out, if_pos (.inr (.inl (by simp; omega)))])
      clear HL hfi
      go_wp2_with fail
      refine (HRF.out _ hR1).mono ?_
      rintro e w2 ⟨rfl, rfl⟩
      refine ⟨rfl, ?_⟩
      rw [E.out]
      exact ⟨hK1, .inr ⟨rfl, rfl⟩⟩
    · have hd : ((n : Int) == 60) = false := by simp; omega
      have hd60 : decide (60 ≤ n) = false := by simp; omega
      cases sm
      · have E := hide (show letS s (decide (60 ≤ n)) false st = adv st by rw [HL.out, hd60, if_neg (by simp)])
        clear HL hfi
        go_wp2_with fail
        go_ret
        rw [E.out]
        exact ⟨hK1, .inl ⟨hb, ⟨rfl, HX.out⟩, hR1⟩⟩
      · cases hq : hasL [125, 58] (peekC s st)
        · rw [show hasL (ByteArray.mk #[125, 58]).data.toList (peekC s st) = hasL [125, 58] (peekC s st) from rfl, hq] at hfi
          have hq2 : ¬ (peekC s st = 125 ∨ peekC s st = 58) := fun h => by rw [(has_no _).2 h] at hq; cases hq
          have E := hide (show letS s (decide (60 ≤ n)) true st = adv st by rw [HL.out, hd60, if_neg (by simp; omega)])
          clear HL hq hq2
          go_wp2_with (go_at_call 59; refine (indexByte_any _ _ _).mono ?_; rintro e w2 ⟨rfl, rfl⟩)
          go_ret
          rw [E.out]
          exact ⟨hK1, .inl ⟨hb, ⟨rfl, HX.out⟩, hR1⟩⟩
        · rw [show hasL (ByteArray.mk #[125, 58]).data.toList (peekC s st) = hasL [125, 58] (peekC s st) from rfl, hq] at hfi
          have hq2 := (has_no _).1 hq
          have E := hide (show letS s (decide (60 ≤ n)) true st = spoil st by rw [HL.out, if_pos (.inr (.inr ⟨rfl, hq2⟩))])
          clear HL hq hq2
          go_wp2_with (go_at_call 59; refine (indexByte_any _ _ _).mono ?_; rintro e w2 ⟨rfl, rfl⟩)
          refine (HRF.out _ hR1).mono ?_
          rintro e w2 ⟨rfl, rfl⟩
          refine ⟨rfl, ?_⟩
          rw [E.out]
          exact ⟨hK1, .inr ⟨rfl, rfl⟩⟩
  · refine ⟨rfl, ?_⟩
    have hx : amongB s st cmdL = false := by
      cases hx : amongB s st cmdL
      · rfl
      · rw [oneOf_yes (by rw [among_all]; exact hx)] at hbd
        exact absurd hbd (by show ¬ st.bad = true; rw [hb]; simp)
    rw [HL.out, if_pos (.inl hx), oneOf_no (by rw [among_all]; exact hx)]
    exact ⟨hK1, .inr ⟨rfl, rfl⟩⟩

/-- The numbers of the blocks that are open. -/
def ints (js : List Nat) : List Value := js.map fun j => Value.int .i64 (j : Nat)
theorem infoInt : (Tryz.prog.info? 3).map (fun i => (i.zero, i.size, i.bytes)) = some (some (.int .i64 0), 1, 8) := by kernel_rfl

set_option maxRecDepth 100000 in
set_option maxHeartbeats 800000 in
theorem pbegin_any (b n : Nat) (s : ByteArray) (at_ : Nat) (en : Int) (pl : Option Addr) (cl : Nat) (ov : Value) (js : List Nat) (w : World) (h : SR w b s at_ en (.slice pl n cl) ov) (hO : w.ownsRow 0 3 1 ov js.length (ints js)) (hs : s.size ≤ 1048576) (ha : at_ ≤ s.size) (hj : js.length ≤ 6) (_hn : n ≤ 60) :
    Calls Tryz.prog 66 #[.pointer (some ⟨b, 0, none⟩)] w fun e w' => Kq b ov.ownBlock w w' ∧ ((js.length < 6 ∧ e = .returned (.tuple #[]) ∧ ∃ ov', SR w' b s at_ en (.slice pl n cl) ov' ∧ w'.ownsRow 0 3 1 ov' (js ++ [n]).length (ints (js ++ [n])) ∧ Fresh w ov.ownBlock ov'.ownBlock) ∨ (6 ≤ js.length ∧ e = .panicked (gaveUp en ((at_ : Int) - 1)))) := by
  have hbl := h.lt
  have hne := own_blk hO h (by decide)
  obtain ⟨po, co, rfl, hco⟩ := own_form hO
  have c3 := h.c3
  have c4 := h.c4
  have cf := h.fz
  by_cases h6 : js.length = 6
  · have hd : ((js.length : Int) == 6) = true := by simp; omega
    go_enter Tryz.func66, Tryz.ntmps66
    go_wp2_with fail
    refine (refuse_any b s at_ en w h.rd hs ha).mono ?_
    rintro e w1 ⟨rfl, rfl⟩
    exact ⟨rfl, Kq.refl _ _ _, .inr ⟨by omega, rfl⟩⟩
  · have hd : ((js.length : Int) == 6) = false := by simp; omega
    obtain ⟨i0, hi0, hz0, hz1, hz2⟩ := info_parts infoInt
    have HI := hide (And.intro hi0 (And.intro hz0 (And.intro hz1 hz2)))
    have HO := hide hO
    have HNE := hide hne
    clear hi0 hz0 hz1 hz2 hO hne
    have hml : js.length + 1 ≤ maxLen := by unfold maxLen; omega
    have hbytes : (js.length + 1) * 8 ≤ 140737488355328 := by omega
    have hnb : ¬ b = w.heap.size := by omega
    go_enter Tryz.func66, Tryz.ntmps66
    go_wp2_with fail
    go_region_law (refine step_append_lies _ rfl _ _ 55 rfl 0 3 i0 (.int .i64 0) 1 8 Tryz.underlying55 HI.out.1 HI.out.2.1 HI.out.2.2.1 HI.out.2.2.2 rfl (by decide) (.slice po js.length co) js.length (ints js) rfl (World.ownsRow.alloc (World.ownsRow.drew HO.out) _) ⟨w.heap.size, 0, none⟩ 1 1 [.int .i64 n] rfl rfl (blk_news (Blk.newAt rfl)) (by intro u hu; simp at hu; subst hu; rfl) (by decide) hml hbytes (Nat.zero_le _) (w.heap.size + 1) (by simp) ?_; intro g1 cap1 w7 hown7 hgrow7 hat7 hlt7; (have S7 := grown_blk ((h.drew).alloc (.cells #[.int .i64 n] 3)) hgrow7 HNE.out); (have s73 : w7.cell? ⟨b, 3, none⟩ = some (.slice pl n cl) := S7.cell 3 rfl); (have s74 : w7.cell? ⟨b, 4, none⟩ = some (.slice po js.length co) := S7.cell 4 rfl); (have sf7 := S7.fz))
    all_goals
      have hki : ints (js ++ [n]) = ints js ++ [.int .i64 (n : Nat)] := by simp [ints]
      have hkl : (js ++ [n]).length = js.length + 1 := by simp
      have O8 : (w7.setCell ⟨b, 4, none⟩ (.slice (some ⟨g1, 0, none⟩) (js.length + 1) cap1)).ownsRow 0 3 1 (.slice (some ⟨g1, 0, none⟩) (js.length + 1) cap1) (js.length + 1) (ints js ++ [.int .i64 (n : Nat)]) := own_set hown7 (own_blk hown7 S7 (by decide)) _
      have K8 : Kq b (Value.slice po js.length co).ownBlock w (w7.setCell ⟨b, 4, none⟩ (.slice (some ⟨g1, 0, none⟩) (js.length + 1) cap1)) := kq_set (kq_grown (kq_alloc (Kq.of_kp ((Kp.refl b w).drew)) _) hgrow7) 4 _
      have F8 : Fresh w (Value.slice po js.length co).ownBlock (Value.slice (some ⟨g1, 0, none⟩) (js.length + 1) cap1).ownBlock := by
        rcases hat7 with e | e
        · exact .inl e.symm
        · right; intro k hk; simp [Value.ownBlock] at hk; omega
      have S8 := S7.set 4 (.slice (some ⟨g1, 0, none⟩) (js.length + 1) cap1) rfl
      go_wp2_with fail
      refine bodyPost_end (results_none rfl _ _ _) rfl ?_
      refine ⟨K8, .inl ⟨by omega, rfl, _, S8, ?_, F8⟩⟩
      rw [hki, hkl]
      exact O8

set_option maxRecDepth 100000 in
set_option maxHeartbeats 800000 in
theorem pend_any (b n : Nat) (s : ByteArray) (at_ : Nat) (en : Int) (cv ov : Value) (js : List Nat) (xs : List Value) (w : World) (h : SR w b s at_ en cv ov) (hL : w.ownsRow 0 67 13 cv n xs) (hO : w.ownsRow 0 3 1 ov js.length (ints js)) (hs : s.size ≤ 1048576) (ha : at_ ≤ s.size) (hj : js.length ≤ 6) (hn : n ≤ 60) (hjn : ∀ j ∈ js, j < n) :
    Calls Tryz.prog 67 #[.pointer (some ⟨b, 0, none⟩)] w fun e w' => Kq b cv.ownBlock w w' ∧ ((∃ js0 j, js = js0 ++ [j] ∧ e = .returned (.tuple #[]) ∧ ∃ ov', SR w' b s at_ en cv ov' ∧ w'.ownsRow 0 67 13 cv n (xs.set (j * 13 + 5) (.int .i64 n)) ∧ w'.ownsRow 0 3 1 ov' js0.length (ints js0) ∧ ov'.ownBlock = ov.ownBlock) ∨ (js = [] ∧ e = .panicked (gaveUp en ((at_ : Int) - 1)))) := by
  have hbl := h.lt
  have hne := own_blk hO h (by decide)
  have hne2 := own_blk hL h (by decide)
  by_cases hj0 : js = []
  · subst hj0
    obtain ⟨po, co, rfl, hco⟩ := own_form hO
    have c3 := h.c3
    have c4 := h.c4
    have hd : IntKind.i64.wrap (-1) = -1 := rfl
    go_enter Tryz.func67, Tryz.ntmps67
    go_wp2_with fail
    refine (refuse_any b s at_ en w h.rd hs ha).mono ?_
    rintro e w1 ⟨rfl, rfl⟩
    exact ⟨rfl, Kq.refl _ _ _, .inr ⟨by simp, rfl⟩⟩
  · obtain ⟨js0, j, rfl⟩ : ∃ js0 j, js = js0 ++ [j] := ⟨js.dropLast, js.getLast hj0, (List.dropLast_concat_getLast hj0).symm⟩
    have hjn' := hjn j (by simp)
    have hlen : (js0 ++ [j]).length = js0.length + 1 := by simp
    rw [hlen] at hO hj
    obtain ⟨go_, co, rfl, -, hgo⟩ := hO.form (by omega)
    obtain ⟨gl, cl, rfl, -, hgl⟩ := hL.form (by omega)
    have hnlo := own_ne hL hO (by decide) rfl
    have hki : ints (js0 ++ [j]) = ints js0 ++ [.int .i64 (j : Nat)] := by simp [ints]
    rw [hki] at hO
    have c3 := h.c3
    have c4 := h.c4
    have cf := h.fz
    have o1 : w.cell? ⟨go_, js0.length, none⟩ = some (.int .i64 (j : Nat)) := by
      rw [hO.cellAt js0.length (by omega), List.getElem?_append_right (by simp [ints])]
      simp [ints]
    have hxl : j * 13 + 5 < xs.length := by rw [hL.1]; omega
    have l1 : w.cell? ⟨gl, j * 13 + 5, none⟩ = some xs[j * 13 + 5] := by
      rw [hL.cellAt (j * 13 + 5) (by omega), List.getElem?_eq_getElem hxl]
    have lf : w.frozen? ⟨gl, j * 13 + 5, none⟩ = false := hL.frozenAt _
    generalize xs[j * 13 + 5] = x5 at l1
    have n1 : ¬ gl = b := fun e => hne2 (by rw [e]; rfl)
    have n2 : ¬ gl = go_ := fun e => hnlo (by rw [e]; rfl)
    have n3 : ¬ go_ = b := fun e => hne (by rw [e]; rfl)
    have hw1 : IntKind.i64.wrap ((js0.length : Int) + 1 - 1) = (js0.length : Int) := by rw [wrapE _ (by omega) (by omega)]; omega
    have O2 : w.ownsRow 0 3 1 (.slice (some ⟨go_, 0, none⟩) js0.length co) js0.length (ints js0) := ownsRow_pop (by simp [ints]) hO
    have hco : js0.length + 1 ≤ co := by
      rcases hO.2 with ⟨h, _⟩ | ⟨g, cap, cur, h, _, _, h3, _⟩
      · cases h
      · cases h; exact h3
    have L2 := (hL.stored (j * 13 + 5) (.int .i64 (n : Nat))).1
    have O3 := own_set O2 (p := ⟨gl, j * 13 + 5, none⟩) (by simp only [Value.ownBlock, ne_eq, Option.some.injEq]; exact fun e => n2 e.symm) (.int .i64 (n : Nat))
    have S3 := h.other (p := ⟨gl, j * 13 + 5, none⟩) n1 (.int .i64 (n : Nat))
    have K3 : Kq b (some gl) w (w.setCell ⟨gl, j * 13 + 5, none⟩ (.int .i64 (n : Nat))) := ⟨rfl, rfl, rfl, by simp [World.setCell], fun k _ _ hr => Below.heap_setCell _ _ _ _ (fun e => hr (by rw [e]))⟩
    have HH := hide (And.intro L2 (And.intro O3 (And.intro S3 K3)))
    clear hL hO hne hne2 hnlo hjn hki O2 L2 O3 S3 K3 hxl
    have hi0 : (0 : Int) ≤ (js0.length : Int) := by omega
    have hi1 : (js0.length : Int) < (js0.length : Int) + 1 := by omega
    have hi2 : (0 : Int) ≤ (j : Int) := by omega
    have hi3 : (j : Int) < (n : Int) := by omega
    go_enter Tryz.func67, Tryz.ntmps67
    go_wp2_with fail
    go_region_held3 (fun w' => w'.cell? ⟨b, 3, none⟩ = some (.slice (some ⟨gl, 0, none⟩) n cl) ∧ w'.cell? ⟨b, 4, none⟩ = some (.slice (some ⟨go_, 0, none⟩) (js0.length + 1) co) ∧ w'.cell? ⟨go_, js0.length, none⟩ = some (.int .i64 (j : Nat))) (go_keep) (fail)
    all_goals
      go_wp2_with fail
      refine bodyPost_end (results_none rfl _ _ _) rfl ?_
      obtain ⟨L2, O3, S3, K3⟩ := HH.out
      have K4 : Kq b (some gl) w ((w.setCell ⟨gl, j * 13 + 5, none⟩ (.int .i64 (n : Nat))).setCell ⟨b, 4, none⟩ (.slice (some ⟨go_, 0, none⟩) js0.length co)).drew := ⟨K3.os, K3.tape, K3.output, by simp [World.setCell], fun k hk hb hr => (Below.heap_setCell _ _ _ _ hb).trans (K3.block k hk hb hr)⟩
      exact ⟨K4, .inl ⟨js0, j, rfl, rfl, _, SR.drew (S3.set 4 _ rfl), World.ownsRow.drew (own_set L2 (p := ⟨b, 4, none⟩) (by simp only [Value.ownBlock, ne_eq, Option.some.injEq]; exact n1) _), World.ownsRow.drew (own_set O3 (p := ⟨b, 4, none⟩) (by simp only [Value.ownBlock, ne_eq, Option.some.injEq]; exact n3) _), rfl⟩⟩
end Go.Proofs.YtpnecblofjpgfaaGreat
