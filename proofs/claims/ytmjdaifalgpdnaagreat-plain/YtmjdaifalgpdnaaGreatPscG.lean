import Derived.Test.YtmjdaifalgpdnaaGreatScrM
import Derived.Deep.RegionHeld3
import Derived.Deep.RegionLaw
namespace Go.Proofs.YtmjdaifalgpdnaaGreat
open Go.RowKit

def digits1B : ByteArray := ⟨#[49, 50, 51, 52, 53, 54, 55, 56, 57]⟩
/-- What stands behind s, but for the flag w. -/
def sub1S (s : ByteArray) (n : Nat) (st : St) : St :=
  if (eatS s 47 st).bad = true then eatS s 47 st else
  let q := patternS s n (eatS s 47 st)
  let r := replL s q.1.1 n q.2
  if r.bad = true then r else advIf s 112 (advIf s 103 (if amongB s (adv r) digits1L then adv (adv r) else adv r))

theorem digit1_yes {s : ByteArray} {st : St} (h : amongB s st digits1L = true) : (digitS s 49 st).2 = adv st ∧ 49 ≤ peekC s st ∧ peekC s st ≤ 57 := by
  have h0 := peekC_lo s st
  have h1 := peekC_hi s st
  simp only [amongB, Bool.and_eq_true] at h
  have key : ∀ k : Nat, k < 256 → (!hasL digits1L (k : Int) || (decide (49 ≤ (k : Int)) && decide ((k : Int) ≤ 57))) = true := by decide +kernel
  obtain ⟨k, hk⟩ := Int.eq_ofNat_of_zero_le h0
  have h2 := key k (by omega)
  rw [← hk, h.2] at h2
  simp only [Bool.not_true, Bool.false_or, Bool.and_eq_true, decide_eq_true_eq] at h2
  refine ⟨?_, h2⟩
  unfold digitS
  rw [if_pos ⟨h.1, h2.1, h2.2⟩]
  rfl
theorem repl_bad {s : ByteArray} (g n : Nat) {st : St} (h : st.bad = true) : replL s g n st = st := by
  cases n with
  | zero => rfl
  | succ n => rw [replL, if_pos (.inl h)]

theorem subst_aux (s : ByteArray) (r : St) : (if r.bad = true then r else (flagsS s 0 ⟨#[]⟩ (adv r)).2) = if (if r.bad = true then r else advIf s 112 (advIf s 103 (if amongB s (adv r) digits1L then adv (adv r) else adv r))).bad = true then (if r.bad = true then r else advIf s 112 (advIf s 103 (if amongB s (adv r) digits1L then adv (adv r) else adv r))) else if isB s (if r.bad = true then r else advIf s 112 (advIf s 103 (if amongB s (adv r) digits1L then adv (adv r) else adv r))) 119 then (spacedS s (adv (if r.bad = true then r else advIf s 112 (advIf s 103 (if amongB s (adv r) digits1L then adv (adv r) else adv r))))).2 else (if r.bad = true then r else advIf s 112 (advIf s 103 (if amongB s (adv r) digits1L then adv (adv r) else adv r))) := by
  by_cases h2 : r.bad = true
  · rw [if_pos h2, if_pos h2, if_pos h2]
  · rw [if_neg h2, if_neg h2]
    have hd : (if amongB s (adv r) digits1L then digitS s 49 (adv r) else (0, adv r)).2 = if amongB s (adv r) digits1L then adv (adv r) else adv r := by
      split
      · next hc => exact (digit1_yes hc).1
      · rfl
    have hqb : (if amongB s (adv r) digits1L then adv (adv r) else adv r).bad = false := by
      have : r.bad = false := by simpa using h2
      split <;> exact this
    have key : ∀ q : St, q.bad = false → (if amongB s (adv r) digits1L then digitS s 49 (adv r) else (0, adv r)).2 = q → (flagsS s 0 ⟨#[]⟩ (adv r)).2 = if (advIf s 112 (advIf s 103 q)).bad = true then advIf s 112 (advIf s 103 q) else if isB s (advIf s 112 (advIf s 103 q)) 119 then (spacedS s (adv (advIf s 112 (advIf s 103 q)))).2 else advIf s 112 (advIf s 103 q) := by
      intro q hqb hd
      have hyb : (advIf s 112 (advIf s 103 q)).bad = false := by rw [advIf_bb, advIf_bb]; exact hqb
      rw [if_neg (by rw [hyb]; simp)]
      unfold flagsS
      dsimp only
      rw [hd]
      have fin : ∀ y : St, (if isB s y 119 = true then ((⟨(if amongB s (adv r) digits1L then digitS s 49 (adv r) else (0, adv r)).1, isB s q 103, isB s (advIf s 103 q) 112, true, (spacedS s (advIf s 119 y)).1⟩ : Fl), (spacedS s (advIf s 119 y)).2) else ((⟨(if amongB s (adv r) digits1L then digitS s 49 (adv r) else (0, adv r)).1, isB s q 103, isB s (advIf s 103 q) 112, false, ⟨#[]⟩⟩ : Fl), advIf s 119 y)).2 = if isB s y 119 = true then (spacedS s (adv y)).2 else y := by
        intro y
        have ha : advIf s 119 y = if isB s y 119 = true then adv y else y := rfl
        cases hx : isB s y 119
        · rw [ha, hx]; simp
        · rw [ha, hx]; simp
      exact fin _
    exact key _ hqb hd
theorem subst_eq (s : ByteArray) (n : Nat) (st : St) : substS s n st = if (sub1S s n st).bad = true then sub1S s n st else if isB s (sub1S s n st) 119 then (spacedS s (adv (sub1S s n st))).2 else sub1S s n st := by
  unfold substS sub1S
  by_cases h1 : (eatS s 47 st).bad = true
  · rw [if_pos h1, if_pos h1, if_pos h1]
  · rw [if_neg h1, if_neg h1]
    exact subst_aux s _

theorem sub1_le (s : ByteArray) (n : Nat) (st : St) (h : st.i ≤ s.size) (hn : 2 * (s.size - st.i) + 2 ≤ n) : (sub1S s n st).i ≤ s.size := by
  have h1 := On.eat (s := s) 47 h
  unfold sub1S
  split
  · exact h1.2
  · have h2 := pattern_le s n _ h1.2
    have h3 := On.repl (s := s) (patternS s n (eatS s 47 st)).1.1 n _ h2.2
    have h5 := repl_end (s := s) (patternS s n (eatS s 47 st)).1.1 n _ h2.2
    have h11 := h1.1
    have h21 := h2.1
    dsimp only
    split
    · exact h3.2
    · next hb =>
      rcases h5 (by omega) with h6 | h6
      · exact absurd h6 hb
      · have h7 := On.adv (s := s) (peekOk_lt (isB_ok h6))
        have h8 : (if amongB s (adv (replL s (patternS s n (eatS s 47 st)).1.1 n (patternS s n (eatS s 47 st)).2)) digits1L then adv (adv (replL s (patternS s n (eatS s 47 st)).1.1 n (patternS s n (eatS s 47 st)).2)) else adv (replL s (patternS s n (eatS s 47 st)).1.1 n (patternS s n (eatS s 47 st)).2)).i ≤ s.size := by
          split
          · next hc => exact (On.adv (s := s) (amongB_lt hc)).2
          · exact h7.2
        exact (On.advIf 112 (On.advIf 103 h8).2).2

theorem infoPieceP : (Tryz.prog.info? 145).map (fun i => (i.zero, i.size, i.bytes)) = some (some (.agg #[.string ⟨#[]⟩, .int .i64 0]), 2, 24) := by kernel_rfl

theorem own_blk {w : World} {base size n k : Nat} {e t : TypeId} {v : Value} {xs : List Value} {c : Array Value} (h : w.ownsRow base e size v n xs) (hB : Blk w k c t) (hne : e ≠ t) : v.ownBlock ≠ some k := by
  intro hk
  rcases h.2 with ⟨rfl, _⟩ | ⟨g1, c1, u1, rfl, _, hg1, _⟩
  · cases hk
  simp only [Value.ownBlock, Option.some.injEq] at hk
  subst hk
  unfold Blk at hB
  rw [hB] at hg1
  simp only [Option.some.injEq, Obj.cells.injEq] at hg1
  exact hne hg1.2.1.symm

theorem own_set {w : World} {base size n : Nat} {e : TypeId} {v : Value} {xs : List Value} (h : w.ownsRow base e size v n xs) {p : Addr} (hp : v.ownBlock ≠ some p.block) (u : Value) : (w.setCell p u).ownsRow base e size v n xs := by
  refine ⟨h.1, ?_⟩
  rcases h.2 with hn | ⟨g, cap, cur, rfl, h0, hg, rest⟩
  · exact .inl hn
  · exact .inr ⟨g, cap, cur, rfl, h0, by rw [Below.heap_setCell _ _ _ _ (fun e => hp (by rw [← e]; rfl))]; exact hg, rest⟩
theorem kp_grown {b : Nat} {w w1 w2 : World} {row : Option Nat} (h : Kp b w w1) (hg : w1.grownBy w2 row) (hr : ∀ k, row = some k → w.heap.size ≤ k) : Kp b w w2 :=
  ⟨hg.os.trans h.os, hg.tape.trans h.tape, hg.output.trans h.output, Nat.le_trans h.size hg.size, fun k hk hb => (hg.block k (Nat.lt_of_lt_of_le hk h.size) (fun e => by have := hr k e.symm; omega)).trans (h.block k hk hb)⟩

set_option maxRecDepth 100000 in
set_option maxHeartbeats 1600000 in
theorem psubst_any (n b : Nat) (s : ByteArray) (st : St) (en : Int) (cv ov : Value) (w : World) (h : SR w b s st.i en cv ov) (hb : st.bad = false) (hs : s.size ≤ 1048576) (hi : st.i ≤ s.size) (hn : 2 * (s.size - st.i) + 2 ≤ n) :
    Calls Tryz.prog 75 #[.pointer (some ⟨b, 0, none⟩)] w fun e w' => TookS w b s en cv ov (sub1S s n st) (fun e _ => ∃ p, e = .returned (.pointer p)) e w' := by
  have he := On.eat (s := s) 47 hi
  have hbl := h.lt
  go_enter Tryz.func75, Tryz.ntmps75
  go_wp2_with fail
  refine (sTakeOneOf ⟨#[47]⟩ h hb hs hi).mono ?_
  rintro e w1 ⟨hK1, hT⟩
  have e1 : oneOfS s (ByteArray.mk #[47]).data.toList st = eatS s 47 st := oneOf_eat s 47 47 rfl st
  rw [e1] at hT
  have HS : Hid (sub1S s n st = if (eatS s 47 st).bad = true then eatS s 47 st else if (replL s (patternS s n (eatS s 47 st)).1.1 n (patternS s n (eatS s 47 st)).2).bad = true then replL s (patternS s n (eatS s 47 st)).1.1 n (patternS s n (eatS s 47 st)).2 else advIf s 112 (advIf s 103 (if amongB s (adv (replL s (patternS s n (eatS s 47 st)).1.1 n (patternS s n (eatS s 47 st)).2)) digits1L then adv (adv (replL s (patternS s n (eatS s 47 st)).1.1 n (patternS s n (eatS s 47 st)).2)) else adv (replL s (patternS s n (eatS s 47 st)).1.1 n (patternS s n (eatS s 47 st)).2)))) := rfl
  clear e1
  generalize eatS s 47 st = q at *
  rcases hT with ⟨hbd, ⟨rfl, -⟩, hR1⟩ | ⟨hbd, rfl⟩
  · have hq1 := he.1
    have hq2 := he.2
    rw [hbd] at HS
    clear h
    go_wp2_with fail
    refine (pexpression_any n b s q en cv ov w1 hR1 hbd hs hq2 (by omega)).mono ?_
    rintro e w2 ⟨hK2, hT2⟩
    have hK3 := hK1.trans hK2
    have hpl := pattern_le s n q hq2
    have hpg := pattern_g s n q hq2
    generalize patternS s n q = pq at *
    obtain ⟨⟨g, tx⟩, q2⟩ := pq
    dsimp only at *
    rcases hT2 with ⟨hb2, ⟨v, rfl, xb, a0, a1, a2, a3, rfl, hX, hxb⟩, hR2⟩ | ⟨hb2, rfl⟩
    · have hxl := hX.lt
      have hsz1 := hK1.size
      have S3 := Blk.new w2 #[.pointer (some ⟨xb, 0, none⟩), .slice none 0 0, .int .i64 1, .bool false, .bool false] 143
      have X3 := hX.alloc (.cells #[.pointer (some ⟨xb, 0, none⟩), .slice none 0 0, .int .i64 1, .bool false, .bool false] 143)
      have R3 := hR2.alloc (.cells #[.pointer (some ⟨xb, 0, none⟩), .slice none 0 0, .int .i64 1, .bool false, .bool false] 143)
      have K3 := hK3.alloc (.cells #[.pointer (some ⟨xb, 0, none⟩), .slice none 0 0, .int .i64 1, .bool false, .bool false] 143)
      have hsb : w.heap.size ≤ w2.heap.size := hK3.size
      clear hR1 hR2 hK1 hK2 hK3 hX
      go_wp2_with fail
      generalize hW3 : w2.alloc (.cells #[.pointer (some ⟨xb, 0, none⟩), .slice none 0 0, .int .i64 1, .bool false, .bool false] 143) = w3 at *
      generalize hsb' : w2.heap.size = sb at *
      clear hW3 hsb'
      go_loopg [] n (fun k w' => ∃ (cur : St) (pv : Value) (m : Nat) (xs : List Value), Blk w' sb #[.pointer (some ⟨xb, 0, none⟩), pv, .int .i64 1, .bool false, .bool false] 143 ∧ w'.ownsRow 0 145 2 pv m xs ∧ Blk w' xb #[a0, a1, a2, a3, .int .i64 g] 149 ∧ SR w' b s cur.i en cv ov ∧ cur.bad = false ∧ Kp b w w' ∧ q2.i ≤ cur.i ∧ cur.i ≤ s.size ∧ m ≤ cur.i ∧ s.size - cur.i + 1 < k ∧ Hid ((∀ k, pv.ownBlock = some k → w.heap.size ≤ k) ∧ replL s g k cur = replL s g n q2))
      case atStart => exact ⟨q2, .slice none 0 0, 0, [], S3, World.ownsRow_nil _ _ _ _, X3, R3, hb2, K3, Nat.le_refl _, hpl.2, Nat.zero_le _, by omega, ⟨fun k hk => (by cases hk), rfl⟩⟩
      case round =>
        obtain ⟨cur, pv, m, xs, hS, hO, hX, hR, hcb, hK, hqc, hci, hmc, hck, HE⟩ := hrel
        obtain ⟨k, rfl⟩ : ∃ k, gk = k + 1 := ⟨gk - 1, by omega⟩
        obtain ⟨pa, cap, rfl, hcap⟩ := own_form hO
        cases hx : isB s cur 47
        · have e2 : advIf s 47 cur = cur := by unfold advIf; rw [hx]; rfl
          have E2 := hide e2
          have hE := HE.out.2
          rw [replL, if_neg (by rw [hcb, hx]; simp)] at hE
          have HE2 := hide (And.intro HE.out.1 hE)
          clear e2 hE HE
          go_wp2_with (go_at_call 58; refine (sTakeIf 47 47 rfl hx hR hcb hs hci).mono ?_; rintro e w5 ⟨rfl, hR5, hK5⟩)
          rw [E2.out] at hR5
          have hnb : sb ≠ b := by omega
          have hnx : xb ≠ b := by omega
          have hS5 := hS.kp hK5 hnb
          have hX5 := hX.kp hK5 hnx
          have hO5 := own_kp hO hK5 (fun k hk => by have := HE2.out.1 k hk; omega)
          have hK6 := hK.trans hK5
          have hpc := fun (W : World) (hW : SR W b s cur.i en cv ov) => ppiece_any b g s cur en cv ov W hW hcb hs hci hpg
          have hpp := piece_le s g cur hci
          clear hS hX hO hK hR hK5 hx
          have s0 : w5.cell? ⟨sb, 0, none⟩ = some (.pointer (some ⟨xb, 0, none⟩)) := hS5.cell 0 rfl
          have s1 : w5.cell? ⟨sb, 1, none⟩ = some (.slice pa m cap) := hS5.cell 1 rfl
          have sf := hS5.fz
          have x4 : w5.cell? ⟨xb, 4, none⟩ = some (.int .i64 g) := hX5.cell 4 rfl
          generalize hp : pieceS s g cur = pc at *
          have HPC := hide hpc
          clear hpc hp
          cases hpb : pc.bad
          · have hpc : ∀ (W : World), SR W b s cur.i en cv ov → Calls Tryz.prog 83 #[.pointer (some ⟨b, 0, none⟩), .int .i64 g] W fun e w' => ∃ tt kk, e = .returned (.agg #[.string tt, .int .i64 kk]) ∧ SR w' b s pc.i en cv ov ∧ Kp b W w' := fun W hW => (HPC.out W hW).mono (by
              rintro e w' ⟨hK7, ⟨-, ⟨tt, kk, rfl⟩, hR7⟩ | ⟨hq, -⟩⟩
              · exact ⟨tt, kk, rfl, hR7, hK7⟩
              · rw [hpb] at hq; cases hq)
            have HPD := hide hpc
            clear hpc HPC
            have K6 : Kp b w5 w5.drew := (Kp.refl b w5).drew
            obtain ⟨i0, hi0, hz0, hz1, hz2⟩ := info_parts infoPieceP
            have HI := hide (And.intro hi0 (And.intro hz0 (And.intro hz1 hz2)))
            clear hi0 hz0 hz1 hz2
            have HO5 := hide hO5
            clear hO5
            have hml : m + 1 ≤ maxLen := by unfold maxLen; omega
            have hbytes : (m + 1) * 24 ≤ 140737488355328 := by omega
            have hos : (Value.slice pa m cap).ownBlock ≠ some sb := own_blk HO5.out hS5 (by decide)
            have hox : (Value.slice pa m cap).ownBlock ≠ some xb := own_blk HO5.out hX5 (by decide)
            have hob : ∀ k, (Value.slice pa m cap).ownBlock = some k → k ≠ b := fun k hk => by have := HE2.out.1 k hk; omega
            have hsx : sb ≠ xb := by omega
            have HOB := hide (And.intro hos (And.intro hox hob))
            clear hos hox hob
            go_region_law (first | (refine step_append_lies _ rfl _ _ 141 rfl 0 145 i0 (.agg #[.string ⟨#[]⟩, .int .i64 0]) 2 24 Tryz.underlying141 HI.out.1 HI.out.2.1 HI.out.2.2.1 HI.out.2.2.2 rfl (by decide) (.slice pa m cap) m xs rfl (World.ownsRow.alloc (own_kp HO5.out (K6.trans hK7) HOB.out.2.2) _) ⟨w6.heap.size, 0, none⟩ 1 1 [.string tt, .int .i64 kk] rfl rfl (cell_two_new _ _ _ _) (by intro u hu; simp at hu; rcases hu with rfl | rfl <;> rfl) (by decide) hml hbytes (Nat.zero_le _) (w6.heap.size + 1) (by simp) ?_; intro g1 cap1 w7 hown7 hgrow7 hat7 hlt7; (have S7 := grown_blk ((Blk.kp hS5 (K6.trans hK7) hnb).alloc (.cells #[.string tt, .int .i64 kk] 145)) hgrow7 HOB.out.1); (have X7 := grown_blk ((Blk.kp hX5 (K6.trans hK7) hnx).alloc (.cells #[.string tt, .int .i64 kk] 145)) hgrow7 HOB.out.2.1); (have s70 : w7.cell? ⟨sb, 0, none⟩ = some (.pointer (some ⟨xb, 0, none⟩)) := S7.cell 0 rfl); (have s71 : w7.cell? ⟨sb, 1, none⟩ = some (.slice pa m cap) := S7.cell 1 rfl); (have sf7 := S7.fz); (have x74 : w7.cell? ⟨xb, 4, none⟩ = some (.int .i64 g) := X7.cell 4 rfl)) | (go_simp; go_at_call 83; refine (HPD.out _ hR5.drew).mono ?_; rintro e w6 ⟨tt, kk, rfl, hR7, hK7⟩; (have s60 : w6.cell? ⟨sb, 0, none⟩ = some (.pointer (some ⟨xb, 0, none⟩)) := (Blk.kp hS5 (K6.trans hK7) hnb).cell 0 rfl); (have s61 : w6.cell? ⟨sb, 1, none⟩ = some (.slice pa m cap) := (Blk.kp hS5 (K6.trans hK7) hnb).cell 1 rfl); (have x64 : w6.cell? ⟨xb, 4, none⟩ = some (.int .i64 g) := (Blk.kp hX5 (K6.trans hK7) hnx).cell 4 rfl); (have s62 : (w6.alloc (.cells #[.string tt, .int .i64 kk] 145)).cell? ⟨sb, 1, none⟩ = some (.slice pa m cap) := ((Blk.kp hS5 (K6.trans hK7) hnb).alloc _).cell 1 rfl); (have hn8 : sb < w6.heap.size := (Blk.kp hS5 (K6.trans hK7) hnb).lt); (have hn6 : ¬ sb = w6.heap.size := by have := (Blk.kp hS5 (K6.trans hK7) hnb).lt; omega); (have hn7 : ¬ xb = w6.heap.size := by have := (Blk.kp hX5 (K6.trans hK7) hnx).lt; omega)))
            all_goals
              have hpi : cur.i < pc.i := hpp.2.2.elim (fun h => by rw [hpb] at h; cases h) id
              have R7 : SR (w7.setCell ⟨sb, 1, none⟩ (.slice (some ⟨g1, 0, none⟩) (m + 1) cap1)) b s pc.i en cv ov := SR.other (grown_blk (hR7.alloc (.cells #[.string tt, .int .i64 kk] 145)) hgrow7 (fun hk => HOB.out.2.2 b hk rfl)) hnb _
              have O7 : (w7.setCell ⟨sb, 1, none⟩ (.slice (some ⟨g1, 0, none⟩) (m + 1) cap1)).ownsRow 0 145 2 (.slice (some ⟨g1, 0, none⟩) (m + 1) cap1) (m + 1) (xs ++ [.string tt, .int .i64 kk]) := own_set hown7 (own_blk hown7 S7 (by decide)) _
              have K7 : Kp b w (w7.setCell ⟨sb, 1, none⟩ (.slice (some ⟨g1, 0, none⟩) (m + 1) cap1)) := Kp.setNew (kp_grown ((hK6.trans (K6.trans hK7)).alloc (.cells #[.string tt, .int .i64 kk] 145)) hgrow7 HE2.out.1) (show w.heap.size ≤ sb by omega) _
              have hnew : ∀ k, (Value.slice (some ⟨g1, 0, none⟩) (m + 1) cap1).ownBlock = some k → w.heap.size ≤ k := fun k hk => by
                simp only [Value.ownBlock, Option.some.injEq] at hk
                rcases hat7 with e | e
                · exact HE2.out.1 k (by rw [e, hk])
                · have := (hK6.trans (K6.trans hK7)).size
                  omega
              go_wp2_with fail
              go_roundg k
              case measure => omega
              case rel => exact ⟨pc, _, m + 1, _, S7.set 1 _ rfl, O7, X7.other hsx _, R7, hpb, K7, by omega, hpp.2.1, by omega, by omega, ⟨hnew, HE2.out.2⟩⟩
          · have hpc : ∀ (W : World), SR W b s cur.i en cv ov → Calls Tryz.prog 83 #[.pointer (some ⟨b, 0, none⟩), .int .i64 g] W fun e w' => e = .panicked (gaveUp en pc.i) ∧ Kp b W w' := fun W hW => (HPC.out W hW).mono (by
              rintro e w' ⟨hK7, ⟨hq, -⟩ | ⟨-, rfl⟩⟩
              · rw [hpb] at hq; cases hq
              · exact ⟨rfl, hK7⟩)
            have HPD := hide hpc
            clear hpc HPC
            refine wp_region_held_drew (S := fun w' => w'.cell? ⟨sb, 0, none⟩ = some (.pointer (some ⟨xb, 0, none⟩)) ∧ w'.cell? ⟨sb, 1, none⟩ = some (.slice pa m cap) ∧ w'.cell? ⟨xb, 4, none⟩ = some (.int .i64 g)) (by kernel_rfl) ⟨s0, s1, x4⟩ (fun hS0 => ?_)
            refine wpAnyH_take (i := 0) (v := .pointer (some ⟨sb, 0, none⟩)) rfl (by kernel_rfl) (by kernel_rfl) (by kernel_rfl) (fun _ _ _ h => h) (Or.inl ⟨by rfl, fun w hSw => by obtain ⟨u0, u1, u2⟩ := hSw; go_simp⟩) hS0 ?_
            refine wpAnyH_take (i := 1) (v := .pointer (some ⟨sb, 0, none⟩)) rfl (by kernel_rfl) (by kernel_rfl) (by kernel_rfl) (fun _ _ _ h => h) (Or.inl ⟨by rfl, fun w hSw => by obtain ⟨u0, u1, u2⟩ := hSw; go_simp⟩) hS0 ?_
            refine wpAnyH_take (i := 2) (v := .pointer (some ⟨sb, 0, none⟩)) rfl (by kernel_rfl) (by kernel_rfl) (by kernel_rfl) (fun _ _ _ h => h) (Or.inl ⟨by rfl, fun w hSw => by obtain ⟨u0, u1, u2⟩ := hSw; go_simp⟩) hS0 ?_
            refine wpAnyH_take (i := 3) (v := .pointer (some ⟨sb, 1, none⟩)) rfl (by kernel_rfl) (by kernel_rfl) (by kernel_rfl) (fun _ _ _ h => h) (Or.inl ⟨by rfl, fun w hSw => by obtain ⟨u0, u1, u2⟩ := hSw; go_simp⟩) hS0 ?_
            refine wpAnyH_take (i := 4) (v := .slice pa m cap) rfl (by kernel_rfl) (by kernel_rfl) (by kernel_rfl) (fun _ _ _ h => h) (Or.inl ⟨by rfl, fun w hSw => by obtain ⟨u0, u1, u2⟩ := hSw; go_simp⟩) hS0 ?_
            refine wpAnyH_take (i := 5) (v := .pointer (some ⟨b, 0, none⟩)) rfl (by kernel_rfl) (by kernel_rfl) (by kernel_rfl) (fun _ _ _ h => h) (Or.inl ⟨by rfl, fun w hSw => by obtain ⟨u0, u1, u2⟩ := hSw; go_simp⟩) hS0 ?_
            refine wpAnyH_take (i := 6) (v := .pointer (some ⟨sb, 0, none⟩)) rfl (by kernel_rfl) (by kernel_rfl) (by kernel_rfl) (fun _ _ _ h => h) (Or.inl ⟨by rfl, fun w hSw => by obtain ⟨u0, u1, u2⟩ := hSw; go_simp⟩) hS0 ?_
            refine wpAnyH_take (i := 7) (v := .pointer (some ⟨sb, 0, none⟩)) rfl (by kernel_rfl) (by kernel_rfl) (by kernel_rfl) (fun _ _ _ h => h) (Or.inl ⟨by rfl, fun w hSw => by obtain ⟨u0, u1, u2⟩ := hSw; go_simp⟩) hS0 ?_
            refine wpAnyH_take (i := 8) (v := .pointer (some ⟨sb, 0, none⟩)) rfl (by kernel_rfl) (by kernel_rfl) (by kernel_rfl) (fun _ _ _ h => h) (Or.inl ⟨by rfl, fun w hSw => by obtain ⟨u0, u1, u2⟩ := hSw; go_simp⟩) hS0 ?_
            refine wpAnyH_take (i := 9) (v := .pointer (some ⟨xb, 0, none⟩)) rfl (by kernel_rfl) (by kernel_rfl) (by kernel_rfl) (fun _ _ _ h => h) (Or.inl ⟨by rfl, fun w hSw => by obtain ⟨u0, u1, u2⟩ := hSw; go_simp⟩) hS0 ?_
            refine wpAnyH_take (i := 10) (v := .pointer (some ⟨xb, 0, none⟩)) rfl (by kernel_rfl) (by kernel_rfl) (by kernel_rfl) (fun _ _ _ h => h) (Or.inl ⟨by rfl, fun w hSw => by obtain ⟨u0, u1, u2⟩ := hSw; go_simp⟩) hS0 ?_
            refine wpAnyH_take (i := 11) (v := .pointer (some ⟨xb, 4, none⟩)) rfl (by kernel_rfl) (by kernel_rfl) (by kernel_rfl) (fun _ _ _ h => h) (Or.inl ⟨by rfl, fun w hSw => by obtain ⟨u0, u1, u2⟩ := hSw; go_simp⟩) hS0 ?_
            refine wpAnyH_take (i := 12) (v := .int .i64 g) rfl (by kernel_rfl) (by kernel_rfl) (by kernel_rfl) (fun _ _ _ h => h) (Or.inl ⟨by rfl, fun w hSw => by obtain ⟨u0, u1, u2⟩ := hSw; go_simp⟩) hS0 ?_
            refine wpAnyH_ready (rs := [13]) (by kernel_rfl) (by simp) ?_
            refine AllReadyH.cons rfl (fun K hK => ?_) AllReadyH.nil
            go_simp
            refine (HPD.out _ hR5.drew).mono ?_
            rintro e w6 ⟨rfl, hK7⟩
            refine ⟨rfl, ?_⟩
            have hE : sub1S s n st = pc := by
              rw [HS.out, if_neg (by simp)]
              rw [← HE2.out.2, repl_bad _ _ hpb, if_pos hpb]
            rw [hE]
            exact ⟨hK6.trans (((Kp.refl b w5).drew).trans hK7), .inr ⟨hpb, rfl⟩⟩
        · have e2 : advIf s 47 cur = adv cur := by unfold advIf; rw [hx]; rfl
          have E2 := hide e2
          have hlt := peekOk_lt (isB_ok hx)
          have hE := HE.out.2
          rw [replL, if_pos (.inr hx)] at hE
          have hF : sub1S s n st = advIf s 112 (advIf s 103 (if amongB s (adv cur) digits1L then adv (adv cur) else adv cur)) := by
            rw [HS.out, if_neg (by simp), ← hE, if_neg (by rw [hcb]; simp)]
          have HF := hide hF
          clear hE hF HE e2
          have hnb : sb ≠ b := by omega
          go_wp2_with (go_at_call 58; refine (sTakeIf 47 47 rfl hx hR hcb hs hci).mono ?_; rintro e w5 ⟨rfl, hR5, hK5⟩)
          rw [E2.out] at hR5
          have hS5 := hS.kp hK5 hnb
          have hK6 := hK.trans hK5
          have hab : (adv cur).bad = false := hcb
          have hal : (adv cur).i ≤ s.size := by simp [adv]; omega
          clear hR hK hK5 hS hX hO hx E2
          generalize adv cur = y at *
          obtain ⟨q5, hq5⟩ : ∃ q5, q5 = if amongB s y digits1L then adv y else y := ⟨_, rfl⟩
          rw [← hq5] at HF
          have fin : ∀ (w7 : World) (fv : Value), Blk w7 sb #[.pointer (some ⟨xb, 0, none⟩), .slice pa m cap, fv, .bool false, .bool false] 143 → SR w7 b s q5.i en cv ov → Kp b w w7 → q5.bad = false → q5.i ≤ s.size → Hid (Blk w7 sb #[.pointer (some ⟨xb, 0, none⟩), .slice pa m cap, fv, .bool false, .bool false] 143 ∧ SR w7 b s q5.i en cv ov ∧ Kp b w w7 ∧ q5.bad = false ∧ q5.i ≤ s.size) := fun _ _ a b c d e => ⟨a, b, c, d, e⟩
          cases hx1 : amongB s y digits1L
          · rw [hx1] at hq5
            have hq6 : q5 = y := hq5
            have HQ := hide hq6
            go_wp2_with (go_at_call 69; refine (sIsNextOf digits1B hx1 hR5 hab hs).mono ?_; rintro e w6 ⟨rfl, hw6⟩)
            have HB := fin w6 (.int .i64 1) (hw6.blk hS5) (by rw [HQ.out]; exact hw6.sr hR5) (hw6.kp hK6) (by rw [HQ.out]; exact hab) (by rw [HQ.out]; exact hal)
            clear fin hq5 hq6 HQ hS5 hR5 hK6 hw6 hx1
            obtain ⟨S6, R6, K6, qb, ql⟩ := HB.out
            clear HB
            refine (sTakeIf 103 103 rfl (x := isB s q5 103) rfl R6 qb hs ql).mono ?_
            rintro e w7 ⟨rfl, R7, K7⟩
            have S7 := S6.kp K7 hnb
            have d3 : w7.cell? ⟨sb, 3, none⟩ = some (.bool false) := S7.cell 3 rfl
            have df := S7.fz
            generalize isB s q5 103 = x103 at *
            have qb2 : (advIf s 103 q5).bad = false := by rw [advIf_bb]; exact qb
            have ql2 := (On.advIf (s := s) 103 ql).2
            generalize advIf s 103 q5 = q7 at *
            go_wp2_with fail
            have S8 := S7.set 3 (.bool x103) rfl
            have R8 := R7.other (p := ⟨sb, 3, none⟩) hnb (.bool x103)
            have K8 := (K6.trans K7).setNew (p := ⟨sb, 3, none⟩) (show w.heap.size ≤ sb by omega) (.bool x103)
            generalize w7.setCell ⟨sb, 3, none⟩ (.bool x103) = w8 at *
            refine (sTakeIf 112 112 rfl (x := isB s q7 112) rfl R8 qb2 hs ql2).mono ?_
            rintro e w9 ⟨rfl, R9, K9⟩
            have S9 := S8.kp K9 hnb
            have d4 : w9.cell? ⟨sb, 4, none⟩ = some (.bool false) := S9.cell 4 rfl
            have dg := S9.fz
            generalize isB s q7 112 = x112 at *
            have qb3 : (advIf s 112 q7).bad = false := by rw [advIf_bb]; exact qb2
            generalize advIf s 112 q7 = q9 at *
            clear d3 df
            go_wp2_with fail
            go_ret
            rw [HF.out]
            exact ⟨(K8.trans K9).setNew (p := ⟨sb, 4, none⟩) (show w.heap.size ≤ sb by omega) _, .inl ⟨qb3, ⟨_, rfl⟩, R9.other (p := ⟨sb, 4, none⟩) hnb _⟩⟩
          · rw [hx1] at hq5
            have hq6 : q5 = adv y := hq5
            have HQ := hide hq6
            have hyl := amongB_lt hx1
            have hpk : peekOk s y = true := by simp [peekOk, hab, hyl]
            obtain ⟨-, hd0, hd9⟩ := digit1_yes hx1
            have hwd := u8_sub (peekC s y) (by omega) hd9
            have HX1 := hide hx1
            clear hx1 hq5 hq6
            go_wp2_with (go_at_call 69; refine (sIsNextOf digits1B HX1.out hR5 hab hs).mono ?_; rintro e w6 ⟨rfl, hw6⟩)
            refine (sTake (hw6.sr hR5) hab hs hpk).mono ?_
            rintro e w4 ⟨rfl, R4, K4⟩
            have S4 := (hw6.blk hS5).kp K4 hnb
            have d2 : w4.cell? ⟨sb, 2, none⟩ = some (.int .i64 1) := S4.cell 2 rfl
            have de := S4.fz
            go_wp2_with fail
            have HB := fin (w4.setCell ⟨sb, 2, none⟩ (.int .i64 (peekC s y - 48))) (.int .i64 (peekC s y - 48)) (S4.set 2 _ rfl) (by rw [HQ.out]; exact R4.other (p := ⟨sb, 2, none⟩) hnb _) (((hw6.kp hK6).trans K4).setNew (p := ⟨sb, 2, none⟩) (show w.heap.size ≤ sb by omega) _) (by rw [HQ.out]; exact hab) (by rw [HQ.out]; simp [adv]; omega)
            clear fin HQ hS5 hR5 hK6 hw6 HX1 d2 de S4 R4 K4 hwd hpk
            generalize w4.setCell ⟨sb, 2, none⟩ (.int .i64 (peekC s y - 48)) = w6 at *
            obtain ⟨S6, R6, K6, qb, ql⟩ := HB.out
            clear HB
            refine (sTakeIf 103 103 rfl (x := isB s q5 103) rfl R6 qb hs ql).mono ?_
            rintro e w7 ⟨rfl, R7, K7⟩
            have S7 := S6.kp K7 hnb
            have d3 : w7.cell? ⟨sb, 3, none⟩ = some (.bool false) := S7.cell 3 rfl
            have df := S7.fz
            generalize isB s q5 103 = x103 at *
            have qb2 : (advIf s 103 q5).bad = false := by rw [advIf_bb]; exact qb
            have ql2 := (On.advIf (s := s) 103 ql).2
            generalize advIf s 103 q5 = q7 at *
            go_wp2_with fail
            have S8 := S7.set 3 (.bool x103) rfl
            have R8 := R7.other (p := ⟨sb, 3, none⟩) hnb (.bool x103)
            have K8 := (K6.trans K7).setNew (p := ⟨sb, 3, none⟩) (show w.heap.size ≤ sb by omega) (.bool x103)
            generalize w7.setCell ⟨sb, 3, none⟩ (.bool x103) = w8 at *
            refine (sTakeIf 112 112 rfl (x := isB s q7 112) rfl R8 qb2 hs ql2).mono ?_
            rintro e w9 ⟨rfl, R9, K9⟩
            have S9 := S8.kp K9 hnb
            have d4 : w9.cell? ⟨sb, 4, none⟩ = some (.bool false) := S9.cell 4 rfl
            have dg := S9.fz
            generalize isB s q7 112 = x112 at *
            have qb3 : (advIf s 112 q7).bad = false := by rw [advIf_bb]; exact qb2
            generalize advIf s 112 q7 = q9 at *
            clear d3 df
            go_wp2_with fail
            go_ret
            rw [HF.out]
            exact ⟨(K8.trans K9).setNew (p := ⟨sb, 4, none⟩) (show w.heap.size ≤ sb by omega) _, .inl ⟨qb3, ⟨_, rfl⟩, R9.other (p := ⟨sb, 4, none⟩) hnb _⟩⟩
    · refine ⟨rfl, ?_⟩
      have hE : sub1S s n st = q2 := by
        rw [HS.out, if_neg (by simp), if_pos (by rw [repl_bad _ _ hb2]; exact hb2), repl_bad _ _ hb2]
      rw [hE]
      exact ⟨hK3, .inr ⟨hb2, rfl⟩⟩
  · refine ⟨rfl, ?_⟩
    rw [HS.out, if_pos hbd]
    exact ⟨hK1, .inr ⟨hbd, rfl⟩⟩
end Go.Proofs.YtmjdaifalgpdnaaGreat
