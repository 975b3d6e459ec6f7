import Derived.Test.YtmjdaifalgpdnaaGreatPscH
import Derived.Deep.RegionLaw
namespace Go.Proofs.YtmjdaifalgpdnaaGreat
open Go.RowKit

def allB : ByteArray := ⟨#[123, 125, 58, 98, 116, 61, 97, 105, 99, 100, 68, 103, 71, 104, 72, 120, 110, 78, 112, 80, 113, 81, 115, 119, 121]⟩
theorem has_all (c : Int) (h0 : 0 ≤ c) (h1 : c < 256) : hasL allB.data.toList c = hasL cmdL c := by
  have key : ∀ k : Nat, k < 256 → (hasL allB.data.toList (k : Int) == hasL cmdL (k : Int)) = true := by decide +kernel
  obtain ⟨k, rfl⟩ := Int.eq_ofNat_of_zero_le h0
  simpa using key k (by omega)
theorem among_all (s : ByteArray) (st : St) : amongB s st allB.data.toList = amongB s st cmdL := by
  unfold amongB
  rw [has_all _ (peekC_lo s st) (peekC_hi s st)]
theorem has_no (c : Int) : hasL [125, 58] c = true ↔ c = 125 ∨ c = 58 := by
  simp only [hasL, List.any_cons, List.any_nil, Bool.or_false, Bool.or_eq_true, beq_iff_eq]
  constructor
  · rintro (h | h)
    · exact .inl h.symm
    · exact .inr h.symm
  · rintro (h | h)
    · exact .inl h.symm
    · exact .inr h.symm

/-- A command's letter, but for blocks. -/
def letS (s : ByteArray) (full sm : Bool) (st : St) : St := if amongB s st cmdL = false ∨ full = true ∨ (sm = true ∧ (peekC s st = 125 ∨ peekC s st = 58)) then spoil st else adv st

set_option maxRecDepth 100000 in
set_option maxHeartbeats 800000 in
theorem pletter_any (b n : Nat) (s : ByteArray) (st : St) (en : Int) (sm : Bool) (pl : Option Addr) (cl : Nat) (ov : Value) (w : World) (h : SR w b s st.i en (.slice pl n cl) ov) (hb : st.bad = false) (hs : s.size ≤ 1048576) (hi : st.i ≤ s.size) (hn : n ≤ 60) :
    Calls Tryz.prog 61 #[.pointer (some ⟨b, 0, none⟩), .bool sm] w fun e w' => TookS w b s en (.slice pl n cl) ov (letS s (decide (60 ≤ n)) sm st) (fun e _ => e = .returned (.int .u8 (peekC s st)) ∧ amongB s st cmdL = true) e w' := by
  have hbl := h.lt
  have p0 := peekC_lo s st
  have p1 := peekC_hi s st
  have hfi := firstIdx_has ⟨#[125, 58]⟩ (peekC s st) p0 p1
  have hL : letS s (decide (60 ≤ n)) sm st = if amongB s st cmdL = false ∨ decide (60 ≤ n) = true ∨ (sm = true ∧ (peekC s st = 125 ∨ peekC s st = 58)) then spoil st else adv st := rfl
  have HL := hide hL
  clear hL
  go_enter Tryz.func61, Tryz.ntmps61
  go_wp2_with fail
  refine (sTakeOneOf allB h hb hs hi).mono ?_
  rintro e w1 ⟨hK1, hT⟩
  clear h
  rcases hT with ⟨-, ⟨rfl, hx⟩, hR1⟩ | ⟨hbd, rfl⟩
  · rw [oneOf_yes hx] at hR1
    rw [among_all] at hx
    have hlt := amongB_lt hx
    rw [hx] at HL
    have HX := hide hx
    clear hx
    have c3 := hR1.c3
    have c1 : w1.cell? ⟨b, 1, none⟩ = some (.int .i64 ((st.i : Int) + 1)) := hR1.c1
    have refuse : ∀ W : World, SR W b s (adv st).i en (.slice pl n cl) ov → Calls Tryz.prog 65 #[.pointer (some ⟨b, 0, none⟩)] W fun e w' => e = .panicked (gaveUp en (spoil st).i) ∧ w' = W := fun W hW => (refuse_any b s (st.i + 1) en W (SR.rd hW) hs (by omega)).mono (by
      rintro e w' ⟨rfl, rfl⟩
      exact ⟨by rw [show (((st.i + 1 : Nat) : Int) - 1) = ((spoil st).i : Int) from by simp [spoil]], rfl⟩)
    have HRF := hide refuse
    clear refuse
    by_cases h60 : n = 60
    · have hd : ((n : Int) == 60) = true := by simp; omega
      have E := hide (show letS s (decide (60 ≤ n)) sm st = spoil st by rw [HL.out, if_pos (.inr (.inl (by simp; omega)))])
      clear HL hfi
      go_wp2_with fail
      refine (HRF.out _ hR1).mono ?_
      rintro e w2 ⟨rfl, rfl⟩
      refine ⟨rfl, ?_⟩
      rw [E.out]
      exact ⟨hK1, .inr ⟨rfl, rfl⟩⟩
    · have hd : ((n : Int) == 60) = false := by simp; omega
      have hd60 : decide (60 ≤ n) = false := by simp; omega
      cases sm
      · have E := hide (show letS s (decide (60 ≤ n)) false st = adv st by rw [HL.out, hd60, if_neg (by simp)])
        clear HL hfi
        go_wp2_with fail
        go_ret
        rw [E.out]
        exact ⟨hK1, .inl ⟨hb, ⟨rfl, HX.out⟩, hR1⟩⟩
      · cases hq : hasL [125, 58] (peekC s st)
        · rw [show hasL (ByteArray.mk #[125, 58]).data.toList (peekC s st) = hasL [125, 58] (peekC s st) from rfl, hq] at hfi
          have hq2 : ¬ (peekC s st = 125 ∨ peekC s st = 58) := fun h => by rw [(has_no _).2 h] at hq; cases hq
          have E := hide (show letS s (decide (60 ≤ n)) true st = adv st by rw [HL.out, hd60, if_neg (by simp; omega)])
          clear HL hq hq2
          go_wp2_with (go_at_call 64; refine (indexByte_any _ _ _).mono ?_; rintro e w2 ⟨rfl, rfl⟩)
          go_ret
          rw [E.out]
          exact ⟨hK1, .inl ⟨hb, ⟨rfl, HX.out⟩, hR1⟩⟩
        · rw [show hasL (ByteArray.mk #[125, 58]).data.toList (peekC s st) = hasL [125, 58] (peekC s st) from rfl, hq] at hfi
          have hq2 := (has_no _).1 hq
          have E := hide (show letS s (decide (60 ≤ n)) true st = spoil st by rw [HL.out, if_pos (.inr (.inr ⟨rfl, hq2⟩))])
          clear HL hq hq2
          go_wp2_with (go_at_call 64; refine (indexByte_any _ _ _).mono ?_; rintro e w2 ⟨rfl, rfl⟩)
          refine (HRF.out _ hR1).mono ?_
          rintro e w2 ⟨rfl, rfl⟩
          refine ⟨rfl, ?_⟩
          rw [E.out]
          exact ⟨hK1, .inr ⟨rfl, rfl⟩⟩
  · refine ⟨rfl, ?_⟩
    have hx : amongB s st cmdL = false := by
      cases hx : amongB s st cmdL
      · rfl
      · rw [oneOf_yes (by rw [among_all]; exact hx)] at hbd
        exact absurd hbd (by show ¬ st.bad = true; rw [hb]; simp)
    rw [HL.out, if_pos (.inl hx), oneOf_no (by rw [among_all]; exact hx)]
    exact ⟨hK1, .inr ⟨rfl, rfl⟩⟩

/-- The numbers of the blocks that are open. -/
def ints (js : List Nat) : List Value := js.map fun j => Value.int .i64 (j : Nat)
theorem infoInt : (Tryz.prog.info? 3).map (fun i => (i.zero, i.size, i.bytes)) = some (some (.int .i64 0), 1, 8) := by kernel_rfl

set_option maxRecDepth 100000 in
set_option maxHeartbeats 800000 in
theorem pbegin_any (b n : Nat) (s : ByteArray) (at_ : Nat) (en : Int) (pl : Option Addr) (cl : Nat) (ov : Value) (js : List Nat) (w : World) (h : SR w b s at_ en (.slice pl n cl) ov) (hO : w.ownsRow 0 3 1 ov js.length (ints js)) (hs : s.size ≤ 1048576) (ha : at_ ≤ s.size) (hj : js.length ≤ 6) (_hn : n ≤ 60) :
    Calls Tryz.prog 71 #[.pointer (some ⟨b, 0, none⟩)] w fun e w' => Kq b ov.ownBlock w w' ∧ ((js.length < 6 ∧ e = .returned (.tuple #[]) ∧ ∃ ov', SR w' b s at_ en (.slice pl n cl) ov' ∧ w'.ownsRow 0 3 1 ov' (js ++ [n]).length (ints (js ++ [n])) ∧ Fresh w ov.ownBlock ov'.ownBlock) ∨ (6 ≤ js.length ∧ e = .panicked (gaveUp en ((at_ : Int) - 1)))) := by
  have hbl := h.lt
  have hne := own_blk hO h (by decide)
  obtain ⟨po, co, rfl, hco⟩ := own_form hO
  have c3 := h.c3
  have c4 := h.c4
  have cf := h.fz
  by_cases h6 : js.length = 6
  · have hd : ((js.length : Int) == 6) = true := by simp; omega
    go_enter Tryz.func71, Tryz.ntmps71
    go_wp2_with fail
    refine (refuse_any b s at_ en w h.rd hs ha).mono ?_
    rintro e w1 ⟨rfl, rfl⟩
    exact ⟨rfl, Kq.refl _ _ _, .inr ⟨by omega, rfl⟩⟩
  · have hd : ((js.length : Int) == 6) = false := by simp; omega
    obtain ⟨i0, hi0, hz0, hz1, hz2⟩ := info_parts infoInt
    have HI := hide (And.intro hi0 (And.intro hz0 (And.intro hz1 hz2)))
    have HO := hide hO
    have HNE := hide hne
    clear hi0 hz0 hz1 hz2 hO hne
    have hml : js.length + 1 ≤ maxLen := by unfold maxLen; omega
    have hbytes : (js.length + 1) * 8 ≤ 140737488355328 := by omega
    have hnb : ¬ b = w.heap.size := by omega
    go_enter Tryz.func71, Tryz.ntmps71
    go_wp2_with fail
    go_region_law (refine step_append_lies _ rfl _ _ 87 rfl 0 3 i0 (.int .i64 0) 1 8 Tryz.underlying87 HI.out.1 HI.out.2.1 HI.out.2.2.1 HI.out.2.2.2 rfl (by decide) (.slice po js.length co) js.length (ints js) rfl (World.ownsRow.alloc (World.ownsRow.drew HO.out) _) ⟨w.heap.size, 0, none⟩ 1 1 [.int .i64 n] rfl rfl (blk_news (Blk.newAt rfl)) (by intro u hu; simp at hu; subst hu; rfl) (by decide) hml hbytes (Nat.zero_le _) (w.heap.size + 1) (by simp) ?_; intro g1 cap1 w7 hown7 hgrow7 hat7 hlt7; (have S7 := grown_blk ((h.drew).alloc (.cells #[.int .i64 n] 3)) hgrow7 HNE.out); (have s73 : w7.cell? ⟨b, 3, none⟩ = some (.slice pl n cl) := S7.cell 3 rfl); (have s74 : w7.cell? ⟨b, 4, none⟩ = some (.slice po js.length co) := S7.cell 4 rfl); (have sf7 := S7.fz))
    all_goals
      have hki : ints (js ++ [n]) = ints js ++ [.int .i64 (n : Nat)] := by simp [ints]
      have hkl : (js ++ [n]).length = js.length + 1 := by simp
      have O8 : (w7.setCell ⟨b, 4, none⟩ (.slice (some ⟨g1, 0, none⟩) (js.length + 1) cap1)).ownsRow 0 3 1 (.slice (some ⟨g1, 0, none⟩) (js.length + 1) cap1) (js.length + 1) (ints js ++ [.int .i64 (n : Nat)]) := own_set hown7 (own_blk hown7 S7 (by decide)) _
      have K8 : Kq b (Value.slice po js.length co).ownBlock w (w7.setCell ⟨b, 4, none⟩ (.slice (some ⟨g1, 0, none⟩) (js.length + 1) cap1)) := kq_set (kq_grown (kq_alloc (Kq.of_kp ((Kp.refl b w).drew)) _) hgrow7) 4 _
      have F8 : Fresh w (Value.slice po js.length co).ownBlock (Value.slice (some ⟨g1, 0, none⟩) (js.length + 1) cap1).ownBlock := by
        rcases hat7 with e | e
        · exact .inl e.symm
        · right; intro k hk; simp [Value.ownBlock] at hk; omega
      have S8 := S7.set 4 (.slice (some ⟨g1, 0, none⟩) (js.length + 1) cap1) rfl
      go_wp2_with fail
      refine bodyPost_end (results_none rfl _ _ _) rfl ?_
      refine ⟨K8, .inl ⟨by omega, rfl, _, S8, ?_, F8⟩⟩
      rw [hki, hkl]
      exact O8

set_option maxRecDepth 100000 in
set_option maxHeartbeats 800000 in
theorem pend_any (b n : Nat) (s : ByteArray) (at_ : Nat) (en : Int) (cv ov : Value) (js : List Nat) (xs : List Value) (w : World) (h : SR w b s at_ en cv ov) (hL : w.ownsRow 0 81 13 cv n xs) (hO : w.ownsRow 0 3 1 ov js.length (ints js)) (hs : s.size ≤ 1048576) (ha : at_ ≤ s.size) (hj : js.length ≤ 6) (hn : n ≤ 60) (hjn : ∀ j ∈ js, j < n) :
    Calls Tryz.prog 72 #[.pointer (some ⟨b, 0, none⟩)] w fun e w' => Kq b cv.ownBlock w w' ∧ ((∃ js0 j, js = js0 ++ [j] ∧ e = .returned (.tuple #[]) ∧ ∃ ov', SR w' b s at_ en cv ov' ∧ w'.ownsRow 0 81 13 cv n (xs.set (j * 13 + 5) (.int .i64 n)) ∧ w'.ownsRow 0 3 1 ov' js0.length (ints js0) ∧ ov'.ownBlock = ov.ownBlock) ∨ (js = [] ∧ e = .panicked (gaveUp en ((at_ : Int) - 1)))) := by
  have hbl := h.lt
  have hne := own_blk hO h (by decide)
  have hne2 := own_blk hL h (by decide)
  by_cases hj0 : js = []
  · subst hj0
    obtain ⟨po, co, rfl, hco⟩ := own_form hO
    have c3 := h.c3
    have c4 := h.c4
    have hd : IntKind.i64.wrap (-1) = -1 := rfl
    go_enter Tryz.func72, Tryz.ntmps72
    go_wp2_with fail
    refine (refuse_any b s at_ en w h.rd hs ha).mono ?_
    rintro e w1 ⟨rfl, rfl⟩
    exact ⟨rfl, Kq.refl _ _ _, .inr ⟨by simp, rfl⟩⟩
  · obtain ⟨js0, j, rfl⟩ : ∃ js0 j, js = js0 ++ [j] := ⟨js.dropLast, js.getLast hj0, (List.dropLast_concat_getLast hj0).symm⟩
    have hjn' := hjn j (by simp)
    have hlen : (js0 ++ [j]).length = js0.length + 1 := by simp
    rw [hlen] at hO hj
    obtain ⟨go_, co, rfl, -, hgo⟩ := hO.form (by omega)
    obtain ⟨gl, cl, rfl, -, hgl⟩ := hL.form (by omega)
    have hnlo := own_ne hL hO (by decide) rfl
    have hki : ints (js0 ++ [j]) = ints js0 ++ [.int .i64 (j : Nat)] := by simp [ints]
    rw [hki] at hO
    have c3 := h.c3
    have c4 := h.c4
    have cf := h.fz
    have o1 : w.cell? ⟨go_, js0.length, none⟩ = some (.int .i64 (j : Nat)) := by
      rw [hO.cellAt js0.length (by omega), List.getElem?_append_right (by simp [ints])]
      simp [ints]
    have hxl : j * 13 + 5 < xs.length := by rw [hL.1]; omega
    have l1 : w.cell? ⟨gl, j * 13 + 5, none⟩ = some xs[j * 13 + 5] := by
      rw [hL.cellAt (j * 13 + 5) (by omega), List.getElem?_eq_getElem hxl]
    have lf : w.frozen? ⟨gl, j * 13 + 5, none⟩ = false := hL.frozenAt _
    generalize xs[j * 13 + 5] = x5 at l1
    have n1 : ¬ gl = b := fun e => hne2 (by rw [e]; rfl)
    have n2 : ¬ gl = go_ := fun e => hnlo (by rw [e]; rfl)
    have n3 : ¬ go_ = b := fun e => hne (by rw [e]; rfl)
    have hw1 : IntKind.i64.wrap ((js0.length : Int) + 1 - 1) = (js0.length : Int) := by rw [wrapE _ (by omega) (by omega)]; omega
    have O2 : w.ownsRow 0 3 1 (.slice (some ⟨go_, 0, none⟩) js0.length co) js0.length (ints js0) := ownsRow_pop (by simp [ints]) hO
    have hco : js0.length + 1 ≤ co := by
      rcases hO.2 with ⟨h, _⟩ | ⟨g, cap, cur, h, _, _, h3, _⟩
      · cases h
      · cases h; exact h3
    have L2 := (hL.stored (j * 13 + 5) (.int .i64 (n : Nat))).1
    have O3 := own_set O2 (p := ⟨gl, j * 13 + 5, none⟩) (by simp only [Value.ownBlock, ne_eq, Option.some.injEq]; exact fun e => n2 e.symm) (.int .i64 (n : Nat))
    have S3 := h.other (p := ⟨gl, j * 13 + 5, none⟩) n1 (.int .i64 (n : Nat))
    have K3 : Kq b (some gl) w (w.setCell ⟨gl, j * 13 + 5, none⟩ (.int .i64 (n : Nat))) := ⟨rfl, rfl, rfl, by simp [World.setCell], fun k _ _ hr => Below.heap_setCell _ _ _ _ (fun e => hr (by rw [e]))⟩
    have HH := hide (And.intro L2 (And.intro O3 (And.intro S3 K3)))
    clear hL hO hne hne2 hnlo hjn hki O2 L2 O3 S3 K3 hxl
    have hi0 : (0 : Int) ≤ (js0.length : Int) := by omega
    have hi1 : (js0.length : Int) < (js0.length : Int) + 1 := by omega
    have hi2 : (0 : Int) ≤ (j : Int) := by omega
    have hi3 : (j : Int) < (n : Int) := by omega
    go_enter Tryz.func72, Tryz.ntmps72
    go_wp2_with fail
    go_region_held3 (fun w' => w'.cell? ⟨b, 3, none⟩ = some (.slice (some ⟨gl, 0, none⟩) n cl) ∧ w'.cell? ⟨b, 4, none⟩ = some (.slice (some ⟨go_, 0, none⟩) (js0.length + 1) co) ∧ w'.cell? ⟨go_, js0.length, none⟩ = some (.int .i64 (j : Nat))) (go_keep) (fail)
    all_goals
      go_wp2_with fail
      refine bodyPost_end (results_none rfl _ _ _) rfl ?_
      obtain ⟨L2, O3, S3, K3⟩ := HH.out
      have K4 : Kq b (some gl) w ((w.setCell ⟨gl, j * 13 + 5, none⟩ (.int .i64 (n : Nat))).setCell ⟨b, 4, none⟩ (.slice (some ⟨go_, 0, none⟩) js0.length co)).drew := ⟨K3.os, K3.tape, K3.output, by simp [World.setCell], fun k hk hb hr => (Below.heap_setCell _ _ _ _ hb).trans (K3.block k hk hb hr)⟩
      exact ⟨K4, .inl ⟨js0, j, rfl, rfl, _, SR.drew (S3.set 4 _ rfl), World.ownsRow.drew (own_set L2 (p := ⟨b, 4, none⟩) (by simp only [Value.ownBlock, ne_eq, Option.some.injEq]; exact n1) _), World.ownsRow.drew (own_set O3 (p := ⟨b, 4, none⟩) (by simp only [Value.ownBlock, ne_eq, Option.some.injEq]; exact n3) _), rfl⟩⟩
end Go.Proofs.YtmjdaifalgpdnaaGreat
