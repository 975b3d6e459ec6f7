import Derived.Test.YtpnecblofjpgfaaGreatDoorProQ
import Derived.Test.YtpnecblofjpgfaaGreatDoorMatG
import Derived.Test.YtpnecblofjpgfaaGreatDoorRefW
namespace Go.Proofs.YtpnecblofjpgfaaGreatDoor
open Go.RowKit

def exS (s : ByteArray) : Ex × St := exprS s (2 * s.size + 2) ⟨0, false, 0⟩

/-- An expression as the program has it. -/
def PX (w : World) (lo xb : Nat) (x : Ex) (pv : Value) (qs : List PP) : Prop :=
  Blk w xb #[.bool x.first, .bool x.last, pv, .int .i64 (firstIx 0 x.parts), .int .i64 x.groups] 81 ∧ lo ≤ xb ∧ LayL 0 x.parts qs ∧ Flat w pv qs ∧ (∀ k, pv.ownBlock = some k → lo ≤ k ∧ k ≠ xb)

/-- What readExpr does. -/
def ReadPost (w : World) (s : ByteArray) (e : Ending) (w' : World) : Prop :=
  Below w.heap.size w w' ∧ (((exS s).2.bad = false ∧ (exS s).2.i = s.size ∧ ∃ xb pv qs, e = .returned (.pointer (some ⟨xb, 0, none⟩)) ∧ PX w' w.heap.size xb (exS s).1 pv qs) ∨ (¬ ((exS s).2.bad = false ∧ (exS s).2.i = s.size) ∧ e = .panicked (gaveUp 2 (exS s).2.i)))

theorem Kp.toBelow {b : Nat} {w w1 w2 : World} (h0 : Below w.heap.size w w1) (h : Kp b w1 w2) (hb : w.heap.size ≤ b) : Below w.heap.size w w2 :=
  h0.trans ⟨h.os, h.tape, h.output, h.size, fun k hk => h.block k (Nat.lt_of_lt_of_le hk h0.size) (by omega)⟩

theorem advIf_bad {s : ByteArray} {c : Int} {st : St} (h : st.bad = true) : advIf s c st = st := by
  unfold advIf isB peekOk; rw [h]; rfl

theorem spoil_bad (st : St) : (spoil st).bad = true := rfl
theorem advIf_b (s : ByteArray) (c : Int) (st : St) : (advIf s c st).bad = st.bad := by unfold advIf adv; split <;> rfl
theorem advIf_no {s : ByteArray} {c : Int} {st : St} (h : isB s st c = false) : advIf s c st = st := by
  unfold advIf; rw [if_neg (by rw [h]; simp)]

/-- What the document's reader has, by what the program has read. -/
theorem exS_ways (s : ByteArray) (r : List Part × St) (hr : listG s (stopT s) (2 * s.size + 2) (advIf s 94 ⟨0, false, 0⟩) [] = r) :
    (r.2.bad = true ∧ (exS s).2 = r.2) ∨
    (r.2.bad = false ∧ (exS s).2 = advIf s 36 r.2 ∧ (exS s).1 = ⟨isB s ⟨0, false, 0⟩ 94, isB s r.2 36, r.1, r.2.g⟩) ∨
    (r.2.bad = false ∧ (exS s).2 = spoil r.2 ∧ advIf s 36 r.2 = r.2 ∧ r.2.i < s.size) := by
  have h1 : (advIf s 94 ⟨0, false, 0⟩).i ≤ s.size := by
    unfold advIf; split
    · next hc => exact peekOk_lt (isB_ok hc)
    · exact Nat.zero_le _
  have h := listG_top s (2 * s.size + 2) (advIf s 94 ⟨0, false, 0⟩) [] (by rw [advIf_b]) h1 (by omega)
  rw [hr] at h
  have e2 : (exS s).2 = advIf s 36 (partsS s false (2 * s.size + 2) (advIf s 94 ⟨0, false, 0⟩) []).2 := rfl
  have e1 : (exS s).1 = ⟨isB s ⟨0, false, 0⟩ 94, isB s (partsS s false (2 * s.size + 2) (advIf s 94 ⟨0, false, 0⟩) []).2 36, (partsS s false (2 * s.size + 2) (advIf s 94 ⟨0, false, 0⟩) []).1, (partsS s false (2 * s.size + 2) (advIf s 94 ⟨0, false, 0⟩) []).2.g⟩ := rfl
  rcases h with ⟨hb, h⟩ | ⟨hb, h⟩ | ⟨hb, h, hi, h36, _⟩
  · left
    rw [e2, h]
    exact ⟨hb, advIf_bad hb⟩
  · right; left
    rw [e2, e1, h]
    exact ⟨hb, rfl, rfl⟩
  · right; right
    rw [e2, h]
    exact ⟨hb, advIf_bad rfl, advIf_no h36, hi⟩

set_option maxRecDepth 100000 in
set_option maxHeartbeats 1000000 in
theorem readExpr_any (s : ByteArray) (w : World) (hs : s.size ≤ 1048576) :
    Calls Tryz.prog 14 #[.string s] w fun e w' => ReadPost w s e w' := by
  have h1 : ER (w.alloc (.cells #[.string s, .int .i64 0, .int .i64 2, .slice none 0 0, .int .i64 0] 58)) w.heap.size s 0 2 (.slice none 0 0) 0 := Blk.new w _ _
  go_enter Tryz.func14, Tryz.ntmps14
  go_wp2_with fail
  refine (pexpr_any (2 * s.size + 2) w.heap.size s 0 2 _ h1 hs (Nat.zero_le _) (by omega)).mono ?_
  rintro e w2 ⟨k2, hT⟩
  have hB : Below w.heap.size w w2 := Kp.toBelow ((Below.refl _ w).alloc (Nat.le_refl _) _) k2 (Nat.le_refl _)
  have hi0 : (advIf s 94 ⟨0, false, 0⟩).i ≤ s.size := by
    unfold advIf; split
    · next hc => exact peekOk_lt (isB_ok hc)
    · exact Nat.zero_le _
  have hF := (listT_fwd s (2 * s.size + 2) (advIf s 94 ⟨0, false, 0⟩) [] hi0).2.1
  have hW := exS_ways s _ rfl
  generalize listG s (stopT s) (2 * s.size + 2) (advIf s 94 ⟨0, false, 0⟩) [] = r at *
  rcases hT with ⟨hb, xb, pv, qs, rfl, hX, hxb, hlay, hfl, hpv, h2⟩ | ⟨hb, rfl⟩
  · have hi4 : (advIf s 36 r.2).i ≤ s.size := by
      unfold advIf; split
      · next hc => exact peekOk_lt (isB_ok hc)
      · exact hF
    have c1 : w2.cell? ⟨w.heap.size, 1, none⟩ = some (.int .i64 ((advIf s 36 r.2).i : Nat)) := h2.rd.c1
    by_cases hlt : (advIf s 36 r.2).i < s.size
    · have hd : decide (((advIf s 36 r.2).i : Int) < s.size) = true := by simp; omega
      have hx : ¬ ((exS s).2.bad = false ∧ (exS s).2.i = s.size) ∧ (exS s).2.i = (advIf s 36 r.2).i := by
        rcases hW with ⟨h, _⟩ | ⟨_, h, _⟩ | ⟨_, h, h', h''⟩
        · rw [hb] at h; cases h
        · rw [h]; exact ⟨fun x => absurd x.2 (by omega), rfl⟩
        · rw [h, h']; exact ⟨fun x => absurd x.1 (by rw [spoil_bad]; simp), rfl⟩
      have HXX := hide hx
      clear hx hW
      generalize hI4 : (advIf s 36 r.2).i = i4 at *
      have HI4 := hide hI4
      clear hI4
      go_wp2_with fail
      refine wp_region_any (by kernel_rfl) ?_
      change wpAny _ _ _ _ _ _ _ (World.drew _)
      refine wpAny_take (i := 0) (v := .pointer (some ⟨w.heap.size, 0, none⟩)) rfl (by kernel_rfl) (by kernel_rfl) (by kernel_rfl) (fun _ _ _ h => h) (Or.inl ⟨by rfl, by intro w; go_simp⟩) ?_
      refine wpAny_take (i := 1) (v := .pointer (some ⟨w.heap.size, 0, none⟩)) rfl (by kernel_rfl) (by kernel_rfl) (by kernel_rfl) (fun _ _ _ h => h) (Or.inl ⟨by rfl, by intro w; go_simp⟩) ?_
      refine wpAny_take (i := 2) (v := .pointer (some ⟨w.heap.size, 0, none⟩)) rfl (by kernel_rfl) (by kernel_rfl) (by kernel_rfl) (fun _ _ _ h => h) (Or.inl ⟨by rfl, by intro w; go_simp⟩) ?_
      refine wpAny_take (i := 3) (v := .pointer (some ⟨w.heap.size, 0, none⟩)) rfl (by kernel_rfl) (by kernel_rfl) (by kernel_rfl) (fun _ _ _ h => h) (Or.inl ⟨by rfl, by intro w; go_simp⟩) ?_
      refine wpAny_take (i := 4) (v := .pointer (some ⟨w.heap.size, 0, none⟩)) rfl (by kernel_rfl) (by kernel_rfl) (by kernel_rfl) (fun _ _ _ h => h) (Or.inl ⟨by rfl, by intro w; go_simp⟩) ?_
      refine wpAny_take (i := 5) (v := .pointer (some ⟨w.heap.size, 0, none⟩)) rfl (by kernel_rfl) (by kernel_rfl) (by kernel_rfl) (fun _ _ _ h => h) (Or.inl ⟨by rfl, by intro w; go_simp⟩) ?_
      refine wpAny_take (i := 6) (v := .pointer (some ⟨w.heap.size, 1, none⟩)) rfl (by kernel_rfl) (by kernel_rfl) (by kernel_rfl) (fun _ _ _ h => h) (Or.inl ⟨by rfl, by intro w; go_simp⟩) ?_
      refine wpAny_ready (rs := [7]) (by kernel_rfl) (by simp) ?_
      refine AllReady.cons rfl (fun K hK => ?_) AllReady.nil
      go_simp
      refine hK _ _ ?_
      clear hK K
      refine wpAny_ready (rs := [8]) (by kernel_rfl) (by simp) ?_
      refine AllReady.cons rfl (fun K hK => ?_) AllReady.nil
      go_simp
      refine (giveUp_any w.heap.size s i4 2 _ _ h2.drew.rd).mono ?_
      rintro e w3 ⟨rfl, rfl⟩
      refine ⟨rfl, hB.drew, .inr ⟨HXX.out.1, ?_⟩⟩
      rw [HXX.out.2]
    · have hd : decide (((advIf s 36 r.2).i : Int) < s.size) = false := by simp; omega
      have hx : (exS s).2.bad = false ∧ (exS s).2.i = s.size ∧ (exS s).1 = ⟨isB s ⟨0, false, 0⟩ 94, isB s r.2 36, r.1, r.2.g⟩ := by
        rcases hW with ⟨h, _⟩ | ⟨_, h, h3⟩ | ⟨_, h, h', h''⟩
        · rw [hb] at h; cases h
        · rw [h]; exact ⟨by rw [advIf_b]; exact hb, by omega, h3⟩
        · rw [h'] at hlt; omega
      have HXX := hide hx
      clear hx hW
      generalize hI4 : (advIf s 36 r.2).i = i4 at *
      have HI4 := hide hI4
      clear hI4
      have HPX := hide (And.intro hX (And.intro hxb (And.intro hlay (And.intro hfl hpv))))
      clear hX hxb hlay hfl hpv
      go_wp2_with fail
      go_ret
      obtain ⟨hX, hxb, hlay, hfl, hpv⟩ := HPX.out
      obtain ⟨h1, h2, h3⟩ := HXX.out
      refine ⟨hB, .inl ⟨h1, h2, xb, pv, qs, rfl, ?_⟩⟩
      rw [h3]
      refine ⟨hX, ?_, hlay, hfl, fun k hk => ?_⟩
      · have : (w.alloc (.cells #[.string s, .int .i64 0, .int .i64 2, .slice none 0 0, .int .i64 0] 58)).heap.size = w.heap.size + 1 := by simp
        omega
      · have := hpv k hk
        have : (w.alloc (.cells #[.string s, .int .i64 0, .int .i64 2, .slice none 0 0, .int .i64 0] 58)).heap.size = w.heap.size + 1 := by simp
        omega
  · refine ⟨rfl, hB, .inr ⟨?_, ?_⟩⟩
    · rcases hW with ⟨_, h⟩ | ⟨h, _⟩ | ⟨h, _⟩
      · rw [h, hb]; simp
      · rw [hb] at h; cases h
      · rw [hb] at h; cases h
    · rcases hW with ⟨_, h⟩ | ⟨h, _⟩ | ⟨h, _⟩
      · rw [h]
      · rw [hb] at h; cases h
      · rw [hb] at h; cases h
end Go.Proofs.YtpnecblofjpgfaaGreatDoor

namespace Go.Proofs.YtpnecblofjpgfaaGreatDoor
open Go.RowKit

set_option maxRecDepth 100000 in
set_option maxHeartbeats 1000000 in
/-- What Match hands to caught. -/
theorem match1_any (s : ByteArray) (eb vb : Nat) (v : Value) (w : World) (hs : s.size ≤ 1048576) (he : Blk w eb #[.string s] 9) (hv : Blk w vb #[v] 38) :
    Calls Tryz.prog 13 #[.pointer (some ⟨eb, 0, none⟩), .pointer (some ⟨vb, 0, none⟩)] w fun e w' => Kp vb w w' ∧ (((exS s).2.bad = false ∧ (exS s).2.i = s.size ∧ ∃ xb pv qs, e = .returned (.tuple #[]) ∧ Blk w' vb #[.pointer (some ⟨xb, 0, none⟩)] 38 ∧ PX w' w.heap.size xb (exS s).1 pv qs) ∨ (¬ ((exS s).2.bad = false ∧ (exS s).2.i = s.size) ∧ e = .panicked (gaveUp 2 (exS s).2.i))) := by
  have e0 : w.cell? ⟨eb, 0, none⟩ = some (.string s) := he.cell 0 rfl
  have v0 : w.cell? ⟨vb, 0, none⟩ = some v := hv.cell 0 rfl
  have vf := hv.fz
  have hvl := hv.lt
  go_enter Tryz.func13, Tryz.ntmps13
  go_wp2_with fail
  refine (readExpr_any s w hs).mono ?_
  rintro e w2 ⟨k2, hT⟩
  have V2 := hv.below k2
  rcases hT with ⟨hb, hi, xb, pv, qs, rfl, hX, hxb, hlay, hfl, hpv⟩ | ⟨hb, rfl⟩
  · have v2 : w2.cell? ⟨vb, 0, none⟩ = some v := V2.cell 0 rfl
    have vf2 := V2.fz
    have HX := hide (And.intro hb (And.intro hi (And.intro hX (And.intro hxb (And.intro hlay (And.intro hfl hpv))))))
    clear hb hi hX hxb hlay hfl hpv
    go_wp2_with fail
    refine bodyPost_end (results_none rfl _ _ _) rfl ?_
    obtain ⟨hb, hi, hX, hxb, hlay, hfl, hpv⟩ := HX.out
    refine ⟨(Kp.below k2).set _ _, .inl ⟨hb, hi, xb, pv, qs, rfl, V2.set 0 _ rfl, ?_⟩⟩
    refine ⟨hX.other (by simp; omega) _, hxb, hlay, hfl.set (fun e => ?_) _, hpv⟩
    have := hpv _ e
    simp at this
    omega
  · refine ⟨rfl, Kp.below k2, .inr ⟨hb, rfl⟩⟩

end Go.Proofs.YtpnecblofjpgfaaGreatDoor

namespace Go.Proofs.YtpnecblofjpgfaaGreatDoor
open Go.RowKit

/-- A bit of a word. -/
theorem bit_at (x k : Nat) (hx : x < 18446744073709551616) : (bits BinOp.and IntKind.u64 ((x : Int) / 2 ^ k) 1 == 1) = x.testBit k := by
  have h1 : ((x : Int) / 2 ^ k) = ((x / 2 ^ k : Nat) : Int) := by simp
  have h2 : x / 2 ^ k < 18446744073709551616 := Nat.lt_of_le_of_lt (Nat.div_le_self _ _) hx
  have h3 := bits_and_u64_nat (x / 2 ^ k) 1 h2 (by omega)
  have h4 : ((1 : Nat) : Int) = 1 := rfl
  rw [h4] at h3
  rw [h1, h3, Nat.and_one_is_mod, Nat.testBit_eq_decide_div_mod_eq]
  rw [Bool.eq_iff_iff]
  simp only [beq_iff_eq, decide_eq_true_eq]
  omega

set_option maxRecDepth 100000 in
set_option maxHeartbeats 1000000 in
/-- Is the byte in the set? -/
theorem bhas_any (W : Nat → Nat) (M : Nat → Bool) (c : Nat) (hc : c < 256) (h : Holds4 W M) (w : World) :
    Calls Tryz.prog 111 #[.agg #[.int .u64 (W 0 : Nat), .int .u64 (W 1 : Nat), .int .u64 (W 2 : Nat), .int .u64 (W 3 : Nat)], .int .u8 (c : Nat)] w fun e w' => e = .returned (.bool (M c)) ∧ Below w.heap.size w w' := by
  have B := Blk.new w #[.int .u64 (W 0 : Nat), .int .u64 (W 1 : Nat), .int .u64 (W 2 : Nat), .int .u64 (W 3 : Nat)] 102
  have hcl : (w.alloc (.cells #[.int .u64 (W 0 : Nat), .int .u64 (W 1 : Nat), .int .u64 (W 2 : Nat), .int .u64 (W 3 : Nat)] 102)).cell? ⟨w.heap.size, c / 64, none⟩ = some (.int .u64 (W (c / 64) : Nat)) := B.cell (c / 64) (ucells_get (W := W) (by omega))
  have hlt := h.1 (c / 64)
  have hm := h.2 c hc
  have HM := hide hm
  clear hm
  go_enter Tryz.func111, Tryz.ntmps111
  go_wp2_with fail
  go_ret
  exact ⟨ret_bool ((bit_at _ _ hlt).trans HM.out), (Below.refl _ w).alloc (Nat.le_refl _) _⟩
end Go.Proofs.YtpnecblofjpgfaaGreatDoor
