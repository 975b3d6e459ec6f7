import Derived.Test.YtpnecblofjpgfaaGreatDoorRefV
import Derived.Deep.DeepCutAuto
namespace Go.Proofs.YtpnecblofjpgfaaGreatDoor
open Go.RowKit

mutual
theorem atomC_all (s : ByteArray) (hs : s.size ≤ 1048576) (G : Nat) : ∀ x, WF G x → AtomC s x
  | .mk g kids neg ps mn mx, h => by
    have hk : WFs G kids ∧ kids.length ≤ 4000000 := by simp only [WF] at h; exact ⟨h.2.2.2.2.2.2.2, h.2.2.2.2.2.2.1⟩
    have hP := partEs_all s hs G kids hk.1
    exact copyEnds_any s hs G _ h (seqEnds_any s hs kids hk.2 hP)
theorem partEs_all (s : ByteArray) (hs : s.size ≤ 1048576) (G : Nat) : ∀ l, WFs G l → ∀ k (h : k < l.length), PartEC s l[k]
  | [], _, k, h => by simp at h
  | x :: l, hw, 0, _ => by
    simp only [WFs] at hw
    exact partEnds_any s hs G x hw.1 (step_any s hs x (atomC_all s hs G x hw.1))
  | x :: l, hw, k + 1, h => by
    simp only [WFs] at hw
    have := partEs_all s hs G l hw.2 k (by simpa using h)
    simpa using this
end

theorem seqC_all (s : ByteArray) (hs : s.size ≤ 1048576) (G : Nat) (l : List Part) (hw : WFs G l) (hl : l.length ≤ 4000000) : SeqC s l :=
  seqEnds_any s hs l hl (partEs_all s hs G l hw)

/-- An expression in memory. -/
def ExV (w : World) (x : Ex) (v : Value) : Prop :=
  ∃ ka kl kc xs, v = .agg #[.bool x.first, .bool x.last, .slice ka kl kc, .int .i64 x.groups] ∧ Row T w (.slice ka kl kc) x.parts.length xs ∧ KRep T w x.parts xs

theorem ExV.below {w w' : World} {x : Ex} {v : Value} (h : ExV w x v) (hb : Below w.heap.size w w') : ExV w' x v := by
  obtain ⟨ka, kl, kc, xs, h1, h2, h3⟩ := h
  exact ⟨ka, kl, kc, xs, h1, h2.below hb, h3.below hb⟩

structure ExWF (x : Ex) : Prop where
  wf : WFs x.groups x.parts
  len : x.parts.length ≤ 4000000
  nine : x.groups ≤ 9

/-- Is there a match from p to q? -/
def CanR (x : Ex) (s : ByteArray) (p q : Int) : Prop := 0 ≤ p ∧ p ≤ q ∧ q ≤ s.size ∧ (x.first = true → p ≤ 0) ∧ (x.last = true → ¬ q < s.size) ∧ SeqR s x.parts p.toNat q.toNat

def canTest (x : Ex) (s : ByteArray) (p q : Int) : Bool := decide (p < 0) || decide (q < p) || decide ((s.size : Int) < q) || (x.first && decide (0 < p)) || (x.last && decide (q < s.size))

set_option maxRecDepth 100000 in
set_option maxHeartbeats 1600000 in
theorem can_any (s : ByteArray) (hs : s.size ≤ 1048576) (x : Ex) (hx : ExWF x) (v : Value) (p q : Int) (w : World) (hv : ExV w x v) :
    Calls Tryz.prog 11 #[v, .string s, .int .i64 p, .int .i64 q] w fun e w' => ∃ b, e = .returned (.bool b) ∧ (b = true ↔ CanR x s p q) ∧ Below w.heap.size w w' := by
  have IH := hide (seqC_all s hs x.groups x.parts hx.wf hx.len)
  obtain ⟨fi, la, parts, gr⟩ := x
  obtain ⟨ka, kl, kc, xs, rfl, hRow, hKR⟩ := hv
  dsimp only at hRow hKR IH
  have hB := Blk.new w #[.bool fi, .bool la, .slice ka kl kc, .int .i64 gr] 33
  obtain ⟨c0, c1, c2, c3, cf⟩ := hB.four
  have hb0 : Below w.heap.size w (w.alloc (.cells #[.bool fi, .bool la, .slice ka kl kc, .int .i64 gr] 33)) := (Below.refl _ _).alloc (Nat.le_refl _) _
  have HK := hide (And.intro (hRow.below hb0) (hKR.below hb0))
  clear hRow hKR hB hx
  go_enter Tryz.func11, Tryz.ntmps11
  go_upto_region 1 with fail
  go_cut [40] (fun c wc => c = .bool (canTest ⟨fi, la, parts, gr⟩ s p q) ∧ wc = w.alloc (.cells #[.bool fi, .bool la, .slice ka kl kc, .int .i64 gr] 33))
  case first =>
    by_cases t1 : p < 0
    · go_wp2_with fail
      go_meet
      case rel => exact ⟨by simp [canTest, t1], rfl⟩
    by_cases t2 : q < p
    · have d1 : decide (p < 0) = false := by simp; omega
      go_wp2_with fail
      go_meet
      case rel => exact ⟨by simp [canTest, t2], rfl⟩
    by_cases t3 : (s.size : Int) < q
    · have d1 : decide (p < 0) = false := by simp; omega
      have d2 : decide (q < p) = false := by simp; omega
      go_wp2_with fail
      go_meet
      case rel => exact ⟨by simp [canTest, t3], rfl⟩
    have d1 : decide (p < 0) = false := by simp; omega
    have d2 : decide (q < p) = false := by simp; omega
    have d3 : decide ((s.size : Int) < q) = false := by simp; omega
    cases fi <;> cases la
    all_goals
      by_cases t4 : 0 < p
      · by_cases t5 : q < s.size
        · go_wp2_with fail
          go_meet
          case rel => exact ⟨by simp [canTest, d1, d2, d3, t4, t5], rfl⟩
        · have d5 : decide (q < (s.size : Int)) = false := by simp; omega
          go_wp2_with fail
          go_meet
          case rel => exact ⟨by simp [canTest, d1, d2, d3, t4, d5], rfl⟩
      · have d4 : decide (0 < p) = false := by simp; omega
        by_cases t5 : q < s.size
        · go_wp2_with fail
          go_meet
          case rel => exact ⟨by simp [canTest, d1, d2, d3, d4, t5], rfl⟩
        · have d5 : decide (q < (s.size : Int)) = false := by simp; omega
          go_wp2_with fail
          go_meet
          case rel => exact ⟨by simp [canTest, d1, d2, d3, d4, d5], rfl⟩
  case rest =>
    obtain ⟨rfl, rfl⟩ := hcut
    cases hct : canTest ⟨fi, la, parts, gr⟩ s p q
    · have hp0 : 0 ≤ p ∧ p ≤ q ∧ q ≤ s.size ∧ (fi = true → p ≤ 0) ∧ (la = true → ¬ q < s.size) := by
        simp [canTest] at hct
        obtain ⟨⟨⟨⟨h1, h2⟩, h3⟩, h4⟩, h5⟩ := hct
        exact ⟨h1, h2, h3, h4, fun h => by have := h5 h; omega⟩
      clear hct
      obtain ⟨hp1, hp2, hp3, hp4, hp5⟩ := hp0
      have HPP := hide (And.intro hp4 hp5)
      clear hp4 hp5
      obtain ⟨pn, rfl⟩ := Int.eq_ofNat_of_zero_le hp1
      obtain ⟨qn, rfl⟩ := Int.eq_ofNat_of_zero_le (show 0 ≤ q by omega)
      go_wp2_with fail
      refine (IH.out _ ka kl kc xs 0 pn HK.out.1 HK.out.2 (Nat.zero_le _) (by omega)).mono ?_
      rintro e w1 ⟨gr2, F, rfl, hB1, hgr, hF, hb1⟩
      have hq1 : qn < s.size + 1 := by omega
      have y1 := hB1.cell qn (bcells_get hq1)
      have HF := hide hF
      clear hF
      go_wp2_with fail
      go_ret
      refine ⟨F qn, rfl, ?_, hb0.trans (hb1.mono (by simp))⟩
      rw [HF.out qn (by omega)]
      simp only [List.drop_zero, CanR, Int.toNat_natCast]
      constructor
      · intro h; exact ⟨hp1, hp2, hp3, fun h => by have := HPP.out.1 h; omega, fun h => by have := HPP.out.2 h; omega, h⟩
      · intro h; exact h.2.2.2.2.2
    · have HCT := hide hct
      clear hct
      go_wp2_with fail
      go_ret
      refine ⟨false, rfl, ?_, hb0⟩
      constructor
      · intro h; cases h
      · rintro ⟨h1, h2, h3, h4, h5, _⟩
        have := HCT.out
        simp [canTest] at this
        dsimp only at h4 h5
        rcases this with ((((h | h) | h) | ⟨h, h'⟩) | ⟨h, h'⟩)
        · omega
        · omega
        · omega
        · have := h4 h; omega
        · exact absurd h' (h5 h)
end Go.Proofs.YtpnecblofjpgfaaGreatDoor
