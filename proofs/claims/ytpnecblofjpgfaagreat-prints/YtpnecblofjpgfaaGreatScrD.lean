import Derived.Test.YtpnecblofjpgfaaGreatScrC
namespace Go.Proofs.YtpnecblofjpgfaaGreat
open Go.RowKit

/-- Where the line ends. -/
def lineE (s : ByteArray) : Nat → Nat → Nat
  | 0, i => i
  | n + 1, i => if h : i < s.size then (if (s[i].toNat : Int) = 10 then i else lineE s n (i + 1)) else i

theorem lineE_le (s : ByteArray) : ∀ n i, i ≤ s.size → i ≤ lineE s n i ∧ lineE s n i ≤ s.size
  | 0, i, h => ⟨Nat.le_refl _, h⟩
  | n + 1, i, h => by
    rw [lineE]
    split
    · split
      · exact ⟨Nat.le_refl _, h⟩
      · have := lineE_le s n (i + 1) (by omega); omega
    · exact ⟨Nat.le_refl _, h⟩

set_option maxHeartbeats 800000 in
theorem line_any (n b : Nat) (s : ByteArray) (st : St) (w : World) (h : RD w b s st) (hs : s.size ≤ 1048576) (hi : st.i ≤ s.size) (hn : s.size < st.i + n) :
    Calls Tryz.prog 47 #[.pointer (some ⟨b, 0, none⟩)] w fun e w' => e = .returned (.string (s.extract st.i (lineE s n st.i))) ∧ RD w' b s { st with i := lineE s n st.i } ∧ Kp b w w' := by
  have h1 := h.c1
  have h0 := h.c0
  go_enter Tryz.func47, Tryz.ntmps47
  go_wp2_with fail
  go_loopg [] n (fun k w' => ∃ i : Nat, RD w' b s { st with i := i } ∧ Kp b w w' ∧ st.i ≤ i ∧ i ≤ s.size ∧ s.size < i + k ∧ Hid (lineE s k i = lineE s n st.i))
  case atStart => exact ⟨st.i, h, Kp.refl _ _, Nat.le_refl _, hi, hn, rfl⟩
  case round =>
    obtain ⟨i, hR, hK, hsi, hci, hck, HE⟩ := hrel
    have r0 := hR.c0
    have r1 := hR.c1
    have rf := hR.fz
    obtain ⟨k, rfl⟩ : ∃ k, gk = k + 1 := ⟨gk - 1, by omega⟩
    clear h1 h0
    by_cases hl : i < s.size
    · have hE := HE.out
      rw [lineE, dif_pos hl] at hE
      have hd : decide ((i : Int) < s.size) = true := by simp; omega
      by_cases hx : (s[i].toNat : Int) = 10
      · rw [if_pos hx] at hE
        have HE2 := hide hE
        clear hE HE
        go_wp2_with fail
        go_quiet (fail)
        go_wp2_with fail
        go_quiet (fail)
        go_wp2_with fail
        go_ret
        rw [← HE2.out]
        exact ⟨rfl, (hR.drewN _).drewN _, (hK.drewN _).drewN _⟩
      · rw [if_neg hx] at hE
        have HE2 := hide hE
        clear hE HE
        go_wp2_with fail
        go_quiet (fail)
        go_wp2_with fail
        go_roundg k
        case measure => omega
        case rel => exact ⟨i + 1, (hR.drewN _).set1 _ _ rfl, (hK.drewN _).set _ _, by omega, by omega, by omega, HE2.out⟩
    · have hE := HE.out
      rw [lineE, dif_neg hl] at hE
      have HE2 := hide hE
      have hd : decide ((i : Int) < s.size) = false := by simp; omega
      clear hE HE
      go_wp2_with fail
      go_quiet (fail)
      go_wp2_with fail
      go_quiet (fail)
      go_wp2_with fail
      go_ret
      rw [← HE2.out]
      exact ⟨rfl, (hR.drewN _).drewN _, (hK.drewN _).drewN _⟩

def lettersL : List UInt8 := [97, 98, 99, 100, 101, 102, 103, 104, 105, 106, 107, 108, 109, 110, 111, 112, 113, 114, 115, 116, 117, 118, 119, 120, 121, 122]
def digitsL : List UInt8 := [48, 49, 50, 51, 52, 53, 54, 55, 56, 57]
def digits1L : List UInt8 := [49, 50, 51, 52, 53, 54, 55, 56, 57]

theorem among_letters (b : Nat) (s : ByteArray) {x : Bool} {st : St} {w : World} (hx : amongB s st lettersL = x) (h : RD w b s st) (hs : s.size ≤ 1048576) :
    Calls Tryz.prog 45 #[.pointer (some ⟨b, 0, none⟩), .string ⟨#[97, 98, 99, 100, 101, 102, 103, 104, 105, 106, 107, 108, 109, 110, 111, 112, 113, 114, 115, 116, 117, 118, 119, 120, 121, 122]⟩] w fun e w' => e = .returned (.bool x) ∧ ∃ n, w' = w.drewN n := by
  subst hx; exact among_any b s ⟨#[97, 98, 99, 100, 101, 102, 103, 104, 105, 106, 107, 108, 109, 110, 111, 112, 113, 114, 115, 116, 117, 118, 119, 120, 121, 122]⟩ st w h hs (by decide)
theorem among_digits (b : Nat) (s : ByteArray) {x : Bool} {st : St} {w : World} (hx : amongB s st digitsL = x) (h : RD w b s st) (hs : s.size ≤ 1048576) :
    Calls Tryz.prog 45 #[.pointer (some ⟨b, 0, none⟩), .string ⟨#[48, 49, 50, 51, 52, 53, 54, 55, 56, 57]⟩] w fun e w' => e = .returned (.bool x) ∧ ∃ n, w' = w.drewN n := by
  subst hx; exact among_any b s ⟨#[48, 49, 50, 51, 52, 53, 54, 55, 56, 57]⟩ st w h hs (by decide)
theorem among_digits1 (b : Nat) (s : ByteArray) {x : Bool} {st : St} {w : World} (hx : amongB s st digits1L = x) (h : RD w b s st) (hs : s.size ≤ 1048576) :
    Calls Tryz.prog 45 #[.pointer (some ⟨b, 0, none⟩), .string ⟨#[49, 50, 51, 52, 53, 54, 55, 56, 57]⟩] w fun e w' => e = .returned (.bool x) ∧ ∃ n, w' = w.drewN n := by
  subst hx; exact among_any b s ⟨#[49, 50, 51, 52, 53, 54, 55, 56, 57]⟩ st w h hs (by decide)

/-- Letters, at most so many. -/
def wordL (s : ByteArray) : Nat → St → St
  | 0, st => st
  | n + 1, st => if amongB s st lettersL then wordL s n (adv st) else st
def wordS (s : ByteArray) (st : St) : ByteArray × St :=
  if (wordL s 8 st).i = st.i then (⟨#[]⟩, spoil st) else (s.extract st.i (wordL s 8 st).i, wordL s 8 st)

theorem amongB_lt {s : ByteArray} {st : St} {l : List UInt8} (h : amongB s st l = true) : st.i < s.size := by
  simp only [amongB, Bool.and_eq_true] at h; exact peekOk_lt h.1
theorem wordL_le (s : ByteArray) : ∀ n st, st.i ≤ s.size → st.i ≤ (wordL s n st).i ∧ (wordL s n st).i ≤ s.size ∧ (wordL s n st).bad = st.bad ∧ (wordL s n st).g = st.g
  | 0, st, h => ⟨Nat.le_refl _, h, rfl, rfl⟩
  | n + 1, st, h => by
    rw [wordL]
    split
    · next hc =>
      have := amongB_lt hc
      have h2 := wordL_le s n (adv st) (by simp [adv]; omega)
      simp only [adv] at h2 ⊢
      exact ⟨by omega, h2.2.1, h2.2.2⟩
    · exact ⟨Nat.le_refl _, h, rfl, rfl⟩

set_option maxHeartbeats 800000 in
theorem word_any (b : Nat) (s : ByteArray) (st : St) (w : World) (h : RD w b s st) (hs : s.size ≤ 1048576) (hi : st.i ≤ s.size) :
    Calls Tryz.prog 48 #[.pointer (some ⟨b, 0, none⟩)] w fun e w' => e = .returned (.string (wordS s st).1) ∧ RD w' b s (wordS s st).2 ∧ Kp b w w' := by
  have h1 := h.c1
  go_enter Tryz.func48, Tryz.ntmps48
  go_wp2_with fail
  go_loopg [4] 8 (fun k kv w' => ∃ (j : Nat) (cur : St), kv = .int .i64 j ∧ j + k = 8 ∧ RD w' b s cur ∧ Kp b w w' ∧ st.i ≤ cur.i ∧ cur.i ≤ s.size ∧ Hid (wordL s k cur = wordL s 8 st))
  case atStart => exact ⟨0, st, rfl, rfl, h, Kp.refl _ _, Nat.le_refl _, hi, rfl⟩
  case round =>
    obtain ⟨j, cur, rfl, hjk, hR, hK, hsi, hci, HE⟩ := hrel
    have r0 := hR.c0
    have r1 := hR.c1
    have rf := hR.fz
    clear h1
    have fin : ∀ w2 : World, RD w2 b s cur → Kp b w w2 → wordL s 8 st = cur → Hid (RD w2 b s cur ∧ Kp b w w2 ∧ wordL s 8 st = cur) := fun w2 a b c => ⟨a, b, c⟩
    by_cases hgo : 0 < gk ∧ amongB s cur lettersL = true
    · obtain ⟨hk, hx⟩ := hgo
      obtain ⟨k, rfl⟩ : ∃ k, gk = k + 1 := ⟨gk - 1, by omega⟩
      have hlt := amongB_lt hx
      have hE := HE.out
      rw [wordL, if_pos hx] at hE
      have HE2 := hide hE
      have hj : (j : Int) < 8 := by omega
      clear hE HE fin
      go_wp2_with (go_at_call 45; refine (among_letters b s hx hR hs).mono ?_; rintro e w1 ⟨rfl, n1, rfl⟩)
      go_roundg k
      case measure => omega
      case rel => exact ⟨j + 1, adv cur, by go_num, by omega, (hR.drewN n1).adv rfl, (hK.drewN n1).set _ _, by simp [adv]; omega, by simp [adv]; omega, HE2.out⟩
    · have hE : wordL s 8 st = cur := by
        rw [← HE.out]
        cases hk : gk with
        | zero => rfl
        | succ k =>
          rw [wordL, if_neg]
          intro h
          exact hgo ⟨by omega, h⟩
      have key : ((j : Int) < 8 ∧ amongB s cur lettersL = false) ∨ ¬ (j : Int) < 8 := by
        by_cases h0 : 0 < gk
        · left
          refine ⟨by omega, ?_⟩
          cases hx : amongB s cur lettersL
          · rfl
          · exact absurd ⟨h0, hx⟩ hgo
        · right; omega
      have HF := hide hE
      clear hE HE fin hgo
      go_upto_region 3 with fail
      go_cut [14] (fun bv wc => bv = .bool false ∧ ∃ n1, wc = wr.drewN n1)
      case first =>
        rcases key with ⟨h1, h2⟩ | h1
        · go_wp2_with (go_at_call 45; refine (among_letters b s h2 hR hs).mono ?_; rintro e w1 ⟨rfl, n1, rfl⟩)
          go_meet
          case rel => exact ⟨rfl, n1, rfl⟩
        · go_wp2_with fail
          go_meet
          case rel => exact ⟨rfl, 0, rfl⟩
      case rest =>
        obtain ⟨rfl, n1, rfl⟩ := hcut
        clear key
        by_cases he : cur.i = st.i
        · have hd : (cur.i : Int) = st.i := by omega
          have r2 := hR.c2
          go_wp2_with fail
          go_ret
          have e2 : wordS s st = (⟨#[]⟩, spoil st) := by unfold wordS; rw [HF.out, if_pos he]
          rw [e2]
          refine ⟨rfl, ?_, (hK.drewN n1).set _ _⟩
          have h9 := wordL_le s 8 st hi
          rw [HF.out] at h9
          have e3 : cur = st := by
            obtain ⟨i1, b1, g1⟩ := cur
            obtain ⟨i2, b2, g2⟩ := st
            simp only at h9 he
            rw [he, h9.2.2.1, h9.2.2.2]
          rw [← e3]
          exact (hR.drewN n1).spoil
        · have hd : ¬ (cur.i : Int) = st.i := by omega
          have hle : (st.i : Int) ≤ cur.i := by omega
          go_wp2_with fail
          go_quiet (fail)
          go_wp2_with fail
          go_ret
          have e2 : wordS s st = (s.extract st.i cur.i, cur) := by unfold wordS; rw [HF.out, if_neg he]
          rw [e2]
          exact ⟨rfl, (hR.drewN n1).drewN _, (hK.drewN n1).drewN _⟩

/-- A blank and a word. -/
def spacedS (s : ByteArray) (st : St) : ByteArray × St := if (eatS s 32 st).bad = true then (⟨#[]⟩, eatS s 32 st) else wordS s (eatS s 32 st)

set_option maxHeartbeats 800000 in
theorem spaced_any (b : Nat) (s : ByteArray) (st : St) (w : World) (h : RD w b s st) (hs : s.size ≤ 1048576) (hi : st.i ≤ s.size) :
    Calls Tryz.prog 49 #[.pointer (some ⟨b, 0, none⟩)] w fun e w' => e = .returned (.string (spacedS s st).1) ∧ RD w' b s (spacedS s st).2 ∧ Kp b w w' := by
  go_enter Tryz.func49, Tryz.ntmps49
  go_wp2_with fail
  refine (eat_any b s st 32 w h hs).mono ?_
  rintro e w1 ⟨rfl, hR, hK⟩
  have r2 := hR.c2
  cases hb : (eatS s 32 st).bad
  · have HB := hide hb
    rw [hb] at r2
    clear hb
    go_wp2_with fail
    refine (word_any b s _ w1 hR hs (eat_le s 32 st hi)).mono ?_
    rintro e w2 ⟨rfl, hR2, hK2⟩
    go_wp2_with fail
    go_ret
    have e2 : spacedS s st = wordS s (eatS s 32 st) := by unfold spacedS; rw [HB.out]; rfl
    rw [e2]
    exact ⟨rfl, hR2, hK.trans hK2⟩
  · have HB := hide hb
    rw [hb] at r2
    clear hb
    go_wp2_with fail
    go_ret
    have e2 : spacedS s st = (⟨#[]⟩, eatS s 32 st) := by unfold spacedS; rw [HB.out]; rfl
    rw [e2]
    exact ⟨rfl, hR, hK⟩
end Go.Proofs.YtpnecblofjpgfaaGreat
