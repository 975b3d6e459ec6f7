import Derived.Test.YtpnecblofjpgfaaGreatProQ
import Derived.Test.YtpnecblofjpgfaaGreatScrJ
namespace Go.Proofs.YtpnecblofjpgfaaGreat
open Go.RowKit

theorem res_tmp3 {fn : Func} {a b c : Tmp} (h : fn.results = #[.tmp a, .tmp b, .tmp c]) (tmps : Array Value) (P : Program) (w : World) :
    (results fn tmps).run P w = .ok (.tuple #[tmps.getD a undef, tmps.getD b undef, tmps.getD c undef]) w := by
  simp [results, h]

/-- The block of a scriptReader. -/
def SR (w : World) (b : Nat) (s : ByteArray) (at_ : Nat) (en : Int) (cv ov : Value) : Prop := Blk w b #[.string s, .int .i64 at_, .int .i64 en, cv, ov] 78

section
variable {w w' : World} {b : Nat} {s : ByteArray} {at_ : Nat} {en : Int} {cv ov : Value}
theorem SR.rd (h : SR w b s at_ en cv ov) : RdC w b s at_ en := ⟨h.cell 0 rfl, h.cell 1 rfl, h.cell 2 rfl, h.fz 1⟩
theorem SR.c0 (h : SR w b s at_ en cv ov) : w.cell? ⟨b, 0, none⟩ = some (.string s) := h.cell 0 rfl
theorem SR.c1 (h : SR w b s at_ en cv ov) : w.cell? ⟨b, 1, none⟩ = some (.int .i64 at_) := h.cell 1 rfl
theorem SR.c2 (h : SR w b s at_ en cv ov) : w.cell? ⟨b, 2, none⟩ = some (.int .i64 en) := h.cell 2 rfl
theorem SR.c3 (h : SR w b s at_ en cv ov) : w.cell? ⟨b, 3, none⟩ = some cv := h.cell 3 rfl
theorem SR.c4 (h : SR w b s at_ en cv ov) : w.cell? ⟨b, 4, none⟩ = some ov := h.cell 4 rfl
theorem SR.fz (h : SR w b s at_ en cv ov) (o : Nat) : w.frozen? ⟨b, o, none⟩ = false := Blk.fz h o
theorem SR.drewN (h : SR w b s at_ en cv ov) (n : Nat) : SR (w.drewN n) b s at_ en cv ov := h
theorem SR.drew (h : SR w b s at_ en cv ov) : SR w.drew b s at_ en cv ov := h
theorem SR.moved {dst : Nat} (h : SR w b s at_ en cv ov) (hm : Moved w b dst w') : SR w' b s dst en cv ov := by
  obtain ⟨n, m, rfl⟩ := hm
  exact (Blk.set (w := w.drewN n) h 1 (.int .i64 (dst : Int)) rfl).drewN m
theorem SR.below (h : SR w b s at_ en cv ov) (hb : Below w.heap.size w w') : SR w' b s at_ en cv ov := Blk.below h hb
theorem SR.alloc (h : SR w b s at_ en cv ov) (o : Obj) : SR (w.alloc o) b s at_ en cv ov := Blk.alloc h o
theorem SR.other (h : SR w b s at_ en cv ov) {p : Addr} (hp : p.block ≠ b) (u : Value) : SR (w.setCell p u) b s at_ en cv ov := Blk.other h hp u
theorem SR.lt (h : SR w b s at_ en cv ov) : b < w.heap.size := Blk.lt h
theorem SR.set1 (h : SR w b s at_ en cv ov) (i : Int) (j : Nat) (e : i = j) : SR (w.setCell ⟨b, 1, none⟩ (.int .i64 i)) b s j en cv ov := by
  subst e; exact Blk.set h 1 _ rfl
end

theorem Same.sr {w w' : World} {b : Nat} {s : ByteArray} {at_ : Nat} {en : Int} {cv ov : Value} (h : Same w w') (hR : SR w b s at_ en cv ov) : SR w' b s at_ en cv ov := by obtain ⟨n, rfl⟩ := h; exact hR

/-- It returns with the state that the document has, or gives up where the document's is bad. -/
def TookS (w : World) (b : Nat) (s : ByteArray) (en : Int) (cv ov : Value) (st : St) (good : Ending → World → Prop) (e : Ending) (w' : World) : Prop :=
  Kp b w w' ∧ ((st.bad = false ∧ good e w' ∧ SR w' b s st.i en cv ov) ∨ (st.bad = true ∧ e = .panicked (gaveUp en st.i)))

def oneOfS (s : ByteArray) (l : List UInt8) (st : St) : St := if amongB s st l then adv st else spoil st
def otherS (s : ByteArray) (l : List UInt8) (st : St) : St := if peekOk s st = false ∨ hasL l (peekC s st) = true then spoil st else adv st

theorem oneOf_eat (s : ByteArray) (c : UInt8) (ci : Int) (hc : (c.toNat : Int) = ci) (st : St) : oneOfS s [c] st = eatS s ci st := by
  unfold oneOfS eatS amongB isB hasL
  subst hc
  simp only [List.any_cons, List.any_nil, Bool.or_false]
  rw [show (((c.toNat : Int)) == peekC s st) = (peekC s st == (c.toNat : Int)) from by rw [Bool.eq_iff_iff]; simp; exact eq_comm]
  rfl

section
variable {w : World} {b : Nat} {s : ByteArray} {st : St} {en : Int} {cv ov : Value}

theorem nextOf_st (hb : st.bad = false) (l : ByteArray) : nextOf s st.i l = amongB s st l.data.toList := by
  obtain ⟨i, bd, g⟩ := st
  dsimp only at hb
  subst hb
  exact nextOf_peek s i g l
theorem nextW_st (hb : st.bad = false) (c : UInt8) : nextW s st.i ⟨#[c]⟩ = isB s st (c.toNat : Int) := by
  obtain ⟨i, bd, g⟩ := st
  dsimp only at hb
  subst hb
  exact nextW_one s i g c

theorem sIsNext (c : UInt8) (ci : Int) (hc : (c.toNat : Int) = ci) {x : Bool} (hx : isB s st ci = x) (h : SR w b s st.i en cv ov) (hb : st.bad = false) (hs : s.size ≤ 1048576) (ha : st.i ≤ s.size) :
    Calls Tryz.prog 39 #[.pointer (some ⟨b, 0, none⟩), .string ⟨#[c]⟩] w fun e w' => e = .returned (.bool x) ∧ Same w w' := by
  subst hc
  exact isNext_of ((nextW_st hb c).trans hx) h.rd hs ha (by show 1 ≤ _; omega)

theorem sTakeIf (c : UInt8) (ci : Int) (hc : (c.toNat : Int) = ci) {x : Bool} (hx : isB s st ci = x) (h : SR w b s st.i en cv ov) (hb : st.bad = false) (hs : s.size ≤ 1048576) (ha : st.i ≤ s.size) :
    Calls Tryz.prog 53 #[.pointer (some ⟨b, 0, none⟩), .string ⟨#[c]⟩] w fun e w' => e = .returned (.bool x) ∧ SR w' b s (advIf s ci st).i en cv ov ∧ Kp b w w' := by
  subst hc
  have hn := (nextW_st (s := s) hb c).trans hx
  have e1 : advIf s (c.toNat : Int) st = if x then adv st else st := by unfold advIf; rw [hx]
  rw [e1]
  cases x
  · refine (takeIf_no b s st.i en ⟨#[c]⟩ w h.rd hs ha (by show 1 ≤ _; omega) hn).mono ?_
    rintro e w' ⟨rfl, n, rfl⟩
    exact ⟨rfl, h.drewN n, (Kp.refl b w).drewN n⟩
  · refine (takeIf_one b s st.i en c w h.rd hs ha hn).mono ?_
    rintro e w' ⟨rfl, hm⟩
    exact ⟨rfl, h.moved hm, hm.kp⟩

theorem sIsNextOf (l : ByteArray) {x : Bool} (hx : amongB s st l.data.toList = x) (h : SR w b s st.i en cv ov) (hb : st.bad = false) (hs : s.size ≤ 1048576) :
    Calls Tryz.prog 64 #[.pointer (some ⟨b, 0, none⟩), .string l] w fun e w' => e = .returned (.bool x) ∧ Same w w' :=
  isNextOf_of ((nextOf_st hb l).trans hx) h.rd hs

theorem peekC_at (hb : st.bad = false) (hl : st.i < s.size) : peekC s st = ((s[st.i]'hl).toNat : Int) := by simp [peekC, hb, hl]

theorem sTake (h : SR w b s st.i en cv ov) (hb : st.bad = false) (hs : s.size ≤ 1048576) (hp : peekOk s st = true) :
    Calls Tryz.prog 58 #[.pointer (some ⟨b, 0, none⟩)] w fun e w' => e = .returned (.int .u8 (peekC s st)) ∧ SR w' b s (st.i + 1) en cv ov ∧ Kp b w w' := by
  have hl := peekOk_lt hp
  refine (take_ok b s st.i en w h.rd hs hl).mono ?_
  rintro e w' ⟨rfl, hm⟩
  exact ⟨by rw [peekC_at hb hl], h.moved hm, hm.kp⟩

theorem sTakeOneOf (l : ByteArray) (h : SR w b s st.i en cv ov) (hb : st.bad = false) (hs : s.size ≤ 1048576) (ha : st.i ≤ s.size) :
    Calls Tryz.prog 41 #[.pointer (some ⟨b, 0, none⟩), .string l] w fun e w' => TookS w b s en cv ov (oneOfS s l.data.toList st) (fun e _ => e = .returned (.int .u8 (peekC s st)) ∧ amongB s st l.data.toList = true) e w' := by
  have hn := nextOf_st (s := s) hb l
  by_cases hl : st.i < s.size
  · cases hx : amongB s st l.data.toList
    · refine (takeOneOf_bad b s st.i en l w h.rd hs hl (hn.trans hx)).mono ?_
      rintro e w' ⟨rfl, hk⟩
      refine ⟨hk, .inr ?_⟩
      unfold oneOfS; rw [hx]
      exact ⟨rfl, rfl⟩
    · refine (takeOneOf_ok b s st.i en l w h.rd hs hl (hn.trans hx)).mono ?_
      rintro e w' ⟨rfl, hm⟩
      refine ⟨hm.kp, .inl ?_⟩
      unfold oneOfS; rw [hx]
      exact ⟨hb, ⟨by rw [peekC_at hb hl], rfl⟩, h.moved hm⟩
  · have he : st.i = s.size := by omega
    have hx : amongB s st l.data.toList = false := by simp [amongB, peekOk, hl]
    rw [he] at h
    refine (takeOneOf_end b s en l w h.rd).mono ?_
    rintro e w' ⟨rfl, n, rfl⟩
    refine ⟨(Kp.refl b w).drewN n, .inr ?_⟩
    unfold oneOfS; rw [hx]
    exact ⟨rfl, by show _ = Ending.panicked (gaveUp en st.i); rw [he]⟩

theorem sTakeOther (l : ByteArray) (h : SR w b s st.i en cv ov) (hb : st.bad = false) (hs : s.size ≤ 1048576) (ha : st.i ≤ s.size) :
    Calls Tryz.prog 79 #[.pointer (some ⟨b, 0, none⟩), .string l] w fun e w' => TookS w b s en cv ov (otherS s l.data.toList st) (fun e _ => e = .returned (.int .u8 (peekC s st)) ∧ peekOk s st = true ∧ hasL l.data.toList (peekC s st) = false) e w' := by
  have hn := nextOf_st (s := s) hb l
  by_cases hl : st.i < s.size
  · have hp : peekOk s st = true := by simp [peekOk, hb, hl]
    cases hx : hasL l.data.toList (peekC s st)
    · refine (takeOther_ok b s st.i en l w h.rd hs hl (hn.trans (by simp [amongB, hx]))).mono ?_
      rintro e w' ⟨rfl, hm⟩
      refine ⟨hm.kp, .inl ?_⟩
      unfold otherS; rw [hx, hp, if_neg (by simp)]
      exact ⟨hb, ⟨by rw [peekC_at hb hl], rfl, rfl⟩, h.moved hm⟩
    · refine (takeOther_bad b s st.i en l w h.rd hs (hn.trans (by simp [amongB, hx, hp]))).mono ?_
      rintro e w' ⟨rfl, n, rfl⟩
      refine ⟨(Kp.refl b w).drewN n, .inr ?_⟩
      unfold otherS; rw [hx, if_pos (.inr rfl)]
      exact ⟨rfl, rfl⟩
  · have he : st.i = s.size := by omega
    have hp : peekOk s st = false := by simp [peekOk, hl]
    rw [he] at h
    refine (takeOther_end b s en l w h.rd hs).mono ?_
    rintro e w' ⟨rfl, n, rfl⟩
    refine ⟨(Kp.refl b w).drewN n, .inr ?_⟩
    unfold otherS; rw [if_pos (.inl hp)]
    exact ⟨rfl, by show _ = Ending.panicked (gaveUp en st.i); rw [he]⟩
end
end Go.Proofs.YtpnecblofjpgfaaGreat

namespace Go.Proofs.YtpnecblofjpgfaaGreat
open Go.RowKit

theorem blanks_b (s : ByteArray) : ∀ (n : Nat) (st : St), (blanksS s n st).bad = st.bad
  | 0, _ => rfl
  | n + 1, st => by
    rw [blanksS]
    split
    · exact blanks_b s n _
    · rfl

set_option maxHeartbeats 800000 in
theorem pblanks_any (n b : Nat) (s : ByteArray) (st : St) (en : Int) (cv ov : Value) (w : World) (h : SR w b s st.i en cv ov) (hb : st.bad = false) (hs : s.size ≤ 1048576) (hi : st.i ≤ s.size) (hn : s.size < st.i + n) :
    Calls Tryz.prog 38 #[.pointer (some ⟨b, 0, none⟩)] w fun e w' => e = .returned (.tuple #[]) ∧ SR w' b s (blanksS s n st).i en cv ov ∧ Kp b w w' := by
  go_enter Tryz.func38, Tryz.ntmps38
  go_wp2_with fail
  go_loopg [] n (fun k w' => ∃ cur : St, SR w' b s cur.i en cv ov ∧ cur.bad = false ∧ Kp b w w' ∧ cur.i ≤ s.size ∧ s.size < cur.i + k ∧ Hid (blanksS s k cur = blanksS s n st))
  case atStart => exact ⟨st, h, hb, Kp.refl _ _, hi, hn, rfl⟩
  case round =>
    obtain ⟨cur, hR, hcb, hK, hci, hck, HE⟩ := hrel
    cases hx : isB s cur 32
    · have HX := hide hx
      have e1 : advIf s 32 cur = cur := by unfold advIf; rw [hx]; rfl
      have E1 := hide e1
      clear e1
      go_wp2_with (go_at_call 53; refine (sTakeIf 32 32 rfl hx hR hcb hs hci).mono ?_; rintro e w1 ⟨rfl, hR1, hK1⟩)
      go_end0
      refine ⟨rfl, ?_, hK.trans hK1⟩
      have := HE.out
      rw [← this]
      rw [E1.out] at hR1
      cases hk : gk with
      | zero => rw [hk] at hck; omega
      | succ k => rw [blanksS, HX.out]; exact hR1
    · have HX := hide hx
      have e1 : advIf s 32 cur = adv cur := by unfold advIf; rw [hx]; rfl
      have E1 := hide e1
      clear e1
      have hlt := peekOk_lt (isB_ok hx)
      go_wp2_with (go_at_call 53; refine (sTakeIf 32 32 rfl hx hR hcb hs hci).mono ?_; rintro e w1 ⟨rfl, hR1, hK1⟩)
      go_roundg (gk - 1)
      case measure => omega
      case rel =>
        obtain ⟨k, rfl⟩ : ∃ k, gk = k + 1 := ⟨gk - 1, by omega⟩
        rw [E1.out] at hR1
        refine ⟨adv cur, hR1, hcb, hK.trans hK1, by simp [adv]; omega, by simp [adv]; omega, ?_⟩
        have := HE.out
        rw [blanksS, HX.out] at this
        exact this

def lettersB : ByteArray := ⟨#[97, 98, 99, 100, 101, 102, 103, 104, 105, 106, 107, 108, 109, 110, 111, 112, 113, 114, 115, 116, 117, 118, 119, 120, 121, 122]⟩

theorem oneOf_yes {s : ByteArray} {l : List UInt8} {st : St} (h : amongB s st l = true) : oneOfS s l st = adv st := by unfold oneOfS; rw [h]; rfl
theorem oneOf_no {s : ByteArray} {l : List UInt8} {st : St} (h : amongB s st l = false) : oneOfS s l st = spoil st := by unfold oneOfS; rw [h]; rfl

theorem wordS_ways (s : ByteArray) (st : St) : (amongB s st lettersL = true ∧ wordS s st = (s.extract st.i (wordL s 7 (adv st)).i, wordL s 7 (adv st))) ∨ (amongB s st lettersL = false ∧ wordS s st = (⟨#[]⟩, spoil st)) := by
  cases hx : amongB s st lettersL
  · right
    have e : wordL s 8 st = st := by rw [wordL, if_neg (by rw [hx]; simp)]
    unfold wordS
    rw [e, if_pos rfl]
    exact ⟨rfl, rfl⟩
  · left
    have e : wordL s 8 st = wordL s 7 (adv st) := by rw [wordL, if_pos hx]
    have hl := amongB_lt hx
    have := wordL_le s 7 (adv st) (by simp [adv]; omega)
    unfold wordS
    have e9 : (adv st).i = st.i + 1 := rfl
    rw [e, if_neg (by omega)]
    exact ⟨rfl, rfl⟩

set_option maxHeartbeats 800000 in
theorem pword_any (b : Nat) (s : ByteArray) (st : St) (en : Int) (cv ov : Value) (w : World) (h : SR w b s st.i en cv ov) (hb : st.bad = false) (hs : s.size ≤ 1048576) (hi : st.i ≤ s.size) :
    Calls Tryz.prog 68 #[.pointer (some ⟨b, 0, none⟩)] w fun e w' => TookS w b s en cv ov (wordS s st).2 (fun e _ => e = .returned (.string (wordS s st).1)) e w' := by
  have c1 := h.c1
  have hw := wordS_ways s st
  go_enter Tryz.func68, Tryz.ntmps68
  go_wp2_with fail
  refine (sTakeOneOf lettersB h hb hs hi).mono ?_
  rintro e w1 ⟨hK1, hT⟩
  rcases hT with ⟨-, ⟨rfl, hx⟩, hR1⟩ | ⟨hbd, rfl⟩
  · rw [oneOf_yes hx] at hR1
    rcases hw with ⟨-, hw⟩ | ⟨hw, -⟩
    · have HW := hide hw
      have hl := amongB_lt hx
      have hlen := wordL_le s 7 (adv st) (by simp [adv]; omega)
      have HL := hide hlen
      clear hw hx c1 hlen
      go_wp2_with fail
      go_loopg [] 7 (fun k w' => ∃ cur : St, SR w' b s cur.i en cv ov ∧ cur.bad = false ∧ Kp b w w' ∧ cur.i ≤ s.size ∧ cur.i + k = st.i + 8 ∧ Hid (wordL s k cur = wordL s 7 (adv st)))
      case atStart => exact ⟨adv st, hR1, hb, hK1, by simp [adv]; omega, by simp [adv], rfl⟩
      case round =>
        obtain ⟨cur, hR, hcb, hK, hci, hck, HE⟩ := hrel
        have r0 := hR.c0
        have r1 := hR.c1
        by_cases hgo : 0 < gk ∧ amongB s cur lettersL = true
        · obtain ⟨hk, hx⟩ := hgo
          obtain ⟨k, rfl⟩ : ∃ k, gk = k + 1 := ⟨gk - 1, by omega⟩
          have hlt := amongB_lt hx
          have hpk : peekOk s cur = true := by simp [peekOk, hcb, hlt]
          have hE := HE.out
          rw [wordL, if_pos hx] at hE
          have HE2 := hide hE
          have HX := hide hx
          have hj : decide ((cur.i : Int) < (st.i : Int) + 8) = true := by simp; omega
          clear hE HE hx
          go_wp2_with (first | (go_at_call 64; refine (sIsNextOf lettersB HX.out hR hcb hs).mono ?_; rintro e w2 ⟨rfl, hw2⟩) | (go_at_call 58; refine (sTake (hw2.sr hR) hcb hs hpk).mono ?_; rintro e w3 ⟨rfl, hR3, hK3⟩))
          go_roundg k
          case measure => omega
          case rel => exact ⟨adv cur, hR3, hcb, (hw2.kp hK).trans hK3, by simp [adv]; omega, by simp [adv]; omega, HE2.out⟩
        · have hE : wordL s 7 (adv st) = cur := by
            rw [← HE.out]
            cases hk : gk with
            | zero => rfl
            | succ k =>
              rw [wordL, if_neg]
              intro h
              exact hgo ⟨by omega, h⟩
          have key : (decide ((cur.i : Int) < (st.i : Int) + 8) = true ∧ amongB s cur lettersL = false) ∨ decide ((cur.i : Int) < (st.i : Int) + 8) = false := by
            by_cases h0 : 0 < gk
            · left
              refine ⟨by simp; omega, ?_⟩
              cases hx : amongB s cur lettersL
              · rfl
              · exact absurd ⟨h0, hx⟩ hgo
            · right; simp; omega
          have HF := hide hE
          have hsc : st.i ≤ cur.i := by have := HL.out.1; rw [hE] at this; simp [adv] at this; omega
          have hle : (st.i : Int) ≤ cur.i := by omega
          clear hE HE hgo
          rcases key with ⟨h1, h2⟩ | h1
          · go_wp2_with (go_at_call 64; refine (sIsNextOf lettersB h2 hR hcb hs).mono ?_; rintro e w2 ⟨rfl, n2, rfl⟩)
            go_quiet (fail)
            go_wp2_with fail
            go_ret
            rw [HW.out, HF.out]
            exact ⟨(hK.drewN _).drewN _, .inl ⟨hcb, rfl, hR⟩⟩
          · go_wp2_with fail
            go_quiet (fail)
            go_wp2_with fail
            go_ret
            rw [HW.out, HF.out]
            exact ⟨hK.drewN _, .inl ⟨hcb, rfl, hR⟩⟩
    · exact absurd hx (by rw [show lettersB.data.toList = lettersL from rfl, hw]; simp)
  · rcases hw with ⟨hw, -⟩ | ⟨-, hw⟩
    · rw [oneOf_yes (show amongB s st lettersB.data.toList = true from hw)] at hbd
      exact absurd hbd (by show ¬ st.bad = true; rw [hb]; simp)
    · refine ⟨rfl, ?_⟩
      rw [hw]
      have hx : oneOfS s lettersB.data.toList st = spoil st := by
        unfold oneOfS at hbd ⊢
        split
        · next hc => rw [if_pos hc] at hbd; exact absurd hbd (by show ¬ st.bad = true; rw [hb]; simp)
        · rfl
      rw [hx]
      exact ⟨hK1, .inr ⟨rfl, rfl⟩⟩

set_option maxHeartbeats 800000 in
theorem pname_any (b : Nat) (s : ByteArray) (st : St) (en : Int) (cv ov : Value) (w : World) (h : SR w b s st.i en cv ov) (hb : st.bad = false) (hs : s.size ≤ 1048576) (hi : st.i ≤ s.size) :
    Calls Tryz.prog 71 #[.pointer (some ⟨b, 0, none⟩)] w fun e w' => TookS w b s en cv ov (spacedS s st).2 (fun e _ => e = .returned (.string (spacedS s st).1)) e w' := by
  have he := eat_le s 32 st hi
  go_enter Tryz.func71, Tryz.ntmps71
  go_wp2_with fail
  refine (sTakeOneOf ⟨#[32]⟩ h hb hs hi).mono ?_
  rintro e w1 ⟨hK1, hT⟩
  have e1 : oneOfS s (ByteArray.mk #[32]).data.toList st = eatS s 32 st := oneOf_eat s 32 32 rfl st
  rw [e1] at hT
  have HS : Hid (spacedS s st = if (eatS s 32 st).bad = true then (⟨#[]⟩, eatS s 32 st) else wordS s (eatS s 32 st)) := rfl
  generalize eatS s 32 st = q at *
  clear e1
  rcases hT with ⟨hbd, ⟨rfl, -⟩, hR1⟩ | ⟨hbd, rfl⟩
  · go_wp2_with fail
    refine (pword_any b s q en cv ov w1 hR1 hbd hs he).mono ?_
    rintro e w2 ⟨hK2, hT2⟩
    have e2 : spacedS s st = wordS s q := by rw [HS.out, hbd]; rfl
    rcases hT2 with ⟨hb2, rfl, hR2⟩ | ⟨hb2, rfl⟩
    · go_wp2_with fail
      go_ret
      rw [e2]
      exact ⟨hK1.trans hK2, .inl ⟨hb2, rfl, hR2⟩⟩
    · refine ⟨rfl, ?_⟩
      rw [e2]
      exact ⟨hK1.trans hK2, .inr ⟨hb2, rfl⟩⟩
  · refine ⟨rfl, ?_⟩
    have e2 : spacedS s st = (⟨#[]⟩, q) := by rw [HS.out, hbd]; rfl
    rw [e2]
    exact ⟨hK1, .inr ⟨hbd, rfl⟩⟩
end Go.Proofs.YtpnecblofjpgfaaGreat

namespace Go.Proofs.YtpnecblofjpgfaaGreat
open Go.RowKit

/-- Where the first newline of a text is, or the text's end. -/
theorem lineE_spec (s : ByteArray) : ∀ n i, i ≤ s.size → s.size < i + n → (∀ j (hj : j < s.size), i ≤ j → j < lineE s n i → (s[j].toNat : Int) ≠ 10) ∧ (∀ h : lineE s n i < s.size, (s[lineE s n i].toNat : Int) = 10)
  | 0, i, h, hn => by omega
  | n + 1, i, h, hn => by
    by_cases hi : i < s.size
    · by_cases hc : (s[i].toNat : Int) = 10
      · have e : lineE s (n + 1) i = i := by rw [lineE, dif_pos hi, if_pos hc]
        rw [e]
        exact ⟨fun j hj h1 h2 => by omega, fun _ => hc⟩
      · have e : lineE s (n + 1) i = lineE s n (i + 1) := by rw [lineE, dif_pos hi, if_neg hc]
        have ih := lineE_spec s n (i + 1) (by omega) (by omega)
        rw [e]
        refine ⟨fun j hj h1 h2 => ?_, ih.2⟩
        by_cases hji : j = i
        · subst hji; exact hc
        · exact ih.1 j hj (by omega) h2
    · have e : lineE s (n + 1) i = i := by rw [lineE, dif_neg hi]
      rw [e]
      exact ⟨fun j hj h1 h2 => by omega, fun h => absurd h hi⟩

theorem firstIdx_line (s : ByteArray) (i : Nat) (hi : i ≤ s.size) :
    firstIdx (s.extract i s.size) 10 = if lineE s (s.size + 1) i < s.size then ((lineE s (s.size + 1) i - i : Nat) : Int) else -1 := by
  obtain ⟨h1, h2⟩ := lineE_spec s (s.size + 1) i hi (by omega)
  have h3 := lineE_le s (s.size + 1) i hi
  generalize lineE s (s.size + 1) i = m at *
  have hz := size_tail s i
  have hg : ∀ k, k < s.size - i → ∃ h : i + k < s.size, (s.extract i s.size)[k]! = s[i + k] := fun k hk => by
    refine ⟨by omega, ?_⟩
    rw [getElem!_pos (s.extract i s.size) k (by omega), ByteArray.getElem_extract]
  have hten : ∀ x : UInt8, (x == 10) = decide ((x.toNat : Int) = 10) := fun x => by
    rw [Bool.eq_iff_iff]
    simp only [beq_iff_eq, decide_eq_true_eq]
    constructor
    · intro h; rw [h]; rfl
    · intro h; apply UInt8.toNat_inj.1; show x.toNat = 10; omega
  unfold firstIdx
  by_cases hm : m < s.size
  · have hf : (List.range (s.extract i s.size).size).find? (fun j => (s.extract i s.size)[j]! == 10) = some (m - i) := by
      rw [List.find?_range_eq_some]
      refine ⟨?_, ?_, ?_⟩
      · obtain ⟨_, e⟩ := hg (m - i) (by omega)
        rw [e, hten]
        have e2 : i + (m - i) = m := by omega
        simp only [e2]
        simpa using h2 hm
      · simp only [List.mem_range, hz]; omega
      · intro j hj
        obtain ⟨hh, e⟩ := hg j (by omega)
        rw [e, hten]
        simpa using h1 (i + j) hh (by omega) (by omega)
    rw [hf, if_pos hm]
  · have hf : (List.range (s.extract i s.size).size).find? (fun j => (s.extract i s.size)[j]! == 10) = none := by
      rw [List.find?_eq_none]
      intro j hj
      simp only [List.mem_range, hz] at hj
      obtain ⟨hh, e⟩ := hg j hj
      rw [e, hten]
      simpa using h1 (i + j) hh (by omega) (by omega)
    rw [hf, if_neg hm]

set_option maxRecDepth 100000 in
set_option maxHeartbeats 800000 in
theorem index1_any (t : ByteArray) (w : World) :
    Calls Tryz.prog 93 #[.string t, .string ⟨#[10]⟩] w fun e w' => e = .returned (.int .i64 (firstIdx t 10)) ∧ w' = w := by
  by_cases hx : ([10] == t.toList) = true
  · have hf : (0 : Int) = firstIdx t 10 := by
      have h1 : t.toList = [10] := by simp at hx; exact hx.symm
      rw [ByteArray.toList_eq] at h1
      have h2 : t = ⟨#[10]⟩ := by
        apply ByteArray.ext
        rw [← Array.toArray_toList (xs := t.data), h1]
      rw [h2]; rfl
    have HF := hide hf
    clear hf
    go_enter Tryz.func93, Tryz.ntmps93
    go_wp2_with fail
    go_ret
    exact ⟨ret_int HF.out, rfl⟩
  · replace hx : ([10] == t.toList) = false := by simpa using hx
    go_enter Tryz.func93, Tryz.ntmps93
    go_wp2_with (go_at_call 73; refine (indexByte1_any t 10 _).mono ?_; rintro e w1 ⟨rfl, rfl⟩)
    go_ret
    exact ⟨rfl, rfl⟩

set_option maxHeartbeats 800000 in
theorem cut1_found (t : ByteArray) (n : Nat) (w : World) (ht : t.size ≤ 1048576) (h1 : firstIdx t 10 = (n : Int)) (h2 : n < t.size) :
    Calls Tryz.prog 84 #[.string t, .string ⟨#[10]⟩] w fun e w' => e = .returned (.tuple #[.string (t.extract 0 n), .string (t.extract (n + 1) t.size), .bool true]) ∧ ∃ m, w' = w.drewN m := by
  have H1 := hide h1
  clear h1
  go_enter Tryz.func84, Tryz.ntmps84
  go_wp2_with fail
  refine (index1_any t _).mono ?_
  rintro e w1 ⟨rfl, rfl⟩
  rw [H1.out]
  go_wp2_with fail
  go_quiet (fail)
  go_wp2_with fail
  refine bodyPost_ret (res_tmp3 rfl _ _ _) rfl ?_
  exact ⟨rfl, _, rfl⟩
set_option maxHeartbeats 800000 in
theorem cut1_none (t : ByteArray) (w : World) (_ht : t.size ≤ 1048576) (h1 : firstIdx t 10 = -1) :
    Calls Tryz.prog 84 #[.string t, .string ⟨#[10]⟩] w fun e w' => e = .returned (.tuple #[.string t, .string ⟨#[]⟩, .bool false]) ∧ ∃ m, w' = w.drewN m := by
  have H1 := hide h1
  clear h1
  go_enter Tryz.func84, Tryz.ntmps84
  go_wp2_with fail
  refine (index1_any t _).mono ?_
  rintro e w1 ⟨rfl, rfl⟩
  rw [H1.out]
  go_wp2_with fail
  refine bodyPost_ret (res_tmp3 rfl _ _ _) rfl ?_
  exact ⟨rfl, 0, rfl⟩
set_option maxHeartbeats 800000 in
theorem cut2_of (t : ByteArray) (x y z : Value) (w : World) (h : ∀ w : World, Calls Tryz.prog 84 #[.string t, .string ⟨#[10]⟩] w fun e w' => e = .returned (.tuple #[x, y, z]) ∧ ∃ m, w' = w.drewN m) :
    Calls Tryz.prog 77 #[.string t, .string ⟨#[10]⟩] w fun e w' => e = .returned (.tuple #[x, y, z]) ∧ ∃ m, w' = w.drewN m := by
  have H := hide h
  clear h
  go_enter Tryz.func77, Tryz.ntmps77
  go_wp2_with fail
  refine (H.out _).mono ?_
  rintro e w1 ⟨rfl, h3⟩
  have H3 : Same w w1 := h3
  clear h3
  go_wp2_with fail
  refine bodyPost_ret (res_tmp3 rfl _ _ _) rfl ?_
  exact ⟨rfl, H3⟩

def textS (s : ByteArray) (st : St) : St := if (eatS s 32 st).bad = true then eatS s 32 st else { eatS s 32 st with i := lineE s (s.size + 1) (eatS s 32 st).i }

set_option maxRecDepth 100000 in
set_option maxHeartbeats 800000 in
theorem plineOfText_any (b : Nat) (s : ByteArray) (st : St) (en : Int) (cv ov : Value) (w : World) (h : SR w b s st.i en cv ov) (hb : st.bad = false) (hs : s.size ≤ 1048576) (hi : st.i ≤ s.size) :
    Calls Tryz.prog 69 #[.pointer (some ⟨b, 0, none⟩)] w fun e w' => TookS w b s en cv ov (textS s st) (fun e _ => ∃ t, e = .returned (.string t)) e w' := by
  have he := eat_le s 32 st hi
  go_enter Tryz.func69, Tryz.ntmps69
  go_wp2_with fail
  refine (sTakeOneOf ⟨#[32]⟩ h hb hs hi).mono ?_
  rintro e w1 ⟨hK1, hT⟩
  have e1 : oneOfS s (ByteArray.mk #[32]).data.toList st = eatS s 32 st := oneOf_eat s 32 32 rfl st
  rw [e1] at hT
  have HS : Hid (textS s st = if (eatS s 32 st).bad = true then eatS s 32 st else { eatS s 32 st with i := lineE s (s.size + 1) (eatS s 32 st).i }) := rfl
  generalize eatS s 32 st = q at *
  clear e1
  rcases hT with ⟨hbd, ⟨rfl, -⟩, hR1⟩ | ⟨hbd, rfl⟩
  · have c0 := hR1.c0
    have c1 := hR1.c1
    have cf := hR1.fz
    have e2 : textS s st = { q with i := lineE s (s.size + 1) q.i } := by rw [HS.out, if_neg (by rw [hbd]; simp)]
    have E2 := hide e2
    have hle := lineE_le s (s.size + 1) q.i he
    have hfl := firstIdx_line s q.i he
    have hz := size_tail s q.i
    have htz : (s.extract q.i s.size).size ≤ 1048576 := by omega
    have HZ := hide hz
    generalize hm : lineE s (s.size + 1) q.i = m at *
    clear e2 hm hz HS
    by_cases hmz : m < s.size
    · rw [if_pos hmz] at hfl
      have hsz : ((s.extract q.i s.size).extract 0 (m - q.i)).size = m - q.i := by rw [ByteArray.size_extract, HZ.out]; omega
      have HFL := hide hfl
      have HLT : Hid (m - q.i < (s.extract q.i s.size).size) := by show _ < _; rw [HZ.out]; omega
      have hsi : (q.i : Int) + ((m - q.i : Nat) : Int) = (m : Int) := by omega
      clear hfl
      go_wp2_with fail
      go_quiet ((go_at_call 77; exact Calls.quiet_of (cut2_of _ _ _ _ _ (fun w => cut1_found _ (m - q.i) w htz HFL.out HLT.out))))
      go_wp2_with fail
      go_ret
      rw [E2.out]
      exact ⟨(hK1.drewN _).set _ _, .inl ⟨hbd, ⟨_, rfl⟩, (hR1.drewN _).set1 _ m (by omega)⟩⟩
    · rw [if_neg hmz] at hfl
      have HFL := hide hfl
      have hzi : (q.i : Int) + ((s.size - q.i : Nat) : Int) = (m : Int) := by omega
      have hz := HZ.out
      clear hfl
      go_wp2_with fail
      go_quiet ((go_at_call 77; exact Calls.quiet_of (cut2_of _ _ _ _ _ (fun w => cut1_none _ w htz HFL.out))))
      go_wp2_with fail
      go_ret
      rw [E2.out]
      exact ⟨(hK1.drewN _).set _ _, .inl ⟨hbd, ⟨_, rfl⟩, (hR1.drewN _).set1 _ m (by omega)⟩⟩
  · refine ⟨rfl, ?_⟩
    have e2 : textS s st = q := by rw [HS.out, if_pos hbd]
    rw [e2]
    exact ⟨hK1, .inr ⟨hbd, rfl⟩⟩
end Go.Proofs.YtpnecblofjpgfaaGreat

namespace Go.Proofs.YtpnecblofjpgfaaGreat
open Go.RowKit

theorem digitS_yes {s : ByteArray} {st : St} (h : amongB s st digitsL = true) : digitS s 48 st = (peekC s st - 48, adv st) := by
  have h0 := peekC_lo s st
  have h1 := peekC_hi s st
  simp only [amongB, Bool.and_eq_true] at h
  have h2 : hasL digitsB.data.toList (peekC s st) = true := h.2
  rw [has_digits _ h0 h1] at h2
  simp only [Bool.and_eq_true, decide_eq_true_eq] at h2
  unfold digitS
  rw [if_pos ⟨h.1, h2.1, h2.2⟩]
  rfl
theorem among_digit {s : ByteArray} {st : St} (h : amongB s st digitsL = true) : 48 ≤ peekC s st ∧ peekC s st ≤ 57 := by
  have h0 := peekC_lo s st
  have h1 := peekC_hi s st
  simp only [amongB, Bool.and_eq_true] at h
  have h2 : hasL digitsB.data.toList (peekC s st) = true := h.2
  rw [has_digits _ h0 h1] at h2
  simpa using h2
theorem num_b (s : ByteArray) : ∀ (k : Nat) (a : Int) (st : St), st.bad = false → (numL s k a st).2.bad = false
  | 0, _, st, h => h
  | k + 1, a, st, h => by
    rw [numL]
    split
    · next hc => rw [digitS_yes hc]; exact num_b s k _ _ h
    · exact h

set_option maxRecDepth 100000 in
set_option maxHeartbeats 800000 in
theorem pnumber_any (b : Nat) (s : ByteArray) (st : St) (c : Int) (en : Int) (cv ov : Value) (w : World) (h : SR w b s st.i en cv ov) (hb : st.bad = false) (hs : s.size ≤ 1048576) (hi : st.i ≤ s.size) (hc0 : 48 ≤ c) (hc9 : c ≤ 57) :
    Calls Tryz.prog 76 #[.pointer (some ⟨b, 0, none⟩), .int .u8 c] w fun e w' => e = .returned (.int .i64 (numL s 3 (c - 48) st).1) ∧ SR w' b s (numL s 3 (c - 48) st).2.i en cv ov ∧ Kp b w w' := by
  have hw := u8_sub c hc0 hc9
  go_enter Tryz.func76, Tryz.ntmps76
  go_wp2_with fail
  go_loopg [5, 6] 3 (fun k vv kv w' => ∃ (j : Nat) (v : Int) (cur : St), vv = .int .i64 v ∧ kv = .int .i64 j ∧ j + k = 4 ∧ 1 ≤ j ∧ 0 ≤ v ∧ v < 10 ^ j ∧ SR w' b s cur.i en cv ov ∧ cur.bad = false ∧ Kp b w w' ∧ cur.i ≤ s.size ∧ Hid (numL s k v cur = numL s 3 (c - 48) st))
  case atStart => exact ⟨1, c - 48, st, rfl, rfl, rfl, by omega, by omega, by omega, h, hb, Kp.refl _ _, hi, rfl⟩
  case round =>
    obtain ⟨j, v, cur, rfl, rfl, hjk, hj1, hv0, hv1, hR, hcb, hK, hci, HE⟩ := hrel
    have hv2 : v ≤ 10000 := Int.le_trans (Int.le_of_lt hv1) (by
      have : j = 1 ∨ j = 2 ∨ j = 3 ∨ j = 4 := by omega
      rcases this with rfl | rfl | rfl | rfl <;> decide)
    have r0 := hR.c0
    have r1 := hR.c1
    by_cases hgo : 0 < gk ∧ amongB s cur digitsL = true
    · obtain ⟨hk, hx⟩ := hgo
      obtain ⟨k, rfl⟩ : ∃ k, gk = k + 1 := ⟨gk - 1, by omega⟩
      have hlt := amongB_lt hx
      have hpk : peekOk s cur = true := by simp [peekOk, hcb, hlt]
      have hE := HE.out
      rw [numL, if_pos hx, digitS_yes hx] at hE
      have HE2 := hide hE
      have HX := hide hx
      have hdg := among_digit hx
      obtain ⟨hd0, hd9⟩ := hdg
      have hwd := u8_sub _ hd0 hd9
      have hj : decide ((j : Int) < 4) = true := by simp; omega
      clear hE HE hx
      go_wp2_with (first | (go_at_call 64; refine (sIsNextOf digitsB HX.out hR hcb hs).mono ?_; rintro e w2 ⟨rfl, hw2⟩) | (go_at_call 58; refine (sTake (hw2.sr hR) hcb hs hpk).mono ?_; rintro e w3 ⟨rfl, hR3, hK3⟩))
      go_roundg k
      case measure => omega
      case rel =>
        refine ⟨j + 1, 10 * v + (peekC s cur - 48), adv cur, by go_num, by go_num, by omega, by omega, by omega, ?_, hR3, hcb, (hw2.kp hK).trans hK3, by simp [adv]; omega, HE2.out⟩
        have : j = 1 ∨ j = 2 ∨ j = 3 := by omega
        rcases this with rfl | rfl | rfl <;> simp at hv1 ⊢ <;> omega
    · have hE : numL s 3 (c - 48) st = (v, cur) := by
        rw [← HE.out]
        cases hk : gk with
        | zero => rfl
        | succ k =>
          rw [numL, if_neg]
          intro h
          exact hgo ⟨by omega, h⟩
      have key : (decide ((j : Int) < 4) = true ∧ amongB s cur digitsL = false) ∨ decide ((j : Int) < 4) = false := by
        by_cases h0 : 0 < gk
        · left
          refine ⟨by simp; omega, ?_⟩
          cases hx : amongB s cur digitsL
          · rfl
          · exact absurd ⟨h0, hx⟩ hgo
        · right; simp; omega
      have HF := hide hE
      clear hE HE hgo
      rcases key with ⟨h1, h2⟩ | h1
      · go_wp2_with (go_at_call 64; refine (sIsNextOf digitsB h2 hR hcb hs).mono ?_; rintro e w2 ⟨rfl, n2, rfl⟩)
        go_ret
        rw [HF.out]
        exact ⟨rfl, hR, hK.drewN _⟩
      · go_wp2_with fail
        go_ret
        rw [HF.out]
        exact ⟨rfl, hR, hK⟩

/-- A piece that is handed back out of its variable. -/
theorem ret_ppiece {w : World} {k : Nat} {a0 a1 : Value} {fn : Func} {p : Tmp} (hres : fn.results = #[.cell p 123]) {tmps : Array Value} (ht : tmps.getD p undef = .pointer (some ⟨k, 0, none⟩)) (h : Blk w k #[a0, a1] 123) :
    (results fn tmps).run Tryz.prog w = .ok (.agg #[a0, a1]) w := by
  have c0 : w.cell? ⟨k, 0, none⟩ = some a0 := h.cell 0 rfl
  have c1 : w.cell? ⟨k, 1, none⟩ = some a1 := h.cell 1 rfl
  have ht' : tmps[p]?.getD undef = .pointer (some ⟨k, 0, none⟩) := by simpa using ht
  simp [results, hres, ht', go_sem, c0, c1]

def pieceB : ByteArray := ⟨#[49, 50, 51, 52, 53, 54, 55, 56, 57, 110, 38, 92, 47]⟩
def escP (s : ByteArray) (g : Nat) (st : St) : St := if amongB s st pieceL = false ∨ (49 ≤ peekC s st ∧ peekC s st ≤ 57 ∧ (g : Int) < peekC s st - 48) then spoil st else adv st

theorem piece_digit (c : Int) (h0 : 0 ≤ c) (h1 : c < 256) (h : hasL pieceL c = true) (n1 : c ≠ 110) (n2 : c ≠ 38) (n3 : c ≠ 92) (n4 : c ≠ 47) : 49 ≤ c ∧ c ≤ 57 := by
  have key : ∀ k : Nat, k < 256 → (!hasL pieceL (k : Int) || ((k : Int) == 110) || ((k : Int) == 38) || ((k : Int) == 92) || ((k : Int) == 47) || (decide (49 ≤ (k : Int)) && decide ((k : Int) ≤ 57))) = true := by decide +kernel
  obtain ⟨k, rfl⟩ := Int.eq_ofNat_of_zero_le h0
  have := key k (by omega)
  rw [h] at this
  simp only [Bool.or_eq_true, Bool.and_eq_true, Bool.not_true, beq_iff_eq, decide_eq_true_eq] at this
  rcases this with ((((h | h) | h) | h) | h) | h
  · cases h
  all_goals omega

set_option maxRecDepth 100000 in
set_option maxHeartbeats 800000 in
theorem pescp_any (b g : Nat) (s : ByteArray) (st : St) (en : Int) (cv ov : Value) (w : World) (h : SR w b s st.i en cv ov) (hb : st.bad = false) (hs : s.size ≤ 1048576) (hi : st.i ≤ s.size) (_hg : g ≤ 9) :
    Calls Tryz.prog 85 #[.pointer (some ⟨b, 0, none⟩), .int .i64 g] w fun e w' => TookS w b s en cv ov (escP s g st) (fun e _ => ∃ t k, e = .returned (.agg #[.string t, .int .i64 k])) e w' := by
  have hbl := h.lt
  have h1 := h.alloc (.cells #[.string ⟨#[]⟩, .int .i64 0] 123)
  have k1 := (Kp.refl b w).alloc (.cells #[.string ⟨#[]⟩, .int .i64 0] 123)
  have B1 := Blk.new w #[.string ⟨#[]⟩, .int .i64 0] 123
  have p0 := peekC_lo s st
  have p1 := peekC_hi s st
  have HES : Hid (escP s g st = if amongB s st pieceL = false ∨ (49 ≤ peekC s st ∧ peekC s st ≤ 57 ∧ (g : Int) < peekC s st - 48) then spoil st else adv st) := rfl
  go_enter Tryz.func85, Tryz.ntmps85
  go_wp2_with fail
  refine (sTakeOneOf pieceB h1 hb hs hi).mono ?_
  rintro e w1 ⟨hK1, hT⟩
  have hne : w.heap.size ≠ b := by omega
  have B2 := B1.kp hK1 hne
  have K1 := k1.trans hK1
  clear h1 k1 B1 hK1 h
  rcases hT with ⟨-, ⟨rfl, hx⟩, hR1⟩ | ⟨hbd, rfl⟩
  · rw [oneOf_yes hx] at hR1
    replace hx : amongB s st pieceL = true := hx
    have hlt := amongB_lt hx
    have hhas : hasL pieceL (peekC s st) = true := by simp only [amongB, Bool.and_eq_true] at hx; exact hx.2
    have hpd := piece_digit (peekC s st) p0 p1 hhas
    rw [hx] at HES
    generalize peekC s st = c at *
    have HPD := hide hpd
    clear hpd hx hhas
    have q0 : w1.cell? ⟨w.heap.size, 0, none⟩ = some (.string ⟨#[]⟩) := B2.cell 0 rfl
    have q1 : w1.cell? ⟨w.heap.size, 1, none⟩ = some (.int .i64 0) := B2.cell 1 rfl
    have qf := B2.fz
    have c0 := hR1.c0
    have c1 : w1.cell? ⟨b, 1, none⟩ = some (.int .i64 ((st.i : Int) + 1)) := hR1.c1
    have hB3 : ∀ x y : Value, Blk ((w1.setCell ⟨w.heap.size, 0, none⟩ x).setCell ⟨w.heap.size, 1, none⟩ y) w.heap.size #[x, y] 123 := fun x y => (B2.set 0 x rfl).set 1 y rfl
    have hR3 : ∀ x y : Value, SR ((w1.setCell ⟨w.heap.size, 0, none⟩ x).setCell ⟨w.heap.size, 1, none⟩ y) b s (adv st).i en cv ov := fun x y => (hR1.other hne x).other hne y
    have hK3 : ∀ x y : Value, Kp b w ((w1.setCell ⟨w.heap.size, 0, none⟩ x).setCell ⟨w.heap.size, 1, none⟩ y) := fun x y => (K1.setNew (Nat.le_refl _) x).setNew (Nat.le_refl _) y
    have HK1 := hide K1
    have HB3 := hide (And.intro hB3 (And.intro hR3 hK3))
    clear hB3 hR3 hK3 B2 K1
    have hw1 : IntKind.i64.wrap ((st.i : Int) + 1 - 1) = (st.i : Int) := by rw [wrapE _ (by omega) (by omega)]; omega
    by_cases n1 : c = 110
    · subst n1
      have E := hide (show escP s g st = adv st by rw [HES.out, if_neg (fun h => h.elim (fun h => by cases h) (fun h => by omega))])
      go_wp2_with fail
      refine bodyPost_ret (ret_ppiece rfl rfl (HB3.out.1 _ _)) rfl ?_
      rw [E.out]
      exact ⟨HB3.out.2.2 _ _, .inl ⟨hb, ⟨_, _, rfl⟩, HB3.out.2.1 _ _⟩⟩
    · by_cases n2 : c = 38 ∨ c = 92 ∨ c = 47
      · have E := hide (show escP s g st = adv st by rw [HES.out, if_neg (fun h => h.elim (fun h => by cases h) (fun h => by omega))])
        clear HPD
        rcases n2 with rfl | rfl | rfl
        all_goals
          go_wp2_with fail
          go_region
          all_goals
            go_wp2_with fail
            refine bodyPost_ret (ret_ppiece rfl rfl ((HB3.out.1 _ _).drewN _)) rfl ?_
            rw [E.out]
            exact ⟨(HB3.out.2.2 _ _).drewN _, .inl ⟨hb, ⟨_, _, rfl⟩, (HB3.out.2.1 _ _).drewN _⟩⟩
      · have m2 : ¬ c = 38 := fun e => n2 (.inl e)
        have m3 : ¬ c = 92 := fun e => n2 (.inr (.inl e))
        have m4 : ¬ c = 47 := fun e => n2 (.inr (.inr e))
        obtain ⟨d0, d9⟩ := HPD.out n1 m2 m3 m4
        have hwc := u8_sub c (by omega) d9
        clear n2 HPD
        by_cases hgg : (g : Int) < c - 48
        · have E := hide (show escP s g st = spoil st by rw [HES.out, if_pos (.inr (by omega))])
          go_wp2_with fail
          refine (refuse_any b s (st.i + 1) en _ hR1.rd hs (by omega)).mono ?_
          rintro e w2 ⟨rfl, rfl⟩
          refine ⟨rfl, ?_⟩
          rw [E.out]
          exact ⟨HK1.out, .inr ⟨rfl, by rw [show (((st.i + 1 : Nat) : Int) - 1) = ((spoil st).i : Int) from by simp [spoil]]⟩⟩
        · have E := hide (show escP s g st = adv st by rw [HES.out, if_neg (fun h => h.elim (fun h => by cases h) (fun h => by omega))])
          go_wp2_with fail
          refine bodyPost_ret (ret_ppiece rfl rfl (HB3.out.1 _ _)) rfl ?_
          rw [E.out]
          exact ⟨HB3.out.2.2 _ _, .inl ⟨hb, ⟨_, _, rfl⟩, HB3.out.2.1 _ _⟩⟩
  · refine ⟨rfl, ?_⟩
    have hx : amongB s st pieceL = false := by
      cases hx : amongB s st pieceL
      · rfl
      · rw [oneOf_yes (show amongB s st pieceB.data.toList = true from hx)] at hbd
        exact absurd hbd (by show ¬ st.bad = true; rw [hb]; simp)
    rw [HES.out, if_pos (.inl hx), oneOf_no (show amongB s st pieceB.data.toList = false from hx)]
    exact ⟨K1, .inr ⟨rfl, rfl⟩⟩

theorem pieceS_ways (s : ByteArray) (g : Nat) (st : St) : ((peekOk s st = false ∨ hasL [10] (peekC s st) = true) ∧ pieceS s g st = spoil st) ∨ (peekOk s st = true ∧ peekC s st ≠ 92 ∧ pieceS s g st = adv st) ∨ (peekOk s st = true ∧ peekC s st = 92 ∧ pieceS s g st = escP s g (adv st)) := by
  have h10 : hasL [10] (peekC s st) = true ↔ peekC s st = 10 := by
    simp [hasL]
    exact eq_comm
  unfold pieceS
  by_cases h1 : peekOk s st = false ∨ peekC s st = 10
  · left
    rw [if_pos h1]
    exact ⟨h1.elim .inl (fun h => .inr (h10.2 h)), rfl⟩
  · right
    rw [if_neg h1]
    simp only [not_or] at h1
    have hok : peekOk s st = true := by simpa using h1.1
    by_cases h2 : peekC s st = 92
    · right
      rw [if_neg (by simpa using h2)]
      refine ⟨hok, h2, ?_⟩
      unfold escP amongB
      by_cases h3 : peekOk s (adv st) = true
      · rw [h3, Bool.true_and]
        simp
      · have h3' : peekOk s (adv st) = false := by simpa using h3
        rw [h3']
        simp
    · left
      rw [if_pos h2]
      exact ⟨hok, h2, rfl⟩

set_option maxRecDepth 100000 in
set_option maxHeartbeats 800000 in
theorem ppiece_any (b g : Nat) (s : ByteArray) (st : St) (en : Int) (cv ov : Value) (w : World) (h : SR w b s st.i en cv ov) (hb : st.bad = false) (hs : s.size ≤ 1048576) (hi : st.i ≤ s.size) (hg : g ≤ 9) :
    Calls Tryz.prog 78 #[.pointer (some ⟨b, 0, none⟩), .int .i64 g] w fun e w' => TookS w b s en cv ov (pieceS s g st) (fun e _ => ∃ t k, e = .returned (.agg #[.string t, .int .i64 k])) e w' := by
  have hbl := h.lt
  have h1 := h.alloc (.cells #[.string ⟨#[]⟩, .int .i64 0] 123)
  have k1 := (Kp.refl b w).alloc (.cells #[.string ⟨#[]⟩, .int .i64 0] 123)
  have B1 := Blk.new w #[.string ⟨#[]⟩, .int .i64 0] 123
  have hW := pieceS_ways s g st
  go_enter Tryz.func78, Tryz.ntmps78
  go_wp2_with fail
  refine (sTakeOther ⟨#[10]⟩ h1 hb hs hi).mono ?_
  rintro e w1 ⟨hK1, hT⟩
  have hne : w.heap.size ≠ b := by omega
  have B2 := B1.kp hK1 hne
  have K1 := k1.trans hK1
  clear h1 k1 B1 hK1 h
  rcases hT with ⟨-, ⟨rfl, hok, hno⟩, hR1⟩ | ⟨hbd, rfl⟩
  · have e1 : otherS s (ByteArray.mk #[10]).data.toList st = adv st := by unfold otherS; rw [if_neg (by rw [hok, hno]; simp)]
    rw [e1] at hR1
    have hlt := peekOk_lt hok
    replace hW : (peekC s st ≠ 92 ∧ pieceS s g st = adv st) ∨ (peekC s st = 92 ∧ pieceS s g st = escP s g (adv st)) := by
      rcases hW with ⟨h | h, _⟩ | h | h
      · rw [hok] at h; cases h
      · rw [show hasL [10] (peekC s st) = hasL (ByteArray.mk #[10]).data.toList (peekC s st) from rfl, hno] at h; cases h
      · exact .inl h.2
      · exact .inr h.2
    generalize peekC s st = c at *
    have q0 : w1.cell? ⟨w.heap.size, 0, none⟩ = some (.string ⟨#[]⟩) := B2.cell 0 rfl
    have q1 : w1.cell? ⟨w.heap.size, 1, none⟩ = some (.int .i64 0) := B2.cell 1 rfl
    have qf := B2.fz
    have c0 := hR1.c0
    have c1 : w1.cell? ⟨b, 1, none⟩ = some (.int .i64 ((st.i : Int) + 1)) := hR1.c1
    have hB3 : ∀ x y : Value, Blk ((w1.setCell ⟨w.heap.size, 0, none⟩ x).setCell ⟨w.heap.size, 1, none⟩ y) w.heap.size #[x, y] 123 := fun x y => (B2.set 0 x rfl).set 1 y rfl
    have hR3 : ∀ x y : Value, SR ((w1.setCell ⟨w.heap.size, 0, none⟩ x).setCell ⟨w.heap.size, 1, none⟩ y) b s (adv st).i en cv ov := fun x y => (hR1.other hne x).other hne y
    have hK3 : ∀ x y : Value, Kp b w ((w1.setCell ⟨w.heap.size, 0, none⟩ x).setCell ⟨w.heap.size, 1, none⟩ y) := fun x y => (K1.setNew (Nat.le_refl _) x).setNew (Nat.le_refl _) y
    have HB3 := hide (And.intro hB3 (And.intro hR3 hK3))
    have hw1 : IntKind.i64.wrap ((st.i : Int) + 1 - 1) = (st.i : Int) := by rw [wrapE _ (by omega) (by omega)]; omega
    rcases hW with ⟨hc, hW⟩ | ⟨hc, hW⟩
    · have E := hide hW
      clear hW hB3 hR3 hK3 B2 K1
      by_cases n1 : c = 38
      · subst n1
        go_wp2_with fail
        refine bodyPost_ret (ret_ppiece rfl rfl (HB3.out.1 _ _)) rfl ?_
        rw [E.out]
        exact ⟨HB3.out.2.2 _ _, .inl ⟨hb, ⟨_, _, rfl⟩, HB3.out.2.1 _ _⟩⟩
      · go_wp2_with fail
        go_region
        all_goals
          go_wp2_with fail
          refine bodyPost_ret (ret_ppiece rfl rfl ((HB3.out.1 _ _).drewN _)) rfl ?_
          rw [E.out]
          exact ⟨(HB3.out.2.2 _ _).drewN _, .inl ⟨hb, ⟨_, _, rfl⟩, (HB3.out.2.1 _ _).drewN _⟩⟩
    · subst hc
      have E := hide hW
      clear hW hB3 hR3 hK3 HB3 q0 q1 qf
      go_wp2_with fail
      refine (pescp_any b g s (adv st) en cv ov w1 hR1 hb hs (by simp [adv]; omega) hg).mono ?_
      rintro e w2 ⟨hK2, hT2⟩
      have B3 := B2.kp hK2 hne
      rcases hT2 with ⟨hb2, ⟨t, k, rfl⟩, hR2⟩ | ⟨hb2, rfl⟩
      · have q0 : w2.cell? ⟨w.heap.size, 0, none⟩ = some (.string ⟨#[]⟩) := B3.cell 0 rfl
        have q1 : w2.cell? ⟨w.heap.size, 1, none⟩ = some (.int .i64 0) := B3.cell 1 rfl
        have qf := B3.fz
        go_wp2_with fail
        refine bodyPost_ret (ret_ppiece rfl rfl ((B3.set 0 _ rfl).set 1 _ rfl)) rfl ?_
        rw [E.out]
        exact ⟨((K1.trans hK2).setNew (Nat.le_refl _) _).setNew (Nat.le_refl _) _, .inl ⟨hb2, ⟨_, _, rfl⟩, (hR2.other hne _).other hne _⟩⟩
      · refine ⟨rfl, ?_⟩
        rw [E.out]
        exact ⟨K1.trans hK2, .inr ⟨hb2, rfl⟩⟩
  · refine ⟨rfl, ?_⟩
    have hx : otherS s (ByteArray.mk #[10]).data.toList st = spoil st := by
      unfold otherS at hbd ⊢
      split
      · rfl
      · next hc => rw [if_neg hc] at hbd; exact absurd hbd (by show ¬ st.bad = true; rw [hb]; simp)
    have hW2 : pieceS s g st = spoil st := by
      rcases hW with h | h | h
      · exact h.2
      · exfalso
        have : peekOk s st = false ∨ hasL (ByteArray.mk #[10]).data.toList (peekC s st) = true := by
          unfold otherS at hx
          split at hx
          · assumption
          · have := congrArg St.bad hx
            rw [show (adv st).bad = st.bad from rfl, hb] at this
            cases this
        rcases this with h3 | h3
        · rw [h.1] at h3; cases h3
        · have h4 : pieceS s g st = spoil st := by
            unfold pieceS
            rw [if_pos]
            right
            have : hasL [10] (peekC s st) = true := h3
            simp [hasL] at this
            exact this.symm
          have := congrArg St.bad (h4.symm.trans h.2.2)
          rw [show (adv st).bad = st.bad from rfl, hb] at this
          cases this
      · exfalso
        have : peekOk s st = false ∨ hasL (ByteArray.mk #[10]).data.toList (peekC s st) = true := by
          unfold otherS at hx
          split at hx
          · assumption
          · have := congrArg St.bad hx
            rw [show (adv st).bad = st.bad from rfl, hb] at this
            cases this
        rcases this with h3 | h3
        · rw [h.1] at h3; cases h3
        · rw [h.2.1] at h3
          revert h3; decide
    rw [hW2, hx]
    exact ⟨K1, .inr ⟨rfl, rfl⟩⟩
end Go.Proofs.YtpnecblofjpgfaaGreat
