import Derived.Test.YtmjdaifalgpdnaaGreatProQ
import Derived.Test.YtmjdaifalgpdnaaGreatPriC
namespace Go.Proofs.YtmjdaifalgpdnaaGreat
open Go.RowKit

theorem res_tmp3 {fn : Func} {a b c : Tmp} (h : fn.results = #[.tmp a, .tmp b, .tmp c]) (tmps : Array Value) (P : Program) (w : World) :
    (results fn tmps).run P w = .ok (.tuple #[tmps.getD a undef, tmps.getD b undef, tmps.getD c undef]) w := by
  simp [results, h]

/-- The block of a scriptReader. -/
def SR (w : World) (b : Nat) (s : ByteArray) (at_ : Nat) (en : Int) (cv ov : Value) : Prop := Blk w b #[.string s, .int .i64 at_, .int .i64 en, cv, ov] 100

section
variable {w w' : World} {b : Nat} {s : ByteArray} {at_ : Nat} {en : Int} {cv ov : Value}
theorem SR.rd (h : SR w b s at_ en cv ov) : RdC w b s at_ en := ⟨h.cell 0 rfl, h.cell 1 rfl, h.cell 2 rfl, h.fz 1⟩
theorem SR.c0 (h : SR w b s at_ en cv ov) : w.cell? ⟨b, 0, none⟩ = some (.string s) := h.cell 0 rfl
theorem SR.c1 (h : SR w b s at_ en cv ov) : w.cell? ⟨b, 1, none⟩ = some (.int .i64 at_) := h.cell 1 rfl
theorem SR.c2 (h : SR w b s at_ en cv ov) : w.cell? ⟨b, 2, none⟩ = some (.int .i64 en) := h.cell 2 rfl
theorem SR.c3 (h : SR w b s at_ en cv ov) : w.cell? ⟨b, 3, none⟩ = some cv := h.cell 3 rfl
theorem SR.c4 (h : SR w b s at_ en cv ov) : w.cell? ⟨b, 4, none⟩ = some ov := h.cell 4 rfl
theorem SR.fz (h : SR w b s at_ en cv ov) (o : Nat) : w.frozen? ⟨b, o, none⟩ = false := Blk.fz h o
theorem SR.drewN (h : SR w b s at_ en cv ov) (n : Nat) : SR (w.drewN n) b s at_ en cv ov := h
theorem SR.drew (h : SR w b s at_ en cv ov) : SR w.drew b s at_ en cv ov := h
theorem SR.moved {dst : Nat} (h : SR w b s at_ en cv ov) (hm : Moved w b dst w') : SR w' b s dst en cv ov := by
  obtain ⟨n, m, rfl⟩ := hm
  exact (Blk.set (w := w.drewN n) h 1 (.int .i64 (dst : Int)) rfl).drewN m
theorem SR.below (h : SR w b s at_ en cv ov) (hb : Below w.heap.size w w') : SR w' b s at_ en cv ov := Blk.below h hb
theorem SR.alloc (h : SR w b s at_ en cv ov) (o : Obj) : SR (w.alloc o) b s at_ en cv ov := Blk.alloc h o
theorem SR.other (h : SR w b s at_ en cv ov) {p : Addr} (hp : p.block ≠ b) (u : Value) : SR (w.setCell p u) b s at_ en cv ov := Blk.other h hp u
theorem SR.lt (h : SR w b s at_ en cv ov) : b < w.heap.size := Blk.lt h
theorem SR.set1 (h : SR w b s at_ en cv ov) (i : Int) (j : Nat) (e : i = j) : SR (w.setCell ⟨b, 1, none⟩ (.int .i64 i)) b s j en cv ov := by
  subst e; exact Blk.set h 1 _ rfl
end

theorem Same.sr {w w' : World} {b : Nat} {s : ByteArray} {at_ : Nat} {en : Int} {cv ov : Value} (h : Same w w') (hR : SR w b s at_ en cv ov) : SR w' b s at_ en cv ov := by obtain ⟨n, rfl⟩ := h; exact hR

/-- It returns with the state that the document has, or gives up where the document's is bad. -/
def TookS (w : World) (b : Nat) (s : ByteArray) (en : Int) (cv ov : Value) (st : St) (good : Ending → World → Prop) (e : Ending) (w' : World) : Prop :=
  Kp b w w' ∧ ((st.bad = false ∧ good e w' ∧ SR w' b s st.i en cv ov) ∨ (st.bad = true ∧ e = .panicked (gaveUp en st.i)))

def oneOfS (s : ByteArray) (l : List UInt8) (st : St) : St := if amongB s st l then adv st else spoil st
def otherS (s : ByteArray) (l : List UInt8) (st : St) : St := if peekOk s st = false ∨ hasL l (peekC s st) = true then spoil st else adv st

theorem oneOf_eat (s : ByteArray) (c : UInt8) (ci : Int) (hc : (c.toNat : Int) = ci) (st : St) : oneOfS s [c] st = eatS s ci st := by
  unfold oneOfS eatS amongB isB hasL
  subst hc
  simp only [List.any_cons, List.any_nil, Bool.or_false]
  rw [show (((c.toNat : Int)) == peekC s st) = (peekC s st == (c.toNat : Int)) from by rw [Bool.eq_iff_iff]; simp; exact eq_comm]
  rfl

section
variable {w : World} {b : Nat} {s : ByteArray} {st : St} {en : Int} {cv ov : Value}

theorem nextOf_st (hb : st.bad = false) (l : ByteArray) : nextOf s st.i l = amongB s st l.data.toList := by
  obtain ⟨i, bd, g⟩ := st
  dsimp only at hb
  subst hb
  exact nextOf_peek s i g l
theorem nextW_st (hb : st.bad = false) (c : UInt8) : nextW s st.i ⟨#[c]⟩ = isB s st (c.toNat : Int) := by
  obtain ⟨i, bd, g⟩ := st
  dsimp only at hb
  subst hb
  exact nextW_one s i g c

theorem sIsNext (c : UInt8) (ci : Int) (hc : (c.toNat : Int) = ci) {x : Bool} (hx : isB s st ci = x) (h : SR w b s st.i en cv ov) (hb : st.bad = false) (hs : s.size ≤ 1048576) (ha : st.i ≤ s.size) :
    Calls Tryz.prog 44 #[.pointer (some ⟨b, 0, none⟩), .string ⟨#[c]⟩] w fun e w' => e = .returned (.bool x) ∧ Same w w' := by
  subst hc
  exact isNext_of ((nextW_st hb c).trans hx) h.rd hs ha (by show 1 ≤ _; omega)

theorem sTakeIf (c : UInt8) (ci : Int) (hc : (c.toNat : Int) = ci) {x : Bool} (hx : isB s st ci = x) (h : SR w b s st.i en cv ov) (hb : st.bad = false) (hs : s.size ≤ 1048576) (ha : st.i ≤ s.size) :
    Calls Tryz.prog 58 #[.pointer (some ⟨b, 0, none⟩), .string ⟨#[c]⟩] w fun e w' => e = .returned (.bool x) ∧ SR w' b s (advIf s ci st).i en cv ov ∧ Kp b w w' := by
  subst hc
  have hn := (nextW_st (s := s) hb c).trans hx
  have e1 : advIf s (c.toNat : Int) st = if x then adv st else st := by unfold advIf; rw [hx]
  rw [e1]
  cases x
  · refine (takeIf_no b s st.i en ⟨#[c]⟩ w h.rd hs ha (by show 1 ≤ _; omega) hn).mono ?_
    rintro e w' ⟨rfl, n, rfl⟩
    exact ⟨rfl, h.drewN n, (Kp.refl b w).drewN n⟩
  · refine (takeIf_one b s st.i en c w h.rd hs ha hn).mono ?_
    rintro e w' ⟨rfl, hm⟩
    exact ⟨rfl, h.moved hm, hm.kp⟩

theorem sIsNextOf (l : ByteArray) {x : Bool} (hx : amongB s st l.data.toList = x) (h : SR w b s st.i en cv ov) (hb : st.bad = false) (hs : s.size ≤ 1048576) :
    Calls Tryz.prog 69 #[.pointer (some ⟨b, 0, none⟩), .string l] w fun e w' => e = .returned (.bool x) ∧ Same w w' :=
  isNextOf_of ((nextOf_st hb l).trans hx) h.rd hs

theorem peekC_at (hb : st.bad = false) (hl : st.i < s.size) : peekC s st = ((s[st.i]'hl).toNat : Int) := by simp [peekC, hb, hl]

theorem sTake (h : SR w b s st.i en cv ov) (hb : st.bad = false) (hs : s.size ≤ 1048576) (hp : peekOk s st = true) :
    Calls Tryz.prog 63 #[.pointer (some ⟨b, 0, none⟩)] w fun e w' => e = .returned (.int .u8 (peekC s st)) ∧ SR w' b s (st.i + 1) en cv ov ∧ Kp b w w' := by
  have hl := peekOk_lt hp
  refine (take_ok b s st.i en w h.rd hs hl).mono ?_
  rintro e w' ⟨rfl, hm⟩
  exact ⟨by rw [peekC_at hb hl], h.moved hm, hm.kp⟩

theorem sTakeOneOf (l : ByteArray) (h : SR w b s st.i en cv ov) (hb : st.bad = false) (hs : s.size ≤ 1048576) (ha : st.i ≤ s.size) :
    Calls Tryz.prog 46 #[.pointer (some ⟨b, 0, none⟩), .string l] w fun e w' => TookS w b s en cv ov (oneOfS s l.data.toList st) (fun e _ => e = .returned (.int .u8 (peekC s st)) ∧ amongB s st l.data.toList = true) e w' := by
  have hn := nextOf_st (s := s) hb l
  by_cases hl : st.i < s.size
  · cases hx : amongB s st l.data.toList
    · refine (takeOneOf_bad b s st.i en l w h.rd hs hl (hn.trans hx)).mono ?_
      rintro e w' ⟨rfl, hk⟩
      refine ⟨hk, .inr ?_⟩
      unfold oneOfS; rw [hx]
      exact ⟨rfl, rfl⟩
    · refine (takeOneOf_ok b s st.i en l w h.rd hs hl (hn.trans hx)).mono ?_
      rintro e w' ⟨rfl, hm⟩
      refine ⟨hm.kp, .inl ?_⟩
      unfold oneOfS; rw [hx]
      exact ⟨hb, ⟨by rw [peekC_at hb hl], rfl⟩, h.moved hm⟩
  · have he : st.i = s.size := by omega
    have hx : amongB s st l.data.toList = false := by simp [amongB, peekOk, hl]
    rw [he] at h
    refine (takeOneOf_end b s en l w h.rd).mono ?_
    rintro e w' ⟨rfl, n, rfl⟩
    refine ⟨(Kp.refl b w).drewN n, .inr ?_⟩
    unfold oneOfS; rw [hx]
    exact ⟨rfl, by show _ = Ending.panicked (gaveUp en st.i); rw [he]⟩

theorem sTakeOther (l : ByteArray) (h : SR w b s st.i en cv ov) (hb : st.bad = false) (hs : s.size ≤ 1048576) (ha : st.i ≤ s.size) :
    Calls Tryz.prog 84 #[.pointer (some ⟨b, 0, none⟩), .string l] w fun e w' => TookS w b s en cv ov (otherS s l.data.toList st) (fun e _ => e = .returned (.int .u8 (peekC s st)) ∧ peekOk s st = true ∧ hasL l.data.toList (peekC s st) = false) e w' := by
  have hn := nextOf_st (s := s) hb l
  by_cases hl : st.i < s.size
  · have hp : peekOk s st = true := by simp [peekOk, hb, hl]
    cases hx : hasL l.data.toList (peekC s st)
    · refine (takeOther_ok b s st.i en l w h.rd hs hl (hn.trans (by simp [amongB, hx]))).mono ?_
      rintro e w' ⟨rfl, hm⟩
      refine ⟨hm.kp, .inl ?_⟩
      unfold otherS; rw [hx, hp, if_neg (by simp)]
      exact ⟨hb, ⟨by rw [peekC_at hb hl], rfl, rfl⟩, h.moved hm⟩
    · refine (takeOther_bad b s st.i en l w h.rd hs (hn.trans (by simp [amongB, hx, hp]))).mono ?_
      rintro e w' ⟨rfl, n, rfl⟩
      refine ⟨(Kp.refl b w).drewN n, .inr ?_⟩
      unfold otherS; rw [hx, if_pos (.inr rfl)]
      exact ⟨rfl, rfl⟩
  · have he : st.i = s.size := by omega
    have hp : peekOk s st = false := by simp [peekOk, hl]
    rw [he] at h
    refine (takeOther_end b s en l w h.rd hs).mono ?_
    rintro e w' ⟨rfl, n, rfl⟩
    refine ⟨(Kp.refl b w).drewN n, .inr ?_⟩
    unfold otherS; rw [if_pos (.inl hp)]
    exact ⟨rfl, by show _ = Ending.panicked (gaveUp en st.i); rw [he]⟩
end
end Go.Proofs.YtmjdaifalgpdnaaGreat
