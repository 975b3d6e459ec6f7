import Derived.Test.YtmjdaifalgpdnaaGreatPscL
import Derived.Maps.Own
import Derived.Maps.OwnOps
import Derived.Maps.Views
namespace Go.Proofs.YtmjdaifalgpdnaaGreat
open Go.RowKit

/-- What line does. -/
def LinePost (w : World) (base b n : Nat) (s : ByteArray) (en : Int) (ls : List CmT) (js : List Nat) (st : St) (e : Ending) (w' : World) : Prop :=
  Below base w w' ∧ ((e = .returned (.tuple #[]) ∧ ∃ cv' ov' css' ls' js' st', SR w' b s st'.i en cv' ov' ∧ Rws w' base cv' ov' ls' css' js' ls'.length ∧ st'.bad = false ∧ st'.i ≤ s.size ∧ (st.i < st'.i ∨ s.size ≤ st'.i) ∧ st.i ≤ st'.i ∧ ∀ k, commandsS s n (k + 1) ls js.length st = commandsS s n k ls' js'.length st') ∨ (∃ pl : Nat, e = .panicked (gaveUp en pl) ∧ ∀ k, (commandsS s n (k + 1) ls js.length st).2.bad = true ∧ (commandsS s n (k + 1) ls js.length st).2.i = pl))

theorem commands_bad {s : ByteArray} {n : Nat} (k : Nat) (l : List CmT) (nest : Nat) {st : St} (h : st.bad = true) : commandsS s n k l nest st = ((l, nest), st) := by
  cases k with
  | zero => rfl
  | succ k => rw [commandsS, if_pos (.inl h)]
theorem jsB_len (op : Int) (m : Nat) (js : List Nat) : (jsB op m js).length = if op = 123 then js.length + 1 else if op = 125 then js.length - 1 else js.length := by
  unfold jsB
  split
  · simp
  · split
    · simp
    · rfl

set_option maxRecDepth 100000 in
set_option maxHeartbeats 1600000 in
theorem pline_any (n b base : Nat) (s : ByteArray) (st : St) (en : Int) (cv ov : Value) (ls : List CmT) (css : List (Array Value)) (js : List Nat) (w : World) (h : SR w b s st.i en cv ov) (hr : Rws w base cv ov ls css js ls.length) (hbb : base ≤ b)
    (hb : st.bad = false) (hs : s.size ≤ 1048576) (hi : st.i < s.size) (hn : 2 * (s.size - st.i) + 2 ≤ n) :
    Calls Tryz.prog 35 #[.pointer (some ⟨b, 0, none⟩)] w fun e w' => LinePost w base b n s en ls js st e w' := by
  have hbl := h.lt
  have hw0 : base ≤ w.heap.size := by omega
  have hstep : ∀ k, commandsS s n (k + 1) ls js.length st = commandsS s n (k + 1) ls js.length st := fun _ => rfl
  have HC : Hid (∀ k, commandsS s n (k + 1) ls js.length st = if isB s (blanksS s (s.size + 1) st) 10 = true then commandsS s n k ls js.length (adv (blanksS s (s.size + 1) st)) else
    if s.size ≤ (blanksS s (s.size + 1) st).i then commandsS s n k ls js.length (blanksS s (s.size + 1) st) else
    if (commandS s n js.length (decide (60 ≤ ls.length)) (blanksS s (s.size + 1) st)).2.bad = true then ((ls, js.length), (commandS s n js.length (decide (60 ≤ ls.length)) (blanksS s (s.size + 1) st)).2) else
    commandsS s n k (ls ++ [(commandS s n js.length (decide (60 ≤ ls.length)) (blanksS s (s.size + 1) st)).1])
      (if (commandS s n js.length (decide (60 ≤ ls.length)) (blanksS s (s.size + 1) st)).1.op = 123 then js.length + 1 else if (commandS s n js.length (decide (60 ≤ ls.length)) (blanksS s (s.size + 1) st)).1.op = 125 then js.length - 1 else js.length)
      (if (commandS s n js.length (decide (60 ≤ ls.length)) (blanksS s (s.size + 1) st)).2.i < s.size then eatS s 10 (commandS s n js.length (decide (60 ≤ ls.length)) (blanksS s (s.size + 1) st)).2 else (commandS s n js.length (decide (60 ≤ ls.length)) (blanksS s (s.size + 1) st)).2)) := fun k => by rw [commandsS, if_neg (by rw [hb]; simp; omega)]
  clear hstep
  have hpb := pblanks_any (s.size + 1) b s st en cv ov w h hb hs (by omega) (by omega)
  have hbo := On.blanks (s := s) (s.size + 1) (show st.i ≤ s.size by omega)
  have hbb2 : (blanksS s (s.size + 1) st).bad = false := by rw [blanks_b]; exact hb
  generalize blanksS s (s.size + 1) st = q at *
  have hq1 : st.i ≤ q.i := hbo.1
  have hq2 : q.i ≤ s.size := hbo.2
  clear hbo
  have HPB := hide hpb
  have HR := hide hr
  clear hpb hr
  by_cases hql : q.i < s.size
  · have hd : decide ((q.i : Int) < s.size) = true := by simp; omega
    cases hx : isB s q 10
    · -- a command
      have hcm := fun (W : World) (hW : SR W b s q.i en cv ov) (hrW : Rws W base cv ov ls css js ls.length) => pcommand_any n b base s q en cv ov ls css js W hW hrW hbb hbb2 hs hq2 (by omega)
      have hcon := command_on (s := s) (n := n) js.length (decide (60 ≤ ls.length)) hq2 (by omega)
      have hC : ∀ k, commandsS s n (k + 1) ls js.length st = _ := fun k => (HC.out k).trans (by rw [if_neg (by rw [hx]; simp), if_neg (by omega)])
      generalize commandS s n js.length (decide (60 ≤ ls.length)) q = C at *
      have HCM := hide (And.intro hcm (And.intro hC hcon))
      have HX := hide hx
      clear hcm hC hcon HC hx
      go_enter Tryz.func35, Tryz.ntmps35
      go_wp2_with fail
      refine HPB.out.mono ?_
      rintro e w1 ⟨rfl, R1, K1⟩
      have e0 := R1.c0
      have e1 := R1.c1
      go_wp2_with fail
      go_quiet ((go_at_call 44; exact Calls.quiet_of (sIsNext 10 10 rfl HX.out (R1.drewN _) hbb2 hs hq2)))
      go_wp2_with fail
      have hr1 := HR.out.kp K1 h
      refine (HCM.out.1 _ (R1.drewN nq) (hr1.agree (fun _ _ => rfl) (fun _ _ => rfl))).mono ?_
      rintro e w2 ⟨hB2, hT2⟩
      have BW2 : Below base w w2 := (below_kp (K1.drewN nq) hbb hw0).trans hB2
      obtain ⟨-, hC, hcon⟩ := HCM.out
      clear HCM HPB hB2 hr1 e0 e1
      rcases hT2 with ⟨hcb, rfl, cv', ov', css', R2, hr2⟩ | ⟨hcb, rfl⟩
      · have hlt2 := hcon.2 hcb
        have hle2 : C.2.i ≤ s.size := hcon.1.2
        have e0 := R2.c0
        have e1 := R2.c1
        have hC2 : ∀ k, commandsS s n (k + 1) ls js.length st = commandsS s n k (ls ++ [C.1]) (jsB C.1.op ls.length js).length (if C.2.i < s.size then eatS s 10 C.2 else C.2) := fun k => (hC k).trans (by rw [if_neg (by rw [hcb]; simp), jsB_len])
        have hlen : (ls ++ [C.1]).length = ls.length + 1 := by simp
        have HC2 := hide hC2
        have HR2 := hide hr2
        clear hC hcon hC2 hr2
        by_cases hl3 : C.2.i < s.size
        · have hd3 : decide ((C.2.i : Int) < s.size) = true := by simp; omega
          go_wp2_with fail
          go_quiet (fail)
          go_wp2_with fail
          refine (sTakeOneOf ⟨#[10]⟩ (st := C.2) (R2.drewN _) hcb hs hle2).mono ?_
          rintro e w3 ⟨K3, hT3⟩
          have e3 : oneOfS s (ByteArray.mk #[10]).data.toList C.2 = eatS s 10 C.2 := oneOf_eat s 10 10 rfl C.2
          rw [e3] at hT3
          have BW3 : Below base w w3 := BW2.trans (below_kp (((Kp.refl b w2).drewN nq).trans K3) hbb (by have := BW2.size; omega))
          rcases hT3 with ⟨hb3, ⟨rfl, -⟩, R3⟩ | ⟨hb3, rfl⟩
          · go_wp2_with fail
            refine bodyPost_end (results_none rfl _ _ _) rfl ?_
            refine ⟨BW3, .inl ⟨rfl, cv', ov', css', ls ++ [C.1], jsB C.1.op ls.length js, eatS s 10 C.2, R3, ?_, hb3, eat_le s 10 C.2 hle2, .inl ?_, ?_, fun k => ?_⟩⟩
            · rw [hlen]; exact HR2.out.kp (((Kp.refl b w2).drewN nq).trans K3) R2
            · have := eat_ge s 10 C.2; omega
            · have := eat_ge s 10 C.2; omega
            · rw [HC2.out k, if_pos hl3]
          · refine ⟨rfl, ?_⟩
            refine ⟨BW3, .inr ⟨(eatS s 10 C.2).i, rfl, fun k => ?_⟩⟩
            rw [HC2.out k, if_pos hl3, commands_bad _ _ _ hb3]
            exact ⟨hb3, rfl⟩
        · have hd3 : decide ((C.2.i : Int) < s.size) = false := by simp; omega
          go_wp2_with fail
          go_quiet (fail)
          go_wp2_with fail
          refine bodyPost_end (results_none rfl _ _ _) rfl ?_
          refine ⟨BW2.trans (below_kp ((Kp.refl b w2).drewN nq) hbb (by have := BW2.size; omega)), .inl ⟨rfl, cv', ov', css', ls ++ [C.1], jsB C.1.op ls.length js, C.2, R2, ?_, hcb, hle2, .inl (by omega), by omega, fun k => ?_⟩⟩
          · rw [hlen]; exact HR2.out.kp ((Kp.refl b w2).drewN nq) R2
          · rw [HC2.out k, if_neg hl3]
      · refine ⟨rfl, ?_⟩
        refine ⟨BW2, .inr ⟨C.2.i, rfl, fun k => ?_⟩⟩
        rw [hC k, if_pos hcb]
        exact ⟨hcb, rfl⟩
    · -- an empty line
      have hC : ∀ k, commandsS s n (k + 1) ls js.length st = commandsS s n k ls js.length (adv q) := fun k => (HC.out k).trans (by rw [if_pos hx])
      have HC2 := hide hC
      have HX := hide hx
      have ea : eatS s 10 q = adv q := by unfold eatS; rw [hx]; rfl
      have EA := hide ea
      clear hC HC hx ea
      go_enter Tryz.func35, Tryz.ntmps35
      go_wp2_with fail
      refine HPB.out.mono ?_
      rintro e w1 ⟨rfl, R1, K1⟩
      have e0 := R1.c0
      have e1 := R1.c1
      go_wp2_with fail
      go_quiet ((go_at_call 44; exact Calls.quiet_of (sIsNext 10 10 rfl HX.out (R1.drewN _) hbb2 hs hq2)))
      go_wp2_with fail
      go_quiet (fail)
      go_wp2_with fail
      refine (sTakeOneOf ⟨#[10]⟩ (st := q) (R1.drewN _) hbb2 hs hq2).mono ?_
      rintro e w3 ⟨K3, hT3⟩
      have e3 : oneOfS s (ByteArray.mk #[10]).data.toList q = eatS s 10 q := oneOf_eat s 10 10 rfl q
      rw [e3, EA.out] at hT3
      rcases hT3 with ⟨hb3, ⟨rfl, -⟩, R3⟩ | ⟨hb3, rfl⟩
      · go_wp2_with fail
        refine bodyPost_end (results_none rfl _ _ _) rfl ?_
        have K4 := (K1.drewN _).trans K3
        exact ⟨below_kp K4 hbb hw0, .inl ⟨rfl, cv, ov, css, ls, js, adv q, R3, HR.out.kp K4 h, hbb2, by simp [adv]; omega, .inl (by simp [adv]; omega), by simp [adv]; omega, HC2.out⟩⟩
      · exact absurd hb3 (by show ¬ q.bad = true; rw [hbb2]; simp)
  · have hd : decide ((q.i : Int) < s.size) = false := by simp; omega
    have hx : isB s q 10 = false := by
      unfold isB peekOk
      have : decide (q.i < s.size) = false := by simp; omega
      rw [this]; simp
    have hC : ∀ k, commandsS s n (k + 1) ls js.length st = commandsS s n k ls js.length q := fun k => (HC.out k).trans (by rw [if_neg (by rw [hx]; simp), if_pos (by omega)])
    have HC2 := hide hC
    clear hC HC hx
    go_enter Tryz.func35, Tryz.ntmps35
    go_wp2_with fail
    refine HPB.out.mono ?_
    rintro e w1 ⟨rfl, R1, K1⟩
    have e0 := R1.c0
    have e1 := R1.c1
    go_wp2_with fail
    go_quiet (fail)
    go_wp2_with fail
    go_quiet (fail)
    go_wp2_with fail
    refine bodyPost_end (results_none rfl _ _ _) rfl ?_
    first
    | exact ⟨below_kp (K1.drewN _) hbb hw0, .inl ⟨rfl, cv, ov, css, ls, js, q, R1, HR.out.kp (K1.drewN _) h, hbb2, hq2, .inr (by omega), hq1, HC2.out⟩⟩
    | exact ⟨below_kp ((K1.drewN _).drewN _) hbb hw0, .inl ⟨rfl, cv, ov, css, ls, js, q, R1, HR.out.kp ((K1.drewN _).drewN _) h, hbb2, hq2, .inr (by omega), hq1, HC2.out⟩⟩
end Go.Proofs.YtmjdaifalgpdnaaGreat

namespace Go.Proofs.YtmjdaifalgpdnaaGreat
open Go.RowKit

/-- Is command i the place of the label x? -/
def isLab (l : List CmT) (x : ByteArray) (i : Nat) : Bool := match l[i]? with | some t => decide (t.op = 58) && decide (t.text = x) | none => false
/-- The first of k commands that is the place of the label x. -/
def firstL (l : List CmT) (x : ByteArray) : Nat → Option Nat
  | 0 => none
  | k + 1 => match firstL l x k with | some i => some i | none => if isLab l x k then some k else none

theorem firstL_up {l : List CmT} {x : ByteArray} {k i : Nat} (h : firstL l x k = some i) : ∀ m, k ≤ m → firstL l x m = some i
  | m, hm => by
    induction m with
    | zero => have : k = 0 := by omega
              subst this; exact h
    | succ m ih =>
      by_cases hk : k = m + 1
      · subst hk; exact h
      · rw [firstL, ih (by omega)]
theorem firstL_lt {l : List CmT} {x : ByteArray} : ∀ {k i : Nat}, firstL l x k = some i → i < k ∧ isLab l x i = true
  | 0, i, h => by cases h
  | k + 1, i, h => by
    rw [firstL] at h
    cases hf : firstL l x k with
    | some j =>
      rw [hf] at h
      simp only [Option.some.injEq] at h
      subst h
      have := firstL_lt hf
      exact ⟨by omega, this.2⟩
    | none =>
      rw [hf] at h
      dsimp only at h
      split at h
      · next hc =>
        simp only [Option.some.injEq] at h
        subst h
        exact ⟨by omega, hc⟩
      · cases h
theorem firstL_hit {l : List CmT} {x : ByteArray} {i : Nat} (h : isLab l x i = true) : ∃ j, firstL l x (i + 1) = some j ∧ j ≤ i := by
  rw [firstL]
  cases hf : firstL l x i with
  | some j => exact ⟨j, rfl, by have := (firstL_lt hf).1; omega⟩
  | none => exact ⟨i, by simp [h], Nat.le_refl _⟩

/-- Is the label of command i there twice, or not there? -/
def lostB (l : List CmT) (t : CmT) (i : Nat) : Bool := (decide (t.op = 58) && decide (firstL l t.text l.length ≠ some i)) || ((decide (t.op = 98) || decide (t.op = 116)) && decide (t.text.size ≠ 0) && decide (firstL l t.text l.length = none))
/-- The place of the first such command, from i on. -/
def lostS (l : List CmT) : Nat → Nat → Option Nat
  | 0, _ => none
  | k + 1, i => match l[i]? with | some t => if lostB l t i then some t.pos else lostS l k (i + 1) | none => none

/-- A map of labels in memory. -/
def LabM (w : World) (mm m : Nat) (f : ByteArray → Option Nat) : Prop := ∃ D : DataW Value, w.ownsMap Tryz.prog 9 (plainElem Tryz.prog 3) mm m D ∧ Maps.IsMap D ∧ ∀ x : ByteArray, x.size ≤ 1048576 → ((f x = none ∧ ∀ z, D.atKey (.string x.data.toList) z = z) ∨ ∃ v : Nat, f x = some v ∧ v ≤ 1048576 ∧ ∀ z, D.atKey (.string x.data.toList) z = .lit (.int .i64 (v : Nat)))

theorem keyedS : Maps.Keyed Tryz.prog 9 := Maps.string_keyed Tryz.underlying9
theorem keyS {x : ByteArray} (h : x.size ≤ 1048576) : keyOf Tryz.prog 9 (.string x) = some (.string x.data.toList) := WideMaps.keyOf_string_mk Tryz.underlying9 (by unfold maxLen; omega)
theorem zeroInt (w : World) : (zeroValue 3).run Tryz.prog w = .ok (.int .i64 0) w := by
  obtain ⟨i0, h0, h1, h2, h3⟩ := info_parts infoInt
  simp [zeroValue, typeInfo, h0, h1]
theorem LabM.look {w : World} {mm m : Nat} {f : ByteArray → Option Nat} (h : LabM w mm m f) {x : ByteArray} (hx : x.size ≤ 1048576) (c : Bool) :
    (Instr.lookup 110 (.map (some mm)) (.string x) c).run Tryz.prog w = .ok (if c then .tuple #[.int .i64 ((f x).getD 0 : Nat), .bool (f x).isSome] else .int .i64 ((f x).getD 0 : Nat)) w := by
  obtain ⟨D, ⟨es, clock, hb, F, hs, rfl⟩, hm, hf⟩ := h
  rcases Maps.fit_look c keyedS Tryz.underlying110 (zeroInt w) hb F (keyS hx) with ⟨hrun, _, hat⟩ | ⟨e0, y, _, _, hrun, hRv, hat, _⟩
  · rcases hf x hx with ⟨h1, _⟩ | ⟨v, _, _, h2⟩
    · rw [h1, hrun]; rfl
    · have := (hat .nil).symm.trans (h2 .nil)
      cases this
  · obtain ⟨a, e1, e2, _⟩ := plainElem_int_inv Tryz.underlying3 hRv
    rcases hf x hx with ⟨_, h2⟩ | ⟨v, h1, _, h2⟩
    · have := (hat .nil).symm.trans (h2 .nil)
      rw [e2] at this
      cases this
    · have := (hat .nil).symm.trans (h2 .nil)
      rw [e2] at this
      simp only [DataW.lit.injEq, Lit.int.injEq, true_and] at this
      rw [h1, hrun, e1, this]
      rfl
theorem LabM.agree {w w' : World} {mm m : Nat} {f : ByteArray → Option Nat} (h : LabM w mm m f) (hk : w'.heap[mm]? = w.heap[mm]?) : LabM w' mm m f := by
  obtain ⟨D, ⟨es, clock, hb, rest⟩, hf⟩ := h
  exact ⟨D, ⟨es, clock, by rw [hk]; exact hb, rest⟩, hf⟩
theorem LabM.lt {w : World} {mm m : Nat} {f : ByteArray → Option Nat} (h : LabM w mm m f) : mm < w.heap.size := by
  obtain ⟨D, ho, _⟩ := h
  exact ho.lt
theorem LabM.not_cells {w : World} {mm m : Nat} {f : ByteArray → Option Nat} (h : LabM w mm m f) {k : Nat} {c : Array Value} {t : TypeId} {r : Nat × Nat} (hk : w.heap[k]? = some (.cells c t r)) : k ≠ mm := by
  obtain ⟨D, ⟨es, clock, hb, _⟩, _⟩ := h
  rintro rfl
  rw [hb] at hk; cases hk
theorem LabM.ext {w : World} {mm m : Nat} {f g : ByteArray → Option Nat} (h : LabM w mm m f) (e : ∀ x, f x = g x) : LabM w mm m g := by
  obtain ⟨D, h1, h2, h3⟩ := h
  exact ⟨D, h1, h2, fun x hx => by rw [← e x]; exact h3 x hx⟩
theorem LabM.put {w w' : World} {mm m : Nat} {f : ByteArray → Option Nat} {D : DataW Value} (_h1 : w.ownsMap Tryz.prog 9 (plainElem Tryz.prog 3) mm m D) (h2 : Maps.IsMap D) (h3 : ∀ x : ByteArray, x.size ≤ 1048576 → ((f x = none ∧ ∀ z, D.atKey (.string x.data.toList) z = z) ∨ ∃ v : Nat, f x = some v ∧ v ≤ 1048576 ∧ ∀ z, D.atKey (.string x.data.toList) z = .lit (.int .i64 (v : Nat))))
    {x : ByteArray} (hx : x.size ≤ 1048576) {v : Nat} (hv : v ≤ 1048576) (hown : w'.ownsMap Tryz.prog 9 (plainElem Tryz.prog 3) mm (m + 1) (D.put (.string x.data.toList) (.lit (.int .i64 (v : Nat))))) : LabM w' mm (m + 1) (fun y => if y = x then some v else f y) := by
  refine ⟨_, hown, h2.put _ _, fun y hy => ?_⟩
  by_cases e : y = x
  · subst e
    right
    refine ⟨v, by simp, hv, fun z => Maps.atKey_put_same h2 (keyedS.key (keyS hx)) _ z⟩
  · have hne : (Lit.string y.data.toList) ≠ .string x.data.toList := by
      intro he
      simp only [Lit.string.injEq] at he
      apply e
      apply ByteArray.ext
      rw [← Array.toArray_toList (xs := y.data), he, Array.toArray_toList]
    simp only [e, if_false]
    rcases h3 y hy with ⟨g1, g2⟩ | ⟨u, g1, g2, g3⟩
    · exact .inl ⟨g1, fun z => (Maps.atKey_put_other hne _ z).trans (g2 z)⟩
    · exact .inr ⟨u, g1, g2, fun z => (Maps.atKey_put_other hne _ z).trans (g3 z)⟩
end Go.Proofs.YtmjdaifalgpdnaaGreat

namespace Go.Proofs.YtmjdaifalgpdnaaGreat
open Go.RowKit

theorem wfInt (i : Nat) (h : i ≤ 1048576) : (Lit.int .i64 (i : Nat)).wf = true := by
  simp [Lit.wf, IntKind.min, IntKind.max, IntKind.bits, IntKind.signed]
  omega
theorem blk_there {w : World} {k : Nat} {zs : Array Value} {t : TypeId} (h : Blk w k zs t) {n : Nat} (hz : zs.size = n) : w.there k 0 n := fun j hj => by
  rw [Nat.zero_add]
  refine ⟨?_, h.fz j⟩
  rw [cell_of_row w k j zs t (0, 0) h, Array.getElem?_eq_getElem (by omega)]
  rfl
theorem rowCommand : ∃ d, Tryz.prog.underlying 81 = some d ∧ d.isRow = true := ⟨_, Tryz.underlying81, rfl⟩
theorem flat_range {w : World} {gl cl n : Nat} {css : List (Array Value)} (hL : w.ownsRow 0 81 13 (.slice (some ⟨gl, 0, none⟩) n cl) n (flatC css)) (hz : ∀ c ∈ css, c.size = 13) {i : Nat} (hi : i < n) {cs : Array Value} (hc : css[i]? = some cs) : w.rangeAt gl (i * 13) cs.toList := fun j v hv => by
  have hj : j < 13 := by
    have := hz cs (List.mem_of_getElem? hc)
    have h2 : j < cs.toList.length := (List.getElem?_eq_some_iff.1 hv).1
    rw [Array.length_toList, this] at h2
    exact h2
  rw [hL.cellAt (i * 13 + j) (by have : i * 13 + 13 ≤ n * 13 := by omega
                                 omega), flatC_get hz i j hj, hc]
  simpa using hv

set_option maxRecDepth 100000 in
set_option maxHeartbeats 1600000 in
theorem plabels_any (b : Nat) (s : ByteArray) (at_ : Nat) (en : Int) (cv ov : Value) (ls : List CmT) (css : List (Array Value)) (w : World) (h : SR w b s at_ en cv ov) (hL : w.ownsRow 0 81 13 cv ls.length (flatC css)) (hA : All2 PCmdV css ls) (h60 : ls.length ≤ 60) (hsm : ∀ t ∈ ls, t.text.size ≤ 1048576) :
    Calls Tryz.prog 47 #[.pointer (some ⟨b, 0, none⟩)] w fun e w' => ∃ mm m, e = .returned (.map (some mm)) ∧ LabM w' mm m (fun x => firstL ls x ls.length) ∧ w.heap.size ≤ mm ∧ Below w.heap.size w w' := by
  have hbl := h.lt
  have hmk := @run_makeMap Tryz.prog
  have hz : ∀ c ∈ css, c.size = 13 := fun c hc => by
    obtain ⟨i, hi, rfl⟩ := List.getElem_of_mem hc
    have hl : i < ls.length := by rw [← hA.1]; exact hi
    exact (hA.2 i _ _ (List.getElem?_eq_getElem hi) (List.getElem?_eq_getElem hl)).1
  have M0 : LabM (w.alloc (.map #[] 0)) w.heap.size 0 (fun x => firstL ls x 0) := ⟨.map [], World.ownsMap_made w _ _ _, Maps.isMap_empty, fun x hx => .inl ⟨rfl, fun z => rfl⟩⟩
  have B0 : Below w.heap.size w (w.alloc (.map #[] 0)) := (Below.refl _ w).alloc (Nat.le_refl _) _
  have h1 := h.alloc (.map #[] 0)
  obtain ⟨pl, cl, rfl, hcl⟩ := own_form hL
  have c3 := h1.c3
  have HLS := hide (And.intro hL (And.intro hA (And.intro hz hsm)))
  clear hL hA hz hsm
  go_enter Tryz.func47, Tryz.ntmps47
  go_wp2_with fail
  go_loopg [14] ls.length (fun k iv w' => ∃ (i m : Nat), iv = .int .i64 i ∧ i + k = ls.length ∧ m ≤ i ∧ LabM w' w.heap.size m (fun x => firstL ls x i) ∧ Below w.heap.size w w')
  case atStart => exact ⟨0, 0, rfl, by omega, Nat.le_refl _, M0, B0⟩
  case round =>
    obtain ⟨i, m, rfl, hik, hmi, hM, hB⟩ := hrel
    by_cases hil : i < ls.length
    · have hd : decide ((i : Int) < (ls.length : Nat)) = true := by rw [decide_eq_true_iff]; omega
      obtain ⟨hL, hA, hz, hsm⟩ := HLS.out
      obtain ⟨gl, cl', hgl, -, hgl2⟩ := hL.form (by omega)
      simp only [Value.slice.injEq] at hgl
      obtain ⟨rfl, -, rfl⟩ := hgl
      have hL2 := own_agree (w' := wr) hL (fun k hk => hB.block k (World.ownsRow.lt hL k hk).2)
      have hic : i < css.length := by rw [hA.1]; exact hil
      obtain ⟨t, ht⟩ : ∃ t, ls[i]? = some t := ⟨_, List.getElem?_eq_getElem hil⟩
      obtain ⟨cs, hcs⟩ : ∃ cs, css[i]? = some cs := ⟨_, List.getElem?_eq_getElem hic⟩
      have hV := hA.2 i cs t hcs ht
      have htx := hsm t (List.mem_of_getElem? ht)
      have hrg := flat_range hL2 hz hil hcs
      have hzc := hV.1
      have h1c := hV.2.1
      obtain ⟨d, hd1, hd2⟩ := rowCommand
      have hi1 : (Tryz.prog.info? 81).map (·.size) = some cs.toList.length := by rw [infoCommand1, Array.length_toList, hzc]
      have hi2 : (Tryz.prog.info? 81).map (·.size) = some cs.size := by rw [infoCommand1, hzc]
      have hZ := Blk.new wr #[.int .u8 0, .int .i64 0, .slice none 0 0, .bool false, .string ⟨#[]⟩, .int .i64 0, .string ⟨#[]⟩, .string ⟨#[]⟩, .int .i64 0, .string ⟨#[]⟩, .pointer none, .string ⟨#[]⟩, .string ⟨#[]⟩] 81
      have hth : (wr.alloc (.cells #[.int .u8 0, .int .i64 0, .slice none 0 0, .bool false, .string ⟨#[]⟩, .int .i64 0, .string ⟨#[]⟩, .string ⟨#[]⟩, .int .i64 0, .string ⟨#[]⟩, .pointer none, .string ⟨#[]⟩, .string ⟨#[]⟩] 81)).there wr.heap.size 0 cs.size := blk_there hZ (by rw [hzc]; rfl)
      have hC5 := setCells_all hZ cs (by rw [hzc]; rfl)
      have hK5 := setCells_kp (b := wr.heap.size) (k := wr.heap.size) (W := wr) (Nat.le_refl _) cs.toList 0 _ ((Kp.refl wr.heap.size wr).alloc (.cells #[.int .u8 0, .int .i64 0, .slice none 0 0, .bool false, .string ⟨#[]⟩, .int .i64 0, .string ⟨#[]⟩, .string ⟨#[]⟩, .int .i64 0, .string ⟨#[]⟩, .pointer none, .string ⟨#[]⟩, .string ⟨#[]⟩] 81))
      have hmlt := hM.lt
      have hM5 := hM.agree (hK5.block w.heap.size hmlt (by omega))
      have hB5 := hB.trans (below_kp hK5 (Nat.le_of_lt hmlt) (Nat.le_of_lt hmlt))
      clear hL hA hz hsm hL2
      go_upto_region 5 with (first | (refine wpList_load_mid rfl 81 _ rfl gl (i * 13) rfl cs.toList d hrg hd1 hd2 hi1 ?_; rw [Array.toArray_toList]) | (refine wpList_store_mid rfl 81 _ _ rfl wr.heap.size 0 cs rfl rfl hth hi2 h1c ?_))
      generalize hcbq : wr.heap.size = cb at *
      generalize (wr.alloc (.cells #[.int .u8 0, .int .i64 0, .slice none 0 0, .bool false, .string ⟨#[]⟩, .int .i64 0, .string ⟨#[]⟩, .string ⟨#[]⟩, .int .i64 0, .string ⟨#[]⟩, .pointer none, .string ⟨#[]⟩, .string ⟨#[]⟩] 81)).setCells cb 0 cs.toList = w5 at *
      have c6 := hC5.cell 6 hV.2.2.2.2.2
      have c0 := hC5.cell 0 hV.2.2.1
      have hlx : (labT t).size ≤ 1048576 := by
        unfold labT
        split
        · exact htx
        · decide
      have hlk := hM5.look hlx true
      have hlab : ∀ x, isLab ls x i = (decide (t.op = 58) && decide (t.text = x)) := fun x => by unfold isLab; rw [ht]
      have hstay : (∀ x, firstL ls x i = none → isLab ls x i = false) → ∀ x, firstL ls x i = firstL ls x (i + 1) := fun hq x => by
        rw [firstL]
        cases hf : firstL ls x i with
        | some j => rfl
        | none => simp [hq x hf]
      try dsimp only at hlk
      rw [if_pos rfl] at hlk
      have hw1 : IntKind.i64.wrap ((i : Int) + 1) = (i : Int) + 1 := wrapE _ (by omega) (by omega)
      have HS := hide (And.intro hlab hstay)
      clear hlab hstay hrg hi1 hi2 hth hZ hd1 hd2 h1c hK5 hC5
      by_cases o58 : t.op = 58
      · have hlt : labT t = t.text := by unfold labT; rw [if_pos (.inl o58)]
        rw [hlt] at hlk c6
        rw [o58] at c0
        cases hf : firstL ls t.text i with
        | none =>
          rw [hf] at hlk
          simp only [Option.getD_none, Option.isSome_none] at hlk
          obtain ⟨D, hown, hID, hDf⟩ := hM5
          have HD := hide (And.intro hID hDf)
          have hml : m < maxLen := by unfold maxLen; omega
          have hwf := wfInt i (by omega)
          clear hID hDf
          go_wp2_with (at_mapUpdate; refine wpList_mapUpdate_own _ rfl _ _ _ 110 rfl 9 3 keyedS Tryz.underlying110 (plainElem Tryz.prog 3) w.heap.size m D rfl hown hml (.string t.text) (.int .i64 (i : Nat)) (.string t.text.data.toList) rfl rfl (keyS htx) (.lit (.int .i64 (i : Nat))) [] (plainElem_int Tryz.underlying3 hwf) ?_; intro w7 hown7 hgrow7)
          have hM7 := LabM.put hown HD.out.1 HD.out.2 htx (show i ≤ 1048576 by omega) hown7
          go_roundg (gk - 1)
          case measure => omega
          case rel =>
            refine ⟨i + 1, m + 1, by go_num, by omega, by omega, hM7.ext (fun x => ?_), below_grown hB5 hgrow7 (fun k hk => by simp only [Option.some.injEq] at hk; omega) (Nat.le_refl _)⟩
            rw [firstL]
            by_cases hx : x = t.text
            · subst hx
              rw [hf]
              have := HS.out.1 t.text
              simp [this, o58]
            · have h9 := HS.out.1 x
              have h8 : decide (t.text = x) = false := by rw [decide_eq_false_iff_not]; exact fun e => hx e.symm
              rw [if_neg hx]
              cases hg : firstL ls x i with
              | some j => rfl
              | none => simp [h9, h8]
        | some j =>
          rw [hf] at hlk
          simp only [Option.getD_some, Option.isSome_some] at hlk
          go_wp2_with fail
          go_roundg (gk - 1)
          case measure => omega
          case rel =>
            refine ⟨i + 1, m, by go_num, by omega, by omega, hM5.ext (HS.out.2 (fun x hx => ?_)), hB5⟩
            rw [HS.out.1 x]
            have : decide (t.text = x) = false := by
              rw [decide_eq_false_iff_not]
              intro e
              rw [← e, hf] at hx
              cases hx
            rw [this]; simp
      · generalize firstL ls (labT t) i = fo at hlk
        go_wp2_with fail
        go_roundg (gk - 1)
        case measure => omega
        case rel =>
          refine ⟨i + 1, m, by go_num, by omega, by omega, hM5.ext (HS.out.2 (fun x _ => ?_)), hB5⟩
          rw [HS.out.1 x]
          simp [o58]
    · have hd : decide ((i : Int) < (ls.length : Nat)) = false := by rw [decide_eq_false_iff_not]; omega
      have : i = ls.length := by omega
      subst this
      go_wp2_with fail
      go_ret
      exact ⟨_, m, rfl, hM, Nat.le_refl _, hB⟩
end Go.Proofs.YtmjdaifalgpdnaaGreat
