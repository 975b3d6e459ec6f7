import Derived.Test.YtpnecblofjpgfaaGreatPscM
import Derived.Maps.Own
import Derived.Maps.OwnOps
import Derived.Maps.Views
namespace Go.Proofs.YtpnecblofjpgfaaGreat
open Go.RowKit

/-- Is command i the place of the label x? -/
def isLab (l : List CmT) (x : ByteArray) (i : Nat) : Bool := match l[i]? with | some t => decide (t.op = 58) && decide (t.text = x) | none => false
/-- The first of k commands that is the place of the label x. -/
def firstL (l : List CmT) (x : ByteArray) : Nat → Option Nat
  | 0 => none
  | k + 1 => match firstL l x k with | some i => some i | none => if isLab l x k then some k else none

theorem firstL_up {l : List CmT} {x : ByteArray} {k i : Nat} (h : firstL l x k = some i) : ∀ m, k ≤ m → firstL l x m = some i
  | m, hm => by
    induction m with
    | zero => have : k = 0 := by omega
              subst this; exact h
    | succ m ih =>
      by_cases hk : k = m + 1
      · subst hk; exact h
      · rw [firstL, ih (by omega)]
theorem firstL_lt {l : List CmT} {x : ByteArray} : ∀ {k i : Nat}, firstL l x k = some i → i < k ∧ isLab l x i = true
  | 0, i, h => by cases h
  | k + 1, i, h => by
    rw [firstL] at h
    cases hf : firstL l x k with
    | some j =>
      rw [hf] at h
      simp only [Option.some.injEq] at h
      subst h
      have := firstL_lt hf
      exact ⟨by omega, this.2⟩
    | none =>
      rw [hf] at h
      dsimp only at h
      split at h
      · next hc =>
        simp only [Option.some.injEq] at h
        subst h
        exact ⟨by omega, hc⟩
      · cases h
theorem firstL_hit {l : List CmT} {x : ByteArray} {i : Nat} (h : isLab l x i = true) : ∃ j, firstL l x (i + 1) = some j ∧ j ≤ i := by
  rw [firstL]
  cases hf : firstL l x i with
  | some j => exact ⟨j, rfl, by have := (firstL_lt hf).1; omega⟩
  | none => exact ⟨i, by simp [h], Nat.le_refl _⟩

/-- Is the label of command i there twice, or not there? -/
def lostB (l : List CmT) (t : CmT) (i : Nat) : Bool := (decide (t.op = 58) && decide (firstL l t.text l.length ≠ some i)) || ((decide (t.op = 98) || decide (t.op = 116)) && decide (t.text.size ≠ 0) && decide (firstL l t.text l.length = none))
/-- The place of the first such command, from i on. -/
def lostS (l : List CmT) : Nat → Nat → Option Nat
  | 0, _ => none
  | k + 1, i => match l[i]? with | some t => if lostB l t i then some t.pos else lostS l k (i + 1) | none => none

/-- A map of labels in memory. -/
def LabM (w : World) (mm m : Nat) (f : ByteArray → Option Nat) : Prop := ∃ D : DataW Value, w.ownsMap Tryz.prog 9 (plainElem Tryz.prog 3) mm m D ∧ Maps.IsMap D ∧ ∀ x : ByteArray, x.size ≤ 1048576 → ((f x = none ∧ ∀ z, D.atKey (.string x.data.toList) z = z) ∨ ∃ v : Nat, f x = some v ∧ v ≤ 1048576 ∧ ∀ z, D.atKey (.string x.data.toList) z = .lit (.int .i64 (v : Nat)))

theorem keyedS : Maps.Keyed Tryz.prog 9 := Maps.string_keyed Tryz.underlying9
theorem keyS {x : ByteArray} (h : x.size ≤ 1048576) : keyOf Tryz.prog 9 (.string x) = some (.string x.data.toList) := WideMaps.keyOf_string_mk Tryz.underlying9 (by unfold maxLen; omega)
theorem zeroInt (w : World) : (zeroValue 3).run Tryz.prog w = .ok (.int .i64 0) w := by
  obtain ⟨i0, h0, h1, h2, h3⟩ := info_parts infoInt
  simp [zeroValue, typeInfo, h0, h1]
theorem LabM.look {w : World} {mm m : Nat} {f : ByteArray → Option Nat} (h : LabM w mm m f) {x : ByteArray} (hx : x.size ≤ 1048576) (c : Bool) :
    (Instr.lookup 88 (.map (some mm)) (.string x) c).run Tryz.prog w = .ok (if c then .tuple #[.int .i64 ((f x).getD 0 : Nat), .bool (f x).isSome] else .int .i64 ((f x).getD 0 : Nat)) w := by
  obtain ⟨D, ⟨es, clock, hb, F, hs, rfl⟩, hm, hf⟩ := h
  rcases Maps.fit_look c keyedS Tryz.underlying88 (zeroInt w) hb F (keyS hx) with ⟨hrun, _, hat⟩ | ⟨e0, y, _, _, hrun, hRv, hat, _⟩
  · rcases hf x hx with ⟨h1, _⟩ | ⟨v, _, _, h2⟩
    · rw [h1, hrun]; rfl
    · have := (hat .nil).symm.trans (h2 .nil)
      cases this
  · obtain ⟨a, e1, e2, _⟩ := plainElem_int_inv Tryz.underlying3 hRv
    rcases hf x hx with ⟨_, h2⟩ | ⟨v, h1, _, h2⟩
    · have := (hat .nil).symm.trans (h2 .nil)
      rw [e2] at this
      cases this
    · have := (hat .nil).symm.trans (h2 .nil)
      rw [e2] at this
      simp only [DataW.lit.injEq, Lit.int.injEq, true_and] at this
      rw [h1, hrun, e1, this]
      rfl
theorem LabM.agree {w w' : World} {mm m : Nat} {f : ByteArray → Option Nat} (h : LabM w mm m f) (hk : w'.heap[mm]? = w.heap[mm]?) : LabM w' mm m f := by
  obtain ⟨D, ⟨es, clock, hb, rest⟩, hf⟩ := h
  exact ⟨D, ⟨es, clock, by rw [hk]; exact hb, rest⟩, hf⟩
theorem LabM.lt {w : World} {mm m : Nat} {f : ByteArray → Option Nat} (h : LabM w mm m f) : mm < w.heap.size := by
  obtain ⟨D, ho, _⟩ := h
  exact ho.lt
theorem LabM.not_cells {w : World} {mm m : Nat} {f : ByteArray → Option Nat} (h : LabM w mm m f) {k : Nat} {c : Array Value} {t : TypeId} {r : Nat × Nat} (hk : w.heap[k]? = some (.cells c t r)) : k ≠ mm := by
  obtain ⟨D, ⟨es, clock, hb, _⟩, _⟩ := h
  rintro rfl
  rw [hb] at hk; cases hk
theorem LabM.ext {w : World} {mm m : Nat} {f g : ByteArray → Option Nat} (h : LabM w mm m f) (e : ∀ x, f x = g x) : LabM w mm m g := by
  obtain ⟨D, h1, h2, h3⟩ := h
  exact ⟨D, h1, h2, fun x hx => by rw [← e x]; exact h3 x hx⟩
theorem LabM.put {w w' : World} {mm m : Nat} {f : ByteArray → Option Nat} {D : DataW Value} (_h1 : w.ownsMap Tryz.prog 9 (plainElem Tryz.prog 3) mm m D) (h2 : Maps.IsMap D) (h3 : ∀ x : ByteArray, x.size ≤ 1048576 → ((f x = none ∧ ∀ z, D.atKey (.string x.data.toList) z = z) ∨ ∃ v : Nat, f x = some v ∧ v ≤ 1048576 ∧ ∀ z, D.atKey (.string x.data.toList) z = .lit (.int .i64 (v : Nat))))
    {x : ByteArray} (hx : x.size ≤ 1048576) {v : Nat} (hv : v ≤ 1048576) (hown : w'.ownsMap Tryz.prog 9 (plainElem Tryz.prog 3) mm (m + 1) (D.put (.string x.data.toList) (.lit (.int .i64 (v : Nat))))) : LabM w' mm (m + 1) (fun y => if y = x then some v else f y) := by
  refine ⟨_, hown, h2.put _ _, fun y hy => ?_⟩
  by_cases e : y = x
  · subst e
    right
    refine ⟨v, by simp, hv, fun z => Maps.atKey_put_same h2 (keyedS.key (keyS hx)) _ z⟩
  · have hne : (Lit.string y.data.toList) ≠ .string x.data.toList := by
      intro he
      simp only [Lit.string.injEq] at he
      apply e
      apply ByteArray.ext
      rw [← Array.toArray_toList (xs := y.data), he, Array.toArray_toList]
    simp only [e, if_false]
    rcases h3 y hy with ⟨g1, g2⟩ | ⟨u, g1, g2, g3⟩
    · exact .inl ⟨g1, fun z => (Maps.atKey_put_other hne _ z).trans (g2 z)⟩
    · exact .inr ⟨u, g1, g2, fun z => (Maps.atKey_put_other hne _ z).trans (g3 z)⟩
end Go.Proofs.YtpnecblofjpgfaaGreat
