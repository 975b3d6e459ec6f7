import Derived.Test.YtpnecblofjpgfaaGreatScrL
import Derived.Great.BuildSlice
import Derived.Deep.AppendLies
namespace Go.Proofs.YtpnecblofjpgfaaGreat
open Go.RowKit

/-- Two lists, member by member. -/
def All2 {α β : Type} (R : α → β → Prop) (xs : List α) (ys : List β) : Prop := xs.length = ys.length ∧ ∀ (i : Nat) (x : α) (y : β), xs[i]? = some x → ys[i]? = some y → R x y
theorem All2.nil {α β : Type} {R : α → β → Prop} : All2 R [] [] := ⟨rfl, fun i x y h => by simp at h⟩
theorem All2.snoc {α β : Type} {R : α → β → Prop} {xs : List α} {ys : List β} {x : α} {y : β} (h : All2 R xs ys) (k : R x y) : All2 R (xs ++ [x]) (ys ++ [y]) := by
  refine ⟨by simp [h.1], fun i a b ha hb => ?_⟩
  by_cases hi : i < xs.length
  · rw [List.getElem?_append_left hi] at ha
    rw [List.getElem?_append_left (by rw [← h.1]; exact hi)] at hb
    exact h.2 i a b ha hb
  · rw [List.getElem?_append_right (by omega)] at ha
    rw [List.getElem?_append_right (by rw [← h.1]; omega), ← h.1] at hb
    cases hj : i - xs.length with
    | zero => rw [hj] at ha hb; simp at ha hb; subst ha; subst hb; exact k
    | succ j => rw [hj] at ha; simp at ha
theorem All2.modify {α β : Type} {R : α → β → Prop} {xs : List α} {ys : List β} (h : All2 R xs ys) (j : Nat) (f : α → α) (hf : ∀ x y, R x y → R (f x) y) : All2 R (xs.modify j f) ys := by
  refine ⟨by simp [h.1], fun i a b ha hb => ?_⟩
  rw [List.getElem?_modify] at ha
  cases hx : xs[i]? with
  | none => rw [hx] at ha; cases ha
  | some x =>
    rw [hx] at ha
    have := h.2 i x b hx hb
    simp at ha
    subst ha
    split
    · exact hf _ _ this
    · exact this

/-- Rows of cells, one behind the other. -/
def flatC (css : List (Array Value)) : List Value := css.flatMap Array.toList
theorem flatC_snoc (css : List (Array Value)) (c : Array Value) : flatC (css ++ [c]) = flatC css ++ c.toList := by simp [flatC]
theorem flatC_len {m : Nat} : ∀ {css : List (Array Value)}, (∀ c ∈ css, c.size = m) → (flatC css).length = css.length * m
  | [], _ => by simp [flatC]
  | c :: css, h => by
    have h1 := flatC_len (css := css) (fun d hd => h d (List.mem_cons_of_mem _ hd))
    have h2 := h c List.mem_cons_self
    have e : flatC (c :: css) = c.toList ++ flatC css := rfl
    rw [e, List.length_append, h1, Array.length_toList, h2, List.length_cons, Nat.add_mul]
    omega
theorem flatC_get {m : Nat} : ∀ {css : List (Array Value)}, (∀ c ∈ css, c.size = m) → ∀ (i o : Nat), o < m → (flatC css)[i * m + o]? = (css[i]?).bind (·[o]?)
  | [], _, i, o, _ => by simp [flatC]
  | c :: css, h, 0, o, ho => by
    have h2 := h c List.mem_cons_self
    have e : flatC (c :: css) = c.toList ++ flatC css := rfl
    rw [e, Nat.zero_mul, Nat.zero_add, List.getElem?_append_left (by rw [Array.length_toList, h2]; exact ho)]
    simp
  | c :: css, h, i + 1, o, ho => by
    have h1 := flatC_get (css := css) (fun d hd => h d (List.mem_cons_of_mem _ hd)) i o ho
    have h2 := h c List.mem_cons_self
    have e : flatC (c :: css) = c.toList ++ flatC css := rfl
    have e2 : (i + 1) * m = i * m + m := by rw [Nat.add_mul, Nat.one_mul]
    rw [e, e2, List.getElem?_append_right (by rw [Array.length_toList, h2]; omega), Array.length_toList, h2]
    have e3 : i * m + m + o - m = i * m + o := by omega
    rw [e3, h1]
    simp
theorem flatC_set {m : Nat} : ∀ {css : List (Array Value)}, (∀ c ∈ css, c.size = m) → ∀ (i o : Nat) (v : Value), o < m → (flatC css).set (i * m + o) v = flatC (css.modify i (·.setIfInBounds o v))
  | [], _, i, o, v, _ => by simp [flatC]
  | c :: css, h, 0, o, v, ho => by
    have h2 := h c List.mem_cons_self
    have e : flatC (c :: css) = c.toList ++ flatC css := rfl
    rw [e, Nat.zero_mul, Nat.zero_add, List.set_append_left _ _ (by rw [Array.length_toList, h2]; exact ho)]
    simp [flatC]
  | c :: css, h, i + 1, o, v, ho => by
    have h1 := flatC_set (css := css) (fun d hd => h d (List.mem_cons_of_mem _ hd)) i o v ho
    have h2 := h c List.mem_cons_self
    have e : flatC (c :: css) = c.toList ++ flatC css := rfl
    have e2 : (i + 1) * m = i * m + m := by rw [Nat.add_mul, Nat.one_mul]
    rw [e, e2, List.set_append_right _ _ (by rw [Array.length_toList, h2]; omega), Array.length_toList, h2]
    have e3 : i * m + m + o - m = i * m + o := by omega
    rw [e3, h1]
    simp [flatC]

theorem own_ne {w : World} {b1 b2 s1 s2 n1 n2 k : Nat} {e1 e2 : TypeId} {v1 v2 : Value} {x1 x2 : List Value} (h1 : w.ownsRow b1 e1 s1 v1 n1 x1) (h2 : w.ownsRow b2 e2 s2 v2 n2 x2) (hne : e1 ≠ e2) (hk : v1.ownBlock = some k) : v2.ownBlock ≠ some k := by
  intro hk2
  rcases h1.2 with ⟨rfl, _⟩ | ⟨g1, c1, u1, rfl, _, hg1, _⟩
  · cases hk
  rcases h2.2 with ⟨rfl, _⟩ | ⟨g2, c2, u2, rfl, _, hg2, _⟩
  · cases hk2
  simp only [Value.ownBlock, Option.some.injEq] at hk hk2
  subst hk; subst hk2
  rw [hg1] at hg2
  simp only [Option.some.injEq, Obj.cells.injEq] at hg2
  exact hne hg2.2.1
theorem own_form {w : World} {base size n : Nat} {e : TypeId} {v : Value} {xs : List Value} (h : w.ownsRow base e size v n xs) : ∃ pa cap, v = .slice pa n cap ∧ n ≤ cap := by
  rcases h.2 with ⟨h1, h2⟩ | ⟨g, cap, cur, h1, _, _, h3, _⟩
  · exact ⟨none, 0, by rw [h1, h2], by omega⟩
  · exact ⟨_, _, h1, h3⟩

/-- One struct as a slice literal. -/
theorem build_one {t e : TypeId} {m : Nat} (hu : Tryz.prog.underlying t = some (.slice e)) (hi : ∃ ie z, Tryz.prog.info? e = some ie ∧ ie.zero = some z ∧ ie.size = m ∧ z.cells.size = m) (hm : 0 < m) (hm2 : m ≤ 1000) {cs : Array Value} (hc : cs.size = m) (w : World) :
    (Instr.buildSlice t 1 #[(0, .agg cs)]).run Tryz.prog w = .ok (.slice (some ⟨w.heap.size, 0, none⟩) 1 1) (w.alloc (.cells cs e)) := by
  obtain ⟨ie, z, h1, h2, h3, h4⟩ := hi
  refine run_buildSlice w t e 1 _ cs ie z hu h1 h2 (by rw [h3]; omega) (by rw [h3]; omega) ?_
  have := Great.fill_whole (s := m) hm [Value.agg cs] ((Array.range (1 * m)).map (z.cells[· % z.cells.size]!)) (by intro v hv; simp at hv; subst hv; exact hc) (by simp)
  rw [h3]
  simpa [Value.cells] using this
theorem infoCmdF : (Tryz.prog.info? 51).map (fun i => (i.zero, i.size, i.bytes)) = some (some (.agg zeroC), 31, 312) := by kernel_rfl
theorem infoCmd4 : ∃ ie z, Tryz.prog.info? 51 = some ie ∧ ie.zero = some z ∧ ie.size = 31 ∧ z.cells.size = 31 := by
  obtain ⟨i0, h1, h2, h3, h4⟩ := info_parts infoCmdF
  exact ⟨i0, _, h1, h2, h3, rfl⟩

theorem CmdV.set30 {cs : Array Value} {t : CmT} (h : CmdV cs t) {v : Value} (hv : v.oneCell' = true) : CmdV (cs.setIfInBounds 30 v) t := by
  obtain ⟨h1, h2, h3, h4, h5, h6, A, B, nt, f, h7, h8⟩ := h
  refine ⟨by simp [h1], one_set h2 30 hv, ?_, ?_, ?_, ?_, A, B, nt, f, ⟨?_, ?_, ?_, ?_, ?_, ?_, ?_, h7.rv.set 30 (by omega) v⟩, h8⟩
  · rw [Array.getElem?_setIfInBounds_ne (by omega)]; exact h3
  · rw [Array.getElem?_setIfInBounds_ne (by omega)]; exact h4
  · rw [Array.getElem?_setIfInBounds_ne (by omega)]; exact h5
  · rw [Array.getElem?_setIfInBounds_ne (by omega)]; exact h6
  · exact get_ne 30 _ h7.e2 (by omega)
  · exact get_ne 30 _ h7.e3 (by omega)
  · exact get_ne 30 _ h7.e8 (by omega)
  · exact get_ne 30 _ h7.e9 (by omega)
  · exact get_ne 30 _ h7.e10 (by omega)
  · exact get_ne 30 _ h7.e15 (by omega)
  · exact get_ne 30 _ h7.e16 (by omega)
end Go.Proofs.YtpnecblofjpgfaaGreat
