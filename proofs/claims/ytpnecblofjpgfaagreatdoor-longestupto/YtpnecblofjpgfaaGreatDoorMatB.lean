import Derived.Test.YtpnecblofjpgfaaGreatDoorProB
import Derived.Test.YtpnecblofjpgfaaGreatDoorSetA
import Derived.Laws.OwnMore
import Derived.Laws.BitsAllLaws
import Derived.Lib.SliceRun
import Derived.Lib.Walk
namespace Go.Proofs.YtpnecblofjpgfaaGreatDoor
open Go.RowKit

/-- The cells of m words. -/
def wcells (m : Nat) (W : Nat → Nat) : List Value := (List.range m).map fun j => Value.int .u64 (W j : Nat)
theorem wcells_len (m : Nat) (W : Nat → Nat) : (wcells m W).length = m := by simp [wcells]
theorem wcells_get {m : Nat} {W : Nat → Nat} {j : Nat} (h : j < m) : (wcells m W)[j]? = some (.int .u64 (W j : Nat)) := by
  simp [wcells, List.getElem?_map, List.getElem?_range h]
theorem wcells_out {m : Nat} {W : Nat → Nat} {j : Nat} {v : Value} (h : (wcells m W)[j]? = some v) : j < m ∧ v = .int .u64 (W j : Nat) := by
  have hl := (List.getElem?_eq_some_iff.1 h).1
  rw [wcells_len] at hl
  rw [wcells_get hl] at h
  exact ⟨hl, (Option.some.inj h).symm⟩
theorem wcells_congr {m : Nat} {W V : Nat → Nat} (h : ∀ j, j < m → W j = V j) : wcells m W = wcells m V := by
  apply List.ext_getElem?
  intro j
  by_cases hj : j < m
  · rw [wcells_get hj, wcells_get hj, h j hj]
  · rw [List.getElem?_eq_none (by rw [wcells_len]; omega), List.getElem?_eq_none (by rw [wcells_len]; omega)]
theorem wcells_set (m : Nat) (W : Nat → Nat) (j x : Nat) : (wcells m W).set j (.int .u64 (x : Nat)) = wcells m (putW W j x) := by
  apply List.ext_getElem?
  intro i
  rw [List.getElem?_set]
  by_cases hi : i < m
  · rw [wcells_get (W := putW W j x) hi, wcells_len]
    by_cases hj : j = i
    · subst hj; rw [if_pos rfl, if_pos hi, putW, if_pos rfl]
    · rw [if_neg hj, wcells_get hi, putW, if_neg (fun e => hj (Eq.symm e))]
  · rw [List.getElem?_eq_none (l := wcells m (putW W j x)) (by rw [wcells_len]; omega)]
    split
    · next hj => subst hj; rw [wcells_len, if_neg hi]
    · exact List.getElem?_eq_none (by rw [wcells_len]; omega)

/-- m words in memory. -/
def WordsP (w : World) (v : Value) (m : Nat) (W : Nat → Nat) : Prop := w.ownsRow 0 88 1 v m (wcells m W)

section
variable {w w' : World} {v : Value} {m : Nat} {W V : Nat → Nat} {g cap : Nat}
theorem WordsP.lay (h : WordsP w v m W) (hm : 0 < m) : ∃ g cap, v = .slice (some ⟨g, 0, none⟩) m cap ∧ g < w.heap.size ∧ m ≤ cap := by
  rcases h.2 with ⟨_, h2⟩ | ⟨g, cap, cur, h1, _, hg, hle, _⟩
  · omega
  · exact ⟨g, cap, h1, (Array.getElem?_eq_some_iff.1 hg).1, hle⟩
theorem WordsP.cell (h : WordsP w (.slice (some ⟨g, 0, none⟩) m cap) m W) {j : Nat} (hj : j < m) : w.cell? ⟨g, j, none⟩ = some (.int .u64 (W j : Nat)) := by
  rw [World.ownsRow.cellAt h j (by omega), wcells_get hj]
theorem WordsP.fz (h : WordsP w (.slice (some ⟨g, 0, none⟩) m cap) m W) (j : Nat) : w.frozen? ⟨g, j, none⟩ = false := World.ownsRow.frozenAt h j
theorem WordsP.put (h : WordsP w (.slice (some ⟨g, 0, none⟩) m cap) m W) (j x : Nat) : WordsP (w.setCell ⟨g, j, none⟩ (.int .u64 (x : Nat))) (.slice (some ⟨g, 0, none⟩) m cap) m (putW W j x) := by
  have := (World.ownsRow.stored h j (.int .u64 (x : Nat))).1
  unfold WordsP
  rw [← wcells_set]
  exact this
theorem WordsP.agree (h : WordsP w v m W) (hk : ∀ k, v.ownBlock = some k → w'.heap[k]? = w.heap[k]?) : WordsP w' v m W := by
  refine ⟨h.1, ?_⟩
  rcases h.2 with hn | ⟨g, cap, cur, rfl, h0, hg, rest⟩
  · exact .inl hn
  · exact .inr ⟨g, cap, cur, rfl, h0, by rw [hk g rfl]; exact hg, rest⟩
theorem WordsP.lt (h : WordsP w v m W) : ∀ k, v.ownBlock = some k → k < w.heap.size := fun k hk => (World.ownsRow.lt h k hk).2
theorem WordsP.below (h : WordsP w v m W) (hb : Below w.heap.size w w') : WordsP w' v m W := h.agree fun k hk => hb.block k (h.lt k hk)
theorem WordsP.alloc (h : WordsP w v m W) (o : Obj) : WordsP (w.alloc o) v m W := World.ownsRow.alloc h o
theorem WordsP.other (h : WordsP w v m W) {p : Addr} (hp : v.ownBlock ≠ some p.block) (u : Value) : WordsP (w.setCell p u) v m W :=
  h.agree fun k hk => Below.heap_setCell _ _ _ _ (fun e => hp (by rw [← e]; exact hk))
theorem WordsP.congr (h : WordsP w v m W) (e : ∀ j, j < m → W j = V j) : WordsP w v m V := by unfold WordsP at *; rw [← wcells_congr e]; exact h
theorem WordsP.typed (h : WordsP w v m W) : ∀ k, v.ownBlock = some k → ∃ c, w.heap[k]? = some (.cells c 88) := by
  rcases h.2 with ⟨rfl, _⟩ | ⟨g, cap, cur, rfl, h0, hg, rest⟩
  · intro k hk; cases hk
  · intro k hk
    simp only [Value.ownBlock, Option.some.injEq] at hk
    subst hk
    exact ⟨_, hg⟩
end

noncomputable def i64info : TypeInfo := (Tryz.prog.info? 88).get (by kernel_rfl)
theorem i64at : Tryz.prog.info? 88 = some i64info := by kernel_rfl
theorem i64zero : i64info.zero = some (.int .u64 0) := by kernel_rfl
theorem i64size : i64info.size = 1 := by kernel_rfl
theorem i64bytes : i64info.bytes = 8 := by kernel_rfl

set_option maxRecDepth 100000 in
set_option maxHeartbeats 1000000 in
/-- slices.Clone. -/
theorem clone_any (w : World) (v : Value) (m : Nat) (W : Nat → Nat) (hm : 0 < m) (hm2 : m ≤ 1048576) (h : WordsP w v m W) :
    Calls Tryz.prog 57 #[v] w fun e w' => ∃ v', e = .returned v' ∧ WordsP w' v' m W ∧ Below w.heap.size w w' ∧ ∀ k, v'.ownBlock = some k → w.heap.size ≤ k := by
  obtain ⟨g, cap, rfl, hg, hcap⟩ := h.lay hm
  have q22 : ∀ (w : World) (a : Option Addr) (n c n' c' : Nat), (binOp .eql 66 (.slice a n c) (.slice none n' c')).run Tryz.prog w = .ok (.bool a.isNone) w := fun w a n c n' c' => Lib.run_eql_slice_nil w _ _ a n c n' c' Tryz.underlying66
  have HW := hide h
  clear h
  go_enter Tryz.func57, Tryz.ntmps57
  go_wp2_with (at_builtin; refine wpList_append_own _ rfl _ _ 66 rfl w.heap.size 88 i64info (.int .u64 0) 1 8 Tryz.underlying66 i64at i64zero i64size i64bytes rfl (by omega) _ _ _ rfl (World.ownsRow_made w #[] 0 (Nat.le_refl _) (Nat.zero_le _) (by simp)) ⟨g, 0, none⟩ m cap (wcells m W) rfl ?qc1 ?qc2 ?qc3 ?qc4 ?qc5 ?qc6 ?_)
  case qc1 => rw [wcells_len, Nat.mul_one]
  case qc2 =>
    intro j u hj
    obtain ⟨hl, rfl⟩ := wcells_out hj
    rw [Addr.add_lit, Nat.zero_add]
    exact Lib.cell?_alloc_some _ (HW.out.cell hl)
  case qc3 =>
    intro u hu
    obtain ⟨j, hj⟩ := List.mem_iff_getElem?.1 hu
    obtain ⟨_, rfl⟩ := wcells_out hj
    rfl
  case qc4 => unfold maxLen; omega
  case qc5 => omega
  case qc6 => simp
  intro v' w1 hown hgrow hnil
  go_wp2
  go_ret
  have ho : w1.ownsRow w.heap.size 88 1 v' m (wcells m W) := by simpa using hown
  refine ⟨v', rfl, ⟨ho.1, ?_⟩, ?_, fun k hk => (World.ownsRow.lt ho k hk).1⟩
  · rcases ho.2 with hn | ⟨g, cap, cur, h1, h2, h3⟩
    · exact .inl hn
    · exact .inr ⟨g, cap, cur, h1, Nat.zero_le _, h3⟩
  · exact ((Below.refl _ w).alloc (Nat.le_refl _) _).grown hgrow (by simp) (by intro k hk; simp [Value.ownBlock] at hk; omega)

end Go.Proofs.YtpnecblofjpgfaaGreatDoor
