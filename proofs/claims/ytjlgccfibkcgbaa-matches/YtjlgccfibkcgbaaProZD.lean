import Derived.Test.YtjlgccfibkcgbaaProZC
namespace Go.Proofs.Ytjlgccfibkcgbaa
open Go.RowKit Go.Shelf
attribute [local go_sem] Oper.semAt_some

/-- A call of yield at the wide fence, at whatever depth. -/
theorem yield_wide {m m' : Nat} {P : Program} {l : Nat} {args : Array Value} {W : World} {R : Ending → World → Prop} (h : YieldAt Fence.wide m P l args W R) : YieldAt Fence.wide m' P l args W R := by
  obtain ⟨fn, tmps, assign, body, hy, h1, h2⟩ := h
  exact ⟨fn, tmps, assign, body, hy, h1, fun c cs _ => h2 c cs (room_wide _)⟩

/-- The two blocks of a loop that waits for its next round. -/
def Waits (B : Nat) (r : LoopState → Option Code → Loop) (W : World) : Prop := W.heap[B]? = some (.deferred (some [])) ∧ W.heap[B + 1]? = some (.loop (r .ready none))
/-- .. that has been left. -/
def Left (B : Nat) (r : LoopState → Option Code → Loop) (c : Code) (W : World) : Prop := W.heap[B]? = some (.deferred (some [])) ∧ W.heap[B + 1]? = some (.loop (r .done (some c)))

/-- How a round's body is left. -/
def freePost {α : Type} (B : Nat) (Kb : World → World → Prop) (I : List α → World → Prop) (Ix : Code → List α → World → Prop) (xs : List α) (W : World) : Exit → Act → World → Prop
  | .normal, _, W' => (W'.heap[B]? = W.heap[B]? ∧ W'.heap[B + 1]? = W.heap[B + 1]?) ∧ Kb W W' ∧ I xs W'
  | .ret, _, W' => (W'.heap[B]? = W.heap[B]? ∧ W'.heap[B + 1]? = W.heap[B + 1]?) ∧ Kb W W' ∧ Ix .ret xs W'
  | .exit id, _, W' => (W'.heap[B]? = W.heap[B]? ∧ W'.heap[B + 1]? = W.heap[B + 1]?) ∧ Kb W W' ∧ Ix (.exit id) xs W'
  | .goto t, _, W' => (W'.heap[B]? = W.heap[B]? ∧ W'.heap[B + 1]? = W.heap[B + 1]?) ∧ Kb W W' ∧ Ix (.goto t) xs W'
  | .panic _, _, _ => False
  | .outgrown, _, _ => False

/-- What the iterator may count on at each call of yield. -/
def Rounds {α : Type} (m : Nat) (P : Program) (B : Nat) (r : LoopState → Option Code → Loop) (encs : α → Array Value) (Kp : World → World → Prop) (I : List α → World → Prop) (Ix : Code → List α → World → Prop) (N : Nat) : Prop :=
  ∀ pre x W, I pre W → Waits B r W → pre.length < N → YieldAt Fence.wide m P (B + 1) (encs x) W fun e W' =>
    (e = .returned (.bool true) ∧ (I (pre ++ [x]) W' ∧ Waits B r W') ∧ Kp W W') ∨ (e = .returned (.bool false) ∧ ∃ c, Ix c (pre ++ [x]) W' ∧ Left B r c W' ∧ Kp W W')

/-- A range over a function, whatever the iterator does between the rounds. -/
theorem range_free {α : Type} {n : Nat} {P : Program} {g : Operand} {ps : Array Tmp} {assign body : Code} {Q : Exit → Act → World → Prop} {a : Act} {w : World} {gf : Nat} {lb : Array Value}
    (hg : a.eval g = .func (.func gf) #[] lb) (eg : ∀ args w, (callFunc gf args).run P w = .ok (.enter gf args) w) (encs : α → Array Value) (hps : ∀ x, (encs x).size = ps.size) (N : Nat) (h1 : 1 ≤ n)
    (I : List α → World → Prop) (Ix : Code → List α → World → Prop) (Kb Kp : World → World → Prop) (S Sp : List α → Prop)
    (hI : ∀ s W r r', W.heap[w.heap.size + 1]? = some (.loop r) → I s W → I s (W.putObj (w.heap.size + 1) (.loop r'))) (hIx : ∀ c s W r r', W.heap[w.heap.size + 1]? = some (.loop r) → Ix c s W → Ix c s (W.putObj (w.heap.size + 1) (.loop r')))
    (hK : ∀ W W' o o', Kb (W.putObj (w.heap.size + 1) o) W' → Kp W (W'.putObj (w.heap.size + 1) o'))
    (a₁ : α → Act)
    (hassign : ∀ (l : Nat) (x : α) (W : World) (K : Act → World → Prop), K (a₁ x) W → assign.wpIn (Fence.wide.inRound l) (n - 1 - 1) P (Exit.then K (fun _ _ _ => False)) { tmps := (ps.zip (encs x)).foldl (fun t (p, v) => t.setIfInBounds p v) a.tmps, defers := [] } W)
    (hbody : ∀ (pre : List α) (x : α) (W : World), I pre W → (∃ r, W.heap[w.heap.size + 1]? = some (.loop r)) → W.heap[w.heap.size]? = some (.deferred (some [])) → pre.length < N → body.wpIn (Fence.wide.inRound (w.heap.size + 1)) (n - 1 - 1) P (freePost w.heap.size Kb I Ix (pre ++ [x]) W) (a₁ x) W)
    (hseq : ∀ r, Rounds (n - 1 - 1) P w.heap.size r encs Kp I Ix N → CallsIn Fence.wide (n - 1) P gf (#[.func (.yield (w.heap.size + 1)) #[] #[]] ++ lb) ((w.alloc (.deferred (some []))).alloc (.loop (r .ready none))) fun e W' =>
      (∃ v, e = .returned v) ∧ ((∃ xs, S xs ∧ I xs W' ∧ Waits w.heap.size r W') ∨ ∃ pre c, Sp pre ∧ Ix c pre W' ∧ Left w.heap.size r c W'))
    (hdone : ∀ (xs : List α) (W : World), S xs → I xs W → W.heap[w.heap.size]? = some (.deferred (some [])) → Q .normal { a with defers := { target := .collected w.heap.size, args := #[] } :: a.defers } W)
    (hstop : ∀ (c : Code) (pre : List α) (W : World), Sp pre → Ix c pre W → W.heap[w.heap.size]? = some (.deferred (some [])) → c.wpIn Fence.wide n P Q { a with defers := { target := .collected w.heap.size, args := #[] } :: a.defers } W) :
    (Code.rangeFunc g ps assign body).wpIn Fence.wide n P Q a w := by
  refine wpIn_rangeFunc fun fn _ => ?_
  have hro : Fence.wide.round = none := rfl
  rw [hro]
  let r : LoopState → Option Code → Loop := fun st pe => { state := st, pending := pe, fn, tmps := a.tmps, params := ps, assign, body, defers := w.heap.size }
  refine ⟨w.heap.size + 1, [{ target := .collected w.heap.size, args := #[] }], (w.alloc (.deferred (some []))).alloc (.loop (r .ready none)), { target := .fn (.func gf) lb, args := #[.func (.yield (w.heap.size + 1)) #[] #[]] }, (w.alloc (.deferred (some []))).alloc (.loop (r .ready none)), gf, #[.func (.yield (w.heap.size + 1)) #[] #[]] ++ lb, (w.alloc (.deferred (some []))).alloc (.loop (r .ready none)), run_enterLoop_outer fn a.tmps ps assign body, ?_, fun _ _ => trivial, ?_, fun _ => h1, ?_⟩
  · simp only [resolve, hg]
    simp [go_sem]
  · simp [invoke, go_sem, eg]
  refine (hseq r ?_).mono ?_
  · rintro pre x W hi ⟨hD, hL⟩ hlen
    have hlt : w.heap.size + 1 < W.heap.size := (Array.getElem?_eq_some_iff.1 hL).1
    refine ⟨fn, _, assign, body, run_yield (P := P) (args := encs x) hL (hps x), roundIn_of_wpIn trivial (hassign _ x W _ ⟨_, run_beginRound hL rfl, ?_⟩)⟩
    have hL2 : (W.putObj (w.heap.size + 1) (.loop { r .ready none with state := .busy })).heap[w.heap.size + 1]? = some (.loop { r .ready none with state := .busy }) := World.putObj_heap_same hlt
    have hD2 : (W.putObj (w.heap.size + 1) (.loop { r .ready none with state := .busy })).heap[w.heap.size]? = some (.deferred (some [])) := (World.putObj_heap_other (by omega)).trans hD
    refine wpIn_mono (hbody pre x _ (hI _ _ _ _ hL hi) ⟨_, hL2⟩ hD2 hlen) ?_
    have fin : ∀ (jump : Option Code) (W3 : World), W3.heap[w.heap.size]? = some (.deferred (some [])) → W3.heap[w.heap.size + 1]? = some (.loop { r .ready none with state := .busy }) →
        (Instr.endRound (w.heap.size + 1) jump).run P W3 = .ok (.bool jump.isNone) (W3.putObj (w.heap.size + 1) (.loop (r (if jump.isNone then .ready else .done) jump))) ∧
        (W3.putObj (w.heap.size + 1) (.loop (r (if jump.isNone then .ready else .done) jump))).heap[w.heap.size]? = some (.deferred (some [])) ∧
        (W3.putObj (w.heap.size + 1) (.loop (r (if jump.isNone then .ready else .done) jump))).heap[w.heap.size + 1]? = some (.loop (r (if jump.isNone then .ready else .done) jump)) := fun jump W3 hd hl =>
      ⟨run_endRound (P := P) jump hl, (World.putObj_heap_other (by omega)).trans hd, World.putObj_heap_same (Array.getElem?_eq_some_iff.1 hl).1⟩
    rintro e a3 W3 hp
    cases e with
    | normal =>
      obtain ⟨⟨k1, k2⟩, hkb, hi3⟩ := hp
      obtain ⟨hr, d4, l4⟩ := fin none W3 (k1.trans hD2) (k2.trans hL2)
      exact ⟨_, _, hr, .inl ⟨rfl, ⟨hI _ _ _ _ (k2.trans hL2) hi3, d4, l4⟩, hK _ _ _ _ hkb⟩⟩
    | ret =>
      obtain ⟨⟨k1, k2⟩, hkb, hi3⟩ := hp
      obtain ⟨hr, d4, l4⟩ := fin (some .ret) W3 (k1.trans hD2) (k2.trans hL2)
      exact ⟨_, _, hr, .inr ⟨rfl, .ret, hIx _ _ _ _ _ (k2.trans hL2) hi3, ⟨d4, l4⟩, hK _ _ _ _ hkb⟩⟩
    | exit id =>
      obtain ⟨⟨k1, k2⟩, hkb, hi3⟩ := hp
      obtain ⟨hr, d4, l4⟩ := fin (some (.exit id)) W3 (k1.trans hD2) (k2.trans hL2)
      exact ⟨_, _, hr, .inr ⟨rfl, .exit id, hIx _ _ _ _ _ (k2.trans hL2) hi3, ⟨d4, l4⟩, hK _ _ _ _ hkb⟩⟩
    | goto t =>
      obtain ⟨⟨k1, k2⟩, hkb, hi3⟩ := hp
      obtain ⟨hr, d4, l4⟩ := fin (some (.goto t)) W3 (k1.trans hD2) (k2.trans hL2)
      exact ⟨_, _, hr, .inr ⟨rfl, .goto t, hIx _ _ _ _ _ (k2.trans hL2) hi3, ⟨d4, l4⟩, hK _ _ _ _ hkb⟩⟩
    | panic ch => exact hp.elim
    | outgrown => exact hp.elim
  · rintro e W2 ⟨⟨v, rfl⟩, (⟨xs, hS, hi, hD, hL⟩ | ⟨pre, c, hSp, hi, hD, hL⟩)⟩
    · exact ⟨none, _, run_endLoop (P := P) hL (by simp [r]), hdone xs _ hS (hI _ _ _ _ hL hi) ((World.putObj_heap_other (by omega)).trans hD)⟩
    · exact ⟨some c, _, run_endLoop (P := P) hL (by simp [r]), hstop c pre _ hSp (hIx _ _ _ _ _ hL hi) ((World.putObj_heap_other (by omega)).trans hD)⟩

theorem Words.rowD {w : World} {v : Value} {ws : List Nat} (d : Nat) (h : Words w v ws) : ∃ pa cap g, v = .slice pa ws.length cap ∧ (0 < ws.length → pa = some ⟨g, 0, none⟩) ∧ (0 < ws.length → g < w.heap.size ∧ v.ownBlock = some g) ∧ (¬ 0 < ws.length → g = d) ∧ ∀ i, i < ws.length → w.cell? ⟨g, i, none⟩ = some (.int .u64 (ws.getD i 0 : Nat)) := by
  by_cases h0 : 0 < ws.length
  · obtain ⟨g, cap, rfl, hg, _⟩ := h.lay h0
    exact ⟨_, cap, g, rfl, fun _ => rfl, fun _ => ⟨hg, rfl⟩, fun h => absurd h0 h, fun i hi => h.cell hi⟩
  · obtain ⟨pa, cap, rfl⟩ := h.form
    exact ⟨pa, cap, d, rfl, fun h => absurd h h0, fun h => absurd h h0, fun _ => rfl, fun i hi => by omega⟩

/-- A range over a set's places, the greatest first. -/
theorem range_set {n : Nat} (h3 : 3 ≤ n) {g : Operand} {ps : Array Tmp} {assign body : Code} {Q : Exit → Act → World → Prop} {a : Act} {w : World} {Bs gs cap : Nat} {pa : Option Addr} {ws : List Nat} {G : Nat → Bool}
    (hg : a.eval g = .func (.func 66) #[] #[.pointer (some ⟨Bs, 0, none⟩)]) (hps : 1 = ps.size) (hG : HoldsP ws G) (hlen : ws.length ≤ 1000) (hpa : 0 < ws.length → pa = some ⟨gs, 0, none⟩) (hgs : gs < w.heap.size) (hBl : Bs < w.heap.size)
    (hBs : w.cell? ⟨Bs, 0, none⟩ = some (.slice pa ws.length cap)) (hc : ∀ i, i < ws.length → w.cell? ⟨gs, i, none⟩ = some (.int .u64 (ws.getD i 0 : Nat)))
    (I : List (InSet G) → World → Prop) (Ix : Code → List (InSet G) → World → Prop)
    (hI : ∀ s W r r', W.heap[w.heap.size + 1]? = some (.loop r) → I s W → I s (W.putObj (w.heap.size + 1) (.loop r'))) (hIx : ∀ c s W r r', W.heap[w.heap.size + 1]? = some (.loop r) → Ix c s W → Ix c s (W.putObj (w.heap.size + 1) (.loop r')))
    (h0 : ∀ r, I [] ((w.alloc (.deferred (some []))).alloc (.loop r)))
    (a₁ : InSet G → Act)
    (hassign : ∀ (l : Nat) (x : InSet G) (W : World) (K : Act → World → Prop), K (a₁ x) W → assign.wpIn (Fence.wide.inRound l) (n - 1 - 1) Try.prog (Exit.then K (fun _ _ _ => False)) { tmps := (ps.zip #[Value.int .i64 (x.1 : Nat)]).foldl (fun t (p, v) => t.setIfInBounds p v) a.tmps, defers := [] } W)
    (hbody : ∀ (pre : List (InSet G)) (x : InSet G) (W : World), I pre W → (∃ r, W.heap[w.heap.size + 1]? = some (.loop r)) → W.heap[w.heap.size]? = some (.deferred (some [])) → pre.length < 64 * ws.length → body.wpIn (Fence.wide.inRound (w.heap.size + 1)) (n - 1 - 1) Try.prog (freePost w.heap.size (Keep2 gs Bs) I Ix (pre ++ [x]) W) (a₁ x) W)
    (hdone : ∀ (xs : List (InSet G)) (W : World), xs.map (·.1) = down G (64 * ws.length) → I xs W → W.heap[w.heap.size]? = some (.deferred (some [])) → Q .normal { a with defers := { target := .collected w.heap.size, args := #[] } :: a.defers } W)
    (hstop : ∀ (c : Code) (pre : List (InSet G)) (W : World), pre.map (·.1) <+: down G (64 * ws.length) → Ix c pre W → W.heap[w.heap.size]? = some (.deferred (some [])) → c.wpIn Fence.wide n Try.prog Q { a with defers := { target := .collected w.heap.size, args := #[] } :: a.defers } W) :
    (Code.rangeFunc g ps assign body).wpIn Fence.wide n Try.prog Q a w := by
  refine range_free hg (enters_of Try.func66 (by kernel_rfl) rfl) (fun x : InSet G => #[Value.int .i64 (x.1 : Nat)]) (fun _ => hps) (64 * ws.length) (by omega) I Ix (Keep2 gs Bs) (Keep2 gs Bs) (fun xs => xs.map (·.1) = down G (64 * ws.length)) (fun pre => pre.map (·.1) <+: down G (64 * ws.length)) hI hIx ?_ a₁ hassign hbody ?_ hdone hstop
  · rintro W W' o o' ⟨h1, h2⟩
    rw [World.putObj_heap_other (by omega)] at h1 h2
    exact ⟨(World.putObj_heap_other (by omega)).trans h1, (World.putObj_heap_other (by omega)).trans h2⟩
  · intro r hR
    have hb : Below w.heap.size w ((w.alloc (.deferred (some []))).alloc (.loop (r .ready none))) := ((Below.refl _ w).alloc (Nat.le_refl _) _).alloc (by simp) _
    refine (lf1_in Fence.wide (n - 1) trivial trivial (fun x w h1 h2 => len64_wide _ x w h1 h2) rfl (by omega) (w.heap.size + 1) Bs gs cap pa ws G hG hlen hpa (Keep2 gs Bs) (fun _ _ h => h.cells)
      (fun zs W => ∃ ys : List (InSet G), ys.map (·.1) = zs ∧ I ys W ∧ Waits w.heap.size r W) (fun zs W => ∃ (ys : List (InSet G)) (c : Code), ys.map (·.1) = zs ∧ Ix c ys W ∧ Left w.heap.size r c W) ?_ _ ((hb.cell (p := ⟨Bs, 0, none⟩) hBl).trans hBs) (fun i hi => (hb.cell (p := ⟨gs, i, none⟩) hgs).trans (hc i hi)) ⟨[], rfl, h0 _, ?_⟩).mono ?_
    · rintro pre x W1 ⟨ys, rfl, hJ, hWt⟩ hx hlt
      obtain ⟨fn, tmps, assign, body, hy, hRd⟩ := hR ys ⟨x, hx⟩ W1 hJ hWt (by simpa using hlt)
      refine ⟨fn, tmps, assign, body, hy, hRd.mono ?_⟩
      rintro e W' (⟨rfl, ⟨h1, h2⟩, h3⟩ | ⟨rfl, c, h1, h2, _⟩)
      · exact .inl ⟨rfl, ⟨_, by simp, h1, h2⟩, h3⟩
      · exact .inr ⟨rfl, ⟨_, c, by simp, h1, h2⟩⟩
    · refine ⟨?_, ?_⟩
      · exact (Below.heap_alloc _ _ _ (by simp)).trans (World.alloc_heap_new w _)
      · have := World.alloc_heap_new (w.alloc (.deferred (some []))) (.loop (r .ready none)); rwa [World.size_alloc] at this
    · rintro e W' ⟨hv, ⟨ys, hys, hJ, hWt⟩ | ⟨pre, hpre, ys, c, hys, hJ, hL⟩⟩
      · exact ⟨hv, .inl ⟨ys, hys, hJ, hWt⟩⟩
      · exact ⟨hv, .inr ⟨ys, c, (show ys.map (·.1) <+: _ by rw [hys]; exact hpre), hJ, hL⟩⟩

end Go.Proofs.Ytjlgccfibkcgbaa
