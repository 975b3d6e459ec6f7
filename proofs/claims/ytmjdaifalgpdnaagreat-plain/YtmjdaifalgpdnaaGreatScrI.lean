import Derived.Test.YtmjdaifalgpdnaaGreatScrH
import Derived.Deep.MidRow
namespace Go.Proofs.YtmjdaifalgpdnaaGreat
open Go.RowKit

theorem infoCmd : (Tryz.prog.info? 62).map (·.size) = some 31 := by kernel_rfl
theorem rowCmd : ∃ d, Tryz.prog.underlying 62 = some d ∧ d.isRow = true := ⟨_, Tryz.underlying62, rfl⟩

/-- A command that is handed back out of its variable. -/
theorem ret_cmd {fn : Func} {p : Tmp} (hres : fn.results = #[.cell p 62]) {w : World} {k : Nat} {cs : Array Value} {tmps : Array Value} (ht : tmps.getD p undef = .pointer (some ⟨k, 0, none⟩)) (h : Blk w k cs 62) (hz : cs.size = 31) :
    (results fn tmps).run Tryz.prog w = .ok (.agg cs) w := by
  obtain ⟨d, hd1, hd2⟩ := rowCmd
  have hl := run_loadVar_mid (P := Tryz.prog) w k 0 62 cs.toList d (fun j v hv => by
    rw [Nat.zero_add, cell_of_row w k j cs 62 (0, 0) h]
    simpa using hv) hd1 hd2 (by rw [infoCmd, Array.length_toList, hz])
  have ht' : tmps[p]?.getD undef = .pointer (some ⟨k, 0, none⟩) := by simpa using ht
  rw [Array.toArray_toList] at hl
  simp [results, hres, ht', asAddr, hl]

theorem setCells_blk {k : Nat} {t : TypeId} : ∀ (l : List Value) (i : Nat) (w : World) (c : List Value), Blk w k c.toArray t → c.length = i + l.length → Blk (w.setCells k i l) k (c.take i ++ l).toArray t
  | [], i, w, c, h, hl => by
    simp only [List.length_nil, Nat.add_zero] at hl
    rw [World.setCells, List.take_of_length_le (by omega), List.append_nil]; exact h
  | v :: l, i, w, c, h, hl => by
    rw [World.setCells]
    simp only [List.length_cons] at hl
    have h1 : Blk (w.setCell ⟨k, i, none⟩ v) k (c.set i v).toArray t := h.set i v (by simp)
    have h2 := setCells_blk l (i + 1) _ _ h1 (by rw [List.length_set]; omega)
    have e : (c.set i v).take (i + 1) ++ l = c.take i ++ v :: l := by
      rw [List.take_succ_eq_append_getElem (by rw [List.length_set]; omega), List.getElem_set_self, List.take_set_of_le (Nat.le_refl _), List.append_assoc]
      rfl
    rw [e] at h2
    exact h2
theorem setCells_all {k : Nat} {t : TypeId} {w : World} {c : Array Value} (h : Blk w k c t) (d : Array Value) (hl : c.size = d.size) : Blk (w.setCells k 0 d.toList) k d t := by
  have h' : Blk w k c.toList.toArray t := by rw [Array.toArray_toList]; exact h
  have := setCells_blk d.toList 0 w c.toList h' (by simp [hl])
  simpa using this
theorem setCells_kp {b k : Nat} {W : World} (hk : W.heap.size ≤ k) : ∀ (l : List Value) (i : Nat) (w : World), Kp b W w → Kp b W (w.setCells k i l)
  | [], _, _, h => h
  | _ :: l, i, _, h => setCells_kp hk l (i + 1) _ (h.setNew hk _)
theorem setCells_rd {b k : Nat} {s : ByteArray} {st : St} (hk : k ≠ b) : ∀ (l : List Value) (i : Nat) (w : World), RD w b s st → RD (w.setCells k i l) b s st
  | [], _, _, h => h
  | _ :: l, i, _, h => setCells_rd hk l (i + 1) _ (h.other hk _)

/-- A command is read out of its variable. -/
theorem load_cmd {w : World} {k : Nat} {cs : Array Value} (h : Blk w k cs 62) (hz : cs.size = 31) : (Instr.loadAt 62 (.pointer (some ⟨k, 0, none⟩))).run Tryz.prog w = .ok (.agg cs) w := by
  obtain ⟨d, hd1, hd2⟩ := rowCmd
  have hl := run_loadAt_mid (P := Tryz.prog) w k 0 62 cs.toList d (fun j v hv => by
    rw [Nat.zero_add, cell_of_row w k j cs 62 (0, 0) h]
    simpa using hv) hd1 hd2 (by rw [infoCmd, Array.length_toList, hz])
  rw [Array.toArray_toList] at hl
  exact hl
/-- A command is laid into a variable. -/
theorem store_cmd {w : World} {k : Nat} {zs cs : Array Value} (h : Blk w k zs 62) (hz : zs.size = 31) (hc : cs.size = 31) (h1 : cs.all (·.oneCell') = true) :
    (Instr.storeAt 62 (.pointer (some ⟨k, 0, none⟩)) (.agg cs)).run Tryz.prog w = .ok () (w.setCells k 0 cs.toList) := by
  refine run_storeAt_mid (P := Tryz.prog) w k 0 62 cs (fun j hj => ?_) (by rw [infoCmd, hc]) h1
  rw [Nat.zero_add]
  refine ⟨?_, h.fz j⟩
  rw [cell_of_row w k j zs 62 (0, 0) h, Array.getElem?_eq_getElem (by omega)]
  rfl

theorem range_cmd {w : World} {k : Nat} {cs : Array Value} (h : Blk w k cs 62) : w.rangeAt k 0 cs.toList := fun j v hv => by
  rw [Nat.zero_add, cell_of_row w k j cs 62 (0, 0) h]
  simpa using hv
theorem there_cmd {w : World} {k : Nat} {zs : Array Value} (h : Blk w k zs 62) {n : Nat} (hz : zs.size = n) : w.there k 0 n := fun j hj => by
  rw [Nat.zero_add]
  refine ⟨?_, h.fz j⟩
  rw [cell_of_row w k j zs 62 (0, 0) h, Array.getElem?_eq_getElem (by omega)]
  rfl

def zeroC : Array Value := #[.int .u8 0, .int .i64 0, .int .u8 0, .int .i64 0, .bool false, .bool false, .slice none 0 0, .int .i64 0, .string ⟨#[]⟩, .int .u8 0, .int .i64 0, .bool false, .bool false, .slice none 0 0, .int .i64 0, .string ⟨#[]⟩, .bool false, .string ⟨#[]⟩, .int .i64 0, .bool false, .bool false, .bool false, .slice none 0 0, .int .i64 0, .string ⟨#[]⟩, .string ⟨#[]⟩, .slice none 0 0, .bool false, .bool false, .bool false, .int .i64 0]

/-- A command of which all ahead of its text is kept, and which has a text. -/
structure Kpt (cs cs' : Array Value) : Prop where
  size : cs'.size = 31
  one : cs'.all (·.oneCell') = true
  keep : ∀ k, k < 17 → cs'[k]? = cs[k]?
  e17 : ∃ t, cs'[17]? = some (.string t)
theorem Kpt.e0 {cs cs' : Array Value} (h : Kpt cs cs') : cs'[0]? = cs[0]? := h.keep 0 (by omega)
theorem Kpt.e1 {cs cs' : Array Value} (h : Kpt cs cs') : cs'[1]? = cs[1]? := h.keep 1 (by omega)

theorem one_set {cs : Array Value} (h : cs.all (·.oneCell') = true) (o : Nat) {v : Value} (hv : v.oneCell' = true) : (cs.setIfInBounds o v).all (·.oneCell') = true := by
  rw [Array.all_eq_true_iff_forall_mem] at h ⊢
  intro x hx
  rcases Array.mem_or_eq_of_mem_setIfInBounds hx with h1 | h1
  · exact h x h1
  · rw [h1]; exact hv
theorem Kpt.set {cs cs' : Array Value} (h : Kpt cs cs') (o : Nat) (ho : 17 < o) {v : Value} (hv : v.oneCell' = true) : Kpt cs (cs'.setIfInBounds o v) := by
  obtain ⟨t, ht⟩ := h.e17
  refine ⟨by simp [h.size], one_set h.one o hv, fun k hk => ?_, t, ?_⟩
  · rw [Array.getElem?_setIfInBounds_ne (by omega)]; exact h.keep k hk
  · rw [Array.getElem?_setIfInBounds_ne (by omega)]; exact ht
theorem Kpt.set17 {cs cs' : Array Value} (h : Kpt cs cs') (t : ByteArray) : Kpt cs (cs'.setIfInBounds 17 (.string t)) := by
  have hz := h.size
  refine ⟨by simp [h.size], one_set h.one 17 rfl, fun k hk => ?_, t, ?_⟩
  · rw [Array.getElem?_setIfInBounds_ne (by omega)]; exact h.keep k hk
  · rw [Array.getElem?_setIfInBounds_self_of_lt (by omega)]

/-- What a command's printed text hangs on, behind its letter. -/
structure Rf where
  text : ByteArray
  n : Int
  said : Bool
  tt : ByteArray
  r : ByteArray
  g : Bool
  p : Bool
  w : Bool
def zF : Rf := ⟨⟨#[]⟩, 0, false, ⟨#[]⟩, ⟨#[]⟩, false, false, false⟩
structure RfV (cs : Array Value) (f : Rf) : Prop where
  e17 : cs[17]? = some (.string f.text)
  e18 : cs[18]? = some (.int .i64 f.n)
  e19 : cs[19]? = some (.bool f.said)
  e24 : cs[24]? = some (.string f.tt)
  e25 : cs[25]? = some (.string f.r)
  e27 : cs[27]? = some (.bool f.g)
  e28 : cs[28]? = some (.bool f.p)
  e29 : cs[29]? = some (.bool f.w)
section
variable {cs : Array Value} {f : Rf}
theorem RfV.set (h : RfV cs f) (o : Nat) (ho : o < 17 ∨ 19 < o ∧ o < 24 ∨ o = 26 ∨ 29 < o) (v : Value) : RfV (cs.setIfInBounds o v) f := by
  refine ⟨?_, ?_, ?_, ?_, ?_, ?_, ?_, ?_⟩
  all_goals (rw [Array.getElem?_setIfInBounds_ne (by omega)]; first | exact h.e17 | exact h.e18 | exact h.e19 | exact h.e24 | exact h.e25 | exact h.e27 | exact h.e28 | exact h.e29)
theorem RfV.set17 (h : RfV cs f) (hz : cs.size = 31) (x : ByteArray) : RfV (cs.setIfInBounds 17 (.string x)) { f with text := x } := by
  refine ⟨Array.getElem?_setIfInBounds_self_of_lt (by omega), ?_, ?_, ?_, ?_, ?_, ?_, ?_⟩
  all_goals (rw [Array.getElem?_setIfInBounds_ne (by omega)]; first | exact h.e17 | exact h.e18 | exact h.e19 | exact h.e24 | exact h.e25 | exact h.e27 | exact h.e28 | exact h.e29)
theorem RfV.set18 (h : RfV cs f) (hz : cs.size = 31) (x : Int) : RfV (cs.setIfInBounds 18 (.int .i64 x)) { f with n := x } := by
  refine ⟨?_, Array.getElem?_setIfInBounds_self_of_lt (by omega), ?_, ?_, ?_, ?_, ?_, ?_⟩
  all_goals (rw [Array.getElem?_setIfInBounds_ne (by omega)]; first | exact h.e17 | exact h.e18 | exact h.e19 | exact h.e24 | exact h.e25 | exact h.e27 | exact h.e28 | exact h.e29)
theorem RfV.set19 (h : RfV cs f) (hz : cs.size = 31) (x : Bool) : RfV (cs.setIfInBounds 19 (.bool x)) { f with said := x } := by
  refine ⟨?_, ?_, Array.getElem?_setIfInBounds_self_of_lt (by omega), ?_, ?_, ?_, ?_, ?_⟩
  all_goals (rw [Array.getElem?_setIfInBounds_ne (by omega)]; first | exact h.e17 | exact h.e18 | exact h.e19 | exact h.e24 | exact h.e25 | exact h.e27 | exact h.e28 | exact h.e29)
theorem RfV.set24 (h : RfV cs f) (hz : cs.size = 31) (x : ByteArray) : RfV (cs.setIfInBounds 24 (.string x)) { f with tt := x } := by
  refine ⟨?_, ?_, ?_, Array.getElem?_setIfInBounds_self_of_lt (by omega), ?_, ?_, ?_, ?_⟩
  all_goals (rw [Array.getElem?_setIfInBounds_ne (by omega)]; first | exact h.e17 | exact h.e18 | exact h.e19 | exact h.e24 | exact h.e25 | exact h.e27 | exact h.e28 | exact h.e29)
theorem RfV.set25 (h : RfV cs f) (hz : cs.size = 31) (x : ByteArray) : RfV (cs.setIfInBounds 25 (.string x)) { f with r := x } := by
  refine ⟨?_, ?_, ?_, ?_, Array.getElem?_setIfInBounds_self_of_lt (by omega), ?_, ?_, ?_⟩
  all_goals (rw [Array.getElem?_setIfInBounds_ne (by omega)]; first | exact h.e17 | exact h.e18 | exact h.e19 | exact h.e24 | exact h.e25 | exact h.e27 | exact h.e28 | exact h.e29)
theorem RfV.set27 (h : RfV cs f) (hz : cs.size = 31) (x : Bool) : RfV (cs.setIfInBounds 27 (.bool x)) { f with g := x } := by
  refine ⟨?_, ?_, ?_, ?_, ?_, Array.getElem?_setIfInBounds_self_of_lt (by omega), ?_, ?_⟩
  all_goals (rw [Array.getElem?_setIfInBounds_ne (by omega)]; first | exact h.e17 | exact h.e18 | exact h.e19 | exact h.e24 | exact h.e25 | exact h.e27 | exact h.e28 | exact h.e29)
theorem RfV.set28 (h : RfV cs f) (hz : cs.size = 31) (x : Bool) : RfV (cs.setIfInBounds 28 (.bool x)) { f with p := x } := by
  refine ⟨?_, ?_, ?_, ?_, ?_, ?_, Array.getElem?_setIfInBounds_self_of_lt (by omega), ?_⟩
  all_goals (rw [Array.getElem?_setIfInBounds_ne (by omega)]; first | exact h.e17 | exact h.e18 | exact h.e19 | exact h.e24 | exact h.e25 | exact h.e27 | exact h.e28 | exact h.e29)
theorem RfV.set29 (h : RfV cs f) (hz : cs.size = 31) (x : Bool) : RfV (cs.setIfInBounds 29 (.bool x)) { f with w := x } := by
  refine ⟨?_, ?_, ?_, ?_, ?_, ?_, ?_, Array.getElem?_setIfInBounds_self_of_lt (by omega)⟩
  all_goals (rw [Array.getElem?_setIfInBounds_ne (by omega)]; first | exact h.e17 | exact h.e18 | exact h.e19 | exact h.e24 | exact h.e25 | exact h.e27 | exact h.e28 | exact h.e29)
end

theorem infoPiece : (Tryz.prog.info? 128).map (fun i => (i.zero, i.size, i.bytes)) = some (some (.agg #[.int .u8 0, .int .u8 0, .int .i64 0]), 3, 16) := by kernel_rfl

theorem own_kp {w w' : World} {b base size n : Nat} {e : TypeId} {v : Value} {xs : List Value} (h : w.ownsRow base e size v n xs) (hk : Kp b w w') (hne : ∀ k, v.ownBlock = some k → k ≠ b) : w'.ownsRow base e size v n xs := by
  refine ⟨h.1, ?_⟩
  rcases h.2 with hn | ⟨g, cap, cur, rfl, h0, hg, rest⟩
  · exact .inl hn
  · exact .inr ⟨g, cap, cur, rfl, h0, by rw [hk.block g (Array.getElem?_eq_some_iff.1 hg).1 (hne g rfl)]; exact hg, rest⟩
theorem grown_blk {w w' : World} {k : Nat} {c : Array Value} {t : TypeId} {row : Option Nat} (h : Blk w k c t) (hg : w.grownBy w' row) (hr : row ≠ some k) : Blk w' k c t := by
  have := hg.block k h.lt (fun e => hr e.symm)
  unfold Blk at h ⊢
  rw [this]; exact h

theorem pattern_le (s : ByteArray) (n : Nat) (st : St) (h : st.i ≤ s.size) : st.i ≤ (patternS s n st).2.i ∧ (patternS s n st).2.i ≤ s.size := by
  have h1 := expr_le s n st h
  unfold patternS
  split
  · exact ⟨by simp, by simp; omega⟩
  · have h2 := eatIf_le s 47 (exprS s n st).2 h1.2
    have h3 := eatIf_ge s 47 (exprS s n st).2
    exact ⟨by simp; omega, h2⟩
theorem pattern_g (s : ByteArray) (n : Nat) (st : St) (h : st.i ≤ s.size) : (patternS s n st).1.1 ≤ 9 := by
  have h1 := Fwd.advIf (st := zeroed st) 94 h
  have h2 := (fwd_all s n).2.2 false (advIf s 94 (zeroed st)) [] h1.2.1
  have h3 : (exprS s n st).1.groups ≤ 9 := (h1.trans h2).2.2 (by simp [zeroed])
  unfold patternS
  split <;> exact h3

/-- The pieces of a replacement, up to its end. -/
def replL (s : ByteArray) (g : Nat) : Nat → St → St
  | 0, st => st
  | n + 1, st => if st.bad = true ∨ isB s st 47 = true then st else replL s g n (pieceS s g st)

theorem piece_le (s : ByteArray) (g : Nat) (st : St) (h : st.i ≤ s.size) : st.i ≤ (pieceS s g st).i ∧ (pieceS s g st).i ≤ s.size ∧ ((pieceS s g st).bad = true ∨ st.i < (pieceS s g st).i) := by
  unfold pieceS
  split
  · exact ⟨Nat.le_refl _, h, .inl rfl⟩
  · next h1 =>
    have hl : st.i < s.size := by
      simp only [not_or] at h1
      exact peekOk_lt (by simpa using h1.1)
    split
    · exact ⟨by simp [adv], by simp [adv]; omega, .inr (by simp [adv])⟩
    · split
      · exact ⟨by simp [adv, spoil], by simp [adv, spoil]; omega, .inl rfl⟩
      · next h3 =>
        have hl2 : (adv st).i < s.size := by
          simp only [not_or] at h3
          exact peekOk_lt (by simpa using h3.1)
        simp [adv] at hl2
        exact ⟨by simp [adv]; omega, by simp [adv]; omega, .inr (by simp [adv]; omega)⟩

/-- The flags of s: number, g, p, w with its name. -/
structure Fl where
  n : Int
  g : Bool
  p : Bool
  w : Bool
  text : ByteArray

def flagsS (s : ByteArray) (n0 : Int) (t0 : ByteArray) (st : St) : Fl × St :=
  let d := if amongB s st digits1L then digitS s 49 st else (n0, st)
  let a := advIf s 103 d.2
  let b := advIf s 112 a
  let c := advIf s 119 b
  if isB s b 119 then (⟨d.1, isB s d.2 103, isB s a 112, true, (spacedS s c).1⟩, (spacedS s c).2) else (⟨d.1, isB s d.2 103, isB s a 112, false, t0⟩, c)

theorem flags_st {s : ByteArray} {n0 : Int} {t0 : ByteArray} (st s5 s6 s7 s8 : St) (h5 : s5 = (if amongB s st digits1L then digitS s 49 st else (n0, st)).2) (h6 : s6 = advIf s 103 s5) (h7 : s7 = advIf s 112 s6) (h8 : s8 = if isB s s7 119 then (spacedS s (adv s7)).2 else s7) : (flagsS s n0 t0 st).2 = s8 := by
  unfold flagsS
  simp only [← h5, ← h6, ← h7]
  rw [h8]
  cases hx : isB s s7 119
  · simp [hx, advIf]
  · simp [hx, advIf]

def substS (s : ByteArray) (n : Nat) (st : St) : St :=
  if (eatS s 47 st).bad = true then eatS s 47 st else
  let q := patternS s n (eatS s 47 st)
  let r := replL s q.1.1 n q.2
  if r.bad = true then r else (flagsS s 0 ⟨#[]⟩ (adv r)).2

/-- The fields that s leaves. -/
def substF (s : ByteArray) (n : Nat) (st : St) : Rf :=
  let q := patternS s n (eatS s 47 st)
  let r := replL s q.1.1 n q.2
  let F := (flagsS s 0 ⟨#[]⟩ (adv r)).1
  ⟨F.text, F.n, false, q.1.2, s.extract q.2.i r.i, F.g, F.p, F.w⟩

theorem flags_fl {s : ByteArray} {n0 : Int} {t0 : ByteArray} (st s5 s6 s7 : St) (N5 : Int) (T8 : ByteArray) (h5 : s5 = (if amongB s st digits1L then digitS s 49 st else (n0, st)).2) (h5n : N5 = (if amongB s st digits1L then digitS s 49 st else (n0, st)).1) (h6 : s6 = advIf s 103 s5) (h7 : s7 = advIf s 112 s6) (h8 : T8 = if isB s s7 119 then (spacedS s (adv s7)).1 else t0) : (flagsS s n0 t0 st).1 = ⟨N5, isB s s5 103, isB s s6 112, isB s s7 119, T8⟩ := by
  unfold flagsS
  simp only [← h5, ← h6, ← h7, ← h5n]
  rw [h8]
  cases hx : isB s s7 119
  · simp
  · simp [hx, advIf]

set_option maxRecDepth 100000 in
set_option maxHeartbeats 1600000 in
theorem subst_any (n b : Nat) (s : ByteArray) (st : St) (cs : Array Value) (w : World) (h : RD w b s st) (hs : s.size ≤ 1048576) (hi : st.i ≤ s.size) (hz : cs.size = 31) (h1 : cs.all (·.oneCell') = true) (hn : 2 * (s.size - st.i) + 2 ≤ n) (hn' : n ≤ 4000000)
    (hrep : cs[26]? = some (.slice none 0 0)) (hV : RfV cs zF) :
    Calls Tryz.prog 56 #[.pointer (some ⟨b, 0, none⟩), .agg cs] w fun e w' => ∃ cs', e = .returned (.agg cs') ∧ Kpt cs cs' ∧ ((substS s n st).bad = false → RfV cs' (substF s n st)) ∧ RD w' b s (substS s n st) ∧ Kp b w w' := by
  have htx : ∃ t, cs[17]? = some (.string t) := ⟨_, hV.e17⟩
  have hbl := h.lt
  have hR0 := (h.alloc (.cells cs 62)).alloc (.cells zeroC 62)
  have hK0 : Kp b w ((w.alloc (.cells cs 62)).alloc (.cells zeroC 62)) := ((Kp.refl b w).alloc _).alloc _
  have hC0 : Blk ((w.alloc (.cells cs 62)).alloc (.cells zeroC 62)) w.heap.size cs 62 := (Blk.new _ _ _).alloc _
  have hZ0 : Blk ((w.alloc (.cells cs 62)).alloc (.cells zeroC 62)) (w.heap.size + 1) zeroC 62 := Blk.newAt (by simp)
  go_enter Tryz.func56, Tryz.ntmps56
  go_wp2_with fail
  refine (eat_any b s st 47 ((w.alloc (.cells cs 62)).alloc (.cells zeroC 62)) hR0 hs).mono ?_
  rintro e w1 ⟨rfl, hR1, hK1⟩
  have hKw := hK0.trans hK1
  have hC1 := hC0.kp hK1 (by omega)
  have hZ1 := hZ0.kp hK1 (by omega)
  clear hR0 hK0 hC0 hZ0 hK1
  have r2 := hR1.c2
  obtain ⟨cb, hcb⟩ : ∃ cb, cb = w.heap.size := ⟨_, rfl⟩
  have hcb1 : w.heap.size ≤ cb := by omega
  have hcbb : b < cb := by omega
  rw [← hcb] at hC1 hZ1 ⊢
  have HCB := hide hcb
  clear hcb
  cases hb : (eatS s 47 st).bad
  · rw [hb] at r2
    have hle := eat_le s 47 st hi
    have hge := eat_ge s 47 st
    go_wp2_with fail
    refine (pattern_any n b s (eatS s 47 st) w1 hR1 hs hle (by omega) hn').mono ?_
    rintro e w2 ⟨v, rfl, ⟨fi, la, ka, kl, kc, rfl⟩, hR2, hK2⟩
    have hC2 := hC1.kp hK2 (by omega)
    have hZ2 := hZ1.kp hK2 (by omega)
    have hKw2 := hKw.trans hK2
    clear r2 hR1 hC1 hZ1 hKw
    have r1 := hR2.c1
    have hcl := hC2.lt
    have hzl := hZ2.lt
    have rl := hR2.lt
    have q20 := hC2.cell 20 (Array.getElem?_eq_getElem (by omega))
    have q21 := hC2.cell 21 (Array.getElem?_eq_getElem (by omega))
    have q22 := hC2.cell 22 (Array.getElem?_eq_getElem (by omega))
    have q23 := hC2.cell 23 (Array.getElem?_eq_getElem (by omega))
    have q24 := hC2.cell 24 (Array.getElem?_eq_getElem (by omega))
    have qf := hC2.fz
    have hE := show substS s n st = (let r := replL s (patternS s n (eatS s 47 st)).1.1 n (patternS s n (eatS s 47 st)).2; if r.bad = true then r else (flagsS s 0 ⟨#[]⟩ (adv r)).2) by unfold substS; rw [if_neg (by rw [hb]; simp)]
    have HE := hide hE
    have HSF := hide (show substF s n st = ⟨(flagsS s 0 ⟨#[]⟩ (adv (replL s (patternS s n (eatS s 47 st)).1.1 n (patternS s n (eatS s 47 st)).2))).1.text, (flagsS s 0 ⟨#[]⟩ (adv (replL s (patternS s n (eatS s 47 st)).1.1 n (patternS s n (eatS s 47 st)).2))).1.n, false, (patternS s n (eatS s 47 st)).1.2, s.extract (patternS s n (eatS s 47 st)).2.i (replL s (patternS s n (eatS s 47 st)).1.1 n (patternS s n (eatS s 47 st)).2).i, (flagsS s 0 ⟨#[]⟩ (adv (replL s (patternS s n (eatS s 47 st)).1.1 n (patternS s n (eatS s 47 st)).2))).1.g, (flagsS s 0 ⟨#[]⟩ (adv (replL s (patternS s n (eatS s 47 st)).1.1 n (patternS s n (eatS s 47 st)).2))).1.p, (flagsS s 0 ⟨#[]⟩ (adv (replL s (patternS s n (eatS s 47 st)).1.1 n (patternS s n (eatS s 47 st)).2))).1.w⟩ from rfl)
    have hpl : (patternS s n (eatS s 47 st)).2.i ≤ s.size ∧ st.i ≤ (patternS s n (eatS s 47 st)).2.i := by
      have h9 := pattern_le s n (eatS s 47 st) hle
      omega
    have hpg : (patternS s n (eatS s 47 st)).1.1 ≤ 9 := pattern_g s n (eatS s 47 st) hle
    clear hE hb
    go_wp2_with fail
    generalize patternS s n (eatS s 47 st) = pt at *
    obtain ⟨⟨G, tx⟩, q⟩ := pt
    dsimp only at *
    have hK3 : Kpt cs (((((cs.setIfInBounds 20 (.bool fi)).setIfInBounds 21 (.bool la)).setIfInBounds 22 (.slice ka kl kc)).setIfInBounds 23 (.int .i64 G)).setIfInBounds 24 (.string tx)) :=
      ((((Kpt.set ⟨hz, h1, fun _ _ => rfl, htx⟩ 20 (by omega) rfl).set 21 (by omega) rfl).set 22 (by omega) rfl).set 23 (by omega) rfl).set 24 (by omega) rfl
    have hV3 : RfV (((((cs.setIfInBounds 20 (.bool fi)).setIfInBounds 21 (.bool la)).setIfInBounds 22 (.slice ka kl kc)).setIfInBounds 23 (.int .i64 G)).setIfInBounds 24 (.string tx)) ⟨⟨#[]⟩, 0, false, tx, ⟨#[]⟩, false, false, false⟩ := ((((hV.set 20 (by omega) _).set 21 (by omega) _).set 22 (by omega) _).set 23 (by omega) _).set24 (by simp [hz]) tx
    have hC3 := (((((hC2.set 20 (.bool fi) rfl).set 21 (.bool la) rfl).set 22 (.slice ka kl kc) rfl).set 23 (.int .i64 G) rfl).set 24 (.string tx) rfl).alloc (.cells #[.bool fi, .bool la, .slice ka kl kc, .int .i64 G] 57)
    have e26 : (((((cs.setIfInBounds 20 (.bool fi)).setIfInBounds 21 (.bool la)).setIfInBounds 22 (.slice ka kl kc)).setIfInBounds 23 (.int .i64 G)).setIfInBounds 24 (.string tx))[26]? = some (.slice none 0 0) := by
      rw [Array.getElem?_setIfInBounds_ne (by omega), Array.getElem?_setIfInBounds_ne (by omega), Array.getElem?_setIfInBounds_ne (by omega), Array.getElem?_setIfInBounds_ne (by omega), Array.getElem?_setIfInBounds_ne (by omega)]; exact hrep
    have e23 : (((((cs.setIfInBounds 20 (.bool fi)).setIfInBounds 21 (.bool la)).setIfInBounds 22 (.slice ka kl kc)).setIfInBounds 23 (.int .i64 G)).setIfInBounds 24 (.string tx))[23]? = some (.int .i64 G) := by
      rw [Array.getElem?_setIfInBounds_ne (by omega), Array.getElem?_setIfInBounds_self_of_lt (by simp [hz])]
    generalize (((((cs.setIfInBounds 20 (.bool fi)).setIfInBounds 21 (.bool la)).setIfInBounds 22 (.slice ka kl kc)).setIfInBounds 23 (.int .i64 G)).setIfInBounds 24 (.string tx)) = cs3 at *
    have ne1 : cb ≠ b := by omega
    have ne2 : cb ≠ cb + 1 := by omega
    have hR3 := (((((hR2.other (p := ⟨cb, 20, none⟩) ne1 (.bool fi)).other (p := ⟨cb, 21, none⟩) ne1 (.bool la)).other (p := ⟨cb, 22, none⟩) ne1 (.slice ka kl kc)).other (p := ⟨cb, 23, none⟩) ne1 (.int .i64 G)).other (p := ⟨cb, 24, none⟩) ne1 (.string tx)).alloc (.cells #[.bool fi, .bool la, .slice ka kl kc, .int .i64 G] 57)
    have hZ3 := (((((hZ2.other (p := ⟨cb, 20, none⟩) ne2 (.bool fi)).other (p := ⟨cb, 21, none⟩) ne2 (.bool la)).other (p := ⟨cb, 22, none⟩) ne2 (.slice ka kl kc)).other (p := ⟨cb, 23, none⟩) ne2 (.int .i64 G)).other (p := ⟨cb, 24, none⟩) ne2 (.string tx)).alloc (.cells #[.bool fi, .bool la, .slice ka kl kc, .int .i64 G] 57)
    have hKw3 := (((((hKw2.setNew (p := ⟨cb, 20, none⟩) hcb1 (.bool fi)).setNew (p := ⟨cb, 21, none⟩) hcb1 (.bool la)).setNew (p := ⟨cb, 22, none⟩) hcb1 (.slice ka kl kc)).setNew (p := ⟨cb, 23, none⟩) hcb1 (.int .i64 G)).setNew (p := ⟨cb, 24, none⟩) hcb1 (.string tx)).alloc (.cells #[.bool fi, .bool la, .slice ka kl kc, .int .i64 G] 57)
    generalize (((((w2.setCell ⟨cb, 20, none⟩ (.bool fi)).setCell ⟨cb, 21, none⟩ (.bool la)).setCell ⟨cb, 22, none⟩ (.slice ka kl kc)).setCell ⟨cb, 23, none⟩ (.int .i64 G)).setCell ⟨cb, 24, none⟩ (.string tx)).alloc (.cells #[.bool fi, .bool la, .slice ka kl kc, .int .i64 G] 57) = w3 at *
    clear q20 q21 q22 q23 q24 qf r1 hR2 hC2 hZ2 hKw2
    have hC3l := hC3.lt
    have hZ3l := hZ3.lt
    obtain ⟨i0, hii, hz0, hz1, hz2⟩ := info_parts infoPiece
    have HI := hide (And.intro hii (And.intro hz0 (And.intro hz1 hz2)))
    clear hii hz0 hz1 hz2
    go_loopg [8] n (fun k pv w' => ∃ (cur : St) (cs' : Array Value) (ra : Option Addr) (rl rc m : Nat) (xs : List Value), RD w' b s cur ∧ Kp b w w' ∧ Blk w' cb cs' 62 ∧ Kpt cs cs' ∧ RfV cs' ⟨⟨#[]⟩, 0, false, tx, ⟨#[]⟩, false, false, false⟩ ∧ cs'[26]? = some (.slice ra rl rc) ∧ cs'[23]? = some (.int .i64 G) ∧ w'.ownsRow 0 128 3 (.slice ra rl rc) m xs ∧ (∀ k, (Value.slice ra rl rc).ownBlock = some k → cb + 1 < k) ∧ Blk w' (cb + 1) zeroC 62 ∧ cur.i ≤ s.size ∧ q.i ≤ cur.i ∧ (cur.bad = true ∨ m ≤ cur.i) ∧ (cur.bad = true ∨ s.size + 1 < cur.i + k) ∧ Hid (replL s G k cur = replL s G n q))
    case atStart => exact ⟨q, cs3, none, 0, 0, 0, [], hR3, hKw3, hC3, hK3, hV3, e26, e23, World.ownsRow_nil _ _ _ _, (fun k e => by cases e), hZ3, hpl.1, Nat.le_refl _, .inr (Nat.zero_le _), .inr (by omega), rfl⟩
    case round =>
      obtain ⟨cur, cs', ra, rl, rc, m, xs, hR, hK, hC, hKp, hVc, e26', e23', hown, hrow, hZ, hci, hqc, hmc, hfu, HF⟩ := hrel
      clear hR3 hKw3 hC3 hK3 hV3 e26 e23 hZ3
      have r2 := hR.c2
      have rl2 := hR.lt
      have cl := hC.lt
      have zl := hZ.lt
      by_cases hex : cur.bad = true ∨ isB s cur 47 = true
      · have hF := HF.out
        have E : replL s G gk cur = cur := by
          cases gk with
          | zero => rfl
          | succ k => rw [replL, if_pos hex]
        have HE2 : Hid (substS s n st = if cur.bad = true then cur else (flagsS s 0 ⟨#[]⟩ (adv cur)).2) := by
          have h9 := HE.out
          rw [← hF, E] at h9
          exact h9
        have HSF2 : Hid (substF s n st = ⟨(flagsS s 0 ⟨#[]⟩ (adv cur)).1.text, (flagsS s 0 ⟨#[]⟩ (adv cur)).1.n, false, tx, s.extract q.i cur.i, (flagsS s 0 ⟨#[]⟩ (adv cur)).1.g, (flagsS s 0 ⟨#[]⟩ (adv cur)).1.p, (flagsS s 0 ⟨#[]⟩ (adv cur)).1.w⟩) := by
          have h9 := HSF.out
          rw [← hF, E] at h9
          exact h9
        clear hF E HF HE HSF hfu hmc
        go_upto_region 8 with fail
        go_cut [38] (fun bv wc => bv = .bool false ∧ Same wr wc)
        case first =>
          cases hb : cur.bad
          · rw [hb] at r2
            have hsl : isB s cur 47 = true := by
              rcases hex with h | h
              · rw [hb] at h; cases h
              · exact h
            go_wp2_with (go_at_call 27; refine (is_of hsl hR hs).mono ?_; rintro e w5 ⟨rfl, hw5⟩; replace hw5 : Same wr w5 := hw5)
            go_meet
            case rel => exact ⟨rfl, hw5⟩
          · rw [hb] at r2
            go_wp2_with fail
            go_meet
            case rel => exact ⟨rfl, 0, rfl⟩
        case rest =>
          obtain ⟨rfl, hsm⟩ := hcut
          have hR5 := hsm.rd hR
          have hK5 := hsm.kp hK
          have hC5 := hsm.blk hC
          have hZ5 := hsm.blk hZ
          clear hsm hR hK hC hZ r2 hown hrow
          have r0 := hR5.c0
          have r1 := hR5.c1
          have r2 := hR5.c2
          have rf := hR5.fz
          have hks := hKp.size
          cases hb : cur.bad
          · rw [hb] at r2
            have hsl : isB s cur 47 = true := by
              rcases hex with h | h
              · rw [hb] at h; cases h
              · exact h
            have hlt := peekOk_lt (isB_ok hsl)
            have E := hide (show substS s n st = (flagsS s 0 ⟨#[]⟩ (adv cur)).2 by rw [HE2.out, if_neg (by rw [hb]; simp)])
            have q25 := hC5.cell 25 (Array.getElem?_eq_getElem (by omega))
            have qf := hC5.fz
            clear hb hex HE2
            have hqe : (q.i : Int) ≤ cur.i := by omega
            go_wp2_with fail
            go_region
            go_upto_region 15 with fail
            have hR6 : RD ((wc.setCell ⟨cb, 25, none⟩ (.string (s.extract q.i cur.i))).setCell ⟨b, 1, none⟩ (.int .i64 ((cur.i : Int) + 1))).drew b s (adv cur) := (hR5.other ne1 _).adv rfl
            have hC6 := (((hC5.set 25 (.string (s.extract q.i cur.i)) rfl).other (p := ⟨b, 1, none⟩) (Ne.symm ne1) (.int .i64 ((cur.i : Int) + 1)))).drew
            have hZ6 := ((hZ5.other (p := ⟨cb, 25, none⟩) ne2 (.string (s.extract q.i cur.i))).other (p := ⟨b, 1, none⟩) (by show b ≠ cb + 1; omega) (.int .i64 ((cur.i : Int) + 1))).drew
            have hK6 := ((hK5.setNew (p := ⟨cb, 25, none⟩) hcb1 (.string (s.extract q.i cur.i))).set 1 (.int .i64 ((cur.i : Int) + 1))).drew
            have hP6 := hKp.set 25 (by omega) (v := .string (s.extract q.i cur.i)) rfl
            have hV6 := hVc.set25 hks (s.extract q.i cur.i)
            generalize ((wc.setCell ⟨cb, 25, none⟩ (.string (s.extract q.i cur.i))).setCell ⟨b, 1, none⟩ (.int .i64 ((cur.i : Int) + 1))).drew = w6 at *
            generalize cs'.setIfInBounds 25 (.string (s.extract q.i cur.i)) = c6 at *
            clear hR5 hK5 hC5 hZ5 hKp hVc r0 r1 r2 rf q25 qf e26' e23' hks
            obtain ⟨s4, hs4⟩ : ∃ s4, s4 = adv cur := ⟨_, rfl⟩
            have hls4 : s4.i ≤ s.size := by rw [hs4]; simp [adv]; omega
            rw [← hs4] at hR6
            have Hs4 := hide hs4
            clear hs4
            go_upto_if 74 with (go_at_call 51; refine (among_digits1 b s rfl hR6 hs).mono ?_; rintro e w7 ⟨rfl, hw7⟩; replace hw7 : Same w6 w7 := hw7)
            have hR7 := hw7.rd hR6
            have hK7 := hw7.kp hK6
            have hC7 := hw7.blk hC6
            have hZ7 := hw7.blk hZ6
            clear hw7 hR6 hK6 hC6 hZ6
            obtain ⟨s5, hs5⟩ : ∃ s5, s5 = (if amongB s s4 digits1L then digitS s 49 s4 else (0, s4)).2 := ⟨_, rfl⟩
            have hls5 : s5.i ≤ s.size := by
              rw [hs5]; split
              · exact digit_le s 49 s4 hls4
              · exact hls4
            have Hs5 := hide hs5
            clear hs5
            obtain ⟨N5, hN5⟩ : ∃ N5, N5 = (if amongB s s4 digits1L then digitS s 49 s4 else (0, s4)).1 := ⟨_, rfl⟩
            have HN5 := hide hN5
            clear hN5
            obtain ⟨X, hX⟩ : ∃ X, X = s.extract q.i cur.i := ⟨_, rfl⟩
            have HX9 := hide hX
            rw [← hX] at hV6
            clear hX
            go_cut [] (fun wc => ∃ c8 : Array Value, RD wc b s s5 ∧ Kp b w wc ∧ Blk wc cb c8 62 ∧ Kpt cs c8 ∧ RfV c8 ⟨⟨#[]⟩, N5, false, tx, X, false, false, false⟩ ∧ Blk wc (cb + 1) zeroC 62)
            case first =>
              cases hx : amongB s s4 digits1L
              · go_wp2_with fail
                go_meet
                case rel => exact ⟨_, by rw [Hs5.out, hx]; exact hR7, hK7, hC7, hP6, by rw [HN5.out, hx]; exact hV6, hZ7⟩
              · have HX := hide hx
                clear hx
                go_wp2_with fail
                refine (digit_any b s s4 49 w7 hR7 hs).mono ?_
                rintro e w8 ⟨rfl, hR8, hK8⟩
                have hC8 := hC7.kp hK8 (by omega)
                have hZ8 := hZ7.kp hK8 (by omega)
                have hks := hP6.size
                have qq := hC8.cell 18 (Array.getElem?_eq_getElem (by omega))
                have qf := hC8.fz
                go_wp2_with fail
                go_meet
                case rel => exact ⟨_, by rw [Hs5.out, HX.out]; exact hR8.other ne1 _, (hK7.trans hK8).setNew hcb1 _, hC8.set 18 _ rfl, hP6.set 18 (by omega) rfl, by rw [HN5.out, HX.out]; exact hV6.set18 hP6.size _, hZ8.other ne2 _⟩
            case rest =>
            obtain ⟨c10, hR10, hK10, hC10, hP10, hV10, hZ10⟩ := hcut
            clear hR7 hK7 hC7 hZ7 hP6 hV6
            obtain ⟨w10, hww⟩ : ∃ w10, w10 = wc := ⟨_, rfl⟩
            rw [← hww] at hR10 hK10 hC10 hZ10 ⊢
            clear hww
            go_upto_if 79 with (go_at_call 27; refine (is_any b s s5 103 w10 hR10 hs).mono ?_; rintro e w11 ⟨rfl, hw11⟩; replace hw11 : Same w10 w11 := hw11)
            have hR11 := hw11.rd hR10
            have hK11 := hw11.kp hK10
            have hC11 := hw11.blk hC10
            have hZ11 := hw11.blk hZ10
            clear hw11 hR10 hK10 hC10 hZ10
            obtain ⟨s6, hs6⟩ : ∃ s6, s6 = advIf s 103 s5 := ⟨_, rfl⟩
            have hls6 : s6.i ≤ s.size := by rw [hs6]; exact (Fwd.advIf 103 hls5).2.1
            have Hs6 := hide hs6
            clear hs6
            go_cut [] (fun wc => ∃ c8 : Array Value, RD wc b s s6 ∧ Kp b w wc ∧ Blk wc cb c8 62 ∧ Kpt cs c8 ∧ RfV c8 ⟨⟨#[]⟩, N5, false, tx, X, (isB s s5 103), false, false⟩ ∧ Blk wc (cb + 1) zeroC 62)
            case first =>
              cases hx : isB s s5 103
              · go_wp2_with fail
                go_meet
                case rel => exact ⟨_, by rw [Hs6.out, advIf, hx]; exact hR11, hK11, hC11, hP10, by rw [hx]; exact hV10, hZ11⟩
              · have r1 := hR11.c1
                have rf := hR11.fz
                have hlt := peekOk_lt (isB_ok hx)
                have hks := hP10.size
                have qq := hC11.cell 27 (Array.getElem?_eq_getElem (by omega))
                have qf := hC11.fz
                have HX := hide hx
                clear hx
                go_wp2_with fail
                go_meet
                case rel => exact ⟨_, by rw [Hs6.out, advIf, HX.out]; exact (hR11.adv rfl).other ne1 _, (hK11.set 1 _).setNew hcb1 _, (hC11.other (Ne.symm ne1) _).set 27 _ rfl, hP10.set 27 (by omega) rfl, by rw [HX.out]; exact hV10.set27 hks true, (hZ11.other (by show b ≠ cb + 1; omega) _).other ne2 _⟩
            case rest =>
            obtain ⟨c12, hR12, hK12, hC12, hP12, hV12, hZ12⟩ := hcut
            clear hR11 hK11 hC11 hZ11 hP10 hV10
            obtain ⟨w12, hww⟩ : ∃ w12, w12 = wc := ⟨_, rfl⟩
            rw [← hww] at hR12 hK12 hC12 hZ12 ⊢
            clear hww
            go_upto_if 89 with (go_at_call 27; refine (is_any b s s6 112 w12 hR12 hs).mono ?_; rintro e w13 ⟨rfl, hw13⟩; replace hw13 : Same w12 w13 := hw13)
            have hR13 := hw13.rd hR12
            have hK13 := hw13.kp hK12
            have hC13 := hw13.blk hC12
            have hZ13 := hw13.blk hZ12
            clear hw13 hR12 hK12 hC12 hZ12
            obtain ⟨s7, hs7⟩ : ∃ s7, s7 = advIf s 112 s6 := ⟨_, rfl⟩
            have hls7 : s7.i ≤ s.size := by rw [hs7]; exact (Fwd.advIf 112 hls6).2.1
            have Hs7 := hide hs7
            clear hs7
            go_cut [] (fun wc => ∃ c8 : Array Value, RD wc b s s7 ∧ Kp b w wc ∧ Blk wc cb c8 62 ∧ Kpt cs c8 ∧ RfV c8 ⟨⟨#[]⟩, N5, false, tx, X, (isB s s5 103), (isB s s6 112), false⟩ ∧ Blk wc (cb + 1) zeroC 62)
            case first =>
              cases hx : isB s s6 112
              · go_wp2_with fail
                go_meet
                case rel => exact ⟨_, by rw [Hs7.out, advIf, hx]; exact hR13, hK13, hC13, hP12, by rw [hx]; exact hV12, hZ13⟩
              · have r1 := hR13.c1
                have rf := hR13.fz
                have hlt := peekOk_lt (isB_ok hx)
                have hks := hP12.size
                have qq := hC13.cell 28 (Array.getElem?_eq_getElem (by omega))
                have qf := hC13.fz
                have HX := hide hx
                clear hx
                go_wp2_with fail
                go_meet
                case rel => exact ⟨_, by rw [Hs7.out, advIf, HX.out]; exact (hR13.adv rfl).other ne1 _, (hK13.set 1 _).setNew hcb1 _, (hC13.other (Ne.symm ne1) _).set 28 _ rfl, hP12.set 28 (by omega) rfl, by rw [HX.out]; exact hV12.set28 hks true, (hZ13.other (by show b ≠ cb + 1; omega) _).other ne2 _⟩
            case rest =>
            obtain ⟨c14, hR14, hK14, hC14, hP14, hV14, hZ14⟩ := hcut
            clear hR13 hK13 hC13 hZ13 hP12 hV12
            obtain ⟨w14, hww⟩ : ∃ w14, w14 = wc := ⟨_, rfl⟩
            rw [← hww] at hR14 hK14 hC14 hZ14 ⊢
            clear hww
            go_upto_if 99 with (go_at_call 27; refine (is_any b s s7 119 w14 hR14 hs).mono ?_; rintro e w15 ⟨rfl, hw15⟩; replace hw15 : Same w14 w15 := hw15)
            have hR15 := hw15.rd hR14
            have hK15 := hw15.kp hK14
            have hC15 := hw15.blk hC14
            have hZ15 := hw15.blk hZ14
            clear hw15 hR14 hK14 hC14 hZ14
            obtain ⟨s8, hs8⟩ : ∃ s8, s8 = if isB s s7 119 then (spacedS s (adv s7)).2 else s7 := ⟨_, rfl⟩
            have Hs8 := hide hs8
            clear hs8
            obtain ⟨T8, hT8⟩ : ∃ T8, T8 = if isB s s7 119 then (spacedS s (adv s7)).1 else ⟨#[]⟩ := ⟨_, rfl⟩
            have HT8 := hide hT8
            clear hT8
            go_cut [] (fun wc => ∃ c8 : Array Value, RD wc b s s8 ∧ Kp b w wc ∧ Blk wc cb c8 62 ∧ Kpt cs c8 ∧ RfV c8 ⟨T8, N5, false, tx, X, (isB s s5 103), (isB s s6 112), (isB s s7 119)⟩ ∧ Blk wc (cb + 1) zeroC 62)
            case first =>
              cases hx : isB s s7 119
              · go_wp2_with fail
                go_meet
                case rel => exact ⟨_, by rw [Hs8.out, hx]; exact hR15, hK15, hC15, hP14, by rw [HT8.out, hx]; exact hV14, hZ15⟩
              · have r1 := hR15.c1
                have rf := hR15.fz
                have hlt := peekOk_lt (isB_ok hx)
                have hks := hP14.size
                have qq := hC15.cell 29 (Array.getElem?_eq_getElem (by omega))
                have qf := hC15.fz
                have HX := hide hx
                clear hx
                go_wp2_with fail
                refine (spaced_any b s (adv s7) _ ((hR15.adv rfl).other ne1 _) hs (by simp [adv]; omega)).mono ?_
                rintro e w16 ⟨rfl, hR16, hK16⟩
                have hC16 := ((hC15.other (p := ⟨b, 1, none⟩) (Ne.symm ne1) (.int .i64 ((s7.i : Int) + 1))).set 29 (.bool true) rfl).kp hK16 (by omega)
                have hZ16 := ((hZ15.other (p := ⟨b, 1, none⟩) (by show b ≠ cb + 1; omega) (.int .i64 ((s7.i : Int) + 1))).other (p := ⟨cb, 29, none⟩) ne2 (.bool true)).kp hK16 (by omega)
                have hK17 := ((hK15.set 1 (.int .i64 ((s7.i : Int) + 1))).setNew (p := ⟨cb, 29, none⟩) hcb1 (.bool true)).trans hK16
                have hP16 := hP14.set 29 (by omega) (v := .bool true) rfl
                have hks2 := hP16.size
                have q17 := hC16.cell 17 (Array.getElem?_eq_getElem (by omega))
                have qf2 := hC16.fz
                clear r1 rf qq qf
                go_wp2_with fail
                go_meet
                case rel => exact ⟨_, by rw [Hs8.out, HX.out]; exact hR16.other ne1 _, hK17.setNew hcb1 _, hC16.set 17 _ rfl, hP16.set17 _, by rw [HT8.out, HX.out]; exact (hV14.set29 hks true).set17 hks2 _, hZ16.other ne2 _⟩
            case rest =>
            obtain ⟨c18, hR18, hK18, hC18, hP18, hV18, hZ18⟩ := hcut
            clear hR15 hK15 hC15 hZ15 hP14 hV14
            have hks := hP18.size
            obtain ⟨d, hd1, hd2⟩ := rowCmd
            have hi1 : (Tryz.prog.info? 62).map (·.size) = some c18.toList.length := by rw [infoCmd, Array.length_toList, hks]
            have hi2 : (Tryz.prog.info? 62).map (·.size) = some c18.size := by rw [infoCmd, hks]
            have hrg := range_cmd hC18
            have hth := there_cmd (n := c18.size) hZ18 (by rw [hks]; rfl)
            have h1' := hP18.one
            go_wp2_with (first | (refine wpList_load_mid rfl 62 _ rfl cb 0 rfl c18.toList d hrg hd1 hd2 hi1 ?_; rw [Array.toArray_toList]) | (refine wpList_store_mid rfl 62 _ _ rfl (cb + 1) 0 c18 rfl rfl hth hi2 h1' ?_))
            refine bodyPost_ret (ret_cmd rfl rfl (setCells_all hZ18 c18 (by rw [hks]; rfl)) hks) rfl ?_
            have hfin : (flagsS s 0 ⟨#[]⟩ (adv cur)).2 = s8 := by
              rw [← Hs4.out]
              exact flags_st s4 s5 s6 s7 s8 Hs5.out Hs6.out Hs7.out Hs8.out
            have hff : substF s n st = ⟨T8, N5, false, tx, X, isB s s5 103, isB s s6 112, isB s s7 119⟩ := by
              have h9 := flags_fl s4 s5 s6 s7 N5 T8 Hs5.out HN5.out Hs6.out Hs7.out HT8.out
              rw [HSF2.out, ← Hs4.out, h9, HX9.out]
            rw [E.out, hfin]
            exact ⟨c18, rfl, hP18, (fun _ => by rw [hff]; exact hV18), setCells_rd (by omega) _ _ _ hR18, setCells_kp (by omega) _ _ _ hK18⟩
          · rw [hb] at r2
            obtain ⟨d, hd1, hd2⟩ := rowCmd
            have hi1 : (Tryz.prog.info? 62).map (·.size) = some cs'.toList.length := by rw [infoCmd, Array.length_toList, hks]
            have hi2 : (Tryz.prog.info? 62).map (·.size) = some cs'.size := by rw [infoCmd, hks]
            have hrg := range_cmd hC5
            have hth := there_cmd (n := cs'.size) hZ5 (by rw [hks]; rfl)
            have h1' := hKp.one
            have E := hide (show substS s n st = cur by rw [HE2.out, if_pos hb])
            have HBD := hide hb
            clear hb hex HE2
            go_wp2_with (first | (refine wpList_load_mid rfl 62 _ rfl cb 0 rfl cs'.toList d hrg hd1 hd2 hi1 ?_; rw [Array.toArray_toList]) | (refine wpList_store_mid rfl 62 _ _ rfl (cb + 1) 0 cs' rfl rfl hth hi2 h1' ?_))
            refine bodyPost_ret (ret_cmd rfl rfl (setCells_all hZ5 cs' (by rw [hks]; rfl)) hks) rfl ?_
            rw [E.out]
            exact ⟨cs', rfl, hKp, (fun h => by rw [HBD.out] at h; cases h), setCells_rd (by omega) _ _ _ hR5, setCells_kp (by omega) _ _ _ hK5⟩
      · have hb : cur.bad = false := by
          cases hx : cur.bad
          · rfl
          · exact absurd (.inl hx) hex
        have hsl : isB s cur 47 = false := by
          cases hx : isB s cur 47
          · rfl
          · exact absurd (.inr hx) hex
        rw [hb] at r2
        obtain ⟨k, rfl⟩ : ∃ k, gk = k + 1 := ⟨gk - 1, by rcases hfu with h | h; (rw [hb] at h; cases h); omega⟩
        have hfu' : s.size + 1 < cur.i + (k + 1) := by rcases hfu with h | h; (rw [hb] at h; cases h); exact h
        have hmc' : m ≤ cur.i := by rcases hmc with h | h; (rw [hb] at h; cases h); exact h
        have hF := HF.out
        rw [replL, if_neg hex] at hF
        have HF2 := hide hF
        clear hF HF hfu hmc hex hb
        go_upto_region 9 with (go_at_call 27; refine (is_of hsl hR hs).mono ?_; rintro e w5 ⟨rfl, hw5⟩; replace hw5 : Same wr w5 := hw5)
        have hR5 := hw5.rd hR
        have hK5 := hw5.kp hK
        have hC5 := hw5.blk hC
        have hZ5 := hw5.blk hZ
        have hown5 : w5.ownsRow 0 128 3 (.slice ra rl rc) m xs := by obtain ⟨n5, rfl⟩ := hw5; exact hown
        clear hw5 hR hK hC hZ hown r2
        have q23 := hC5.cell 23 e23'
        go_wp2_with fail
        refine (piece_any G b s cur w5 hR5 hs hci hpg).mono ?_
        rintro e w6 ⟨v, rfl, ⟨pk, pcc, pn, rfl⟩, hR6, hK6⟩
        have hC6 := hC5.kp hK6 (by omega)
        have hZ6 := hZ5.kp hK6 (by omega)
        have hown6 := own_kp hown5 hK6 (fun k e => by have := hrow k e; omega)
        have hK6w := hK5.trans hK6
        have hsz6 := hK6.size
        have hpc := piece_le s G cur hci
        have q26 := hC6.cell 26 e26'
        have cl6 := hC6.lt
        have hCa := (hC6.alloc (.cells #[.int .u8 pk, .int .u8 pcc, .int .i64 pn] 128)).alloc (.cells #[.int .u8 pk, .int .u8 pcc, .int .i64 pn] 128)
        have hZa := (hZ6.alloc (.cells #[.int .u8 pk, .int .u8 pcc, .int .i64 pn] 128)).alloc (.cells #[.int .u8 pk, .int .u8 pcc, .int .i64 pn] 128)
        have hRa := (hR6.alloc (.cells #[.int .u8 pk, .int .u8 pcc, .int .i64 pn] 128)).alloc (.cells #[.int .u8 pk, .int .u8 pcc, .int .i64 pn] 128)
        have hKa := (hK6w.alloc (.cells #[.int .u8 pk, .int .u8 pcc, .int .i64 pn] 128)).alloc (.cells #[.int .u8 pk, .int .u8 pcc, .int .i64 pn] 128)
        have hbytes : (m + 1) * 16 ≤ 140737488355328 := by omega
        have hml : m + 1 ≤ maxLen := by unfold maxLen; omega
        have hrc : (Value.slice ra rl rc).ownBlock ≠ some cb := fun e => by have := hrow cb e; omega
        have HH := hide (And.intro hZa (And.intro hRa (And.intro hKa (And.intro hrow (And.intro hKp hVc)))))
        clear hC5 hZ5 hR5 hK5 hown5 hK6 hC6 hZ6 hR6 hK6w q23 hZa hRa hKa
        go_wp2_with (at_builtin; refine wpList_append_lies _ rfl _ _ 60 rfl 0 128 i0 (.agg #[.int .u8 0, .int .u8 0, .int .i64 0]) 3 16 Tryz.underlying60 HI.out.1 HI.out.2.1 HI.out.2.2.1 HI.out.2.2.2 rfl (by decide) (.slice ra rl rc) m xs rfl ((hown6.alloc _).alloc _) ⟨w6.heap.size + 1, 0, none⟩ 1 1 [.int .u8 pk, .int .u8 pcc, .int .i64 pn] rfl rfl (blk_news (Blk.newAt (by simp))) (by intro u hu; simp at hu; rcases hu with rfl | rfl | rfl <;> rfl) (by decide) hml hbytes (Nat.zero_le _) (w6.heap.size + 2) (by simp) ?_; intro g7 cap7 w7 hown7 hgrow7 hat7 hlt7; have hC7 := grown_blk hCa hgrow7 hrc; have q7 := hC7.cell 26 e26'; have f7 := hC7.fz 26)
        go_roundg k
        case measure => omega
        case rel =>
          obtain ⟨hZa, hRa, hKa, hrow, hKp, hVc⟩ := HH.out
          have hg7 : cb + 1 < g7 := by
            rcases hat7 with e | e
            · exact hrow g7 e
            · omega
          have hks := hKp.size
          refine ⟨pieceS s G cur, cs'.setIfInBounds 26 (.slice (some ⟨g7, 0, none⟩) (m + 1) cap7), some ⟨g7, 0, none⟩, m + 1, cap7, m + 1, xs ++ [.int .u8 pk, .int .u8 pcc, .int .i64 pn], ?_, ?_, hC7.set 26 _ rfl, hKp.set 26 (by omega) rfl, hVc.set 26 (by omega) _, ?_, ?_, ?_, ?_, ?_, hpc.2.1, by omega, ?_, ?_, HF2.out⟩
          · exact (grown_rd hRa hgrow7 (fun k e => by have := hrow k e; omega)).other ne1 _
          · exact (grown_kp hKa hgrow7 (fun k e => by have := hrow k e; omega)).setNew hcb1 _
          · rw [Array.getElem?_setIfInBounds_self_of_lt (by omega)]
          · rw [Array.getElem?_setIfInBounds_ne (by omega)]; exact e23'
          · exact own_kp hown7 ((Kp.refl cb w7).set 26 _) (fun k e => by cases e; show g7 ≠ cb; omega)
          · intro k e; cases e; exact hg7
          · exact (grown_blk hZa hgrow7 (fun e => by have := hrow _ e; omega)).other ne2 _
          · rcases hpc.2.2 with h | h
            · exact .inl h
            · exact .inr (by omega)
          · rcases hpc.2.2 with h | h
            · exact .inl h
            · exact .inr (by omega)
  · rw [hb] at r2
    obtain ⟨d, hd1, hd2⟩ := rowCmd
    have hi1 : (Tryz.prog.info? 62).map (·.size) = some cs.toList.length := by rw [infoCmd, Array.length_toList, hz]
    have hi2 : (Tryz.prog.info? 62).map (·.size) = some cs.size := by rw [infoCmd, hz]
    have hrg := range_cmd hC1
    have hth := there_cmd (n := cs.size) hZ1 (by rw [hz]; rfl)
    have E := hide (show substS s n st = eatS s 47 st by unfold substS; rw [if_pos hb])
    have HBD := hide hb
    clear hb
    go_wp2_with (first | (refine wpList_load_mid rfl 62 _ rfl cb 0 rfl cs.toList d hrg hd1 hd2 hi1 ?_; rw [Array.toArray_toList]) | (refine wpList_store_mid rfl 62 _ _ rfl (cb + 1) 0 cs rfl rfl hth hi2 h1 ?_))
    refine bodyPost_ret (ret_cmd rfl rfl (setCells_all hZ1 cs (by rw [hz]; rfl)) hz) rfl ?_
    rw [E.out]
    exact ⟨cs, rfl, ⟨hz, h1, fun _ _ => rfl, htx⟩, (fun h => by rw [HBD.out] at h; cases h), setCells_rd (by omega) _ _ _ hR1, setCells_kp (by omega) _ _ _ hKw⟩
end Go.Proofs.YtmjdaifalgpdnaaGreat
