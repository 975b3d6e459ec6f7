import Derived.Test.YtmjdaifalgpdnaaGreatPlaB
import Derived.Laws.Concat
namespace Go.Proofs.YtmjdaifalgpdnaaGreat
open Go.RowKit

/-- What a part deep inside gives up with. -/
def gaveUp (errno place : Int) : List PanicEntry := [{ v := .iface 46 (.agg #[.int .i64 errno, .int .i64 place]), recovered := false }]

/-- The cells of a reader at the head of a block. -/
structure RdC (w : World) (b : Nat) (s : ByteArray) (at_ : Nat) (en : Int) : Prop where
  c0 : w.cell? ⟨b, 0, none⟩ = some (.string s)
  c1 : w.cell? ⟨b, 1, none⟩ = some (.int .i64 at_)
  c2 : w.cell? ⟨b, 2, none⟩ = some (.int .i64 en)
  f1 : w.frozen? ⟨b, 1, none⟩ = false

section
variable {w : World} {b : Nat} {s : ByteArray} {at_ : Nat} {en : Int}
/-- A reader has moved to a place. -/
def Moved (w : World) (b : Nat) (dst : Int) (w' : World) : Prop := ∃ n m, w' = ((w.drewN n).setCell ⟨b, 1, none⟩ (.int .i64 dst)).drewN m
theorem RdC.moved {w' : World} {dst : Nat} (h : RdC w b s at_ en) (hm : Moved w b dst w') : RdC w' b s dst en := by
  obtain ⟨n, m, rfl⟩ := hm
  have hc : ∀ o, o ≠ 1 → ((w.drewN n).setCell ⟨b, 1, none⟩ (.int .i64 (dst : Int))).cell? ⟨b, o, none⟩ = w.cell? ⟨b, o, none⟩ := fun o ho => World.cell?_setCell_other (w.drewN n) ⟨b, 1, none⟩ ⟨b, o, none⟩ _ (fun e => ho (congrArg Addr.off e).symm)
  refine ⟨(hc 0 (by omega)).trans h.c0, ?_, (hc 2 (by omega)).trans h.c2, ?_⟩
  · exact World.cell?_setCell_same' _ _ _ (by have := h.c1; show (w.cell? _).isSome = true; rw [this]; rfl)
  · show ((w.drewN n).setCell ⟨b, 1, none⟩ (.int .i64 (dst : Int))).frozen? _ = false
    rw [World.frozen?_setCell]; exact h.f1
theorem Moved.kp {w' : World} {dst : Int} (h : Moved w b dst w') : Kp b w w' := by
  obtain ⟨n, m, rfl⟩ := h
  exact (((Kp.refl b w).drewN n).set _ _).drewN m
theorem RdC.drewN (h : RdC w b s at_ en) (n : Nat) : RdC (w.drewN n) b s at_ en := ⟨h.c0, h.c1, h.c2, h.f1⟩
end

set_option maxHeartbeats 400000 in
theorem giveUp_any (b : Nat) (s : ByteArray) (at_ : Nat) (en place : Int) (w : World) (h : RdC w b s at_ en) :
    Calls Tryz.prog 36 #[.pointer (some ⟨b, 0, none⟩), .int .i64 place] w fun e w' => e = .panicked (gaveUp en place) ∧ w' = w := by
  have c2 := h.c2
  go_enter Tryz.func36, Tryz.ntmps36
  go_wp2_with fail
  exact ⟨rfl, rfl, rfl⟩

set_option maxHeartbeats 400000 in
theorem refuse_any (b : Nat) (s : ByteArray) (at_ : Nat) (en : Int) (w : World) (h : RdC w b s at_ en) (hs : s.size ≤ 1048576) (ha : at_ ≤ s.size) :
    Calls Tryz.prog 65 #[.pointer (some ⟨b, 0, none⟩)] w fun e w' => e = .panicked (gaveUp en ((at_ : Int) - 1)) ∧ w' = w := by
  have c1 := h.c1
  go_enter Tryz.func65, Tryz.ntmps65
  go_wp2_with fail
  refine (giveUp_any b s at_ en _ _ h).mono ?_
  rintro e w1 ⟨rfl, rfl⟩
  exact ⟨rfl, rfl, rfl⟩

set_option maxHeartbeats 400000 in
theorem take_ok (b : Nat) (s : ByteArray) (at_ : Nat) (en : Int) (w : World) (h : RdC w b s at_ en) (hs : s.size ≤ 1048576) (ha : at_ < s.size) :
    Calls Tryz.prog 63 #[.pointer (some ⟨b, 0, none⟩)] w fun e w' => e = .returned (.int .u8 (s[at_]'ha).toNat) ∧ Moved w b ((at_ + 1 : Nat) : Int) w' := by
  have c0 := h.c0
  have c1 := h.c1
  have f1 := h.f1
  have hne : ((at_ : Int) == s.size) = false := by simp; omega
  have hw : IntKind.i64.wrap ((at_ : Int) + 1 - 1) = (at_ : Int) := by rw [wrapE _ (by omega) (by omega)]; omega
  go_enter Tryz.func63, Tryz.ntmps63
  go_wp2
  go_quiet (fail)
  go_wp2_with fail
  go_quiet (fail)
  go_wp2_with fail
  go_ret
  exact ⟨rfl, _, _, rfl⟩

set_option maxHeartbeats 400000 in
theorem take_end (b : Nat) (s : ByteArray) (en : Int) (w : World) (h : RdC w b s s.size en) :
    Calls Tryz.prog 63 #[.pointer (some ⟨b, 0, none⟩)] w fun e w' => e = .panicked (gaveUp en s.size) ∧ ∃ n, w' = w.drewN n := by
  have c0 := h.c0
  have c1 := h.c1
  have hne : ((s.size : Int) == s.size) = true := by simp
  go_enter Tryz.func63, Tryz.ntmps63
  go_wp2
  go_quiet (fail)
  go_wp2_with fail
  refine (giveUp_any b s s.size en _ _ (h.drewN _)).mono ?_
  rintro e w1 ⟨rfl, rfl⟩
  exact ⟨rfl, rfl, _, rfl⟩

/-- does the word come next? -/
def nextW (s : ByteArray) (at_ : Nat) (word : ByteArray) : Bool := decide (word.size ≤ s.size - at_) && (((s.extract at_ s.size).extract 0 word.size).toList == word.toList)

set_option maxHeartbeats 400000 in
theorem hasPrefix_any (a p : ByteArray) (w : World) (_ha : a.size ≤ 1048576) (_hp : p.size ≤ 1048576) :
    Calls Tryz.prog 68 #[.string a, .string p] w fun e w' => e = .returned (.bool (decide (p.size ≤ a.size) && ((a.extract 0 p.size).toList == p.toList))) ∧ w' = w := by
  by_cases h : p.size ≤ a.size
  · go_enter Tryz.func68, Tryz.ntmps68
    go_wp2
    go_ret
    exact ⟨ret_bool (by simp [h]), rfl⟩
  · go_enter Tryz.func68, Tryz.ntmps68
    go_wp2
    go_ret
    exact ⟨ret_bool (by simp [h]), rfl⟩

set_option maxHeartbeats 400000 in
theorem hasPrefix2_any (a p : ByteArray) (w : World) (ha : a.size ≤ 1048576) (hp : p.size ≤ 1048576) :
    Calls Tryz.prog 59 #[.string a, .string p] w fun e w' => e = .returned (.bool (decide (p.size ≤ a.size) && ((a.extract 0 p.size).toList == p.toList))) ∧ w' = w := by
  go_enter Tryz.func59, Tryz.ntmps59
  go_wp2_with fail
  refine (hasPrefix_any a p _ ha hp).mono ?_
  rintro e w1 ⟨rfl, rfl⟩
  go_wp2_with fail
  go_ret
  exact ⟨rfl, rfl⟩

theorem size_tail (s : ByteArray) (k : Nat) : (s.extract k s.size).size = s.size - k := by rw [ByteArray.size_extract]; omega

set_option maxHeartbeats 400000 in
theorem isNext_any (b : Nat) (s : ByteArray) (at_ : Nat) (en : Int) (word : ByteArray) (w : World) (h : RdC w b s at_ en) (hs : s.size ≤ 1048576) (ha : at_ ≤ s.size) (hw : word.size ≤ 1048576) :
    Calls Tryz.prog 44 #[.pointer (some ⟨b, 0, none⟩), .string word] w fun e w' => e = .returned (.bool (nextW s at_ word)) ∧ ∃ n, w' = w.drewN n := by
  have c0 := h.c0
  have c1 := h.c1
  have hst := size_tail s at_
  have e1 : nextW s at_ word = (decide (word.size ≤ (s.extract at_ s.size).size) && (((s.extract at_ s.size).extract 0 word.size).toList == word.toList)) := by rw [hst]; rfl
  have E1 := hide e1
  clear e1
  have hle : (s.extract at_ s.size).size ≤ 1048576 := by omega
  clear hst
  go_enter Tryz.func44, Tryz.ntmps44
  go_wp2
  go_quiet ((go_at_call 59; exact Calls.quiet_of_same (hasPrefix2_any _ _ _ hle hw)))
  go_wp2_with fail
  go_ret
  exact ⟨ret_bool E1.out.symm, _, rfl⟩

theorem isNext_of {b : Nat} {s : ByteArray} {at_ : Nat} {en : Int} {word : ByteArray} {x : Bool} (hx : nextW s at_ word = x) {w : World} (h : RdC w b s at_ en) (hs : s.size ≤ 1048576) (ha : at_ ≤ s.size) (hw : word.size ≤ 1048576) :
    Calls Tryz.prog 44 #[.pointer (some ⟨b, 0, none⟩), .string word] w fun e w' => e = .returned (.bool x) ∧ ∃ n, w' = w.drewN n := by
  subst hx; exact isNext_any b s at_ en word w h hs ha hw

set_option maxHeartbeats 400000 in
theorem takeIf_no (b : Nat) (s : ByteArray) (at_ : Nat) (en : Int) (word : ByteArray) (w : World) (h : RdC w b s at_ en) (hs : s.size ≤ 1048576) (ha : at_ ≤ s.size) (hw : word.size ≤ 1048576) (hx : nextW s at_ word = false) :
    Calls Tryz.prog 58 #[.pointer (some ⟨b, 0, none⟩), .string word] w fun e w' => e = .returned (.bool false) ∧ ∃ n, w' = w.drewN n := by
  have HX := hide hx
  clear hx
  go_enter Tryz.func58, Tryz.ntmps58
  go_wp2_with fail
  refine (isNext_of HX.out h hs ha hw).mono ?_
  rintro e w1 ⟨rfl, n, rfl⟩
  go_wp2_with fail
  go_ret
  exact ⟨rfl, _, rfl⟩

theorem nextW_le {s : ByteArray} {at_ : Nat} {word : ByteArray} (h : nextW s at_ word = true) (ha : at_ ≤ s.size) : at_ + word.size ≤ s.size := by
  simp [nextW] at h; omega

set_option maxHeartbeats 400000 in
theorem takeIf_yes (b : Nat) (s : ByteArray) (at_ : Nat) (en : Int) (word : ByteArray) (w : World) (h : RdC w b s at_ en) (hs : s.size ≤ 1048576) (ha : at_ ≤ s.size) (hw : word.size ≤ 1048576) (hx : nextW s at_ word = true) :
    Calls Tryz.prog 58 #[.pointer (some ⟨b, 0, none⟩), .string word] w fun e w' => e = .returned (.bool true) ∧ Moved w b ((at_ : Int) + word.size) w' := by
  have hle := nextW_le hx ha
  have HX := hide hx
  have c1 := h.c1
  have f1 := h.f1
  clear hx
  go_enter Tryz.func58, Tryz.ntmps58
  go_wp2_with fail
  refine (isNext_of HX.out h hs ha hw).mono ?_
  rintro e w1 ⟨rfl, n, rfl⟩
  go_wp2_with fail
  go_ret
  exact ⟨rfl, n, 0, rfl⟩

theorem indexByte_run (s : ByteArray) (c : Int) (w : World) : (callFunc 85 #[.string s, .int .u8 c]).run Tryz.prog w = .ok (.value (.int .i64 (firstIdx s c.toNat.toUInt8))) w := by
  rw [run_callFunc_extern (e := Extern.BytealgIndexByte.indexByte) Tryz.func85 (by kernel_rfl) (by kernel_rfl) (by kernel_rfl) (by kernel_rfl), run_indexByte_string]
  rfl

theorem firstIdx_lo (s : ByteArray) (c : UInt8) : -1 ≤ firstIdx s c := by unfold firstIdx; split <;> omega
theorem firstIdx_hi (s : ByteArray) (c : UInt8) : firstIdx s c ≤ s.size := by
  unfold firstIdx; split
  · next i h => have := List.mem_of_find?_eq_some h; simp at this; omega
  · omega
theorem firstIdx_has (s : ByteArray) (c : Int) (h0 : 0 ≤ c) (h1 : c < 256) : decide (0 ≤ firstIdx s c.toNat.toUInt8) = hasL s.data.toList c := by
  have hc : ((c.toNat.toUInt8).toNat : Int) = c := by
    rw [show c.toNat.toUInt8 = UInt8.ofNat c.toNat from rfl, UInt8.toNat_ofNat']; omega
  have key : ∀ x : UInt8, (x == c.toNat.toUInt8) = ((x.toNat : Int) == c) := by
    intro x
    rw [Bool.eq_iff_iff]
    simp only [beq_iff_eq]
    constructor
    · intro h; rw [h]; exact hc
    · intro h
      apply UInt8.toNat_inj.1
      omega
  unfold firstIdx
  split
  · next i h =>
    have h2 := List.find?_some h
    have h3 := List.mem_of_find?_eq_some h
    simp only [List.mem_range] at h3
    have e1 : s[i]! = s[i] := getElem!_pos s i h3
    rw [e1, key] at h2
    have : hasL s.data.toList c = true := by
      unfold hasL
      rw [List.any_eq_true]
      exact ⟨s[i], List.getElem_mem (l := s.data.toList) (n := i) (by simpa using h3), h2⟩
    rw [this]; simp
  · next h =>
    rw [List.find?_eq_none] at h
    have : hasL s.data.toList c = false := by
      unfold hasL
      rw [List.any_eq_false]
      intro x hx
      obtain ⟨i, hi, rfl⟩ := List.getElem_of_mem hx
      have hi' : i < s.size := by simpa using hi
      have := h i (by simpa using hi')
      have e1 : s[i]! = s[i] := getElem!_pos s i hi'
      rw [e1, key] at this
      exact this
    rw [this]; simp

set_option maxHeartbeats 400000 in
theorem indexByte1_any (s : ByteArray) (c : Int) (w : World) :
    Calls Tryz.prog 78 #[.string s, .int .u8 c] w fun e w' => e = .returned (.int .i64 (firstIdx s c.toNat.toUInt8)) ∧ w' = w := by
  have hx := indexByte_run s c
  go_enter Tryz.func78, Tryz.ntmps78
  go_wp2
  go_ret
  exact ⟨rfl, rfl⟩

set_option maxHeartbeats 400000 in
theorem indexByte_any (s : ByteArray) (c : Int) (w : World) :
    Calls Tryz.prog 64 #[.string s, .int .u8 c] w fun e w' => e = .returned (.int .i64 (firstIdx s c.toNat.toUInt8)) ∧ w' = w := by
  go_enter Tryz.func64, Tryz.ntmps64
  go_wp2_with fail
  refine (indexByte1_any s c _).mono ?_
  rintro e w1 ⟨rfl, rfl⟩
  go_wp2_with fail
  go_ret
  exact ⟨rfl, rfl⟩

/-- is there a next byte, and is it one of these? -/
def nextOf (s : ByteArray) (at_ : Nat) (l : ByteArray) : Bool := if h : at_ < s.size then hasL l.data.toList (s[at_]'h).toNat else false

set_option maxHeartbeats 400000 in
theorem isNextOf_any (b : Nat) (s : ByteArray) (at_ : Nat) (en : Int) (l : ByteArray) (w : World) (h : RdC w b s at_ en) (_hs : s.size ≤ 1048576) :
    Calls Tryz.prog 69 #[.pointer (some ⟨b, 0, none⟩), .string l] w fun e w' => e = .returned (.bool (nextOf s at_ l)) ∧ ∃ n, w' = w.drewN n := by
  have c0 := h.c0
  have c1 := h.c1
  by_cases hlt : at_ < s.size
  · have hd : decide ((at_ : Int) < s.size) = true := by simp; omega
    have hb := (s[at_]'hlt).toNat_lt
    have e1 : nextOf s at_ l = decide (0 ≤ firstIdx l (s[at_]'hlt)) := by
      have h1 := firstIdx_has l ((s[at_]'hlt).toNat : Int) (by omega) (by omega)
      have h2 : ((s[at_]'hlt).toNat : Int).toNat.toUInt8 = s[at_]'hlt := by simp
      rw [h2] at h1
      rw [h1, nextOf, dif_pos hlt]
    have E1 := hide e1
    clear e1
    go_enter Tryz.func69, Tryz.ntmps69
    go_wp2
    go_quiet ((go_at_call 64; exact Calls.quiet_of_same (indexByte_any _ _ _)))
    go_wp2_with fail
    go_ret
    exact ⟨ret_bool E1.out.symm, _, rfl⟩
  · have hd : decide ((at_ : Int) < s.size) = false := by simp; omega
    go_enter Tryz.func69, Tryz.ntmps69
    go_wp2
    go_quiet (fail)
    go_wp2_with fail
    go_ret
    exact ⟨ret_bool (by simp [nextOf, hlt]), _, rfl⟩

theorem isNextOf_of {b : Nat} {s : ByteArray} {at_ : Nat} {en : Int} {l : ByteArray} {x : Bool} (hx : nextOf s at_ l = x) {w : World} (h : RdC w b s at_ en) (hs : s.size ≤ 1048576) :
    Calls Tryz.prog 69 #[.pointer (some ⟨b, 0, none⟩), .string l] w fun e w' => e = .returned (.bool x) ∧ ∃ n, w' = w.drewN n := by
  subst hx; exact isNextOf_any b s at_ en l w h hs

theorem Moved.pre {w : World} {b n : Nat} {dst : Int} {w' : World} (h : Moved (w.drewN n) b dst w') : Moved w b dst w' := by
  obtain ⟨i, j, rfl⟩ := h
  exact ⟨n + i, j, by rw [World.drewN_drewN]⟩

set_option maxHeartbeats 400000 in
theorem takeOther_ok (b : Nat) (s : ByteArray) (at_ : Nat) (en : Int) (l : ByteArray) (w : World) (h : RdC w b s at_ en) (hs : s.size ≤ 1048576) (ha : at_ < s.size) (hn : nextOf s at_ l = false) :
    Calls Tryz.prog 84 #[.pointer (some ⟨b, 0, none⟩), .string l] w fun e w' => e = .returned (.int .u8 (s[at_]'ha).toNat) ∧ Moved w b ((at_ + 1 : Nat) : Int) w' := by
  have HN := hide hn
  clear hn
  go_enter Tryz.func84, Tryz.ntmps84
  go_wp2_with fail
  refine (isNextOf_of HN.out h hs).mono ?_
  rintro e w1 ⟨rfl, n, rfl⟩
  go_wp2_with fail
  refine (take_ok b s at_ en _ (h.drewN n) hs ha).mono ?_
  rintro e w1 ⟨rfl, hm⟩
  go_wp2_with fail
  go_ret
  exact ⟨rfl, hm.pre⟩

set_option maxHeartbeats 400000 in
theorem takeOther_bad (b : Nat) (s : ByteArray) (at_ : Nat) (en : Int) (l : ByteArray) (w : World) (h : RdC w b s at_ en) (hs : s.size ≤ 1048576) (hn : nextOf s at_ l = true) :
    Calls Tryz.prog 84 #[.pointer (some ⟨b, 0, none⟩), .string l] w fun e w' => e = .panicked (gaveUp en at_) ∧ ∃ n, w' = w.drewN n := by
  have HN := hide hn
  have c1 := h.c1
  clear hn
  go_enter Tryz.func84, Tryz.ntmps84
  go_wp2_with fail
  refine (isNextOf_of HN.out h hs).mono ?_
  rintro e w1 ⟨rfl, n, rfl⟩
  go_wp2_with fail
  refine (giveUp_any b s at_ en _ _ (h.drewN n)).mono ?_
  rintro e w1 ⟨rfl, rfl⟩
  exact ⟨rfl, rfl, _, rfl⟩

set_option maxHeartbeats 400000 in
theorem takeOther_end (b : Nat) (s : ByteArray) (en : Int) (l : ByteArray) (w : World) (h : RdC w b s s.size en) (hs : s.size ≤ 1048576) :
    Calls Tryz.prog 84 #[.pointer (some ⟨b, 0, none⟩), .string l] w fun e w' => e = .panicked (gaveUp en s.size) ∧ ∃ n, w' = w.drewN n := by
  have HN : Hid (nextOf s s.size l = false) := by simp [Hid, nextOf]
  go_enter Tryz.func84, Tryz.ntmps84
  go_wp2_with fail
  refine (isNextOf_of HN.out h hs).mono ?_
  rintro e w1 ⟨rfl, n, rfl⟩
  go_wp2_with fail
  refine (take_end b s en _ (h.drewN n)).mono ?_
  rintro e w1 ⟨rfl, m, rfl⟩
  exact ⟨rfl, rfl, _, by rw [World.drewN_drewN]⟩

set_option maxHeartbeats 400000 in
theorem takeOneOf_end (b : Nat) (s : ByteArray) (en : Int) (l : ByteArray) (w : World) (h : RdC w b s s.size en) :
    Calls Tryz.prog 46 #[.pointer (some ⟨b, 0, none⟩), .string l] w fun e w' => e = .panicked (gaveUp en s.size) ∧ ∃ n, w' = w.drewN n := by
  go_enter Tryz.func46, Tryz.ntmps46
  go_wp2_with fail
  refine (take_end b s en _ h).mono ?_
  rintro e w1 ⟨rfl, m, rfl⟩
  exact ⟨rfl, rfl, _, rfl⟩

theorem nextOf_idx {s : ByteArray} {at_ : Nat} (l : ByteArray) (ha : at_ < s.size) : nextOf s at_ l = decide (0 ≤ firstIdx l (s[at_]'ha)) := by
  have hb := (s[at_]'ha).toNat_lt
  have h1 := firstIdx_has l ((s[at_]'ha).toNat : Int) (by omega) (by omega)
  have h2 : ((s[at_]'ha).toNat : Int).toNat.toUInt8 = s[at_]'ha := by simp
  rw [h2] at h1
  rw [h1, nextOf, dif_pos ha]

set_option maxHeartbeats 400000 in
theorem takeOneOf_ok (b : Nat) (s : ByteArray) (at_ : Nat) (en : Int) (l : ByteArray) (w : World) (h : RdC w b s at_ en) (hs : s.size ≤ 1048576) (ha : at_ < s.size) (hn : nextOf s at_ l = true) :
    Calls Tryz.prog 46 #[.pointer (some ⟨b, 0, none⟩), .string l] w fun e w' => e = .returned (.int .u8 (s[at_]'ha).toNat) ∧ Moved w b ((at_ + 1 : Nat) : Int) w' := by
  rw [nextOf_idx l ha] at hn
  have hx : 0 ≤ firstIdx l (s[at_]'ha) := by simpa using hn
  have HN := hide hn
  clear hn
  go_enter Tryz.func46, Tryz.ntmps46
  go_wp2_with fail
  refine (take_ok b s at_ en _ h hs ha).mono ?_
  rintro e w1 ⟨rfl, hm⟩
  go_wp2_with fail
  refine (indexByte_any l _ _).mono ?_
  rintro e w2 ⟨rfl, rfl⟩
  have h2 : ((s[at_]'ha).toNat : Int).toNat.toUInt8 = s[at_]'ha := by simp
  rw [h2]
  go_wp2_with fail
  go_ret
  exact ⟨rfl, hm⟩

set_option maxHeartbeats 400000 in
theorem takeOneOf_bad (b : Nat) (s : ByteArray) (at_ : Nat) (en : Int) (l : ByteArray) (w : World) (h : RdC w b s at_ en) (hs : s.size ≤ 1048576) (ha : at_ < s.size) (hn : nextOf s at_ l = false) :
    Calls Tryz.prog 46 #[.pointer (some ⟨b, 0, none⟩), .string l] w fun e w' => e = .panicked (gaveUp en at_) ∧ Kp b w w' := by
  rw [nextOf_idx l ha] at hn
  have hx : firstIdx l (s[at_]'ha) < 0 := by simpa using hn
  have HN := hide hn
  clear hn
  go_enter Tryz.func46, Tryz.ntmps46
  go_wp2_with fail
  refine (take_ok b s at_ en _ h hs ha).mono ?_
  rintro e w1 ⟨rfl, hm⟩
  go_wp2_with fail
  refine (indexByte_any l _ _).mono ?_
  rintro e w2 ⟨rfl, rfl⟩
  have h2 : ((s[at_]'ha).toNat : Int).toNat.toUInt8 = s[at_]'ha := by simp
  rw [h2]
  go_wp2_with fail
  refine (refuse_any b s (at_ + 1) en _ (h.moved hm) hs (by omega)).mono ?_
  rintro e w2 ⟨rfl, rfl⟩
  refine ⟨rfl, ?_, hm.kp⟩
  have : (((at_ + 1 : Nat) : Int) - 1) = (at_ : Int) := by omega
  rw [this]
end Go.Proofs.YtmjdaifalgpdnaaGreat
