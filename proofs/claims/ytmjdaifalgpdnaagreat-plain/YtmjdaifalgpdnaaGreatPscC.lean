import Derived.Test.YtmjdaifalgpdnaaGreatPscA
namespace Go.Proofs.YtmjdaifalgpdnaaGreat
open Go.RowKit

theorem blanks_b (s : ByteArray) : ∀ (n : Nat) (st : St), (blanksS s n st).bad = st.bad
  | 0, _ => rfl
  | n + 1, st => by
    rw [blanksS]
    split
    · exact blanks_b s n _
    · rfl

set_option maxHeartbeats 800000 in
theorem pblanks_any (n b : Nat) (s : ByteArray) (st : St) (en : Int) (cv ov : Value) (w : World) (h : SR w b s st.i en cv ov) (hb : st.bad = false) (hs : s.size ≤ 1048576) (hi : st.i ≤ s.size) (hn : s.size < st.i + n) :
    Calls Tryz.prog 43 #[.pointer (some ⟨b, 0, none⟩)] w fun e w' => e = .returned (.tuple #[]) ∧ SR w' b s (blanksS s n st).i en cv ov ∧ Kp b w w' := by
  go_enter Tryz.func43, Tryz.ntmps43
  go_wp2_with fail
  go_loopg [] n (fun k w' => ∃ cur : St, SR w' b s cur.i en cv ov ∧ cur.bad = false ∧ Kp b w w' ∧ cur.i ≤ s.size ∧ s.size < cur.i + k ∧ Hid (blanksS s k cur = blanksS s n st))
  case atStart => exact ⟨st, h, hb, Kp.refl _ _, hi, hn, rfl⟩
  case round =>
    obtain ⟨cur, hR, hcb, hK, hci, hck, HE⟩ := hrel
    cases hx : isB s cur 32
    · have HX := hide hx
      have e1 : advIf s 32 cur = cur := by unfold advIf; rw [hx]; rfl
      have E1 := hide e1
      clear e1
      go_wp2_with (go_at_call 58; refine (sTakeIf 32 32 rfl hx hR hcb hs hci).mono ?_; rintro e w1 ⟨rfl, hR1, hK1⟩)
      go_end0
      refine ⟨rfl, ?_, hK.trans hK1⟩
      have := HE.out
      rw [← this]
      rw [E1.out] at hR1
      cases hk : gk with
      | zero => rw [hk] at hck; omega
      | succ k => rw [blanksS, HX.out]; exact hR1
    · have HX := hide hx
      have e1 : advIf s 32 cur = adv cur := by unfold advIf; rw [hx]; rfl
      have E1 := hide e1
      clear e1
      have hlt := peekOk_lt (isB_ok hx)
      go_wp2_with (go_at_call 58; refine (sTakeIf 32 32 rfl hx hR hcb hs hci).mono ?_; rintro e w1 ⟨rfl, hR1, hK1⟩)
      go_roundg (gk - 1)
      case measure => omega
      case rel =>
        obtain ⟨k, rfl⟩ : ∃ k, gk = k + 1 := ⟨gk - 1, by omega⟩
        rw [E1.out] at hR1
        refine ⟨adv cur, hR1, hcb, hK.trans hK1, by simp [adv]; omega, by simp [adv]; omega, ?_⟩
        have := HE.out
        rw [blanksS, HX.out] at this
        exact this

def lettersB : ByteArray := ⟨#[97, 98, 99, 100, 101, 102, 103, 104, 105, 106, 107, 108, 109, 110, 111, 112, 113, 114, 115, 116, 117, 118, 119, 120, 121, 122]⟩

theorem oneOf_yes {s : ByteArray} {l : List UInt8} {st : St} (h : amongB s st l = true) : oneOfS s l st = adv st := by unfold oneOfS; rw [h]; rfl
theorem oneOf_no {s : ByteArray} {l : List UInt8} {st : St} (h : amongB s st l = false) : oneOfS s l st = spoil st := by unfold oneOfS; rw [h]; rfl

theorem wordS_ways (s : ByteArray) (st : St) : (amongB s st lettersL = true ∧ wordS s st = (s.extract st.i (wordL s 7 (adv st)).i, wordL s 7 (adv st))) ∨ (amongB s st lettersL = false ∧ wordS s st = (⟨#[]⟩, spoil st)) := by
  cases hx : amongB s st lettersL
  · right
    have e : wordL s 8 st = st := by rw [wordL, if_neg (by rw [hx]; simp)]
    unfold wordS
    rw [e, if_pos rfl]
    exact ⟨rfl, rfl⟩
  · left
    have e : wordL s 8 st = wordL s 7 (adv st) := by rw [wordL, if_pos hx]
    have hl := amongB_lt hx
    have := wordL_le s 7 (adv st) (by simp [adv]; omega)
    unfold wordS
    have e9 : (adv st).i = st.i + 1 := rfl
    rw [e, if_neg (by omega)]
    exact ⟨rfl, rfl⟩

set_option maxHeartbeats 800000 in
theorem pword_any (b : Nat) (s : ByteArray) (st : St) (en : Int) (cv ov : Value) (w : World) (h : SR w b s st.i en cv ov) (hb : st.bad = false) (hs : s.size ≤ 1048576) (hi : st.i ≤ s.size) :
    Calls Tryz.prog 73 #[.pointer (some ⟨b, 0, none⟩)] w fun e w' => TookS w b s en cv ov (wordS s st).2 (fun e _ => e = .returned (.string (wordS s st).1)) e w' := by
  have c1 := h.c1
  have hw := wordS_ways s st
  go_enter Tryz.func73, Tryz.ntmps73
  go_wp2_with fail
  refine (sTakeOneOf lettersB h hb hs hi).mono ?_
  rintro e w1 ⟨hK1, hT⟩
  rcases hT with ⟨-, ⟨rfl, hx⟩, hR1⟩ | ⟨hbd, rfl⟩
  · rw [oneOf_yes hx] at hR1
    rcases hw with ⟨-, hw⟩ | ⟨hw, -⟩
    · have HW := hide hw
      have hl := amongB_lt hx
      have hlen := wordL_le s 7 (adv st) (by simp [adv]; omega)
      have HL := hide hlen
      clear hw hx c1 hlen
      go_wp2_with fail
      go_loopg [] 7 (fun k w' => ∃ cur : St, SR w' b s cur.i en cv ov ∧ cur.bad = false ∧ Kp b w w' ∧ cur.i ≤ s.size ∧ cur.i + k = st.i + 8 ∧ Hid (wordL s k cur = wordL s 7 (adv st)))
      case atStart => exact ⟨adv st, hR1, hb, hK1, by simp [adv]; omega, by simp [adv], rfl⟩
      case round =>
        obtain ⟨cur, hR, hcb, hK, hci, hck, HE⟩ := hrel
        have r0 := hR.c0
        have r1 := hR.c1
        by_cases hgo : 0 < gk ∧ amongB s cur lettersL = true
        · obtain ⟨hk, hx⟩ := hgo
          obtain ⟨k, rfl⟩ : ∃ k, gk = k + 1 := ⟨gk - 1, by omega⟩
          have hlt := amongB_lt hx
          have hpk : peekOk s cur = true := by simp [peekOk, hcb, hlt]
          have hE := HE.out
          rw [wordL, if_pos hx] at hE
          have HE2 := hide hE
          have HX := hide hx
          have hj : decide ((cur.i : Int) < (st.i : Int) + 8) = true := by simp; omega
          clear hE HE hx
          go_wp2_with (first | (go_at_call 69; refine (sIsNextOf lettersB HX.out hR hcb hs).mono ?_; rintro e w2 ⟨rfl, hw2⟩) | (go_at_call 63; refine (sTake (hw2.sr hR) hcb hs hpk).mono ?_; rintro e w3 ⟨rfl, hR3, hK3⟩))
          go_roundg k
          case measure => omega
          case rel => exact ⟨adv cur, hR3, hcb, (hw2.kp hK).trans hK3, by simp [adv]; omega, by simp [adv]; omega, HE2.out⟩
        · have hE : wordL s 7 (adv st) = cur := by
            rw [← HE.out]
            cases hk : gk with
            | zero => rfl
            | succ k =>
              rw [wordL, if_neg]
              intro h
              exact hgo ⟨by omega, h⟩
          have key : (decide ((cur.i : Int) < (st.i : Int) + 8) = true ∧ amongB s cur lettersL = false) ∨ decide ((cur.i : Int) < (st.i : Int) + 8) = false := by
            by_cases h0 : 0 < gk
            · left
              refine ⟨by simp; omega, ?_⟩
              cases hx : amongB s cur lettersL
              · rfl
              · exact absurd ⟨h0, hx⟩ hgo
            · right; simp; omega
          have HF := hide hE
          have hsc : st.i ≤ cur.i := by have := HL.out.1; rw [hE] at this; simp [adv] at this; omega
          have hle : (st.i : Int) ≤ cur.i := by omega
          clear hE HE hgo
          rcases key with ⟨h1, h2⟩ | h1
          · go_wp2_with (go_at_call 69; refine (sIsNextOf lettersB h2 hR hcb hs).mono ?_; rintro e w2 ⟨rfl, n2, rfl⟩)
            go_quiet (fail)
            go_wp2_with fail
            go_ret
            rw [HW.out, HF.out]
            exact ⟨(hK.drewN _).drewN _, .inl ⟨hcb, rfl, hR⟩⟩
          · go_wp2_with fail
            go_quiet (fail)
            go_wp2_with fail
            go_ret
            rw [HW.out, HF.out]
            exact ⟨hK.drewN _, .inl ⟨hcb, rfl, hR⟩⟩
    · exact absurd hx (by rw [show lettersB.data.toList = lettersL from rfl, hw]; simp)
  · rcases hw with ⟨hw, -⟩ | ⟨-, hw⟩
    · rw [oneOf_yes (show amongB s st lettersB.data.toList = true from hw)] at hbd
      exact absurd hbd (by show ¬ st.bad = true; rw [hb]; simp)
    · refine ⟨rfl, ?_⟩
      rw [hw]
      have hx : oneOfS s lettersB.data.toList st = spoil st := by
        unfold oneOfS at hbd ⊢
        split
        · next hc => rw [if_pos hc] at hbd; exact absurd hbd (by show ¬ st.bad = true; rw [hb]; simp)
        · rfl
      rw [hx]
      exact ⟨hK1, .inr ⟨rfl, rfl⟩⟩

set_option maxHeartbeats 800000 in
theorem pname_any (b : Nat) (s : ByteArray) (st : St) (en : Int) (cv ov : Value) (w : World) (h : SR w b s st.i en cv ov) (hb : st.bad = false) (hs : s.size ≤ 1048576) (hi : st.i ≤ s.size) :
    Calls Tryz.prog 76 #[.pointer (some ⟨b, 0, none⟩)] w fun e w' => TookS w b s en cv ov (spacedS s st).2 (fun e _ => e = .returned (.string (spacedS s st).1)) e w' := by
  have he := eat_le s 32 st hi
  go_enter Tryz.func76, Tryz.ntmps76
  go_wp2_with fail
  refine (sTakeOneOf ⟨#[32]⟩ h hb hs hi).mono ?_
  rintro e w1 ⟨hK1, hT⟩
  have e1 : oneOfS s (ByteArray.mk #[32]).data.toList st = eatS s 32 st := oneOf_eat s 32 32 rfl st
  rw [e1] at hT
  have HS : Hid (spacedS s st = if (eatS s 32 st).bad = true then (⟨#[]⟩, eatS s 32 st) else wordS s (eatS s 32 st)) := rfl
  generalize eatS s 32 st = q at *
  clear e1
  rcases hT with ⟨hbd, ⟨rfl, -⟩, hR1⟩ | ⟨hbd, rfl⟩
  · go_wp2_with fail
    refine (pword_any b s q en cv ov w1 hR1 hbd hs he).mono ?_
    rintro e w2 ⟨hK2, hT2⟩
    have e2 : spacedS s st = wordS s q := by rw [HS.out, hbd]; rfl
    rcases hT2 with ⟨hb2, rfl, hR2⟩ | ⟨hb2, rfl⟩
    · go_wp2_with fail
      go_ret
      rw [e2]
      exact ⟨hK1.trans hK2, .inl ⟨hb2, rfl, hR2⟩⟩
    · refine ⟨rfl, ?_⟩
      rw [e2]
      exact ⟨hK1.trans hK2, .inr ⟨hb2, rfl⟩⟩
  · refine ⟨rfl, ?_⟩
    have e2 : spacedS s st = (⟨#[]⟩, q) := by rw [HS.out, hbd]; rfl
    rw [e2]
    exact ⟨hK1, .inr ⟨hbd, rfl⟩⟩
end Go.Proofs.YtmjdaifalgpdnaaGreat

namespace Go.Proofs.YtmjdaifalgpdnaaGreat
open Go.RowKit

/-- Where the first newline of a text is, or the text's end. -/
theorem lineE_spec (s : ByteArray) : ∀ n i, i ≤ s.size → s.size < i + n → (∀ j (hj : j < s.size), i ≤ j → j < lineE s n i → (s[j].toNat : Int) ≠ 10) ∧ (∀ h : lineE s n i < s.size, (s[lineE s n i].toNat : Int) = 10)
  | 0, i, h, hn => by omega
  | n + 1, i, h, hn => by
    by_cases hi : i < s.size
    · by_cases hc : (s[i].toNat : Int) = 10
      · have e : lineE s (n + 1) i = i := by rw [lineE, dif_pos hi, if_pos hc]
        rw [e]
        exact ⟨fun j hj h1 h2 => by omega, fun _ => hc⟩
      · have e : lineE s (n + 1) i = lineE s n (i + 1) := by rw [lineE, dif_pos hi, if_neg hc]
        have ih := lineE_spec s n (i + 1) (by omega) (by omega)
        rw [e]
        refine ⟨fun j hj h1 h2 => ?_, ih.2⟩
        by_cases hji : j = i
        · subst hji; exact hc
        · exact ih.1 j hj (by omega) h2
    · have e : lineE s (n + 1) i = i := by rw [lineE, dif_neg hi]
      rw [e]
      exact ⟨fun j hj h1 h2 => by omega, fun h => absurd h hi⟩

theorem firstIdx_line (s : ByteArray) (i : Nat) (hi : i ≤ s.size) :
    firstIdx (s.extract i s.size) 10 = if lineE s (s.size + 1) i < s.size then ((lineE s (s.size + 1) i - i : Nat) : Int) else -1 := by
  obtain ⟨h1, h2⟩ := lineE_spec s (s.size + 1) i hi (by omega)
  have h3 := lineE_le s (s.size + 1) i hi
  generalize lineE s (s.size + 1) i = m at *
  have hz := size_tail s i
  have hg : ∀ k, k < s.size - i → ∃ h : i + k < s.size, (s.extract i s.size)[k]! = s[i + k] := fun k hk => by
    refine ⟨by omega, ?_⟩
    rw [getElem!_pos (s.extract i s.size) k (by omega), ByteArray.getElem_extract]
  have hten : ∀ x : UInt8, (x == 10) = decide ((x.toNat : Int) = 10) := fun x => by
    rw [Bool.eq_iff_iff]
    simp only [beq_iff_eq, decide_eq_true_eq]
    constructor
    · intro h; rw [h]; rfl
    · intro h; apply UInt8.toNat_inj.1; show x.toNat = 10; omega
  unfold firstIdx
  by_cases hm : m < s.size
  · have hf : (List.range (s.extract i s.size).size).find? (fun j => (s.extract i s.size)[j]! == 10) = some (m - i) := by
      rw [List.find?_range_eq_some]
      refine ⟨?_, ?_, ?_⟩
      · obtain ⟨_, e⟩ := hg (m - i) (by omega)
        rw [e, hten]
        have e2 : i + (m - i) = m := by omega
        simp only [e2]
        simpa using h2 hm
      · simp only [List.mem_range, hz]; omega
      · intro j hj
        obtain ⟨hh, e⟩ := hg j (by omega)
        rw [e, hten]
        simpa using h1 (i + j) hh (by omega) (by omega)
    rw [hf, if_pos hm]
  · have hf : (List.range (s.extract i s.size).size).find? (fun j => (s.extract i s.size)[j]! == 10) = none := by
      rw [List.find?_eq_none]
      intro j hj
      simp only [List.mem_range, hz] at hj
      obtain ⟨hh, e⟩ := hg j hj
      rw [e, hten]
      simpa using h1 (i + j) hh (by omega) (by omega)
    rw [hf, if_neg hm]

set_option maxRecDepth 100000 in
set_option maxHeartbeats 800000 in
theorem index1_any (t : ByteArray) (w : World) :
    Calls Tryz.prog 98 #[.string t, .string ⟨#[10]⟩] w fun e w' => e = .returned (.int .i64 (firstIdx t 10)) ∧ w' = w := by
  by_cases hx : ([10] == t.toList) = true
  · have hf : (0 : Int) = firstIdx t 10 := by
      have h1 : t.toList = [10] := by simp at hx; exact hx.symm
      rw [ByteArray.toList_eq] at h1
      have h2 : t = ⟨#[10]⟩ := by
        apply ByteArray.ext
        rw [← Array.toArray_toList (xs := t.data), h1]
      rw [h2]; rfl
    have HF := hide hf
    clear hf
    go_enter Tryz.func98, Tryz.ntmps98
    go_wp2_with fail
    go_ret
    exact ⟨ret_int HF.out, rfl⟩
  · replace hx : ([10] == t.toList) = false := by simpa using hx
    go_enter Tryz.func98, Tryz.ntmps98
    go_wp2_with (go_at_call 78; refine (indexByte1_any t 10 _).mono ?_; rintro e w1 ⟨rfl, rfl⟩)
    go_ret
    exact ⟨rfl, rfl⟩

set_option maxHeartbeats 800000 in
theorem cut1_found (t : ByteArray) (n : Nat) (w : World) (ht : t.size ≤ 1048576) (h1 : firstIdx t 10 = (n : Int)) (h2 : n < t.size) :
    Calls Tryz.prog 89 #[.string t, .string ⟨#[10]⟩] w fun e w' => e = .returned (.tuple #[.string (t.extract 0 n), .string (t.extract (n + 1) t.size), .bool true]) ∧ ∃ m, w' = w.drewN m := by
  have H1 := hide h1
  clear h1
  go_enter Tryz.func89, Tryz.ntmps89
  go_wp2_with fail
  refine (index1_any t _).mono ?_
  rintro e w1 ⟨rfl, rfl⟩
  rw [H1.out]
  go_wp2_with fail
  go_quiet (fail)
  go_wp2_with fail
  refine bodyPost_ret (res_tmp3 rfl _ _ _) rfl ?_
  exact ⟨rfl, _, rfl⟩
set_option maxHeartbeats 800000 in
theorem cut1_none (t : ByteArray) (w : World) (_ht : t.size ≤ 1048576) (h1 : firstIdx t 10 = -1) :
    Calls Tryz.prog 89 #[.string t, .string ⟨#[10]⟩] w fun e w' => e = .returned (.tuple #[.string t, .string ⟨#[]⟩, .bool false]) ∧ ∃ m, w' = w.drewN m := by
  have H1 := hide h1
  clear h1
  go_enter Tryz.func89, Tryz.ntmps89
  go_wp2_with fail
  refine (index1_any t _).mono ?_
  rintro e w1 ⟨rfl, rfl⟩
  rw [H1.out]
  go_wp2_with fail
  refine bodyPost_ret (res_tmp3 rfl _ _ _) rfl ?_
  exact ⟨rfl, 0, rfl⟩
set_option maxHeartbeats 800000 in
theorem cut2_of (t : ByteArray) (x y z : Value) (w : World) (h : ∀ w : World, Calls Tryz.prog 89 #[.string t, .string ⟨#[10]⟩] w fun e w' => e = .returned (.tuple #[x, y, z]) ∧ ∃ m, w' = w.drewN m) :
    Calls Tryz.prog 82 #[.string t, .string ⟨#[10]⟩] w fun e w' => e = .returned (.tuple #[x, y, z]) ∧ ∃ m, w' = w.drewN m := by
  have H := hide h
  clear h
  go_enter Tryz.func82, Tryz.ntmps82
  go_wp2_with fail
  refine (H.out _).mono ?_
  rintro e w1 ⟨rfl, h3⟩
  have H3 : Same w w1 := h3
  clear h3
  go_wp2_with fail
  refine bodyPost_ret (res_tmp3 rfl _ _ _) rfl ?_
  exact ⟨rfl, H3⟩

def textS (s : ByteArray) (st : St) : St := if (eatS s 32 st).bad = true then eatS s 32 st else { eatS s 32 st with i := lineE s (s.size + 1) (eatS s 32 st).i }

set_option maxRecDepth 100000 in
set_option maxHeartbeats 800000 in
theorem plineOfText_any (b : Nat) (s : ByteArray) (st : St) (en : Int) (cv ov : Value) (w : World) (h : SR w b s st.i en cv ov) (hb : st.bad = false) (hs : s.size ≤ 1048576) (hi : st.i ≤ s.size) :
    Calls Tryz.prog 74 #[.pointer (some ⟨b, 0, none⟩)] w fun e w' => TookS w b s en cv ov (textS s st) (fun e _ => ∃ t, e = .returned (.string t)) e w' := by
  have he := eat_le s 32 st hi
  go_enter Tryz.func74, Tryz.ntmps74
  go_wp2_with fail
  refine (sTakeOneOf ⟨#[32]⟩ h hb hs hi).mono ?_
  rintro e w1 ⟨hK1, hT⟩
  have e1 : oneOfS s (ByteArray.mk #[32]).data.toList st = eatS s 32 st := oneOf_eat s 32 32 rfl st
  rw [e1] at hT
  have HS : Hid (textS s st = if (eatS s 32 st).bad = true then eatS s 32 st else { eatS s 32 st with i := lineE s (s.size + 1) (eatS s 32 st).i }) := rfl
  generalize eatS s 32 st = q at *
  clear e1
  rcases hT with ⟨hbd, ⟨rfl, -⟩, hR1⟩ | ⟨hbd, rfl⟩
  · have c0 := hR1.c0
    have c1 := hR1.c1
    have cf := hR1.fz
    have e2 : textS s st = { q with i := lineE s (s.size + 1) q.i } := by rw [HS.out, if_neg (by rw [hbd]; simp)]
    have E2 := hide e2
    have hle := lineE_le s (s.size + 1) q.i he
    have hfl := firstIdx_line s q.i he
    have hz := size_tail s q.i
    have htz : (s.extract q.i s.size).size ≤ 1048576 := by omega
    have HZ := hide hz
    generalize hm : lineE s (s.size + 1) q.i = m at *
    clear e2 hm hz HS
    by_cases hmz : m < s.size
    · rw [if_pos hmz] at hfl
      have hsz : ((s.extract q.i s.size).extract 0 (m - q.i)).size = m - q.i := by rw [ByteArray.size_extract, HZ.out]; omega
      have HFL := hide hfl
      have HLT : Hid (m - q.i < (s.extract q.i s.size).size) := by show _ < _; rw [HZ.out]; omega
      have hsi : (q.i : Int) + ((m - q.i : Nat) : Int) = (m : Int) := by omega
      clear hfl
      go_wp2_with fail
      go_quiet ((go_at_call 82; exact Calls.quiet_of (cut2_of _ _ _ _ _ (fun w => cut1_found _ (m - q.i) w htz HFL.out HLT.out))))
      go_wp2_with fail
      go_ret
      rw [E2.out]
      exact ⟨(hK1.drewN _).set _ _, .inl ⟨hbd, ⟨_, rfl⟩, (hR1.drewN _).set1 _ m (by omega)⟩⟩
    · rw [if_neg hmz] at hfl
      have HFL := hide hfl
      have hzi : (q.i : Int) + ((s.size - q.i : Nat) : Int) = (m : Int) := by omega
      have hz := HZ.out
      clear hfl
      go_wp2_with fail
      go_quiet ((go_at_call 82; exact Calls.quiet_of (cut2_of _ _ _ _ _ (fun w => cut1_none _ w htz HFL.out))))
      go_wp2_with fail
      go_ret
      rw [E2.out]
      exact ⟨(hK1.drewN _).set _ _, .inl ⟨hbd, ⟨_, rfl⟩, (hR1.drewN _).set1 _ m (by omega)⟩⟩
  · refine ⟨rfl, ?_⟩
    have e2 : textS s st = q := by rw [HS.out, if_pos hbd]
    rw [e2]
    exact ⟨hK1, .inr ⟨hbd, rfl⟩⟩
end Go.Proofs.YtmjdaifalgpdnaaGreat
