import Derived.Test.YtpnecblofjpgfaaGreatPscD
import Derived.Test.YtpnecblofjpgfaaGreatScrL
namespace Go.Proofs.YtpnecblofjpgfaaGreat
open Go.RowKit

theorem byteOf_nat (x : UInt8) : byteOf (x.toNat : Int) = x := by
  unfold byteOf
  simp
theorem extract_snoc (s : ByteArray) (b i : Nat) (hb : b ≤ i) (hi : i < s.size) : s.extract b (i + 1) = s.extract b i ++ ⟨#[s[i]]⟩ := by
  apply ByteArray.ext
  rw [ByteArray.data_append, ByteArray.data_extract, ByteArray.data_extract]
  apply Array.ext_getElem?
  intro k
  have hz : s.data.size = s.size := rfl
  rw [Array.getElem?_append]
  simp only [Array.getElem?_extract, Array.size_extract]
  by_cases h1 : k < i - b
  · rw [if_pos (by omega), if_pos (by omega), if_pos (by omega)]
  · rw [if_neg (by omega : ¬ k < min i s.data.size - b)]
    by_cases h2 : k = i - b
    · subst h2
      rw [if_pos (by omega)]
      have e1 : b + (i - b) = i := by omega
      have e2 : i - b - (min i s.data.size - b) = 0 := by omega
      rw [e1, e2, Array.getElem?_eq_getElem (show i < s.data.size from hi)]
      rfl
    · rw [if_neg (by omega), Array.getElem?_eq_none (by simp; omega)]

theorem res_tmp2 {fn : Func} {a b : Tmp} (h : fn.results = #[.tmp a, .tmp b]) (tmps : Array Value) (P : Program) (w : World) :
    (results fn tmps).run P w = .ok (.tuple #[tmps.getD a undef, tmps.getD b undef]) w := by
  simp [results, h]

theorem fromL_bad {s : ByteArray} (n : Nat) (f : ByteArray) {st : St} (h : st.bad = true) : fromL s n f st = (f, st) := by
  cases n with
  | zero => rfl
  | succ n => rw [fromL, if_pos (.inl h)]
theorem toL_bad {s : ByteArray} (m n : Nat) (f : ByteArray) {st : St} (h : st.bad = true) : toL s m n f st = (f, st) := by
  cases n with
  | zero => rfl
  | succ n => rw [toL, if_pos (.inl h)]
theorem table_bad1 {s : ByteArray} {n : Nat} {st q : St} {f : ByteArray} (h1 : fromL s n ⟨#[]⟩ (eatS s 47 st) = (f, q)) (hq : q.bad = true) : (tableS s n st).2 = q := by
  unfold tableS
  simp only [h1, eatIf_bad hq, toL_bad _ _ _ hq]
theorem table_bad2 {s : ByteArray} {n : Nat} {st q r : St} {f f2 : ByteArray} (h1 : fromL s n ⟨#[]⟩ (eatS s 47 st) = (f, q)) (h2 : toL s f.size n ⟨#[]⟩ (eatIf s 47 q) = (f2, r)) : (tableS s n st).2 = eatIf s 47 r := by
  unfold tableS
  simp only [h1, h2]

theorem has2 (c : Int) : hasL [92, 10] c = true ↔ c = 92 ∨ c = 10 := by
  simp only [hasL, List.any_cons, List.any_nil, Bool.or_false, Bool.or_eq_true, beq_iff_eq]
  constructor
  · rintro (h | h)
    · exact .inl h.symm
    · exact .inr h.symm
  · rintro (h | h)
    · exact .inl h.symm
    · exact .inr h.symm
theorem has3 (c : Int) : hasL [47, 92, 10] c = true ↔ c = 47 ∨ c = 92 ∨ c = 10 := by
  simp only [hasL, List.any_cons, List.any_nil, Bool.or_false, Bool.or_eq_true, beq_iff_eq]
  constructor
  · rintro (h | h | h)
    · exact .inl h.symm
    · exact .inr (.inl h.symm)
    · exact .inr (.inr h.symm)
  · rintro (h | h | h)
    · exact .inl h.symm
    · exact .inr (.inl h.symm)
    · exact .inr (.inr h.symm)

set_option maxRecDepth 100000 in
set_option maxHeartbeats 1600000 in
theorem pexchange_any (n b : Nat) (s : ByteArray) (st : St) (en : Int) (cv ov : Value) (w : World) (h : SR w b s st.i en cv ov) (hb : st.bad = false) (hs : s.size ≤ 1048576) (hi : st.i ≤ s.size) (hn : s.size + 1 < st.i + n) :
    Calls Tryz.prog 72 #[.pointer (some ⟨b, 0, none⟩)] w fun e w' => TookS w b s en cv ov (tableS s n st).2 (fun e _ => ∃ x y, e = .returned (.tuple #[.string x, .string y])) e w' := by
  have he := On.eat (s := s) 47 hi
  go_enter Tryz.func72, Tryz.ntmps72
  go_wp2_with fail
  refine (sTakeOneOf ⟨#[47]⟩ h hb hs hi).mono ?_
  rintro e w1 ⟨hK1, hT⟩
  have e1 : oneOfS s (ByteArray.mk #[47]).data.toList st = eatS s 47 st := oneOf_eat s 47 47 rfl st
  rw [e1] at hT
  have H1 : Hid (∀ (f : ByteArray) (q : St), fromL s n ⟨#[]⟩ (eatS s 47 st) = (f, q) → q.bad = true → (tableS s n st).2 = q) := fun f q h1 h2 => table_bad1 h1 h2
  have H2 : Hid (∀ (f f2 : ByteArray) (q r : St), fromL s n ⟨#[]⟩ (eatS s 47 st) = (f, q) → toL s f.size n ⟨#[]⟩ (eatIf s 47 q) = (f2, r) → (tableS s n st).2 = eatIf s 47 r) := fun f f2 q r h1 h2 => table_bad2 h1 h2
  clear e1
  generalize eatS s 47 st = q at *
  rcases hT with ⟨hbd, ⟨rfl, -⟩, hR1⟩ | ⟨hbd, rfl⟩
  · have c1 := hR1.c1
    have hq2 := he.2
    have hq1 := he.1
    go_wp2_with fail
    go_loopg [] n (fun k w' => ∃ (cur : St), SR w' b s cur.i en cv ov ∧ cur.bad = false ∧ Kp b w w' ∧ q.i ≤ cur.i ∧ cur.i ≤ s.size ∧ s.size < cur.i + k ∧ Hid (fromL s k (s.extract q.i cur.i) cur = fromL s n ⟨#[]⟩ q))
    case atStart =>
      refine ⟨q, hR1, hbd, hK1, Nat.le_refl _, hq2, by omega, ?_⟩
      show fromL s n (s.extract q.i q.i) q = _
      have : s.extract q.i q.i = ⟨#[]⟩ := by
        apply ByteArray.ext
        rw [ByteArray.data_extract]
        simp
        omega
      rw [this]
    case round =>
      obtain ⟨cur, hR, hcb, hK, hqc, hci, hck, HE⟩ := hrel
      obtain ⟨k, rfl⟩ : ∃ k, gk = k + 1 := ⟨gk - 1, by omega⟩
      have r0 := hR.c0
      cases hx : isB s cur 47
      · have HX := hide hx
        have hE := HE.out
        rw [fromL, if_neg (by rw [hcb, hx]; simp)] at hE
        have HE2 := hide hE
        clear hE HE
        go_wp2_with (go_at_call 39; refine (sIsNext 47 47 rfl hx hR hcb hs hci).mono ?_; rintro e w2 ⟨rfl, hw2⟩)
        refine (sTakeOther ⟨#[92, 10]⟩ (hw2.sr hR) hcb hs hci).mono ?_
        rintro e w3 ⟨hK3, hT3⟩
        have hK4 := (hw2.kp hK).trans hK3
        clear hw2 hK3 hK hR
        rcases hT3 with ⟨hb3, ⟨rfl, hok, hno⟩, hR3⟩ | ⟨hb3, rfl⟩
        · have e3 : otherS s (ByteArray.mk #[92, 10]).data.toList cur = adv cur := by unfold otherS; rw [if_neg (by rw [hok, hno]; simp)]
          rw [e3] at hR3
          have hlt := peekOk_lt hok
          have p0 := peekC_lo s cur
          have p1 := peekC_hi s cur
          have hfh := firstIdx_has (s.extract q.i cur.i) (peekC s cur) p0 p1
          have d0 := hR3.c0
          have d1 : w3.cell? ⟨b, 1, none⟩ = some (.int .i64 ((cur.i : Int) + 1)) := hR3.c1
          have hw1 : IntKind.i64.wrap ((cur.i : Int) + 1 - 1) = (cur.i : Int) := by rw [wrapE _ (by omega) (by omega)]; omega
          have hno2 : ¬ (peekC s cur = 92 ∨ peekC s cur = 10) := fun h => by
            have := (has2 _).2 h
            rw [show hasL (ByteArray.mk #[92, 10]).data.toList (peekC s cur) = hasL [92, 10] (peekC s cur) from rfl, this] at hno
            cases hno
          cases hh : hasL (s.extract q.i cur.i).data.toList (peekC s cur)
          · rw [hh] at hfh
            have hE := HE2.out
            rw [if_neg (by rw [hok, hh]; simp only [not_or] at hno2 ⊢; exact ⟨by simp, hno2.2, hno2.1, by simp⟩)] at hE
            have hpa := peekC_at hcb hlt
            rw [hpa, byteOf_nat, ← extract_snoc s q.i cur.i hqc hlt] at hE
            have HE3 := hide hE
            clear hE HE2 hno hno2 hh hok e3 hpa
            go_wp2_with fail
            go_quiet ((go_at_call 59; exact Calls.quiet_of_same (indexByte_any _ _ _)))
            go_wp2_with fail
            go_roundg k
            case measure => omega
            case rel => exact ⟨adv cur, hR3.drewN _, hcb, hK4.drewN _, by simp [adv]; omega, by simp [adv]; omega, by simp [adv]; omega, HE3.out⟩
          · rw [hh] at hfh
            have hE := HE2.out
            rw [if_pos (.inr (.inr (.inr hh))), fromL_bad _ _ (show (spoil cur).bad = true from rfl)] at hE
            have HE3 := hide hE
            clear hE HE2 hno hno2 hh hok e3
            go_wp2_with fail
            go_quiet ((go_at_call 59; exact Calls.quiet_of_same (indexByte_any _ _ _)))
            go_wp2_with fail
            refine (refuse_any b s (cur.i + 1) en _ (SR.rd (hR3.drewN _)) hs (by omega)).mono ?_
            rintro e w5 ⟨rfl, rfl⟩
            refine ⟨rfl, ?_⟩
            rw [H1.out _ _ HE3.out.symm rfl]
            exact ⟨hK4.drewN _, .inr ⟨rfl, by rw [show (((cur.i + 1 : Nat) : Int) - 1) = ((spoil cur).i : Int) from by simp [spoil]]⟩⟩
        · have hx3 : peekOk s cur = false ∨ hasL [92, 10] (peekC s cur) = true := by
            unfold otherS at hb3
            split at hb3
            · assumption
            · exact absurd hb3 (by show ¬ cur.bad = true; rw [hcb]; simp)
          have e3 : otherS s (ByteArray.mk #[92, 10]).data.toList cur = spoil cur := by
            unfold otherS; rw [if_pos hx3]
          rw [e3]
          have hE := HE2.out
          rw [if_pos (by
            rcases hx3 with h | h
            · exact .inl h
            · rcases (has2 _).1 h with h | h
              · exact .inr (.inr (.inl h))
              · exact .inr (.inl h)), fromL_bad _ _ (show (spoil cur).bad = true from rfl)] at hE
          refine ⟨rfl, ?_⟩
          rw [H1.out _ _ hE.symm rfl]
          exact ⟨hK4, .inr ⟨rfl, rfl⟩⟩
      · have HX := hide hx
        have hE := HE.out
        rw [fromL, if_pos (.inr hx)] at hE
        have HF := hide hE.symm
        have hlen : (s.extract q.i cur.i).size = cur.i - q.i := by rw [ByteArray.size_extract]; omega
        have hle : (q.i : Int) ≤ cur.i := by omega
        have r1 := hR.c1
        clear hE HE
        go_wp2_with (go_at_call 39; refine (sIsNext 47 47 rfl hx hR hcb hs hci).mono ?_; rintro e w2 ⟨rfl, n2, rfl⟩)
        go_quiet (fail)
        go_wp2_with fail
        refine (sTakeOneOf ⟨#[47]⟩ (st := cur) (hR.drewN _) hcb hs hci).mono ?_
        rintro e w3 ⟨hK3, hT3⟩
        have e3 : oneOfS s (ByteArray.mk #[47]).data.toList cur = eatS s 47 cur := oneOf_eat s 47 47 rfl cur
        have e4 : eatS s 47 cur = adv cur := by unfold eatS; rw [HX.out]; rfl
        have e5 : eatIf s 47 cur = adv cur := (eatIf_ok hcb).trans e4
        rw [e3, e4] at hT3
        have hlt := peekOk_lt (isB_ok HX.out)
        have hK4 := (hK.drewN (n2 + nq)).trans hK3
        clear hR hK hK3 e3 e4 r0 r1
        rcases hT3 with ⟨-, ⟨rfl, -⟩, hR3⟩ | ⟨hb3, -⟩
        · have c1 := hR3.c1
          have H3 : Hid (∀ (f2 : ByteArray) (r : St), toL s (s.extract q.i cur.i).size n ⟨#[]⟩ (adv cur) = (f2, r) → (tableS s n st).2 = eatIf s 47 r) := fun f2 r h => H2.out _ f2 _ r HF.out (by rw [e5]; exact h)
          clear H1 H2 HF e5
          have hai : (adv cur).i = cur.i + 1 := rfl
          have hab : (adv cur).bad = false := hcb
          generalize adv cur = q2 at *
          generalize s.extract q.i cur.i = from1 at *
          generalize hm : from1.size = m at *
          have hmn : m < n := by omega
          go_wp2_with fail
          go_loopg [67] n (fun k kv w' => ∃ (j : Nat) (f : ByteArray) (c2 : St), kv = .int .i64 j ∧ f.size = j ∧ j ≤ m ∧ m < j + k ∧ SR w' b s c2.i en cv ov ∧ c2.bad = false ∧ Kp b w w' ∧ q2.i ≤ c2.i ∧ c2.i ≤ s.size ∧ Hid (toL s m k f c2 = toL s m n ⟨#[]⟩ q2))
          case atStart => exact ⟨0, ⟨#[]⟩, q2, rfl, rfl, Nat.zero_le _, by omega, hR3, hab, hK4, Nat.le_refl _, by omega, rfl⟩
          case round =>
            obtain ⟨j, f, c2, rfl, hfj, hjm, hmk, hR, hcb2, hK, hqc2, hci2, HE⟩ := hrel
            have r0 := hR.c0
            have r1 := hR.c1
            obtain ⟨k, rfl⟩ : ∃ k, gk = k + 1 := ⟨gk - 1, by omega⟩
            by_cases hjl : j < m
            · have hd : decide ((j : Int) < (m : Nat)) = true := by simp; omega
              have hE := HE.out
              rw [toL, if_neg (by rw [hcb2]; simp; omega)] at hE
              have HE2 := hide hE
              clear hE HE
              go_wp2_with fail
              refine (sTakeOther ⟨#[47, 92, 10]⟩ hR hcb2 hs hci2).mono ?_
              rintro e w5 ⟨hK5, hT5⟩
              have hK6 := hK.trans hK5
              rcases hT5 with ⟨hb5, ⟨rfl, hok, hno⟩, hR5⟩ | ⟨hb5, rfl⟩
              · have e5 : otherS s (ByteArray.mk #[47, 92, 10]).data.toList c2 = adv c2 := by unfold otherS; rw [if_neg (by rw [hok, hno]; simp)]
                rw [e5] at hR5
                have hl2 := peekOk_lt hok
                have hE := HE2.out
                rw [if_neg (by
                  intro h
                  rcases h with h | h
                  · rw [hok] at h; cases h
                  · have h9 := (has3 (peekC s c2)).2 (by omega)
                    rw [show hasL (ByteArray.mk #[47, 92, 10]).data.toList (peekC s c2) = hasL [47, 92, 10] (peekC s c2) from rfl, h9] at hno
                    cases hno)] at hE
                have HE3 := hide hE
                clear hE HE2 hok hno e5 hR hK hK5
                go_wp2_with fail
                go_roundg k
                case measure => omega
                case rel => exact ⟨j + 1, _, adv c2, by go_num, by rw [ByteArray.size_append, hfj]; rfl, by omega, by omega, hR5, hcb2, hK6, by simp [adv]; omega, by simp [adv]; omega, HE3.out⟩
              · have hx3 : peekOk s c2 = false ∨ hasL [47, 92, 10] (peekC s c2) = true := by
                  unfold otherS at hb5
                  split at hb5
                  · assumption
                  · exact absurd hb5 (by show ¬ c2.bad = true; rw [hcb2]; simp)
                have e5 : otherS s (ByteArray.mk #[47, 92, 10]).data.toList c2 = spoil c2 := by
                  unfold otherS; rw [if_pos hx3]
                rw [e5]
                have hE := HE2.out
                rw [if_pos (by
                  rcases hx3 with h | h
                  · exact .inl h
                  · have := (has3 _).1 h
                    right; omega), toL_bad _ _ _ (show (spoil c2).bad = true from rfl)] at hE
                refine ⟨rfl, ?_⟩
                rw [H3.out _ _ hE.symm, eatIf_bad (show (spoil c2).bad = true from rfl)]
                exact ⟨hK6, .inr ⟨rfl, rfl⟩⟩
            · have hd : decide ((j : Int) < (m : Nat)) = false := by simp; omega
              have hE := HE.out
              rw [toL, if_pos (.inr (by omega))] at hE
              have E3 := hide (H3.out _ _ hE.symm)
              have hle2 : (q2.i : Int) ≤ c2.i := by omega
              clear hE HE H3
              go_wp2_with fail
              go_quiet (fail)
              go_wp2_with fail
              refine (sTakeOneOf ⟨#[47]⟩ (st := c2) (hR.drewN _) hcb2 hs hci2).mono ?_
              rintro e w6 ⟨hK6, hT6⟩
              have e6 : oneOfS s (ByteArray.mk #[47]).data.toList c2 = eatS s 47 c2 := oneOf_eat s 47 47 rfl c2
              rw [e6, ← eatIf_ok hcb2] at hT6
              have hK7 := (hK.drewN nq).trans hK6
              rcases hT6 with ⟨hb6, ⟨rfl, -⟩, hR6⟩ | ⟨hb6, rfl⟩
              · clear e6 hR hK hK6
                go_wp2_with fail
                refine bodyPost_ret (res_tmp2 rfl _ _ _) rfl ?_
                rw [E3.out]
                exact ⟨hK7, .inl ⟨hb6, ⟨_, _, rfl⟩, hR6⟩⟩
              · refine ⟨rfl, ?_⟩
                rw [E3.out]
                exact ⟨hK7, .inr ⟨hb6, rfl⟩⟩
        · exact absurd hb3 (by show ¬ cur.bad = true; rw [hcb]; simp)
  · refine ⟨rfl, ?_⟩
    rw [H1.out _ q (fromL_bad _ _ hbd) hbd]
    exact ⟨hK1, .inr ⟨hbd, rfl⟩⟩
end Go.Proofs.YtpnecblofjpgfaaGreat

namespace Go.Proofs.YtpnecblofjpgfaaGreat
open Go.RowKit

theorem advIf_is {s : ByteArray} {c : Int} {st : St} (h : isB s st c = false) : advIf s c st = st := by unfold advIf; rw [h]; rfl
theorem advIf_sp {s : ByteArray} {c : Int} {st : St} (h : st.bad = true) : advIf s c st = st := by
  apply advIf_is
  unfold isB peekOk
  rw [h]; rfl
theorem advIf_bb (s : ByteArray) (c : Int) (st : St) : (advIf s c st).bad = st.bad := by unfold advIf adv; split <;> rfl

/-- What the document's reader has, by what the program has read. -/
theorem exprS_ways (s : ByteArray) (n : Nat) (st : St) (hb : st.bad = false) (hi : st.i ≤ s.size) (hn : 2 * (s.size - st.i) + 2 ≤ n) (r : List Part × St) (hr : listG s (stopT s) n (advIf s 94 ⟨st.i, false, 0⟩) [] = r) :
    (r.2.bad = true ∧ (exprS s n st).2 = r.2) ∨
    (r.2.bad = false ∧ (exprS s n st).2 = advIf s 36 r.2 ∧ (exprS s n st).1.groups = r.2.g) ∨
    (r.2.bad = false ∧ (exprS s n st).2 = spoil r.2 ∧ advIf s 36 r.2 = r.2 ∧ r.2.i < s.size ∧ isB s r.2 47 = false) := by
  have hz : zeroed st = ⟨st.i, false, 0⟩ := by unfold zeroed; rw [hb]
  have h1 := On.advIf (s := s) (a := ⟨st.i, false, 0⟩) 94 hi
  have h := listG_top s n (advIf s 94 ⟨st.i, false, 0⟩) [] (by rw [advIf_bb]) h1.2 (by have := h1.1; dsimp only at this; omega)
  rw [hr] at h
  have e2 : (exprS s n st).2 = advIf s 36 (partsS s false n (advIf s 94 ⟨st.i, false, 0⟩) []).2 := by rw [← hz]; rfl
  have e1 : (exprS s n st).1.groups = (partsS s false n (advIf s 94 ⟨st.i, false, 0⟩) []).2.g := by rw [← hz]; rfl
  rcases h with ⟨hb, h⟩ | ⟨hb, h⟩ | ⟨hb, h, hi, h36, h47⟩
  · left
    rw [e2, h]
    exact ⟨hb, advIf_sp hb⟩
  · right; left
    rw [e2, e1, h]
    exact ⟨hb, rfl, rfl⟩
  · right; right
    rw [e2, h]
    exact ⟨hb, advIf_sp rfl, advIf_is h36, hi, h47⟩

theorem extract_all (s : ByteArray) (c : Nat) (h : s.size ≤ c) : s.extract 0 c = s := by
  apply ByteArray.ext
  rw [ByteArray.data_extract]
  exact Array.extract_eq_self_of_le h

/-- An expression in a script, as the program reads it and as the document does. -/
theorem pattern_ways (s : ByteArray) (n c : Nat) (st : St) (hb : st.bad = false) (hi : st.i ≤ s.size) (hn : 2 * (s.size - st.i) + 2 ≤ n) (hc : c = min s.size (st.i + 60)) (r : List Part × St) (hr : listG (s.extract 0 c) (stopT (s.extract 0 c)) n (advIf (s.extract 0 c) 94 ⟨st.i, false, 0⟩) [] = r) :
    ((patternS s n st).2.bad = false ∧ r.2.bad = false ∧ isB s (advIf (s.extract 0 c) 36 r.2) 47 = true ∧ (patternS s n st).2.i = (advIf (s.extract 0 c) 36 r.2).i + 1 ∧ (patternS s n st).1.1 = r.2.g) ∨
    ((patternS s n st).2.bad = true ∧ ((r.2.bad = true ∧ (patternS s n st).2.i = r.2.i) ∨ (r.2.bad = false ∧ isB s (advIf (s.extract 0 c) 36 r.2) 47 = false ∧ (patternS s n st).2.i = (advIf (s.extract 0 c) 36 r.2).i))) := by
  have hz : (s.extract 0 c).size = c := by rw [ByteArray.size_extract]; omega
  have hW := exprS_ways (s.extract 0 c) n st hb (by omega) (by omega) r hr
  have hxl := expr_le s n st hi
  have same : ∀ x : Ex × St, exprS s n st = x → exprS (s.extract 0 c) n st = x → x.2.i ≤ c → (isB (s.extract 0 c) r.2 47 = false → r.2.i < c → isB s r.2 47 = false) →
    ((patternS s n st).2.bad = false ∧ r.2.bad = false ∧ isB s (advIf (s.extract 0 c) 36 r.2) 47 = true ∧ (patternS s n st).2.i = (advIf (s.extract 0 c) 36 r.2).i + 1 ∧ (patternS s n st).1.1 = r.2.g) ∨
    ((patternS s n st).2.bad = true ∧ ((r.2.bad = true ∧ (patternS s n st).2.i = r.2.i) ∨ (r.2.bad = false ∧ isB s (advIf (s.extract 0 c) 36 r.2) 47 = false ∧ (patternS s n st).2.i = (advIf (s.extract 0 c) 36 r.2).i))) := by
    intro x hx hx' hle hno
    have hp : patternS s n st = ((x.1.groups, s.extract st.i x.2.i), eatIf s 47 x.2) := by unfold patternS; rw [hx, if_neg (by omega)]
    rw [hx'] at hW
    rw [hp]
    dsimp only
    rcases hW with ⟨h1, h2⟩ | ⟨h1, h2, h3⟩ | ⟨h1, h2, h3, h4, h5⟩
    · right
      rw [h2, eatIf_bad h1]
      exact ⟨h1, .inl ⟨h1, rfl⟩⟩
    · rw [h2, h3]
      have hbb : (advIf (s.extract 0 c) 36 r.2).bad = false := by rw [advIf_bb]; exact h1
      rw [eatIf_ok hbb]
      generalize advIf (s.extract 0 c) 36 r.2 = y at *
      unfold eatS
      cases hy : isB s y 47
      · right
        exact ⟨rfl, .inr ⟨h1, rfl, rfl⟩⟩
      · left
        exact ⟨hbb, h1, rfl, rfl, rfl⟩
    · right
      rw [h2, eatIf_bad rfl, h3]
      exact ⟨rfl, .inr ⟨h1, hno h5 (by omega), rfl⟩⟩
  by_cases hcs : c < s.size
  · have hc60 : c = st.i + 60 := by omega
    rcases expr_cut hcs n hb (by omega) hn with ⟨h1, h2⟩ | ⟨h1, h2⟩
    · exact same _ rfl h1 h2 (fun h3 h4 => by rw [← cut_is hcs 47 h4]; exact h3)
    · have hp : (patternS s n st).2.bad = true ∧ (patternS s n st).2.i = c := by
        unfold patternS
        rcases h1 with h1 | ⟨h1, h3⟩
        · rw [if_pos (by omega)]
          exact ⟨rfl, by dsimp only; omega⟩
        · rw [if_neg (by omega)]
          dsimp only
          rw [eatIf_bad h1]
          exact ⟨h1, h3⟩
      right
      refine ⟨hp.1, ?_⟩
      rw [hp.2]
      rcases hW with ⟨g1, g2⟩ | ⟨g1, g2, g3⟩ | ⟨g1, g2, g3, g4, g5⟩
      · left
        rw [g2] at h2
        rcases h2 with h2 | h2
        · exact ⟨g1, h2.2.symm⟩
        · rw [g1] at h2; cases h2.1
      · right
        rw [g2] at h2
        rcases h2 with h2 | h2
        · have := h2.1
          rw [advIf_bb, g1] at this
          cases this
        · exact ⟨g1, h2.2.2, h2.2.1.symm⟩
      · exfalso
        rw [g2] at h2
        rcases h2 with h2 | h2
        · have := h2.2
          simp [spoil] at this
          omega
        · cases h2.1
  · have hcc : c = s.size := by omega
    have he : s.extract 0 c = s := extract_all s c (by omega)
    exact same _ rfl (by rw [he]) (by omega) (fun h3 _ => by rw [he] at h3; exact h3)

/-- An expression that the program has read, of which the groups are known. -/
def PEx (w : World) (lo : Nat) (v : Value) (g : Nat) : Prop := ∃ xb a0 a1 a2 a3, v = .pointer (some ⟨xb, 0, none⟩) ∧ Blk w xb #[a0, a1, a2, a3, .int .i64 g] 127 ∧ lo ≤ xb

set_option maxRecDepth 100000 in
set_option maxHeartbeats 1600000 in
theorem pexpression_any (n b : Nat) (s : ByteArray) (st : St) (en : Int) (cv ov : Value) (w : World) (h : SR w b s st.i en cv ov) (hb : st.bad = false) (hs : s.size ≤ 1048576) (hi : st.i ≤ s.size) (hn : 2 * (s.size - st.i) + 2 ≤ n) :
    Calls Tryz.prog 75 #[.pointer (some ⟨b, 0, none⟩)] w fun e w' => TookS w b s en cv ov (patternS s n st).2 (fun e w' => ∃ v, e = .returned v ∧ PEx w' w.heap.size v (patternS s n st).1.1) e w' := by
  have hbl := h.lt
  have c0 := h.c0
  have c1 := h.c1
  have c2 := h.c2
  have h1 := h.alloc (.cells #[.string s, .int .i64 st.i, .int .i64 en, .slice none 0 0, .int .i64 0] 132)
  have k1 := (Kp.refl b w).alloc (.cells #[.string s, .int .i64 st.i, .int .i64 en, .slice none 0 0, .int .i64 0] 132)
  have B1 := Blk.new w #[.string s, .int .i64 st.i, .int .i64 en, .slice none 0 0, .int .i64 0] 132
  go_enter Tryz.func75, Tryz.ntmps75
  go_wp2_with fail
  obtain ⟨c, hc⟩ : ∃ c, c = min s.size (st.i + 60) := ⟨_, rfl⟩
  have HC := hide hc
  have hw60 : IntKind.i64.wrap ((st.i : Int) + 60) = (st.i : Int) + 60 := wrapE _ (by omega) (by omega)
  have b0 : (w.alloc (.cells #[.string s, .int .i64 st.i, .int .i64 en, .slice none 0 0, .int .i64 0] 132)).cell? ⟨w.heap.size, 0, none⟩ = some (.string s) := B1.cell 0 rfl
  have bf := B1.fz
  have hne : w.heap.size ≠ b := by omega
  have hmin : (if (st.i : Int) + 60 < (s.size : Int) then (st.i : Int) + 60 else (s.size : Int)) = (c : Int) := by split <;> omega
  have hcle : c ≤ s.size := by omega
  clear hc
  go_region
  have hcut : ER ((w.alloc (.cells #[.string (s.extract 0 c), .int .i64 st.i, .int .i64 en, .slice none 0 0, .int .i64 0] 132)).drew) w.heap.size (s.extract 0 c) st.i en (.slice none 0 0) 0 ∧ SR ((w.alloc (.cells #[.string (s.extract 0 c), .int .i64 st.i, .int .i64 en, .slice none 0 0, .int .i64 0] 132)).drew) b s st.i en cv ov ∧ Kp b w ((w.alloc (.cells #[.string (s.extract 0 c), .int .i64 st.i, .int .i64 en, .slice none 0 0, .int .i64 0] 132)).drew) := ⟨Blk.new w _ _, h.alloc _, ((Kp.refl b w).alloc _).drew⟩
  have hwl : w.heap.size < ((w.alloc (.cells #[.string (s.extract 0 c), .int .i64 st.i, .int .i64 en, .slice none 0 0, .int .i64 0] 132)).drew).heap.size := hcut.1.lt
  generalize (w.alloc (.cells #[.string (s.extract 0 c), .int .i64 st.i, .int .i64 en, .slice none 0 0, .int .i64 0] 132)).drew = wc at *
  have hc := HC.out
  clear hmin
  obtain ⟨hE, hR, hK⟩ := hcut
  have hz : (s.extract 0 c).size = c := by rw [ByteArray.size_extract]; omega
  clear c0 c1 c2 h1 k1 B1 b0 bf h hw60
  have hPW := pattern_ways s n c st hb hi hn hc _ rfl
  go_wp2_with fail
  refine (pexpr_any n w.heap.size (s.extract 0 c) st.i en _ hE (by omega) (by omega) (by omega)).mono ?_
  rintro e w2 ⟨k2, hT⟩
  have hR2 : SR w2 b s st.i en cv ov := Blk.kp hR k2 (by omega)
  have hK2 : Kp b w w2 := ⟨k2.os.trans hK.os, k2.tape.trans hK.tape, k2.output.trans hK.output, Nat.le_trans hK.size k2.size, fun j hj hjb => (k2.block j (Nat.lt_of_lt_of_le hj hK.size) (by omega)).trans (hK.block j hj hjb)⟩
  clear hE hR hK k2
  generalize listG (s.extract 0 c) (stopT (s.extract 0 c)) n (advIf (s.extract 0 c) 94 ⟨st.i, false, 0⟩) [] = r at *
  have hF : (advIf (s.extract 0 c) 36 r.2).bad = r.2.bad := advIf_bb _ _ _
  rcases hT with ⟨hrb, xb, pv, qs, rfl, hX, hxb, -, -, -, hE2⟩ | ⟨hrb, rfl⟩
  · replace hPW : ((patternS s n st).2.bad = false ∧ isB s (advIf (s.extract 0 c) 36 r.2) 47 = true ∧ (patternS s n st).2.i = (advIf (s.extract 0 c) 36 r.2).i + 1 ∧ (patternS s n st).1.1 = r.2.g) ∨ ((patternS s n st).2.bad = true ∧ isB s (advIf (s.extract 0 c) 36 r.2) 47 = false ∧ (patternS s n st).2.i = (advIf (s.extract 0 c) 36 r.2).i) := by
      rcases hPW with ⟨g1, g2, g3, g4, g5⟩ | ⟨g1, ⟨g2, g3⟩ | ⟨g2, g3, g4⟩⟩
      · exact .inl ⟨g1, g3, g4, g5⟩
      · rw [hrb] at g2; cases g2
      · exact .inr ⟨g1, g3, g4⟩
    have e1 : w2.cell? ⟨w.heap.size, 1, none⟩ = some (.int .i64 ((advIf (s.extract 0 c) 36 r.2).i : Nat)) := hE2.rd.c1
    rw [hrb] at hF
    generalize advIf (s.extract 0 c) 36 r.2 = y at *
    have hyl : y.i ≤ s.size := by
      rcases hPW with ⟨_, g, _⟩ | ⟨_, _, g⟩
      · have := peekOk_lt (isB_ok g); omega
      · have := pattern_le s n st hi; omega
    have f1 := hR2.fz
    have f2 := hR2.c1
    have hxb2 : w.heap.size < xb := Nat.lt_of_lt_of_le hwl hxb
    have HX := hide (And.intro hX hxb2)
    have HPW := hide hPW
    clear hPW hX hxb
    go_wp2_with fail
    refine (sTakeOneOf ⟨#[47]⟩ (st := y) (hR2.set1 _ y.i rfl) hF hs hyl).mono ?_
    rintro e w4 ⟨hK4, hT4⟩
    have e4 : oneOfS s (ByteArray.mk #[47]).data.toList y = eatS s 47 y := oneOf_eat s 47 47 rfl y
    rw [e4] at hT4
    have hK5 := (hK2.set 1 _).trans hK4
    have hX4 := (HX.out.1.other (p := ⟨b, 1, none⟩) (show b ≠ xb by omega) (.int .i64 (y.i : Nat))).kp hK4 (show xb ≠ b by omega)
    have HX4 := hide hX4
    clear hX4
    rcases hT4 with ⟨hb4, ⟨rfl, -⟩, hR4⟩ | ⟨hb4, rfl⟩
    · go_wp2_with fail
      go_ret
      have hy : isB s y 47 = true := by
        unfold eatS at hb4
        split at hb4
        · assumption
        · cases hb4
      rcases HPW.out with ⟨g1, g2, g3, g4⟩ | ⟨g1, g2, g3⟩
      · have e5 : (eatS s 47 y).i = y.i + 1 := by unfold eatS; rw [g2]; rfl
        rw [e5] at hR4
        have hX5 := HX4.out
        rw [← g4] at hX5
        exact ⟨hK5, .inl ⟨g1, ⟨_, rfl, xb, _, _, _, _, rfl, hX5, by omega⟩, by rw [g3]; exact hR4⟩⟩
      · rw [g2] at hy; cases hy
    · refine ⟨rfl, ?_⟩
      have hy : isB s y 47 = false := by
        cases hq : isB s y 47
        · rfl
        · unfold eatS at hb4; rw [hq] at hb4; exact absurd hb4 (by show ¬ y.bad = true; rw [hF]; simp)
      rcases HPW.out with ⟨g1, g2, g3, g4⟩ | ⟨g1, g2, g3⟩
      · rw [hy] at g2; cases g2
      · have e5 : (eatS s 47 y).i = y.i := by unfold eatS; rw [hy]; rfl
        refine ⟨hK5, .inr ⟨g1, ?_⟩⟩
        rw [e5, g3]
  · refine ⟨rfl, ?_⟩
    rcases hPW with ⟨g1, g2, g3, g4, g5⟩ | ⟨g1, ⟨g2, g3⟩ | ⟨g2, g3, g4⟩⟩
    · rw [hrb] at g2; cases g2
    · exact ⟨hK2, .inr ⟨g1, by rw [g3]⟩⟩
    · rw [hrb] at g2; cases g2
end Go.Proofs.YtpnecblofjpgfaaGreat
