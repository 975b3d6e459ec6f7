import Derived.Test.YtmjdaifalgpdnaaGreatPscD
import Derived.Test.YtmjdaifalgpdnaaGreatPlaF
namespace Go.Proofs.YtmjdaifalgpdnaaGreat
open Go.RowKit

theorem byteOf_nat (x : UInt8) : byteOf (x.toNat : Int) = x := by
  unfold byteOf
  simp
theorem extract_snoc (s : ByteArray) (b i : Nat) (hb : b ≤ i) (hi : i < s.size) : s.extract b (i + 1) = s.extract b i ++ ⟨#[s[i]]⟩ := by
  apply ByteArray.ext
  rw [ByteArray.data_append, ByteArray.data_extract, ByteArray.data_extract]
  apply Array.ext_getElem?
  intro k
  have hz : s.data.size = s.size := rfl
  rw [Array.getElem?_append]
  simp only [Array.getElem?_extract, Array.size_extract]
  by_cases h1 : k < i - b
  · rw [if_pos (by omega), if_pos (by omega), if_pos (by omega)]
  · rw [if_neg (by omega : ¬ k < min i s.data.size - b)]
    by_cases h2 : k = i - b
    · subst h2
      rw [if_pos (by omega)]
      have e1 : b + (i - b) = i := by omega
      have e2 : i - b - (min i s.data.size - b) = 0 := by omega
      rw [e1, e2, Array.getElem?_eq_getElem (show i < s.data.size from hi)]
      rfl
    · rw [if_neg (by omega), Array.getElem?_eq_none (by simp; omega)]

theorem res_tmp2 {fn : Func} {a b : Tmp} (h : fn.results = #[.tmp a, .tmp b]) (tmps : Array Value) (P : Program) (w : World) :
    (results fn tmps).run P w = .ok (.tuple #[tmps.getD a undef, tmps.getD b undef]) w := by
  simp [results, h]

theorem fromL_bad {s : ByteArray} (n : Nat) (f : ByteArray) {st : St} (h : st.bad = true) : fromL s n f st = (f, st) := by
  cases n with
  | zero => rfl
  | succ n => rw [fromL, if_pos (.inl h)]
theorem toL_bad {s : ByteArray} (m n : Nat) (f : ByteArray) {st : St} (h : st.bad = true) : toL s m n f st = (f, st) := by
  cases n with
  | zero => rfl
  | succ n => rw [toL, if_pos (.inl h)]
theorem table_bad1 {s : ByteArray} {n : Nat} {st q : St} {f : ByteArray} (h1 : fromL s n ⟨#[]⟩ (eatS s 47 st) = (f, q)) (hq : q.bad = true) : (tableS s n st).2 = q := by
  unfold tableS
  simp only [h1, eatIf_bad hq, toL_bad _ _ _ hq]
theorem table_bad2 {s : ByteArray} {n : Nat} {st q r : St} {f f2 : ByteArray} (h1 : fromL s n ⟨#[]⟩ (eatS s 47 st) = (f, q)) (h2 : toL s f.size n ⟨#[]⟩ (eatIf s 47 q) = (f2, r)) : (tableS s n st).2 = eatIf s 47 r := by
  unfold tableS
  simp only [h1, h2]

theorem has2 (c : Int) : hasL [92, 10] c = true ↔ c = 92 ∨ c = 10 := by
  simp only [hasL, List.any_cons, List.any_nil, Bool.or_false, Bool.or_eq_true, beq_iff_eq]
  constructor
  · rintro (h | h)
    · exact .inl h.symm
    · exact .inr h.symm
  · rintro (h | h)
    · exact .inl h.symm
    · exact .inr h.symm
theorem has3 (c : Int) : hasL [47, 92, 10] c = true ↔ c = 47 ∨ c = 92 ∨ c = 10 := by
  simp only [hasL, List.any_cons, List.any_nil, Bool.or_false, Bool.or_eq_true, beq_iff_eq]
  constructor
  · rintro (h | h | h)
    · exact .inl h.symm
    · exact .inr (.inl h.symm)
    · exact .inr (.inr h.symm)
  · rintro (h | h | h)
    · exact .inl h.symm
    · exact .inr (.inl h.symm)
    · exact .inr (.inr h.symm)

set_option maxRecDepth 100000 in
set_option maxHeartbeats 1600000 in
theorem pexchange_any (n b : Nat) (s : ByteArray) (st : St) (en : Int) (cv ov : Value) (w : World) (h : SR w b s st.i en cv ov) (hb : st.bad = false) (hs : s.size ≤ 1048576) (hi : st.i ≤ s.size) (hn : s.size + 1 < st.i + n) :
    Calls Tryz.prog 77 #[.pointer (some ⟨b, 0, none⟩)] w fun e w' => TookS w b s en cv ov (tableS s n st).2 (fun e _ => ∃ x y, e = .returned (.tuple #[.string x, .string y])) e w' := by
  have he := On.eat (s := s) 47 hi
  go_enter Tryz.func77, Tryz.ntmps77
  go_wp2_with fail
  refine (sTakeOneOf ⟨#[47]⟩ h hb hs hi).mono ?_
  rintro e w1 ⟨hK1, hT⟩
  have e1 : oneOfS s (ByteArray.mk #[47]).data.toList st = eatS s 47 st := oneOf_eat s 47 47 rfl st
  rw [e1] at hT
  have H1 : Hid (∀ (f : ByteArray) (q : St), fromL s n ⟨#[]⟩ (eatS s 47 st) = (f, q) → q.bad = true → (tableS s n st).2 = q) := fun f q h1 h2 => table_bad1 h1 h2
  have H2 : Hid (∀ (f f2 : ByteArray) (q r : St), fromL s n ⟨#[]⟩ (eatS s 47 st) = (f, q) → toL s f.size n ⟨#[]⟩ (eatIf s 47 q) = (f2, r) → (tableS s n st).2 = eatIf s 47 r) := fun f f2 q r h1 h2 => table_bad2 h1 h2
  clear e1
  generalize eatS s 47 st = q at *
  rcases hT with ⟨hbd, ⟨rfl, -⟩, hR1⟩ | ⟨hbd, rfl⟩
  · have c1 := hR1.c1
    have hq2 := he.2
    have hq1 := he.1
    go_wp2_with fail
    go_loopg [] n (fun k w' => ∃ (cur : St), SR w' b s cur.i en cv ov ∧ cur.bad = false ∧ Kp b w w' ∧ q.i ≤ cur.i ∧ cur.i ≤ s.size ∧ s.size < cur.i + k ∧ Hid (fromL s k (s.extract q.i cur.i) cur = fromL s n ⟨#[]⟩ q))
    case atStart =>
      refine ⟨q, hR1, hbd, hK1, Nat.le_refl _, hq2, by omega, ?_⟩
      show fromL s n (s.extract q.i q.i) q = _
      have : s.extract q.i q.i = ⟨#[]⟩ := by
        apply ByteArray.ext
        rw [ByteArray.data_extract]
        simp
        omega
      rw [this]
    case round =>
      obtain ⟨cur, hR, hcb, hK, hqc, hci, hck, HE⟩ := hrel
      obtain ⟨k, rfl⟩ : ∃ k, gk = k + 1 := ⟨gk - 1, by omega⟩
      have r0 := hR.c0
      cases hx : isB s cur 47
      · have HX := hide hx
        have hE := HE.out
        rw [fromL, if_neg (by rw [hcb, hx]; simp)] at hE
        have HE2 := hide hE
        clear hE HE
        go_wp2_with (go_at_call 44; refine (sIsNext 47 47 rfl hx hR hcb hs hci).mono ?_; rintro e w2 ⟨rfl, hw2⟩)
        refine (sTakeOther ⟨#[92, 10]⟩ (hw2.sr hR) hcb hs hci).mono ?_
        rintro e w3 ⟨hK3, hT3⟩
        have hK4 := (hw2.kp hK).trans hK3
        clear hw2 hK3 hK hR
        rcases hT3 with ⟨hb3, ⟨rfl, hok, hno⟩, hR3⟩ | ⟨hb3, rfl⟩
        · have e3 : otherS s (ByteArray.mk #[92, 10]).data.toList cur = adv cur := by unfold otherS; rw [if_neg (by rw [hok, hno]; simp)]
          rw [e3] at hR3
          have hlt := peekOk_lt hok
          have p0 := peekC_lo s cur
          have p1 := peekC_hi s cur
          have hfh := firstIdx_has (s.extract q.i cur.i) (peekC s cur) p0 p1
          have d0 := hR3.c0
          have d1 : w3.cell? ⟨b, 1, none⟩ = some (.int .i64 ((cur.i : Int) + 1)) := hR3.c1
          have hw1 : IntKind.i64.wrap ((cur.i : Int) + 1 - 1) = (cur.i : Int) := by rw [wrapE _ (by omega) (by omega)]; omega
          have hno2 : ¬ (peekC s cur = 92 ∨ peekC s cur = 10) := fun h => by
            have := (has2 _).2 h
            rw [show hasL (ByteArray.mk #[92, 10]).data.toList (peekC s cur) = hasL [92, 10] (peekC s cur) from rfl, this] at hno
            cases hno
          cases hh : hasL (s.extract q.i cur.i).data.toList (peekC s cur)
          · rw [hh] at hfh
            have hE := HE2.out
            rw [if_neg (by rw [hok, hh]; simp only [not_or] at hno2 ⊢; exact ⟨by simp, hno2.2, hno2.1, by simp⟩)] at hE
            have hpa := peekC_at hcb hlt
            rw [hpa, byteOf_nat, ← extract_snoc s q.i cur.i hqc hlt] at hE
            have HE3 := hide hE
            clear hE HE2 hno hno2 hh hok e3 hpa
            go_wp2_with fail
            go_quiet ((go_at_call 64; exact Calls.quiet_of_same (indexByte_any _ _ _)))
            go_wp2_with fail
            go_roundg k
            case measure => omega
            case rel => exact ⟨adv cur, hR3.drewN _, hcb, hK4.drewN _, by simp [adv]; omega, by simp [adv]; omega, by simp [adv]; omega, HE3.out⟩
          · rw [hh] at hfh
            have hE := HE2.out
            rw [if_pos (.inr (.inr (.inr hh))), fromL_bad _ _ (show (spoil cur).bad = true from rfl)] at hE
            have HE3 := hide hE
            clear hE HE2 hno hno2 hh hok e3
            go_wp2_with fail
            go_quiet ((go_at_call 64; exact Calls.quiet_of_same (indexByte_any _ _ _)))
            go_wp2_with fail
            refine (refuse_any b s (cur.i + 1) en _ (SR.rd (hR3.drewN _)) hs (by omega)).mono ?_
            rintro e w5 ⟨rfl, rfl⟩
            refine ⟨rfl, ?_⟩
            rw [H1.out _ _ HE3.out.symm rfl]
            exact ⟨hK4.drewN _, .inr ⟨rfl, by rw [show (((cur.i + 1 : Nat) : Int) - 1) = ((spoil cur).i : Int) from by simp [spoil]]⟩⟩
        · have hx3 : peekOk s cur = false ∨ hasL [92, 10] (peekC s cur) = true := by
            unfold otherS at hb3
            split at hb3
            · assumption
            · exact absurd hb3 (by show ¬ cur.bad = true; rw [hcb]; simp)
          have e3 : otherS s (ByteArray.mk #[92, 10]).data.toList cur = spoil cur := by
            unfold otherS; rw [if_pos hx3]
          rw [e3]
          have hE := HE2.out
          rw [if_pos (by
            rcases hx3 with h | h
            · exact .inl h
            · rcases (has2 _).1 h with h | h
              · exact .inr (.inr (.inl h))
              · exact .inr (.inl h)), fromL_bad _ _ (show (spoil cur).bad = true from rfl)] at hE
          refine ⟨rfl, ?_⟩
          rw [H1.out _ _ hE.symm rfl]
          exact ⟨hK4, .inr ⟨rfl, rfl⟩⟩
      · have HX := hide hx
        have hE := HE.out
        rw [fromL, if_pos (.inr hx)] at hE
        have HF := hide hE.symm
        have hlen : (s.extract q.i cur.i).size = cur.i - q.i := by rw [ByteArray.size_extract]; omega
        have hle : (q.i : Int) ≤ cur.i := by omega
        have r1 := hR.c1
        clear hE HE
        go_wp2_with (go_at_call 44; refine (sIsNext 47 47 rfl hx hR hcb hs hci).mono ?_; rintro e w2 ⟨rfl, n2, rfl⟩)
        go_quiet (fail)
        go_wp2_with fail
        refine (sTakeOneOf ⟨#[47]⟩ (st := cur) (hR.drewN _) hcb hs hci).mono ?_
        rintro e w3 ⟨hK3, hT3⟩
        have e3 : oneOfS s (ByteArray.mk #[47]).data.toList cur = eatS s 47 cur := oneOf_eat s 47 47 rfl cur
        have e4 : eatS s 47 cur = adv cur := by unfold eatS; rw [HX.out]; rfl
        have e5 : eatIf s 47 cur = adv cur := (eatIf_ok hcb).trans e4
        rw [e3, e4] at hT3
        have hlt := peekOk_lt (isB_ok HX.out)
        have hK4 := (hK.drewN (n2 + nq)).trans hK3
        clear hR hK hK3 e3 e4 r0 r1
        rcases hT3 with ⟨-, ⟨rfl, -⟩, hR3⟩ | ⟨hb3, -⟩
        · have c1 := hR3.c1
          have H3 : Hid (∀ (f2 : ByteArray) (r : St), toL s (s.extract q.i cur.i).size n ⟨#[]⟩ (adv cur) = (f2, r) → (tableS s n st).2 = eatIf s 47 r) := fun f2 r h => H2.out _ f2 _ r HF.out (by rw [e5]; exact h)
          clear H1 H2 HF e5
          have hai : (adv cur).i = cur.i + 1 := rfl
          have hab : (adv cur).bad = false := hcb
          generalize adv cur = q2 at *
          generalize s.extract q.i cur.i = from1 at *
          generalize hm : from1.size = m at *
          have hmn : m < n := by omega
          go_wp2_with fail
          go_loopg [67] n (fun k kv w' => ∃ (j : Nat) (f : ByteArray) (c2 : St), kv = .int .i64 j ∧ f.size = j ∧ j ≤ m ∧ m < j + k ∧ SR w' b s c2.i en cv ov ∧ c2.bad = false ∧ Kp b w w' ∧ q2.i ≤ c2.i ∧ c2.i ≤ s.size ∧ Hid (toL s m k f c2 = toL s m n ⟨#[]⟩ q2))
          case atStart => exact ⟨0, ⟨#[]⟩, q2, rfl, rfl, Nat.zero_le _, by omega, hR3, hab, hK4, Nat.le_refl _, by omega, rfl⟩
          case round =>
            obtain ⟨j, f, c2, rfl, hfj, hjm, hmk, hR, hcb2, hK, hqc2, hci2, HE⟩ := hrel
            have r0 := hR.c0
            have r1 := hR.c1
            obtain ⟨k, rfl⟩ : ∃ k, gk = k + 1 := ⟨gk - 1, by omega⟩
            by_cases hjl : j < m
            · have hd : decide ((j : Int) < (m : Nat)) = true := by simp; omega
              have hE := HE.out
              rw [toL, if_neg (by rw [hcb2]; simp; omega)] at hE
              have HE2 := hide hE
              clear hE HE
              go_wp2_with fail
              refine (sTakeOther ⟨#[47, 92, 10]⟩ hR hcb2 hs hci2).mono ?_
              rintro e w5 ⟨hK5, hT5⟩
              have hK6 := hK.trans hK5
              rcases hT5 with ⟨hb5, ⟨rfl, hok, hno⟩, hR5⟩ | ⟨hb5, rfl⟩
              · have e5 : otherS s (ByteArray.mk #[47, 92, 10]).data.toList c2 = adv c2 := by unfold otherS; rw [if_neg (by rw [hok, hno]; simp)]
                rw [e5] at hR5
                have hl2 := peekOk_lt hok
                have hE := HE2.out
                rw [if_neg (by
                  intro h
                  rcases h with h | h
                  · rw [hok] at h; cases h
                  · have h9 := (has3 (peekC s c2)).2 (by omega)
                    rw [show hasL (ByteArray.mk #[47, 92, 10]).data.toList (peekC s c2) = hasL [47, 92, 10] (peekC s c2) from rfl, h9] at hno
                    cases hno)] at hE
                have HE3 := hide hE
                clear hE HE2 hok hno e5 hR hK hK5
                go_wp2_with fail
                go_roundg k
                case measure => omega
                case rel => exact ⟨j + 1, _, adv c2, by go_num, by rw [ByteArray.size_append, hfj]; rfl, by omega, by omega, hR5, hcb2, hK6, by simp [adv]; omega, by simp [adv]; omega, HE3.out⟩
              · have hx3 : peekOk s c2 = false ∨ hasL [47, 92, 10] (peekC s c2) = true := by
                  unfold otherS at hb5
                  split at hb5
                  · assumption
                  · exact absurd hb5 (by show ¬ c2.bad = true; rw [hcb2]; simp)
                have e5 : otherS s (ByteArray.mk #[47, 92, 10]).data.toList c2 = spoil c2 := by
                  unfold otherS; rw [if_pos hx3]
                rw [e5]
                have hE := HE2.out
                rw [if_pos (by
                  rcases hx3 with h | h
                  · exact .inl h
                  · have := (has3 _).1 h
                    right; omega), toL_bad _ _ _ (show (spoil c2).bad = true from rfl)] at hE
                refine ⟨rfl, ?_⟩
                rw [H3.out _ _ hE.symm, eatIf_bad (show (spoil c2).bad = true from rfl)]
                exact ⟨hK6, .inr ⟨rfl, rfl⟩⟩
            · have hd : decide ((j : Int) < (m : Nat)) = false := by simp; omega
              have hE := HE.out
              rw [toL, if_pos (.inr (by omega))] at hE
              have E3 := hide (H3.out _ _ hE.symm)
              have hle2 : (q2.i : Int) ≤ c2.i := by omega
              clear hE HE H3
              go_wp2_with fail
              go_quiet (fail)
              go_wp2_with fail
              refine (sTakeOneOf ⟨#[47]⟩ (st := c2) (hR.drewN _) hcb2 hs hci2).mono ?_
              rintro e w6 ⟨hK6, hT6⟩
              have e6 : oneOfS s (ByteArray.mk #[47]).data.toList c2 = eatS s 47 c2 := oneOf_eat s 47 47 rfl c2
              rw [e6, ← eatIf_ok hcb2] at hT6
              have hK7 := (hK.drewN nq).trans hK6
              rcases hT6 with ⟨hb6, ⟨rfl, -⟩, hR6⟩ | ⟨hb6, rfl⟩
              · clear e6 hR hK hK6
                go_wp2_with fail
                refine bodyPost_ret (res_tmp2 rfl _ _ _) rfl ?_
                rw [E3.out]
                exact ⟨hK7, .inl ⟨hb6, ⟨_, _, rfl⟩, hR6⟩⟩
              · refine ⟨rfl, ?_⟩
                rw [E3.out]
                exact ⟨hK7, .inr ⟨hb6, rfl⟩⟩
        · exact absurd hb3 (by show ¬ cur.bad = true; rw [hcb]; simp)
  · refine ⟨rfl, ?_⟩
    rw [H1.out _ q (fromL_bad _ _ hbd) hbd]
    exact ⟨hK1, .inr ⟨hbd, rfl⟩⟩
end Go.Proofs.YtmjdaifalgpdnaaGreat
