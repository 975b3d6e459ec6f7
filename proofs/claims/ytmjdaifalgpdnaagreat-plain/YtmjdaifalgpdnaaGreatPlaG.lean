import Derived.Test.YtmjdaifalgpdnaaGreatPlaF
import Derived.Test.YtmjdaifalgpdnaaGreatPriJ
namespace Go.Proofs.YtmjdaifalgpdnaaGreat

/-- What is the same of a command when it is read again. -/
def er (c : CmT) : Int × ByteArray × ByteArray := (c.op, c.text, c.plain)

theorem commands_end {s : ByteArray} {n k nest : Nat} {l : List CmT} {st : St} (h : st.bad = true ∨ s.size ≤ st.i) : commandsS s n k l nest st = ((l, nest), st) := by
  cases k with
  | zero => rfl
  | succ k => rw [commandsS, if_pos h]

theorem er_len {l l' : List CmT} (h : l'.map er = l.map er) : l'.length = l.length := by
  have := congrArg List.length h
  simpa using this

theorem commands_mv {s t : ByteArray} {n m : Nat} (hn : 2 * s.size + 2 ≤ n) (hm : 2 * t.size + 2 ≤ m) : ∀ (k : Nat) (l : List CmT) (nest : Nat) (st : St), st.i ≤ s.size → (commandsS s n k l nest st).2.bad = false →
    ∃ r, (commandsS s n k l nest st).1.1 = l ++ r ∧ ∀ (pre : ByteArray) (l' : List CmT) (k' : Nat), t = pre ++ printL r → l'.map er = l.map er → t.size < pre.size + k' →
      ∃ lf st', commandsS t m k' l' nest ⟨pre.size, false, st.g⟩ = ((lf, (commandsS s n k l nest st).1.2), st') ∧ st'.bad = false ∧ lf.map er = (l ++ r).map er
  | 0, l, nest, st, hi, hb => by
    refine ⟨[], by simp only [commandsS, List.append_nil], fun pre l' k' ht hl hk => ⟨l', ⟨pre.size, false, st.g⟩, ?_, rfl, ?_⟩⟩
    · rw [commands_end (.inr (by rw [ht]; simp only [printL]; rw [app_nil]; exact Nat.le_refl _))]
      rfl
    · rw [List.append_nil]; exact hl
  | k + 1, l, nest, st, hi, hb => by
    by_cases c1 : st.bad = true ∨ s.size ≤ st.i
    · rw [commands_end c1] at hb ⊢
      refine ⟨[], by simp only [List.append_nil], fun pre l' k' ht hl hk => ⟨l', ⟨pre.size, false, st.g⟩, ?_, rfl, ?_⟩⟩
      · rw [commands_end (.inr (by rw [ht]; simp only [printL]; rw [app_nil]; exact Nat.le_refl _))]
      · rw [List.append_nil]; exact hl
    · rw [commandsS, if_neg c1] at hb ⊢
      have hsb : st.bad = false := by
        simp only [not_or] at c1
        simpa using c1.1
      obtain ⟨B, hBe⟩ : ∃ B, B = blanksS s (s.size + 1) st := ⟨_, rfl⟩
      have hB := On.blanks (s := s) (s.size + 1) hi
      have hBk := blanks_keep s (s.size + 1) st
      have hB32 := blanks_end s (s.size + 1) st (by omega)
      rw [← hBe] at hB hBk hB32 hb ⊢
      by_cases c2 : isB s B 10 = true
      · rw [if_pos c2] at hb ⊢
        have := commands_mv hn hm k l nest (adv B) (by have := peekOk_lt (isB_ok c2); show B.i + 1 ≤ s.size; omega) hb
        have e : (adv B).g = st.g := hBk.2
        rw [e] at this
        exact this
      · rw [if_neg c2] at hb ⊢
        by_cases c3 : s.size ≤ B.i
        · rw [if_pos c3] at hb ⊢
          have := commands_mv hn hm k l nest B hB.2 hb
          rw [hBk.2] at this
          exact this
        · rw [if_neg c3] at hb ⊢
          obtain ⟨full, hfull⟩ : ∃ full, full = decide (60 ≤ l.length) := ⟨_, rfl⟩
          rw [← hfull] at hb ⊢
          have hco := command_on (n := n) nest full hB.2 (by omega)
          obtain ⟨c, hc⟩ : ∃ c, c = commandS s n nest full B := ⟨_, rfl⟩
          rw [← hc] at hb hco ⊢
          by_cases c4 : c.2.bad = true
          · rw [if_pos c4] at hb
            rw [c4] at hb; cases hb
          · rw [if_neg c4] at hb ⊢
            have hcb : c.2.bad = false := by simpa using c4
            obtain ⟨N, hN⟩ : ∃ N, N = (if c.2.i < s.size then eatS s 10 c.2 else c.2) := ⟨_, rfl⟩
            obtain ⟨nest', hnest⟩ : ∃ nest', nest' = (if c.1.op = 123 then nest + 1 else if c.1.op = 125 then nest - 1 else nest) := ⟨_, rfl⟩
            rw [← hN, ← hnest] at hb ⊢
            have hNb : N.bad = false := by
              cases hx : N.bad
              · rfl
              · rw [commands_end (.inl hx), hx] at hb; cases hb
            have hfin : (∀ h : c.2.i < s.size, (s[c.2.i].toNat : Int) = 10) ∧ N.g = c.2.g ∧ N.i ≤ s.size := by
              by_cases h5 : c.2.i < s.size
              · rw [if_pos h5] at hN
                rw [hN] at hNb
                obtain ⟨w1, w2⟩ := eat_not hNb
                refine ⟨fun h => ?_, by rw [hN, w2]; rfl, by rw [hN, w2]; show c.2.i + 1 ≤ s.size; omega⟩
                rw [isB_at hcb h] at w1
                simpa using w1
              · rw [if_neg h5] at hN
                exact ⟨fun h => absurd h h5, by rw [hN], by rw [hN]; exact hco.1.2⟩
            obtain ⟨r, hr, ih⟩ := commands_mv hn hm k (l ++ [c.1]) nest' N hfin.2.2 hb
            refine ⟨c.1 :: r, by rw [hr]; simp, fun pre l' k' ht hl hk => ?_⟩
            have ht' : t = pre ++ (c.1.plain ++ (⟨#[10]⟩ ++ printL r)) := by rw [ht]; simp only [printL, ByteArray.append_assoc]
            obtain ⟨⟨p, hC⟩, g32, g10⟩ := command_mv (t := t) (n := n) (m := m) (c := c.1) (R := c.2) (pre := pre) (post := printL r) (hBk.1.trans hsb) hB.2 (by omega) hm hc.symm hcb hB32 (by simpa using c2) hfin.1 ht'
            have eB : mv B.i pre.size B = ⟨pre.size, false, st.g⟩ := st_eq (by show pre.size + (B.i - B.i) = pre.size; omega) (hBk.1.trans hsb) hBk.2
            rw [eB] at hC g32 g10
            obtain ⟨pre', hpre⟩ : ∃ pre', pre' = pre ++ c.1.plain ++ ⟨#[10]⟩ := ⟨_, rfl⟩
            have hps : pre'.size = pre.size + c.1.plain.size + 1 := by rw [hpre, ByteArray.size_append, ByteArray.size_append, one_size]
            have htp : t = pre' ++ printL r := by rw [ht', hpre]; simp only [ByteArray.append_assoc]
            have htz : t.size = pre'.size + (printL r).size := by rw [htp, ByteArray.size_append]
            obtain ⟨k'', rfl⟩ : ∃ k'', k' = k'' + 1 := ⟨k' - 1, by omega⟩
            have hl2 : (l' ++ [(⟨c.1.op, p, c.1.text, c.1.plain⟩ : CmT)]).map er = (l ++ [c.1]).map er := by
              rw [List.map_append, List.map_append, hl]; rfl
            obtain ⟨lf, st', k1, k2, k3⟩ := ih pre' _ k'' htp hl2 (by omega)
            refine ⟨lf, st', ?_, k2, by rw [k3]; simp⟩
            obtain ⟨n1, n2⟩ := app_next (show t = (pre ++ c.1.plain) ++ (⟨#[10]⟩ ++ printL r) by rw [ht', ByteArray.append_assoc])
            have n3 : (pre ++ c.1.plain).size = pre.size + c.1.plain.size := ByteArray.size_append
            simp only [n3] at n1 n2
            have hee : eatS t 10 { c.2 with i := pre.size + c.1.plain.size } = ⟨pre'.size, false, N.g⟩ := by
              unfold eatS
              rw [isB_at (st := { c.2 with i := pre.size + c.1.plain.size }) hcb n1, n2]
              exact st_eq (by show pre.size + c.1.plain.size + 1 = pre'.size; omega) hcb hfin.2.1.symm
            rw [commandsS, if_neg (by simp; omega), blanks_stay _ g32, if_neg (by rw [g10]; decide), if_neg (by show ¬ t.size ≤ pre.size; omega)]
            have hf2 : decide (60 ≤ l'.length) = full := by rw [hfull, er_len hl]
            rw [hf2, hC]
            dsimp only
            rw [if_neg c4, if_pos n1, hee, ← hnest]
            exact k1

theorem er_get {l l' : List CmT} (h : l'.map er = l.map er) (i : Nat) : (l'[i]?).map er = (l[i]?).map er := by
  rw [← List.getElem?_map, ← List.getElem?_map, h]
theorem isLab_er {l l' : List CmT} (h : l'.map er = l.map er) (x : ByteArray) (i : Nat) : isLab l' x i = isLab l x i := by
  have hg := er_get h i
  unfold isLab
  cases h1 : l[i]? with
  | none => rw [h1] at hg; cases h2 : l'[i]? with
    | none => rfl
    | some b => rw [h2] at hg; cases hg
  | some a => rw [h1] at hg; cases h2 : l'[i]? with
    | none => rw [h2] at hg; cases hg
    | some b =>
      rw [h2] at hg
      have e : er b = er a := by simpa using hg
      have e1 : b.op = a.op := congrArg Prod.fst e
      have e2 : b.text = a.text := congrArg (fun q => q.2.1) e
      dsimp only
      rw [e1, e2]
theorem firstL_er {l l' : List CmT} (h : l'.map er = l.map er) (x : ByteArray) : ∀ k, firstL l' x k = firstL l x k
  | 0 => rfl
  | k + 1 => by rw [firstL, firstL, firstL_er h x k, isLab_er h]
theorem lostS_er {l l' : List CmT} (h : l'.map er = l.map er) : ∀ k i, lostS l k i = none → lostS l' k i = none
  | 0, i, _ => rfl
  | k + 1, i, hn => by
    have hg := er_get h i
    rw [lostS] at hn ⊢
    cases h1 : l[i]? with
    | none => rw [h1] at hg; cases h2 : l'[i]? with
      | none => rfl
      | some b => rw [h2] at hg; cases hg
    | some a => rw [h1] at hg; cases h2 : l'[i]? with
      | none => rfl
      | some b =>
        rw [h2] at hg
        have e : er b = er a := by simpa using hg
        have e1 : b.op = a.op := congrArg Prod.fst e
        have e2 : b.text = a.text := congrArg (fun q => q.2.1) e
        rw [h1] at hn
        dsimp only at hn ⊢
        have hl : lostB l' b i = lostB l a i := by
          unfold lostB
          rw [e1, e2, firstL_er h, er_len h]
        rw [hl]
        split at hn
        · cases hn
        · next hc => rw [if_neg hc]; exact lostS_er h k (i + 1) hn
theorem printL_er : ∀ {l l' : List CmT}, l'.map er = l.map er → printL l' = printL l
  | [], [], _ => rfl
  | [], b :: l', h => by cases h
  | a :: l, [], h => by cases h
  | a :: l, b :: l', h => by
    simp only [List.map_cons, List.cons.injEq] at h
    have e3 : b.plain = a.plain := congrArg (fun q => q.2.2) h.1
    rw [printL, printL, printL_er h.2, e3]

/-- What is printed is taken, and is its own plain form. -/
theorem print_again {s : ByteArray} (h : (errS s).1 = 0) (hz : (printS s).size ≤ 1000) : errS (printS s) = (0, 0) ∧ printS (printS s) = printS s := by
  obtain ⟨hE, hs⟩ := err_ok h
  have hp : printS s = printL (scrS s).1 := by unfold printS; rw [if_pos h]
  rw [hp] at hz ⊢
  obtain ⟨t, ht⟩ : ∃ t, t = printL (scrS s).1 := ⟨_, rfl⟩
  rw [← ht] at hz ⊢
  have hb : (scrS s).2.bad = false := by
    cases hx : (scrS s).2.bad
    · rfl
    · unfold errS at h
      rw [if_neg (by omega), if_pos hx] at h
      cases h
  have hlost : lostS (scrS s).1 (scrS s).1.length 0 = none := by
    unfold errS at h
    rw [if_neg (by omega), if_neg (by rw [hb]; decide)] at h
    cases hx : lostS (scrS s).1 (scrS s).1.length 0 with
    | none => rfl
    | some p => rw [hx] at h; cases h
  unfold scrS allS at hb hlost ht
  dsimp only at hb hlost ht
  have hnest : ¬ 0 < (commandsS s (2 * s.size + 2) (s.size + 1) [] 0 ⟨0, false, 0⟩).1.2 := fun hh => by
    rw [if_pos hh] at hb; cases hb
  rw [if_neg hnest] at hb
  obtain ⟨r, hr, hR⟩ := commands_mv (s := s) (t := t) (n := 2 * s.size + 2) (m := 2 * t.size + 2) (Nat.le_refl _) (Nat.le_refl _) (s.size + 1) [] 0 ⟨0, false, 0⟩ (Nat.zero_le _) hb
  rw [List.nil_append] at hr
  rw [hr] at ht hlost
  obtain ⟨lf, st', k1, k2, k3⟩ := hR ⟨#[]⟩ [] (t.size + 1) (by rw [nil_app]; exact ht) rfl (by show t.size < 0 + (t.size + 1); omega)
  rw [List.nil_append] at k3
  have k1' : commandsS t (2 * t.size + 2) (t.size + 1) [] 0 ⟨0, false, 0⟩ = ((lf, (commandsS s (2 * s.size + 2) (s.size + 1) [] 0 ⟨0, false, 0⟩).1.2), st') := k1
  have hsc : scrS t = (lf, st') := by
    unfold scrS allS
    rw [k1']
    dsimp only
    rw [if_neg hnest]
  have hEt : errS t = (0, 0) := by
    unfold errS
    rw [if_neg (by omega), hsc]
    dsimp only
    rw [if_neg (by rw [k2]; decide), er_len k3, lostS_er k3 _ _ hlost]
  refine ⟨hEt, ?_⟩
  unfold printS
  rw [hEt, if_pos rfl, hsc]
  dsimp only
  rw [printL_er k3, ht]
end Go.Proofs.YtmjdaifalgpdnaaGreat
