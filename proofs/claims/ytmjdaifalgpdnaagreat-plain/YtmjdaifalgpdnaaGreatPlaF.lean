import Derived.Test.YtmjdaifalgpdnaaGreatScrK
import Derived.Test.YtmjdaifalgpdnaaGreatPlaE
namespace Go.Proofs.YtmjdaifalgpdnaaGreat
open Go.RowKit

theorem On.addrs {s : ByteArray} {a : St} (n : Nat) (h : a.i ≤ s.size) : On s a (addrsS s n a).2 := by
  have h1 := addr_le s n a h
  unfold addrsS
  split
  · next hc =>
    have h2 := On.adv (s := s) (peekOk_lt (isB_ok hc.2.2))
    have h3 := addr_le s n _ h2.2
    have h4 : On s a (addrS s n (Go.Proofs.YtmjdaifalgpdnaaGreat.adv (addrS s n a).2)).2 := On.trans (On.trans ⟨h1.1, h1.2⟩ h2) ⟨h3.1, h3.2⟩
    dsimp only
    split
    · exact h4.trans (On.spoil h4.2)
    · exact h4
  · exact h1
theorem On.blanks {s : ByteArray} {a : St} (n : Nat) (h : a.i ≤ s.size) : On s a (blanksS s n a) := ⟨(Fwd.blanks n a h).1, (Fwd.blanks n a h).2.1⟩
theorem command_on {s : ByteArray} {a : St} {n : Nat} (nest : Nat) (full : Bool) (h : a.i ≤ s.size) (hn : 2 * (s.size - a.i) + 2 ≤ n) : On s a (commandS s n nest full a).2 ∧ ((commandS s n nest full a).2.bad = false → a.i < (commandS s n nest full a).2.i) := by
  have h1 := On.addrs n h
  have h2 := h1.trans (On.blanks (s.size + 1) h1.2)
  have h3 := h2.trans (On.advIf 33 h2.2)
  unfold commandS
  dsimp only
  split
  · next hb => exact ⟨h1, fun h => by rw [hb] at h; cases h⟩
  · split
    · exact ⟨h3.trans (On.spoil h3.2), fun h => by cases h⟩
    · next hl =>
      have hp : peekOk s (advIf s 33 (blanksS s (s.size + 1) (addrsS s n a).2)) = true := by
        unfold letterBad at hl
        simp only [not_or] at hl
        simpa using hl.1
      have h4 := On.adv (s := s) (peekOk_lt hp)
      have h5 : (Go.Proofs.YtmjdaifalgpdnaaGreat.adv (advIf s 33 (blanksS s (s.size + 1) (addrsS s n a).2))).i = (advIf s 33 (blanksS s (s.size + 1) (addrsS s n a).2)).i + 1 := rfl
      have h6 := On.rest (n := n) (peekC s (advIf s 33 (blanksS s (s.size + 1) (addrsS s n a).2))) h4.2 (by have := h3.1; omega)
      exact ⟨h3.trans (h4.trans h6), fun _ => by have := h3.1; have := h6.1; dsimp only; omega⟩

/-- The commands of a script, from a place on. -/
def commandsS (s : ByteArray) (n : Nat) : Nat → List CmT → Nat → St → (List CmT × Nat) × St
  | 0, l, nest, st => ((l, nest), st)
  | k + 1, l, nest, st =>
    if st.bad = true ∨ s.size ≤ st.i then ((l, nest), st) else
    if isB s (blanksS s (s.size + 1) st) 10 = true then commandsS s n k l nest (adv (blanksS s (s.size + 1) st)) else
    if s.size ≤ (blanksS s (s.size + 1) st).i then commandsS s n k l nest (blanksS s (s.size + 1) st) else
    if (commandS s n nest (decide (60 ≤ l.length)) (blanksS s (s.size + 1) st)).2.bad = true then ((l, nest), (commandS s n nest (decide (60 ≤ l.length)) (blanksS s (s.size + 1) st)).2) else
    commandsS s n k (l ++ [(commandS s n nest (decide (60 ≤ l.length)) (blanksS s (s.size + 1) st)).1])
      (if (commandS s n nest (decide (60 ≤ l.length)) (blanksS s (s.size + 1) st)).1.op = 123 then nest + 1 else if (commandS s n nest (decide (60 ≤ l.length)) (blanksS s (s.size + 1) st)).1.op = 125 then nest - 1 else nest)
      (if (commandS s n nest (decide (60 ≤ l.length)) (blanksS s (s.size + 1) st)).2.i < s.size then eatS s 10 (commandS s n nest (decide (60 ≤ l.length)) (blanksS s (s.size + 1) st)).2 else (commandS s n nest (decide (60 ≤ l.length)) (blanksS s (s.size + 1) st)).2)
/-- All of them: bad, if a block is not ended. -/
def allS (s : ByteArray) (n k : Nat) (st : St) : List CmT × St := ((commandsS s n k [] 0 st).1.1, if 0 < (commandsS s n k [] 0 st).1.2 then spoil (commandsS s n k [] 0 st).2 else (commandsS s n k [] 0 st).2)
end Go.Proofs.YtmjdaifalgpdnaaGreat

namespace Go.Proofs.YtmjdaifalgpdnaaGreat

/-- The bytes that an address may go on with. -/
abbrev AX (c : Int) : Prop := c = 36 ∨ c = 47 ∨ c = 44 ∨ (48 ≤ c ∧ c ≤ 57)

theorem app_get {x y : ByteArray} {k : Nat} (hk : k < y.size) {i : Nat} (hi : i = x.size + k) (h : i < (x ++ y).size) : (x ++ y)[i] = y[k] := by
  subst hi
  rw [ByteArray.getElem_append_right (by omega)]
  congr 1
  omega
theorem app_getl {x y : ByteArray} {k : Nat} (hk : k < x.size) (h : k < (x ++ y).size) : (x ++ y)[k] = x[k] := ByteArray.getElem_append_left hk
theorem one_size (v : UInt8) : ByteArray.size ⟨#[v]⟩ = 1 := rfl
theorem Ag.of {s t pre post : ByteArray} {i j : Nat} (hij : i ≤ j) (hj : j ≤ s.size) (h : t = pre ++ (s.extract i j ++ post)) : Ag s t i pre.size (j - i) where
  l := by omega
  r := by rw [h, ByteArray.size_append, ByteArray.size_append, ByteArray.size_extract]; omega
  e := fun k hk h1 h2 => by
    subst h
    have hx : k < (s.extract i j).size := by rw [ByteArray.size_extract]; omega
    have hy : k < (s.extract i j ++ post).size := by rw [ByteArray.size_append]; omega
    rw [app_get hy rfl, app_getl hx, ByteArray.getElem_extract]
theorem app_next {t x y : ByteArray} {v : UInt8} (h : t = x ++ (⟨#[v]⟩ ++ y)) : ∃ hl : x.size < t.size, t[x.size] = v := by
  have hl : x.size < t.size := by rw [h, ByteArray.size_append, ByteArray.size_append, one_size]; omega
  refine ⟨hl, ?_⟩
  subst h
  have hy : 0 < (⟨#[v]⟩ ++ y : ByteArray).size := by rw [ByteArray.size_append, one_size]; omega
  rw [app_get (i := x.size) hy (by omega), app_getl (show 0 < ByteArray.size ⟨#[v]⟩ by rw [one_size]; omega)]
  rfl

section
variable {s t : ByteArray} {a b L n m : Nat} {st : St}
theorem isB_at (hb : st.bad = false) (hl : st.i < s.size) (c : Int) : isB s st c = ((s[st.i].toNat : Int) == c) := by
  unfold isB peekOk peekC
  rw [dif_pos ⟨hb, hl⟩]
  simp [hl, hb]
theorem blanks_keep (s : ByteArray) : ∀ (n : Nat) (st : St), (blanksS s n st).bad = st.bad ∧ (blanksS s n st).g = st.g
  | 0, st => ⟨rfl, rfl⟩
  | n + 1, st => by
    rw [blanksS]
    split
    · exact blanks_keep s n (adv st)
    · exact ⟨rfl, rfl⟩
theorem blanks_end (s : ByteArray) : ∀ (n : Nat) (st : St), s.size < st.i + n → isB s (blanksS s n st) 32 = false
  | 0, st, h => by
    rw [blanksS]
    cases hx : isB s st 32
    · rfl
    · have := peekOk_lt (isB_ok hx); omega
  | n + 1, st, h => by
    rw [blanksS]
    split
    · exact blanks_end s n (adv st) (by show s.size < st.i + 1 + n; omega)
    · next hx => simpa using hx
theorem blanks_stay (n : Nat) (h : isB s st 32 = false) : blanksS s n st = st := by
  cases n with
  | zero => rfl
  | succ n => rw [blanksS, h]; rfl
theorem cmd_mem {c : Int} (h : hasL cmdL c = true) : ¬ AX c ∧ c ≠ 32 ∧ c ≠ 33 ∧ c ≠ 10 := by
  simp only [hasL, cmdL, List.any_cons, List.any_nil, Bool.or_false, Bool.or_eq_true, beq_iff_eq] at h
  have h' : c = 123 ∨ c = 125 ∨ c = 58 ∨ c = 98 ∨ c = 116 ∨ c = 97 ∨ c = 105 ∨ c = 99 ∨ c = 100 ∨ c = 68 ∨ c = 103 ∨ c = 71 ∨ c = 104 ∨ c = 72 ∨ c = 120 ∨ c = 110 ∨ c = 78 ∨ c = 112 ∨ c = 80 ∨ c = 113 ∨ c = 81 ∨ c = 115 ∨ c = 119 ∨ c = 121 ∨ c = 61 := by
    rcases h with h | h | h | h | h | h | h | h | h | h | h | h | h | h | h | h | h | h | h | h | h | h | h | h | h <;> (rw [← h]; decide)
  unfold AX
  omega
theorem st_eq {x y : St} (h1 : x.i = y.i) (h2 : x.bad = y.bad) (h3 : x.g = y.g) : x = y := by
  obtain ⟨i, b, g⟩ := x
  obtain ⟨i', b', g'⟩ := y
  cases h1; cases h2; cases h3; rfl

theorem command_mv {pre post : ByteArray} {nest : Nat} {full : Bool} {c : CmT} {R : St} (hsb : st.bad = false) (hi : st.i ≤ s.size) (hn : 2 * (s.size - st.i) + 2 ≤ n) (hm : 2 * t.size + 2 ≤ m)
    (hC : commandS s n nest full st = (c, R)) (hb : R.bad = false) (h32 : isB s st 32 = false) (h10 : isB s st 10 = false) (hfin : ∀ h : R.i < s.size, (s[R.i].toNat : Int) = 10) (ht : t = pre ++ (c.plain ++ (⟨#[10]⟩ ++ post))) :
    (∃ p, commandS t m nest full (mv st.i pre.size st) = (⟨c.op, p, c.text, c.plain⟩, { R with i := pre.size + c.plain.size })) ∧ isB t (mv st.i pre.size st) 32 = false ∧ isB t (mv st.i pre.size st) 10 = false := by
  have hA := On.addrs n hi
  unfold commandS at hC
  dsimp only at hC
  obtain ⟨A, hAe⟩ : ∃ A, A = addrsS s n st := ⟨_, rfl⟩
  rw [← hAe] at hC hA
  by_cases c1 : A.2.bad = true
  · rw [if_pos c1] at hC
    have : A.2 = R := congrArg Prod.snd hC
    rw [← this, c1] at hb; cases hb
  rw [if_neg c1] at hC
  have hAb : A.2.bad = false := by simpa using c1
  obtain ⟨B, hBe⟩ : ∃ B, B = blanksS s (s.size + 1) A.2 := ⟨_, rfl⟩
  have hB := On.blanks (s := s) (s.size + 1) hA.2
  have hBk := blanks_keep s (s.size + 1) A.2
  have hB32 := blanks_end s (s.size + 1) A.2 (by omega)
  rw [← hBe] at hC hB hBk hB32
  obtain ⟨C, hCe⟩ : ∃ C, C = advIf s 33 B := ⟨_, rfl⟩
  have hCo := On.advIf (s := s) 33 hB.2
  rw [← hCe] at hC hCo
  obtain ⟨nt, hnt⟩ : ∃ nt, nt = isB s B 33 := ⟨_, rfl⟩
  rw [← hnt] at hC
  have hCb : C.bad = false := by rw [hCe, advIf_bad, hBk.1, hAb]
  have hCg : C.g = A.2.g := by rw [hCe, advIf_g, hBk.2]
  by_cases c2 : letterBad s nest full A.1 nt C
  · rw [if_pos c2] at hC
    have : spoil C = R := congrArg Prod.snd hC
    rw [← this] at hb; cases hb
  rw [if_neg c2] at hC
  have hok : peekOk s C = true ∧ hasL cmdL (peekC s C) = true := by
    have h3 := c2
    unfold letterBad at h3
    simp only [not_or] at h3
    exact ⟨by simpa using h3.1, by simpa using h3.2.2.1⟩
  have hCl := peekOk_lt hok.1
  obtain ⟨x1, x2, x3, x4⟩ := cmd_mem hok.2
  have hR2 : restS s n (peekC s C) (adv C) = R := congrArg Prod.snd hC
  have hc2 : (⟨peekC s C, C.i, restT s (peekC s C) (adv C), plainC s st.i A.2.i nt C.i (restS s n (peekC s C) (adv C)).i⟩ : CmT) = c := congrArg Prod.fst hC
  have aC : (adv C).i = C.i + 1 := rfl
  have hA1 := hA.1
  have hB1 := hB.1
  have hC1 := hCo.1
  have hRo := On.rest (s := s) (a := adv C) (n := n) (peekC s C) (by omega) (by omega)
  rw [hR2] at hRo hc2
  have hR1 := hRo.1
  have hRs := hRo.2
  subst hc2
  dsimp only at ht ⊢
  obtain ⟨bang, hbang⟩ : ∃ bang : ByteArray, bang = if nt = true then ⟨#[33]⟩ else ⟨#[]⟩ := ⟨_, rfl⟩
  have hpl : plainC s st.i A.2.i nt C.i R.i = s.extract st.i A.2.i ++ bang ++ s.extract C.i R.i := by
    unfold plainC
    rw [hbang]
    cases nt
    · simp only [Bool.false_eq_true, if_false]; rw [app_nil]
    · simp only [if_true]
  have hbs : bang.size = if nt = true then 1 else 0 := by
    rw [hbang]; cases nt <;> rfl
  have ht1 : t = pre ++ (s.extract st.i A.2.i ++ (bang ++ (s.extract C.i R.i ++ (⟨#[10]⟩ ++ post)))) := by rw [ht, hpl]; simp only [ByteArray.append_assoc]
  have ht2 : t = (pre ++ s.extract st.i A.2.i ++ bang) ++ (s.extract C.i R.i ++ (⟨#[10]⟩ ++ post)) := by rw [ht, hpl]; simp only [ByteArray.append_assoc]
  have ht3 : t = (pre ++ s.extract st.i A.2.i ++ bang ++ s.extract C.i R.i) ++ (⟨#[10]⟩ ++ post) := by rw [ht, hpl]; simp only [ByteArray.append_assoc]
  have z1 : (s.extract st.i A.2.i).size = A.2.i - st.i := by rw [ByteArray.size_extract]; omega
  have z2 : (s.extract C.i R.i).size = R.i - C.i := by rw [ByteArray.size_extract]; omega
  have G1 := Ag.of hA.1 hA.2 ht1
  have G2 := Ag.of (by omega) hRs ht2
  obtain ⟨b2, hb2⟩ : ∃ b2, b2 = pre.size + (A.2.i - st.i) + bang.size := ⟨_, rfl⟩
  have hb2' : (pre ++ s.extract st.i A.2.i ++ bang).size = b2 := by rw [ByteArray.size_append, ByteArray.size_append, z1, hb2]
  rw [hb2'] at G2
  obtain ⟨n1, n2⟩ := app_next ht3
  have hn3 : (pre ++ s.extract st.i A.2.i ++ bang ++ s.extract C.i R.i).size = b2 + (R.i - C.i) := by rw [ByteArray.size_append, hb2', z2]
  have n3 : b2 + (R.i - C.i) < t.size := by rw [← hn3]; exact n1
  have n4 : (t[b2 + (R.i - C.i)].toNat : Int) = 10 := by
    simp only [hn3] at n2
    rw [n2]; rfl
  have H2 : Agx NL s t C.i b2 (R.i - C.i) := ⟨G2, fun h => by
      have e : C.i + (R.i - C.i) = R.i := by omega
      simp only [e] at h ⊢
      exact fun hh => hh (hfin h), fun _ hh => hh n4⟩
  -- what stands behind the addresses
  obtain ⟨D, hD⟩ : ∃ D, D = mv st.i pre.size A.2 := ⟨_, rfl⟩
  have hDi : D.i = pre.size + (A.2.i - st.i) := by rw [hD]
  have hDb : D.bad = false := by rw [hD]; exact hAb
  have hDg : D.g = A.2.g := by rw [hD]
  have hDl : D.i < t.size := by omega
  have fD : isB t D 33 = nt ∧ advIf t 33 D = mv C.i b2 C ∧ isB t D 32 = false ∧ isB t D 10 = false ∧ ¬ AX (t[D.i].toNat : Int) := by
    cases hx : nt
    · rw [hx] at hnt hbs
      have hCB : C = B := by rw [hCe, advIf, ← hnt]; rfl
      have hDC : D = mv C.i b2 C := st_eq (by rw [hDi, mv_i, hb2, hbs]; simp) (by rw [hDb]; exact hCb.symm) (by rw [hDg]; exact hCg.symm)
      have p1 : peekOk t D = true := by rw [hDC, G2.ok (Nat.le_refl _) (by omega)]; exact hok.1
      have p2 : peekC t D = peekC s C := by rw [hDC]; exact G2.c (Nat.le_refl _) (by omega)
      have p3 : ∀ c, peekC s C ≠ c → isB t D c = false := fun c hc => by
        unfold isB; rw [p1, p2]; simpa using hc
      refine ⟨p3 33 x3, ?_, p3 32 x2, p3 10 x4, ?_⟩
      · rw [advIf, p3 33 x3]; exact hDC
      · obtain ⟨q1, q2⟩ := peek_get p1
        rw [← q2, p2]; exact x1
    · rw [hx] at hnt hbs hbang
      simp only [if_true] at hbang hbs
      have ht4 : t = (pre ++ s.extract st.i A.2.i) ++ (⟨#[33]⟩ ++ (s.extract C.i R.i ++ (⟨#[10]⟩ ++ post))) := by rw [ht1, hbang]; simp only [ByteArray.append_assoc]
      obtain ⟨m1, m2⟩ := app_next ht4
      have m3 : (pre ++ s.extract st.i A.2.i).size = D.i := by rw [ByteArray.size_append, z1, hDi]
      simp only [m3] at m2
      have p3 : ∀ c : Int, isB t D c = ((33 : Int) == c) := fun c => by rw [isB_at hDb hDl, m2]; rfl
      refine ⟨by rw [p3]; rfl, ?_, by rw [p3]; rfl, by rw [p3]; rfl, ?_⟩
      · rw [advIf, p3]
        have hCB : C = adv B := by rw [hCe, advIf, ← hnt]; rfl
        exact st_eq (by show D.i + 1 = b2 + (C.i - C.i); omega) (by show D.bad = C.bad; rw [hDb, hCb]) (by show D.g = C.g; rw [hDg, hCg])
      · rw [m2]; decide
  obtain ⟨d1, d2, d3, d4, d5⟩ := fD
  have sA : ∀ h : A.2.i < s.size, ¬ AX (s[A.2.i].toNat : Int) := fun h => by
    cases hx : isB s A.2 32
    · have hBA : B = A.2 := by rw [hBe]; exact blanks_stay _ hx
      cases hy : nt
      · have hCB : C = A.2 := by rw [hCe, advIf, ← hnt, hy]; exact hBA
        obtain ⟨q1, q2⟩ := peek_get hok.1
        rw [q2] at x1
        simpa only [hCB] using x1
      · rw [hy] at hnt
        rw [hBA, isB_at hAb h] at hnt
        have : (s[A.2.i].toNat : Int) = 33 := by simpa using hnt.symm
        rw [this]; decide
    · rw [isB_at hAb h] at hx
      have : (s[A.2.i].toNat : Int) = 32 := by simpa using hx
      rw [this]; decide
  have H1 : Agx AX s t st.i pre.size (A.2.i - st.i) := ⟨G1, fun h => by
      have e : st.i + (A.2.i - st.i) = A.2.i := by omega
      simp only [e] at h ⊢
      exact sA h, fun h => by
      simp only [hDi] at d5
      exact d5⟩
  have dig : ∀ v ∈ digitsL, AX ((v.toNat : Nat) : Int) := by decide
  have mi : (mv st.i pre.size st).i = pre.size + (st.i - st.i) := rfl
  have q1 := addrs_mv (n := n) (m := m) (st := st) H1 (.inl rfl) (.inr (.inl rfl)) (.inr (.inr (.inl rfl))) dig (Nat.le_refl _) hi hn (by omega) (by rw [← hAe]; exact hAb) (by rw [← hAe]; omega)
  rw [← hAe, ← hD] at q1
  have lb : letterBad t nest full A.1 nt (mv C.i b2 C) ↔ letterBad s nest full A.1 nt C := by
    unfold letterBad
    rw [G2.ok (Nat.le_refl _) (by omega), G2.c (Nat.le_refl _) (by omega)]
  have pc := G2.c (st := C) (Nat.le_refl _) (by omega)
  have ma : mv C.i b2 (adv C) = adv (mv C.i b2 C) := mv_adv (Nat.le_refl _)
  have mc : (mv C.i b2 (adv C)).i = b2 + (C.i + 1 - C.i) := rfl
  have q5 := rest_mv (n := n) (m := m) (st := adv C) H2 n3 n4 (peekC s C) (by omega) (by omega) (by omega) (by omega) (by rw [hR2]; exact hb) (by rw [hR2]; omega)
  have q6 := restT_mv (st := adv C) H2 (peekC s C) (by omega) (by omega)
  rw [ma] at q5 q6
  rw [hR2] at q5
  have hsz : (plainC s st.i A.2.i nt C.i R.i).size = (A.2.i - st.i) + bang.size + (R.i - C.i) := by rw [hpl, ByteArray.size_append, ByteArray.size_append, z1, z2]
  have pp : plainC t (mv st.i pre.size st).i D.i nt (mv C.i b2 C).i (mv C.i b2 R).i = plainC s st.i A.2.i nt C.i R.i := by
    unfold plainC
    have e1 := G1.ext (Nat.le_refl _) hA.1 (by omega)
    have e2 := G2.ext (i := C.i) (j := R.i) (Nat.le_refl _) (by omega) (by omega)
    rw [hDi, mv_i, mv_i, mv_i, e1, e2]
  refine ⟨⟨(mv C.i b2 C).i, ?_⟩, ?_⟩
  · unfold commandS
    dsimp only
    rw [q1]
    dsimp only
    rw [if_neg (by rw [hDb]; decide), blanks_stay _ d3, d1, d2, if_neg (by rw [lb]; exact c2), pc, q5, q6, pp]
    have e : mv C.i b2 R = { R with i := pre.size + (plainC s st.i A.2.i nt C.i R.i).size } := st_eq (by show b2 + (R.i - C.i) = pre.size + (plainC s st.i A.2.i nt C.i R.i).size; omega) rfl rfl
    rw [e]
  · by_cases h0 : A.2.i = st.i
    · have e : mv st.i pre.size st = ⟨D.i, D.bad, st.g⟩ := st_eq (by rw [mv_i, hDi]; omega) (by rw [hDb]; exact hsb) rfl
      have f : ∀ c, isB t (⟨D.i, D.bad, st.g⟩ : St) c = isB t D c := fun c => rfl
      rw [e, f, f]
      exact ⟨d3, d4⟩
    · rw [G1.is 32 (Nat.le_refl _) (by omega), G1.is 10 (Nat.le_refl _) (by omega)]
      exact ⟨h32, h10⟩
end
end Go.Proofs.YtmjdaifalgpdnaaGreat
