import Derived.Test.YtmjdaifalgpdnaaGreatProM
namespace Go.Proofs.YtmjdaifalgpdnaaGreat
open Go.RowKit

/-- Parts up to where one is told to stop. -/
def listG (s : ByteArray) (stop : St → Option Nat) : Nat → St → List Part → List Part × St
  | 0, st, l => (l, spoil st)
  | n + 1, st, l =>
    if (stop st).isSome then (l, { st with i := (stop st).getD st.i }) else
    if (partS s n st).2.bad then (l, (partS s n st).2) else listG s stop n (partS s n st).2 (l ++ [(partS s n st).1])

theorem listG_stop {s : ByteArray} {stop : St → Option Nat} {n : Nat} {st : St} {l : List Part} (h : (stop st).isSome = true) : listG s stop (n + 1) st l = (l, { st with i := (stop st).getD st.i }) := by rw [listG, if_pos h]
theorem listG_bad {s : ByteArray} {stop : St → Option Nat} {n : Nat} {st : St} {l : List Part} (h : (stop st).isSome = false) (hb : (partS s n st).2.bad = true) : listG s stop (n + 1) st l = (l, (partS s n st).2) := by rw [listG, if_neg (by rw [h]; simp), if_pos hb]
theorem listG_go {s : ByteArray} {stop : St → Option Nat} {n : Nat} {st : St} {l : List Part} (h : (stop st).isSome = false) (hb : (partS s n st).2.bad = false) : listG s stop (n + 1) st l = listG s stop n (partS s n st).2 (l ++ [(partS s n st).1]) := by rw [listG, if_neg (by rw [h]; simp), if_neg (by rw [hb]; simp)]

/-- Parts that stand in the program's list, the last one's next not yet told. -/
def Chain (lo : Nat) (l : List Part) (qs : List PP) (first last : Int) : Prop :=
  (l = [] ∧ qs = [] ∧ first = -1 ∧ last = -1) ∨
  (∃ a p ks, qs = a ++ p :: ks ∧ first = lo ∧ last = ((lo + a.length : Nat) : Int) ∧ p.next = -1 ∧ l ≠ [] ∧
    ∀ xs rest, LayL (lo + qs.length) xs rest → LayL lo (l ++ xs) (a ++ { p with next := firstIx (lo + qs.length) xs } :: ks ++ rest))

theorem chain_end {lo : Nat} {l : List Part} {qs : List PP} {first last : Int} (h : Chain lo l qs first last) : first = firstIx lo l ∧ LayL lo l qs := by
  rcases h with ⟨rfl, rfl, rfl, rfl⟩ | ⟨a, p, ks, rfl, rfl, rfl, hp, hl, hc⟩
  · exact ⟨rfl, by rw [LayL]⟩
  · refine ⟨?_, ?_⟩
    · unfold firstIx
      cases l with
      | nil => exact absurd rfl hl
      | cons x xs => rfl
    · have := hc [] [] (by rw [LayL])
      have e : ({ p with next := firstIx (lo + (a ++ p :: ks).length) [] } : PP) = p := by
        cases p; simp only [firstIx] at *; simp only [PP.mk.injEq, true_and, and_true]; exact hp.symm
      rw [e] at this
      simpa using this

theorem chain_one {lo : Nat} {P : Part} {p : PP} {ks : List PP} (hl : LayA (lo + 1) P p.W p.group p.inner ks) (h1 : p.least = P.mn) (h2 : p.most = mxV P.mx) (h3 : p.next = -1) : Chain lo [P] (p :: ks) lo lo := by
  refine .inr ⟨[], p, ks, rfl, rfl, by simp, h3, by simp, fun xs rest hr => ?_⟩
  have e : lo + (p :: ks).length = lo + 1 + ks.length := by simp; omega
  rw [e] at hr ⊢
  show LayL lo (P :: xs) _
  rw [LayL]
  exact ⟨_, ks, rest, rfl, hl, h1, h2, rfl, hr⟩

theorem chain_more {lo : Nat} {l : List Part} {a ks : List PP} {q : PP} {P : Part} {p : PP} {ks' : List PP}
    (hc : ∀ xs rest, LayL (lo + (a ++ q :: ks).length) xs rest → LayL lo (l ++ xs) (a ++ { q with next := firstIx (lo + (a ++ q :: ks).length) xs } :: ks ++ rest))
    (hl : LayA (lo + (a ++ q :: ks).length + 1) P p.W p.group p.inner ks') (h1 : p.least = P.mn) (h2 : p.most = mxV P.mx) (h3 : p.next = -1) :
    Chain lo (l ++ [P]) (a ++ { q with next := ((lo + (a ++ q :: ks).length : Nat) : Int) } :: ks ++ p :: ks') lo ((lo + (a ++ q :: ks).length : Nat) : Int) := by
  refine .inr ⟨a ++ { q with next := ((lo + (a ++ q :: ks).length : Nat) : Int) } :: ks, p, ks', rfl, rfl, by simp, h3, by simp, fun xs rest hr => ?_⟩
  have e : lo + (a ++ { q with next := ((lo + (a ++ q :: ks).length : Nat) : Int) } :: ks ++ p :: ks').length = lo + (a ++ q :: ks).length + 1 + ks'.length := by simp; omega
  rw [e] at hr ⊢
  have := hc (P :: xs) ({ p with next := firstIx (lo + (a ++ q :: ks).length + 1 + ks'.length) xs } :: (ks' ++ rest)) (by
    rw [LayL]; exact ⟨_, ks', rest, rfl, hl, h1, h2, rfl, hr⟩)
  simpa [firstIx] using this

/-- What list's callback does. -/
def EndC (F : FuncId) (stop : ByteArray → St → Option Nat) : Prop := (∀ (a : Array Value) (w : World), (callFunc F a).run Tryz.prog w = .ok (.enter F a) w) ∧ ∀ (b rb : Nat) (s : ByteArray) (at_ : Nat) (en : Int) (pv : Value) (g : Nat) (w : World), ER w b s at_ en pv g → Blk w rb #[.pointer (some ⟨b, 0, none⟩)] 158 → s.size ≤ 1048576 → at_ ≤ s.size →
  (at_ ≤ (stop s ⟨at_, false, g⟩).getD at_) ∧ Calls Tryz.prog F #[.pointer (some ⟨rb, 0, none⟩)] w fun e w' => e = .returned (.bool (stop s ⟨at_, false, g⟩).isSome) ∧ ER w' b s ((stop s ⟨at_, false, g⟩).getD at_) en pv g ∧ Kp b w w'

theorem Fresh.ne {w : World} {row row' : Option Nat} (h : Fresh w row row') {k : Nat} (hk : k < w.heap.size) (hr : row ≠ some k) : row' ≠ some k := by
  rcases h with e | e
  · rw [e]; exact hr
  · intro e2; have := e k e2; omega

set_option maxRecDepth 100000 in
set_option maxHeartbeats 1000000 in
theorem listG_any (F : FuncId) (stop : ByteArray → St → Option Nat) (hF : EndC F stop) (n : Nat) (ih : ∀ k, k < n → PPartC k) (b rb : Nat) (s : ByteArray) (at_ : Nat) (en : Int) (pv : Value) (g : Nat) (ps : List PP) (w : World) (h : ER w b s at_ en pv g) (hfl : Flat w pv ps) (hpb : pv.ownBlock ≠ some b) (hrb : Blk w rb #[.pointer (some ⟨b, 0, none⟩)] 158) (hne : rb ≠ b) (hpr : pv.ownBlock ≠ some rb) (hs : s.size ≤ 1048576) (ha : at_ ≤ s.size) (hg : g ≤ 9) (hpl : ps.length ≤ at_) (hn : 2 * (s.size - at_) + 2 ≤ n) :
    Calls Tryz.prog 96 #[.pointer (some ⟨b, 0, none⟩), .func (.func F) #[] #[.pointer (some ⟨rb, 0, none⟩)]] w fun e w' => ListPost w b s en pv ps (listG s (stop s) n ⟨at_, false, g⟩ []) e w' := by
  have IH := hide ih
  have HF := hide hF.2
  have hF1 := hF.1
  clear ih hF
  have hbl := h.lt
  have hrl := hrb.lt
  have HP0 := hide (And.intro hpb hpr)
  clear hpb hpr
  go_enter Tryz.func96, Tryz.ntmps96
  go_wp2_with fail
  go_loopg [5, 6, 7] n (fun k first last ii w' => ∃ (st' : St) (l : List Part) (pv' : Value) (qs : List PP) (fi la : Int), first = .int .i64 fi ∧ last = .int .i64 la ∧ ER w' b s st'.i en pv' st'.g ∧ Flat w' pv' (ps ++ qs) ∧ st'.bad = false ∧ st'.i ≤ s.size ∧ st'.g ≤ 9 ∧ 2 * (s.size - st'.i) + 2 ≤ k ∧ k ≤ n ∧ Hid (Kq b pv.ownBlock w w' ∧ pv'.ownBlock ≠ some b ∧ Fresh w pv.ownBlock pv'.ownBlock ∧ (ps ++ qs).length ≤ st'.i ∧ listG s (stop s) n ⟨at_, false, g⟩ [] = listG s (stop s) k st' l ∧ Chain ps.length l qs fi la))
  case atStart =>
    exact ⟨⟨at_, false, g⟩, [], pv, [], -1, -1, rfl, rfl, h, by simpa using hfl, rfl, ha, hg, hn, Nat.le_refl _, ⟨Kq.refl _ _ _, HP0.out.1, .inl rfl, by simpa using hpl, rfl, .inl ⟨rfl, rfl, rfl, rfl⟩⟩⟩
  case round =>
    obtain ⟨st', l, pv', qs, fi, la, rfl, rfl, hE, hFl, hb', hi', hg', hk, hkn, HH⟩ := hrel
    obtain ⟨i1, bd1, g1⟩ := st'
    dsimp only at hE hb' hi' hg' hk HH
    subst hb'
    obtain ⟨k', rfl⟩ : ∃ k', gk = k' + 1 := ⟨gk - 1, by omega⟩
    have hB1 := hrb.kq HH.out.1 hne (fun e => HP0.out.2 e.symm)
    have HC := HF.out b rb s i1 en pv' g1 wr hE hB1 hs hi'
    have hge := HC.1
    have HC2 := hide HC.2
    clear HC
    cases hst : (stop s ⟨i1, false, g1⟩).isSome
    · have HS := hide hst
      rw [hst] at HC2
      go_wp2_with fail
      refine HC2.out.mono ?_
      rintro e w2 ⟨rfl, h2, k2⟩
      rw [show (stop s ⟨i1, false, g1⟩).getD i1 = i1 from by rw [Option.isSome_eq_false_iff, Option.isNone_iff_eq_none] at hst; rw [hst]; rfl] at h2
      clear hst HC2 hge
      have f2 := hFl.kp k2 HH.out.2.1
      have K2 := HH.out.1.trans' k2
      have IHk := IH.out k' (by omega)
      go_wp2_with fail
      refine (IHk b s i1 en pv' g1 (ps ++ qs) _ h2 f2 HH.out.2.1 hs hi' hg' HH.out.2.2.2.1 (by omega)).mono ?_
      rintro e w3 ⟨k3, hT⟩
      have hF := (fwd_all s k').1 ⟨i1, false, g1⟩ hi'
      have HL := hide (And.intro (fun hb => HH.out.2.2.2.2.1.trans (listG_bad HS.out hb)) (fun hb => HH.out.2.2.2.2.1.trans (listG_go HS.out hb)))
      have K3 := K2.trans k3 HH.out.2.2.1
      have fr1 := HH.out.2.2.1
      have hch := HH.out.2.2.2.2.2
      have hsz2 := K2.size
      generalize partS s k' ⟨i1, false, g1⟩ = q at *
      obtain ⟨P, st3⟩ := q
      dsimp only at hT hF HL
      clear HH hE hFl hB1 h2 f2 K2 IHk
      rcases hT with ⟨hbd, pv3, p, ks, rfl, hlay, hl1, hl2, hl3, f3, h3, hpb3, hfr3, hln3⟩ | ⟨hbd, rfl⟩
      · have fr3 : Fresh w pv.ownBlock pv3.ownBlock := fr1.trans hfr3 hsz2
        have hlt3 : i1 < st3.i := by rcases hF.2 with e | e; (rw [hbd] at e; cases e); exact e
        have hi3 := hF.1.2.1
        have hg3 := hF.1.2.2 hg'
        have HX := hide (And.intro hlay (And.intro hl1 (And.intro hl2 (And.intro hl3 (And.intro hpb3 (And.intro fr3 (And.intro hln3 K3)))))))
        clear hlay hl1 hl2 hl3 hln3 hfr3 fr1 hF k3
        rcases hch with ⟨rfl, rfl, rfl, rfl⟩ | ⟨a, q, kq, rfl, rfl, rfl, hq, hl0, hc⟩
        · rw [List.append_nil] at *
          go_wp2_with fail
          go_roundg k'
          case measure => omega
          obtain ⟨hlay, hl1, hl2, hl3, hpb3, fr3, hln3, K3⟩ := HX.out
          exact ⟨st3, [P], pv3, p :: ks, _, _, rfl, rfl, h3, f3, hbd, hi3, hg3, by omega, by omega, K3, hpb3, fr3, hln3, HL.out.2 hbd, chain_one hlay hl1 hl2 hl3⟩
        · obtain ⟨g3, cap3, hpv3, hg3l, hcap3⟩ := f3.some (by simp; omega)
          subst hpv3
          have hx1 : ((ps.length + a.length : Nat) : Int) ≠ -1 := by omega
          have y3 : w3.cell? ⟨b, 3, none⟩ = some (.slice (some ⟨g3, 0, none⟩) (ps ++ (a ++ q :: kq) ++ p :: ks).length cap3) := Blk.cell h3 3 rfl
          have e0 : ps ++ (a ++ q :: kq) ++ p :: ks = (ps ++ a) ++ q :: (kq ++ p :: ks) := by simp
          rw [e0] at y3 f3 h3 HX
          have hlq : (ps ++ (a ++ q :: kq)).length = ps.length + (a ++ q :: kq).length := by simp
          have x6 : w3.cell? ⟨g3, (ps ++ a).length * 9 + 6, none⟩ = some (.int .i64 q.next) := flat_get f3 (o := 6) (by omega)
          have xf : ∀ o, w3.frozen? ⟨g3, o, none⟩ = false := flat_fz f3
          have fN := flat_next f3 ((ps ++ (a ++ q :: kq)).length : Nat)
          have HN := hide fN
          have hNlt : (ps ++ a).length < ((ps ++ a) ++ q :: (kq ++ p :: ks)).length := by simp
          have hN2 : ((ps ++ a) ++ { q with next := ((ps ++ (a ++ q :: kq)).length : Nat) } :: (kq ++ p :: ks)).length = ((ps ++ a) ++ q :: (kq ++ p :: ks)).length := by simp
          have HN2 := hide hN2
          have hcl := HX.out.2.2.2.2.2.2.1
          have hLa : ps.length + a.length = (ps ++ a).length := by simp
          have HLA := hide (And.intro hlq hLa)
          rw [hLa] at hx1 ⊢
          clear fN hN2 hlq hLa f3
          generalize hNN : ((ps ++ a) ++ q :: (kq ++ p :: ks)).length = N at *
          generalize hLL : (ps ++ a).length = L at *
          generalize hMM : (ps ++ (a ++ q :: kq)).length = M at *
          have HEQ := hide (And.intro hNN (And.intro hLL hMM))
          clear hNN hLL hMM
          have hx2 : ((L : Int) == -1) = false := by simp
          have hx3 : (L : Int) < (N : Int) := by omega
          go_wp2_with fail
          go_roundg k'
          case measure => omega
          obtain ⟨hlay, hl1, hl2, hl3, hpb3, fr3, hln3, K3⟩ := HX.out
          obtain ⟨hNN, hLL, hMM⟩ := HEQ.out
          have hgk : pv.ownBlock = some g3 ∨ w.heap.size ≤ g3 := by
            rcases fr3 with e | e
            · exact .inl (by rw [← e]; rfl)
            · exact .inr (e g3 rfl)
          have hg3b : g3 ≠ b := by
            intro e; apply hpb3; rw [e]; rfl
          have hM : M = ps.length + (a ++ q :: kq).length := HLA.out.1
          have fN := HN.out
          rw [HN2.out] at fN
          have eL : ps ++ (a ++ { q with next := ((M : Nat) : Int) } :: kq ++ p :: ks) = (ps ++ a) ++ { q with next := ((M : Nat) : Int) } :: (kq ++ p :: ks) := by simp
          refine ⟨st3, l ++ [P], .slice (some ⟨g3, 0, none⟩) N cap3, a ++ { q with next := ((M : Nat) : Int) } :: kq ++ p :: ks, ps.length, M, rfl, rfl, h3.setK hg3b _ _, by rw [eL]; exact fN, hbd, hi3, hg3, by omega, by omega, kq_setRow K3 hgk _ _, hpb3, fr3, ?_, HL.out.2 hbd, ?_⟩
          · rw [eL, HN2.out]; exact hln3
          · rw [hM] at hlay ⊢
            exact chain_more hc hlay hl1 hl2 hl3
      · refine ⟨rfl, ?_⟩
        rw [HL.out.1 hbd]
        exact ⟨K3, .inr ⟨hbd, rfl⟩⟩
    · have HS := hide hst
      rw [hst] at HC2
      go_wp2_with fail
      refine HC2.out.mono ?_
      rintro e w2 ⟨rfl, h2, k2⟩
      go_wp2_with fail
      go_ret
      obtain ⟨hK, hpb', hfr, hle, hL, hch⟩ := HH.out
      rw [hL, listG_stop HS.out]
      obtain ⟨e1, e2⟩ := chain_end hch
      subst e1
      refine ⟨hK.trans' k2, .inl ⟨rfl, pv', qs, ?_, e2, hFl.kp k2 hpb', h2, hpb', hfr, Nat.le_trans hle hge⟩⟩
      exact ret_int rfl
end Go.Proofs.YtmjdaifalgpdnaaGreat

namespace Go.Proofs.YtmjdaifalgpdnaaGreat
open Go.RowKit

/-- A group ends at its closing sign. -/
def stopG (s : ByteArray) (st : St) : Option Nat := if isEsc s st 41 then some (st.i + 2) else none

theorem endG : EndC 116 stopG := by
  refine ⟨fun a w => by simp [go_sem], fun b rb s at_ en pv g w h hr hs ha => ?_⟩
  cases hx : isEsc s ⟨at_, false, g⟩ 41
  · have e : stopG s ⟨at_, false, g⟩ = none := by rw [stopG, hx]; rfl
    rw [e]
    exact ⟨Nat.le_refl _, groupEnd_any hx h hr hs ha⟩
  · have e : stopG s ⟨at_, false, g⟩ = some (at_ + 2) := by rw [stopG, hx]; rfl
    rw [e]
    exact ⟨by simp, groupEnd_any hx h hr hs ha⟩

theorem isB_ne {s : ByteArray} {st : St} {c d : Int} (h : isB s st c = true) (hd : c ≠ d) : isB s st d = false := by
  simp only [isB, Bool.and_eq_true, beq_iff_eq] at h ⊢
  rw [h.1, h.2]; simpa using hd

theorem esc_isB {s : ByteArray} {st : St} {c : Int} (h : isEsc s st c = true) : isB s st 92 = true ∧ isB s (adv st) c = true := by
  obtain ⟨i, bd, g⟩ := st
  have hl := isEsc_lt h
  have hb := isEsc_bad h
  dsimp only at hl hb
  subst hb
  simp only [isEsc, hl, dif_pos, Bool.not_false, Bool.true_and, Bool.and_eq_true, beq_iff_eq] at h
  have h1 : i < s.size := by omega
  simp [isB, peekOk, peekC, adv, hl, h1, h]

theorem stopped_bad {s : ByteArray} {st : St} (h : stopped s st) (hb : st.bad = false) (k : Nat) : partS s (k + 1) st = (emptyP, spoil st) ∧ eatIf s 92 st = spoil st := by
  have key : (peekOk s st = false ∨ hasL starL (peekC s st) = true) ∧ isB s st 92 = false := by
    rcases h with h | h | h | h
    · rw [hb] at h; cases h
    · have : peekOk s st = false := by simp [peekOk, h]
      exact ⟨.inl this, by simp [isB, this]⟩
    · refine ⟨.inr ?_, isB_ne h (by decide)⟩
      simp only [isB, Bool.and_eq_true, beq_iff_eq] at h
      rw [h.2]; decide
    · refine ⟨.inr ?_, isB_ne h (by decide)⟩
      simp only [isB, Bool.and_eq_true, beq_iff_eq] at h
      rw [h.2]; decide
  refine ⟨partS_bad key.1, ?_⟩
  rw [eatIf_ok hb, eatS, if_neg (by rw [key.2]; simp)]
  rfl

theorem listG_parts (s : ByteArray) : ∀ (n : Nat) (st : St) (l : List Part), st.bad = false → st.i ≤ s.size → 2 * (s.size - st.i) + 2 ≤ n →
    (listG s (stopG s) n st l).2 = eatIf s 41 (eatIf s 92 (partsS s true n st l).2) ∧ ((listG s (stopG s) n st l).2.bad = false → (listG s (stopG s) n st l).1 = (partsS s true n st l).1)
  | 0, st, l, hb, hi, hn => by omega
  | n + 1, st, l, hb, hi, hn => by
    cases hx : isEsc s st 41
    · have hs0 : (stopG s st).isSome = false := by rw [stopG, hx]; rfl
      by_cases hst : stopped s st
      · rw [partsS_stop (.inl hst)]
        obtain ⟨n', rfl⟩ : ∃ n', n = n' + 1 := ⟨n - 1, by omega⟩
        obtain ⟨e1, e2⟩ := stopped_bad hst hb n'
        rw [listG_bad hs0 (by rw [e1]; rfl), e1, e2, eatIf_bad rfl]
        exact ⟨rfl, fun h => by cases h⟩
      · rw [partsS_go (by intro h; rcases h with h | h; exact hst h; rw [hx] at h; cases h.2) n]
        have hF := (fwd_all s n).1 st hi
        cases hp : (partS s n st).2.bad
        · rw [listG_go hs0 hp]
          have hlt : st.i < (partS s n st).2.i := by rcases hF.2 with e | e; (rw [hp] at e; cases e); exact e
          exact listG_parts s n _ _ hp hF.1.2.1 (by have := hF.1.2.1; omega)
        · rw [listG_bad hs0 hp, partsS_stop (.inl (.inl hp)), eatIf_bad hp, eatIf_bad hp]
          exact ⟨rfl, fun h => by rw [hp] at h; cases h⟩
    · have e : stopG s st = some (st.i + 2) := by rw [stopG, hx]; rfl
      rw [listG_stop (by rw [e]; rfl), partsS_stop (.inr ⟨rfl, hx⟩), e]
      obtain ⟨e1, e2⟩ := esc_isB hx
      refine ⟨?_, fun _ => rfl⟩
      rw [eatIf_ok hb, eatS, if_pos e1, eatIf_ok (by exact hb), eatS]
      have : isB s { st with i := st.i + 1 } 41 = true := e2
      rw [if_pos this]
      rfl

theorem plist_any (n : Nat) (ih : ∀ k, k < n → PPartC k) : PListC n := by
  intro b rb s at_ en pv g ps w h hfl hpb hrb hne hpr hs ha hg hpl hn
  refine (listG_any 116 stopG endG n ih b rb s at_ en pv g ps w h hfl hpb hrb hne hpr hs ha hg hpl hn).mono ?_
  rintro e w' ⟨k, hT⟩
  obtain ⟨e1, e2⟩ := listG_parts s n ⟨at_, false, g⟩ [] rfl ha hn
  refine ⟨k, ?_⟩
  rcases hT with ⟨hb, pv', qs, h1, h2, h3⟩ | ⟨hb, h1⟩
  · left
    have e3 := e2 hb
    rw [e3] at h1 h2
    rw [e1] at hb h3
    exact ⟨hb, pv', qs, h1, h2, h3⟩
  · right
    rw [e1] at hb h1
    exact ⟨hb, h1⟩

theorem ppart_all (n : Nat) : PPartC n := by
  induction n using Nat.strongRecOn with
  | _ n ih =>
    match n, ih with
    | 0, _ => intro b s at_ en pv g ps w _ _ _ _ _ _ _ hn; omega
    | 1, _ => exact ppart_any 0 (patom_any 0 (fun b s at_ en pv g ps w _ _ _ _ _ _ _ hn => by omega))
    | m + 2, ih => exact ppart_any (m + 1) (patom_any (m + 1) (pesc_any m (group_any m (plist_any m (fun k hk => ih k (by omega))))))

end Go.Proofs.YtmjdaifalgpdnaaGreat

namespace Go.Proofs.YtmjdaifalgpdnaaGreat
open Go.RowKit

/-- An expression ends at its end, or at a byte that opens no part. -/
def stopT (s : ByteArray) (st : St) : Option Nat := if decide (st.i = s.size) || nextOf s st.i starB then some st.i else none

theorem stopT_get (s : ByteArray) (st : St) : (stopT s st).getD st.i = st.i := by unfold stopT; split <;> rfl
theorem stopT_some (s : ByteArray) (st : St) : (stopT s st).isSome = (decide (st.i = s.size) || nextOf s st.i starB) := by
  unfold stopT
  cases h : (decide (st.i = s.size) || nextOf s st.i starB) <;> simp

set_option maxHeartbeats 400000 in
theorem exprEnd_any {b rb : Nat} {s : ByteArray} {at_ : Nat} {en : Int} {pv : Value} {g : Nat} {w : World} (h : ER w b s at_ en pv g) (hr : Blk w rb #[.pointer (some ⟨b, 0, none⟩)] 158) (hs : s.size ≤ 1048576) :
    Calls Tryz.prog 97 #[.pointer (some ⟨rb, 0, none⟩)] w fun e w' => e = .returned (.bool (decide (at_ = s.size) || nextOf s at_ starB)) ∧ ∃ n, w' = w.drewN n := by
  have r0 : w.cell? ⟨rb, 0, none⟩ = some (.pointer (some ⟨b, 0, none⟩)) := hr.cell 0 rfl
  have h0 : w.cell? ⟨b, 0, none⟩ = some (.string s) := h.rd.c0
  have h1 : w.cell? ⟨b, 1, none⟩ = some (.int .i64 at_) := h.rd.c1
  by_cases he : at_ = s.size
  · have hd : ((at_ : Int) == s.size) = true := by simp; omega
    have HE := hide he
    clear he
    go_enter Tryz.func97, Tryz.ntmps97
    go_wp2
    go_quiet (fail)
    go_wp2_with fail
    go_ret
    exact ⟨ret_bool (by simp [HE.out]), _, rfl⟩
  · have hd : ((at_ : Int) == s.size) = false := by simp; omega
    have HE := hide he
    clear he
    go_enter Tryz.func97, Tryz.ntmps97
    go_wp2
    go_quiet ((go_at_call 69; exact Calls.quiet_of (isNextOf_any b s at_ en starB _ (h.drewN _).rd hs)))
    go_wp2_with fail
    go_ret
    exact ⟨ret_bool (by simp [HE.out]), _, rfl⟩

theorem endT : EndC 97 stopT := by
  refine ⟨fun a w => by simp [go_sem], fun b rb s at_ en pv g w h hr hs ha => ?_⟩
  have e1 := stopT_get s ⟨at_, false, g⟩
  have e2 := stopT_some s ⟨at_, false, g⟩
  dsimp only at e1 e2
  rw [e1, e2]
  refine ⟨Nat.le_refl _, (exprEnd_any h hr hs).mono ?_⟩
  rintro e w' ⟨rfl, n, rfl⟩
  exact ⟨rfl, h.drewN n, (Kp.refl _ _).drewN n⟩

/-- What lies behind the list that was read: nothing more, or what the document refuses. -/
theorem listG_top (s : ByteArray) : ∀ (n : Nat) (st : St) (l : List Part), st.bad = false → st.i ≤ s.size → 2 * (s.size - st.i) + 2 ≤ n →
    ((listG s (stopT s) n st l).2.bad = true ∧ (partsS s false n st l).2 = (listG s (stopT s) n st l).2) ∨
    ((listG s (stopT s) n st l).2.bad = false ∧ (partsS s false n st l) = (listG s (stopT s) n st l)) ∨
    ((listG s (stopT s) n st l).2.bad = false ∧ (partsS s false n st l).2 = spoil (listG s (stopT s) n st l).2 ∧ (listG s (stopT s) n st l).2.i < s.size ∧ isB s (listG s (stopT s) n st l).2 36 = false ∧ isB s (listG s (stopT s) n st l).2 47 = false)
  | 0, st, l, hb, hi, hn => by omega
  | n + 1, st, l, hb, hi, hn => by
    obtain ⟨i, bd, g⟩ := st
    dsimp only at hb hi hn
    subst hb
    have hso := stopT_some s ⟨i, false, g⟩
    cases hx : (stopT s ⟨i, false, g⟩).isSome
    · rw [hx] at hso
      have hso' := hso.symm
      simp only [Bool.or_eq_false_iff, decide_eq_false_iff_not] at hso'
      have hnx := hso'.2
      rw [nextOf_peek s i g] at hnx
      have hpk : peekOk s ⟨i, false, g⟩ = true := by simp [peekOk]; omega
      rw [hpk, Bool.true_and] at hnx
      have hnst : ¬ stopped s ⟨i, false, g⟩ := by
        rintro (h | h | h | h)
        · cases h
        · dsimp only at h; omega
        · simp only [isB, Bool.and_eq_true, beq_iff_eq] at h; rw [h.2] at hnx; revert hnx; decide
        · simp only [isB, Bool.and_eq_true, beq_iff_eq] at h; rw [h.2] at hnx; revert hnx; decide
      rw [partsS_go (by rintro (h | h); exact hnst h; cases h.1) n]
      have hF := (fwd_all s n).1 ⟨i, false, g⟩ hi
      cases hp : (partS s n ⟨i, false, g⟩).2.bad
      · rw [listG_go hx hp]
        have hlt : i < (partS s n ⟨i, false, g⟩).2.i := by rcases hF.2 with e | e; (rw [hp] at e; cases e); exact e
        exact listG_top s n _ _ hp hF.1.2.1 (by have := hF.1.2.1; omega)
      · rw [listG_bad hx hp, partsS_stop (.inl (.inl hp))]
        exact .inl ⟨hp, rfl⟩
    · rw [listG_stop hx]
      rw [hx] at hso
      have e1 := stopT_get s ⟨i, false, g⟩
      dsimp only at e1 ⊢
      rw [e1]
      by_cases hst : stopped s ⟨i, false, g⟩
      · right; left
        rw [partsS_stop (.inl hst)]
        exact ⟨rfl, rfl⟩
      · right; right
        have hlt : i < s.size := by
          by_cases h : i < s.size
          · exact h
          · exact absurd (.inr (.inl h)) hst
        have hnx : nextOf s i starB = true := by
          have : decide (i = s.size) = false := by simp; omega
          rw [this, Bool.false_or] at hso; exact hso.symm
        rw [nextOf_peek s i g] at hnx
        simp only [Bool.and_eq_true] at hnx
        obtain ⟨n', rfl⟩ : ∃ n', n = n' + 1 := ⟨n - 1, by omega⟩
        have ep : partS s (n' + 1) ⟨i, false, g⟩ = (emptyP, spoil ⟨i, false, g⟩) := partS_bad (.inr hnx.2)
        rw [partsS_go (by rintro (h | h); exact hst h; cases h.1) (n' + 1), ep, partsS_stop (.inl (.inl rfl))]
        refine ⟨rfl, rfl, hlt, ?_, ?_⟩
        · cases h36 : isB s ⟨i, false, g⟩ 36
          · rfl
          · exact absurd (.inr (.inr (.inr h36))) hst
        · cases h47 : isB s ⟨i, false, g⟩ 47
          · rfl
          · exact absurd (.inr (.inr (.inl h47))) hst

end Go.Proofs.YtmjdaifalgpdnaaGreat

namespace Go.Proofs.YtmjdaifalgpdnaaGreat
open Go.RowKit

theorem Flat.none (w : World) : Flat w (.slice none 0 0) [] := ⟨rfl, .inl ⟨rfl, rfl⟩⟩
theorem Kq.kp_of {b : Nat} {w w' : World} (h : Kq b none w w') : Kp b w w' := ⟨h.os, h.tape, h.output, h.size, fun k hk hb => h.block k hk hb (by simp)⟩

theorem listT_fwd (s : ByteArray) : ∀ (n : Nat) (st : St) (l : List Part), st.i ≤ s.size → Fwd s st (listG s (stopT s) n st l).2
  | 0, st, l, h => Fwd.spoil h
  | n + 1, st, l, h => by
    cases hx : (stopT s st).isSome
    · cases hp : (partS s n st).2.bad
      · rw [listG_go hx hp]
        have hF := ((fwd_all s n).1 st h).1
        exact hF.trans (listT_fwd s n _ _ hF.2.1)
      · rw [listG_bad hx hp]
        exact ((fwd_all s n).1 st h).1
    · rw [listG_stop hx, stopT_get]
      exact Fwd.refl h

/-- What expression does. -/
def ExprPost (w : World) (b : Nat) (s : ByteArray) (en : Int) (st : St) (r : List Part × St) (e : Ending) (w' : World) : Prop :=
  Kp b w w' ∧ ((r.2.bad = false ∧ ∃ xb pv qs, e = .returned (.pointer (some ⟨xb, 0, none⟩)) ∧ Blk w' xb #[.bool (isB s st 94), .bool (isB s r.2 36), pv, .int .i64 (firstIx 0 r.1), .int .i64 r.2.g] 149 ∧ w.heap.size ≤ xb ∧ LayL 0 r.1 qs ∧ Flat w' pv qs ∧ (∀ k, pv.ownBlock = some k → w.heap.size ≤ k ∧ k ≠ xb) ∧ ER w' b s (advIf s 36 r.2).i en pv r.2.g) ∨ (r.2.bad = true ∧ e = .panicked (gaveUp en r.2.i)))

set_option maxRecDepth 100000 in
set_option maxHeartbeats 1000000 in
theorem pexpr_any (n b : Nat) (s : ByteArray) (at_ : Nat) (en : Int) (w : World) (h : ER w b s at_ en (.slice none 0 0) 0) (hs : s.size ≤ 1048576) (ha : at_ ≤ s.size) (hn : 2 * (s.size - at_) + 2 ≤ n) :
    Calls Tryz.prog 88 #[.pointer (some ⟨b, 0, none⟩)] w fun e w' => ExprPost w b s en ⟨at_, false, 0⟩ (listG s (stopT s) n (advIf s 94 ⟨at_, false, 0⟩) []) e w' := by
  have hbl := h.lt
  have R1 := Blk.new w #[.pointer (some ⟨b, 0, none⟩)] 158
  have h1 := h.alloc (.cells #[.pointer (some ⟨b, 0, none⟩)] 158)
  have k1 := (Kp.refl b w).alloc (.cells #[.pointer (some ⟨b, 0, none⟩)] 158)
  have hmf : ∀ (fn : Fn) (first cap : Array Value) (w : World), (Instr.makeFunc fn first cap).run Tryz.prog w = .ok (.func fn first cap) w := fun _ _ _ _ => rfl
  have n1 := nextW_one s at_ 0 94
  rw [show (((94 : UInt8).toNat : Nat) : Int) = 94 from rfl] at n1
  have N1 := hide n1
  clear n1
  have e1 : advIf s 94 ⟨at_, false, 0⟩ = ⟨if isB s ⟨at_, false, 0⟩ 94 then at_ + 1 else at_, false, 0⟩ := by unfold advIf adv; split <;> rfl
  have hi1 : (if isB s ⟨at_, false, 0⟩ 94 then at_ + 1 else at_) ≤ s.size ∧ at_ ≤ (if isB s ⟨at_, false, 0⟩ 94 then at_ + 1 else at_) := by
    split
    · next hc => exact ⟨peekOk_lt (isB_ok hc), by omega⟩
    · exact ⟨ha, Nat.le_refl _⟩
  rw [e1]
  generalize hI1 : (if isB s ⟨at_, false, 0⟩ 94 then at_ + 1 else at_) = i1 at hi1 ⊢
  have hi2 := hi1.2
  replace hi1 := hi1.1
  have HI1 := hide hI1
  clear hI1
  generalize hX1 : isB s ⟨at_, false, 0⟩ 94 = x1 at *
  have HX1 := hide hX1
  clear hX1
  clear e1
  have hF : (listG s (stopT s) n ⟨i1, false, 0⟩ []).2.i ≤ s.size := (listT_fwd s _ ⟨i1, false, 0⟩ [] hi1).2.1
  generalize hr : listG s (stopT s) n ⟨i1, false, 0⟩ [] = r at hF ⊢
  have HR := hide hr
  clear hr
  obtain ⟨l, st⟩ := r
  dsimp only at hF
  have r0 : (w.alloc (.cells #[.pointer (some ⟨b, 0, none⟩)] 158)).cell? ⟨w.heap.size, 0, none⟩ = some (.pointer (some ⟨b, 0, none⟩)) := R1.cell 0 rfl
  go_enter Tryz.func88, Tryz.ntmps88
  go_wp2_with fail
  refine (takeIf_of N1.out h1 hs ha).mono ?_
  rintro e w2 ⟨rfl, h2, k2⟩
  rw [HI1.out] at h2
  clear N1 r0
  have K2 := k1.trans k2
  have R2 := R1.kp k2 (by omega)
  have hsz1 : w.heap.size < w2.heap.size := R2.lt
  have r0 : w2.cell? ⟨w.heap.size, 0, none⟩ = some (.pointer (some ⟨b, 0, none⟩)) := R2.cell 0 rfl
  go_wp2_with fail
  refine (listG_any 97 stopT endT n (fun k _ => ppart_all k) b w.heap.size s i1 en (.slice none 0 0) 0 [] w2 h2 (Flat.none _) (by simp [Value.ownBlock]) R2 (by omega) (by simp [Value.ownBlock]) hs hi1 (by omega) (by simp) (by omega)).mono ?_
  rintro e w3 ⟨k3, hT⟩
  have K3 := K2.trans (Kq.kp_of k3)
  have R3 := R2.kq k3 (by omega) (by simp [Value.ownBlock])
  rw [HR.out] at hT
  dsimp only at hT
  rcases hT with ⟨hb, pv, qs, rfl, hlay, f3, h3, hpb3, hfr3, hln3⟩ | ⟨hb, rfl⟩
  · obtain ⟨i3, bd3, g3⟩ := st
    dsimp only at hb h3 hln3 hF
    subst hb
    rw [List.nil_append] at f3
    obtain ⟨pa, cap, hpv⟩ := f3.form
    subst hpv
    have n3 := nextW_one s i3 g3 36
    rw [show (((36 : UInt8).toNat : Nat) : Int) = 36 from rfl] at n3
    have N3 := hide n3
    clear n3
    have r3 : w3.cell? ⟨w.heap.size, 0, none⟩ = some (.pointer (some ⟨b, 0, none⟩)) := R3.cell 0 rfl
    have hfr : ∀ k, (Value.slice pa qs.length cap).ownBlock = some k → w.heap.size < k := by
      intro k hk
      rcases hfr3 with e | e
      · rw [hk] at e; cases e
      · have := e k hk; omega
    have hfl := f3.lt
    have HX := hide (And.intro hlay (And.intro hpb3 (And.intro hfr hfl)))
    clear hlay hpb3 hfr hfl hfr3 hln3
    go_wp2_with fail
    refine (takeIf_of N3.out h3 hs hF).mono ?_
    rintro e w4 ⟨rfl, h4, k4⟩
    have e4 : (advIf s 36 ⟨i3, false, g3⟩).i = if isB s ⟨i3, false, g3⟩ 36 then i3 + 1 else i3 := by unfold advIf adv; split <;> rfl
    rw [← e4] at h4
    have f4 := f3.kp k4 HX.out.2.1
    have R4 := R3.kp k4 (by omega)
    have K4 := K3.trans k4
    have hE4 := hide e4
    clear e4 N3 r3
    have c3 : w4.cell? ⟨b, 3, none⟩ = some (.slice pa qs.length cap) := Blk.cell h4 3 rfl
    have c4 : w4.cell? ⟨b, 4, none⟩ = some (.int .i64 g3) := Blk.cell h4 4 rfl
    have r4 : w4.cell? ⟨w.heap.size, 0, none⟩ = some (.pointer (some ⟨b, 0, none⟩)) := R4.cell 0 rfl
    generalize hX3 : isB s ⟨i3, false, g3⟩ 36 = x3 at *
    generalize hI4 : (advIf s 36 ⟨i3, false, g3⟩).i = i4 at *
    have HX3 := hide (And.intro hX3 hI4)
    clear hX3 hI4
    go_wp2_with fail
    go_region
    go_wp2_with fail
    go_ret
    obtain ⟨hlay, hpb3, hfr, hfl⟩ := HX.out
    have hsz3 := k3.size
    have hsz4 := k4.size
    refine ⟨?_, .inl ⟨rfl, w4.heap.size, .slice pa qs.length cap, qs, ?_, ?_, by omega, hlay, ?_, ?_, ?_⟩⟩
    · exact (K4.alloc _).drewN 1
    · rfl
    · dsimp only
      rw [HX1.out, HX3.out.1]
      exact Blk.new w4 _ _
    · exact Flat.drew (Flat.alloc f4 _)
    · intro k hk
      have := hfr k hk
      have := hfl k hk
      omega
    · dsimp only
      rw [HX3.out.2]
      exact ER.drew (ER.alloc h4 _)
  · refine ⟨rfl, ?_⟩
    exact ⟨K3, .inr ⟨hb, rfl⟩⟩
end Go.Proofs.YtmjdaifalgpdnaaGreat
