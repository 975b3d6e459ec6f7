import Derived.Test.YtpnecblofjpgfaaGreatDoorRefU
namespace Go.Proofs.YtpnecblofjpgfaaGreatDoor
open Go.RowKit

theorem PRep.len {ok : Nat → Prop} {w : World} {x : Part} {c : List Value} (h : PRep ok w x c) : c.length = 6 := by
  obtain ⟨g, kids, neg, ps, mn, mx⟩ := x
  simp only [PRep] at h
  obtain ⟨ka, kl, kc, xs, rfl, _⟩ := h
  rfl

theorem KRep.at {ok : Nat → Prop} {w : World} : ∀ (l : List Part) (xs : List Value) (k : Nat) (hk : k < l.length), KRep ok w l xs → ∃ c, PRep ok w l[k] c ∧ ∀ o, o < 6 → xs[k * 6 + o]? = c[o]?
  | [], xs, k, hk, _ => by simp at hk
  | x :: l, xs, 0, _, h => by
    simp only [KRep] at h
    obtain ⟨c, rest, rfl, h1, _⟩ := h
    refine ⟨c, h1, fun o ho => ?_⟩
    rw [Nat.zero_mul, Nat.zero_add, List.getElem?_append_left (by rw [h1.len]; exact ho)]
  | x :: l, xs, k + 1, hk, h => by
    simp only [KRep] at h
    obtain ⟨c, rest, rfl, h1, h2⟩ := h
    obtain ⟨d, h3, h4⟩ := KRep.at l rest k (by simpa using hk) h2
    refine ⟨d, by simpa using h3, fun o ho => ?_⟩
    rw [List.getElem?_append_right (by rw [h1.len]; omega), h1.len, ← h4 o ho]
    congr 1; omega

/-- A part out of a slice of parts. -/
theorem parts_at {w : World} {l : List Part} {xs : List Value} {ka : Option Addr} {kl kc : Nat} (hr : Row T w (.slice ka kl kc) l.length xs) (hk : KRep T w l xs) (k : Nat) (h : k < l.length) :
    ∃ g cap, ka = some ⟨g, 0, none⟩ ∧ kl = l.length ∧ kc = cap ∧ l.length ≤ cap ∧ g < w.heap.size ∧ ∃ gg ka2 kl2 kc2 neg ps mn mx, PartV T w l[k] (.agg #[.int .i64 gg, .slice ka2 kl2 kc2, .bool neg, .string ps, .int .i64 mn, .int .i64 mx]) ∧
      w.cell? ⟨g, k * 6, none⟩ = some (.int .i64 gg) ∧ w.cell? ⟨g, k * 6 + 1, none⟩ = some (.slice ka2 kl2 kc2) ∧ w.cell? ⟨g, k * 6 + 2, none⟩ = some (.bool neg) ∧ w.cell? ⟨g, k * 6 + 3, none⟩ = some (.string ps) ∧ w.cell? ⟨g, k * 6 + 4, none⟩ = some (.int .i64 mn) ∧ w.cell? ⟨g, k * 6 + 5, none⟩ = some (.int .i64 mx) := by
  obtain ⟨c, hp, hc⟩ := KRep.at l xs k h hk
  rcases hr.1.2 with ⟨h1, h2⟩ | ⟨g, cap, cur, h1, _, hg, hle, _, hsz, htake⟩
  · omega
  · simp only [Value.slice.injEq] at h1
    obtain ⟨rfl, rfl, rfl⟩ := h1
    have hcell : ∀ o, o < 6 → w.cell? ⟨g, k * 6 + o, none⟩ = c[o]? := by
      intro o ho
      rw [cell_of_row w g (k * 6 + o) cur 76 (0, 0) hg, ← hc o ho, ← htake, List.getElem?_take, if_pos (by omega)]
      simp
    generalize l[k] = x at *
    obtain ⟨gg, kids, neg, ps, mn, mx⟩ := x
    simp only [PRep] at hp
    obtain ⟨ka2, kl2, kc2, ys, rfl, h3, h4⟩ := hp
    exact ⟨g, _, rfl, rfl, rfl, hle, (Array.getElem?_eq_some_iff.1 hg).1, gg, ka2, kl2, kc2, neg, ps, mn, mx, ⟨ka2, kl2, kc2, ys, rfl, h3, h4⟩, hcell 0 (by omega), hcell 1 (by omega), hcell 2 (by omega), hcell 3 (by omega), hcell 4 (by omega), hcell 5 (by omega)⟩

theorem Row.slen {ok : Nat → Prop} {w : World} {ka : Option Addr} {kl kc n : Nat} {xs : List Value} (h : Row ok w (.slice ka kl kc) n xs) : kl = n := by
  rcases h.1.2 with ⟨h1, h2⟩ | ⟨g, cap, cur, h1, _⟩
  · simp only [Value.slice.injEq] at h1; omega
  · simp only [Value.slice.injEq] at h1; exact h1.2.1

set_option maxRecDepth 100000 in
set_option maxHeartbeats 3200000 in
theorem seqEnds_any (s : ByteArray) (hs : s.size ≤ 1048576) (l : List Part) (hl : l.length ≤ 4000000) (ih : ∀ k (h : k < l.length), PartEC s l[k]) : SeqC s l := by
  intro w ka kl kc xs i p hRow hKR hi hp
  have IH := hide ih
  clear ih
  have hmk := make_bools s.size hs
  have hkl := hRow.slen
  subst hkl
  have HRK := hide (And.intro hRow hKR)
  clear hRow hKR
  have hp1 : p < s.size + 1 := by omega
  have l0 := (Blk.new w (bcells (s.size + 1) (fun _ => false)) 4)
  have l1 := l0.cell p (bcells_get hp1)
  have lf := l0.fz p
  go_enter Tryz.func19, Tryz.ntmps19
  go_wp2_with fail
  go_loopg [9, 10, 11, 12, 13, 14] (l.length - i) (fun c at_ k nx qq ee zz w' => ∃ (kk ga : Nat) (B : Nat → Bool), at_ = .slice (some ⟨ga, 0, none⟩) (s.size + 1) (s.size + 1) ∧ k = .int .i64 kk ∧ kk + c = l.length ∧ Blk w' ga (bcells (s.size + 1) B) 4 ∧ w.heap.size ≤ ga ∧ Below w.heap.size w w' ∧ Hid (∀ q, SeqR s (l.drop i) p q ↔ ∃ r, r ≤ s.size ∧ B r = true ∧ SeqR s (l.drop kk) r q))
  case atStart =>
    refine ⟨i, w.heap.size, put (fun _ => false) p true, rfl, rfl, by omega, by rw [bcells_set]; exact Blk.newAt rfl, Nat.le_refl _, (Below.refl _ _).alloc (Nat.le_refl _) _, ?_⟩
    intro q
    constructor
    · intro h; exact ⟨p, hp, by simp [put], h⟩
    · rintro ⟨r, _, h1, h2⟩
      have : r = p := by
        simp only [put] at h1
        split at h1
        · assumption
        · cases h1
      subst this; exact h2
  case round =>
    obtain ⟨kk, ga, B, rfl, rfl, hkc, hBa, hga, hBel, HQ⟩ := hrel
    clear l0 l1 lf
    by_cases hlt : kk < l.length
    · have hd : (kk : Int) < l.length := by omega
      obtain ⟨k0, hk0⟩ : ∃ k0, k0 = gk := ⟨_, rfl⟩
      have HK0 := hide hk0
      clear hk0
      go_wp2_with fail
      have hal := hBa.lt
      have hN0 : Blk (wr.alloc (.cells (bcells (s.size + 1) fun _ => false) 4)) wr.heap.size (bcells (s.size + 1) fun _ => false) 4 := Blk.new _ _ _
      have hBa1 := hBa.alloc (.cells (bcells (s.size + 1) fun _ => false) 4)
      have hBel1 := hBel.alloc hBel.size (.cells (bcells (s.size + 1) fun _ => false) 4)
      have hsz := hBel.size
      clear hBa hBel
      generalize wr.alloc (.cells (bcells (s.size + 1) fun _ => false) 4) = w4 at *
      generalize wr.heap.size = gn at *
      go_loopg [12, 13, 14] (s.size + 1) (fun c qq ee zz w' => ∃ (q : Nat) (F : Nat → Bool), qq = .int .i64 q ∧ q + c = s.size + 1 ∧ Blk w' gn (bcells (s.size + 1) F) 4 ∧ Blk w' ga (bcells (s.size + 1) B) 4 ∧ Below w.heap.size w w' ∧ Hid (∀ z, z ≤ s.size → (F z = true ↔ ∃ r, r < q ∧ B r = true ∧ Copies (AtomR s l[kk]) l[kk].mn l[kk].mx 0 r z)))
      case atStart =>
        refine ⟨0, fun _ => false, rfl, by omega, hN0, hBa1, hBel1, ?_⟩
        intro z hz
        constructor
        · intro h; cases h
        · rintro ⟨r, h, _⟩; omega
      case round =>
        obtain ⟨q, F, rfl, hqc, hN, hBa2, hBel2, HF⟩ := hrel
        clear hN0 hBa1 hBel1
        by_cases hql : q ≤ s.size
        · have hql1 : q < s.size + 1 := by omega
          have y1 := hBa2.cell q (bcells_get hql1)
          cases hB : B q
          · rw [hB] at y1
            have HB := hide hB
            clear hB
            go_wp2_with fail
            go_roundg (gk - 1)
            case measure => omega
            case rel =>
              refine ⟨q + 1, F, by go_num, by omega, hN, hBa2, hBel2, ?_⟩
              intro z hz
              rw [HF.out z hz]
              constructor
              · rintro ⟨r, h1, h2⟩; exact ⟨r, by omega, h2⟩
              · rintro ⟨r, h1, h2, h3⟩
                by_cases he : r = q
                · subst he; rw [HB.out] at h2; cases h2
                · exact ⟨r, by omega, h2, h3⟩
          · rw [hB] at y1
            have HB := hide hB
            clear hB
            obtain ⟨hRow, hKR⟩ := HRK.out
            obtain ⟨g, cap, rfl, -, rfl, hcap, hglt, gg, ka2, kl2, kc2, neg, ps, mn, mx, hPV, c0, c1, c2, c3, c4, c5⟩ := parts_at (hRow.below hBel2) (hKR.below hBel2) kk hlt
            clear hRow hKR
            go_wp2_with fail
            refine (IH.out kk hlt _ _ 0 q hPV hql (by omega)).mono ?_
            rintro e w1 ⟨ge, E, rfl, hBe, hge, hE, hb1⟩
            have HE := hide hE
            clear hE hPV c0 c1 c2 c3 c4 c5 y1
            have hNl := hN.lt
            have hN1 := hN.below hb1
            have hBa3 := hBa2.below hb1
            have hBel3 : Below w.heap.size w w1 := hBel2.trans (hb1.mono hBel2.size)
            have hs3 := hb1.size
            clear hN hBa2 hBel2 hb1
            obtain ⟨q0, hq0⟩ : ∃ q0, q0 = gk := ⟨_, rfl⟩
            have HQ0 := hide hq0
            clear hq0
            go_wp2_with fail
            go_loopg [14] (s.size + 1) (fun c zz w' => ∃ (z : Nat) (H : Nat → Bool), zz = .int .i64 z ∧ q ≤ z ∧ z ≤ s.size + 1 ∧ s.size + 1 ≤ z + c ∧ Blk w' gn (bcells (s.size + 1) H) 4 ∧ Blk w' ga (bcells (s.size + 1) B) 4 ∧ Blk w' ge (bcells (s.size + 1) E) 4 ∧ Below w.heap.size w w' ∧ Hid (∀ y, y ≤ s.size → (H y = true ↔ F y = true ∨ (q ≤ y ∧ y < z ∧ E y = true))))
            case atStart =>
              refine ⟨q, F, rfl, Nat.le_refl _, by omega, by omega, hN1, hBa3, hBe, hBel3, ?_⟩
              intro y hy
              constructor
              · intro h; exact .inl h
              · rintro (h | h)
                · exact h
                · omega
            case round =>
              obtain ⟨z, H, rfl, hqz, hz1, hzc, hN4, hBa4, hBe4, hBel4, HH⟩ := hrel
              clear hN1 hBa3 hBe hBel3
              by_cases hzl : z ≤ s.size
              · have hzl1 : z < s.size + 1 := by omega
                have y1 := hN4.cell z (bcells_get hzl1)
                have y2 := hBe4.cell z (bcells_get hzl1)
                have y3 := hN4.fz z
                have n1 : ¬ gn = ge := by omega
                have HX : Hid (∀ y, y ≤ s.size → (put H z (H z || E z) y = true ↔ F y = true ∨ (q ≤ y ∧ y < z + 1 ∧ E y = true))) := by
                  intro y hy
                  unfold put
                  by_cases hyz : y = z
                  · subst hyz
                    rw [if_pos rfl, Bool.or_eq_true, HH.out y hy]
                    constructor
                    · rintro ((h | ⟨h1, h2, h3⟩) | h)
                      · exact .inl h
                      · exact .inr ⟨h1, by omega, h3⟩
                      · exact .inr ⟨hqz, by omega, h⟩
                    · rintro (h | ⟨h1, h2, h3⟩)
                      · exact .inl (.inl h)
                      · exact .inr h3
                  · rw [if_neg hyz, HH.out y hy]
                    constructor
                    · rintro (h | ⟨h1, h2, h3⟩)
                      · exact .inl h
                      · exact .inr ⟨h1, by omega, h3⟩
                    · rintro (h | ⟨h1, h2, h3⟩)
                      · exact .inl h
                      · exact .inr ⟨h1, by omega, h3⟩
                cases hH : H z <;> cases hE : E z
                all_goals
                  rw [hH] at y1
                  rw [hE] at y2
                  have HHE := hide (And.intro hH hE)
                  clear hH hE
                  go_wp2_with fail
                  go_roundg (gk - 1)
                  case measure => omega
                  case rel =>
                    exact ⟨z + 1, put H z (H z || E z), by go_num, by omega, by omega, by omega, hN4.set z _ ((bcells_set _ _ _ _).trans (by rw [HHE.out.1, HHE.out.2]; rfl)), hBa4.other (by simp; omega) _, hBe4.other (by simp; omega) _, hBel4.setCell (by simp; omega) _, HX.out⟩
              · go_wp2_with fail
                go_roundg (q0 - 1)
                case measure => have := HQ0.out; omega
                case rel =>
                  have hq0 := HQ0.out
                  refine ⟨q + 1, H, by go_num, by omega, hN4, hBa4, hBel4, ?_⟩
                  intro y hy
                  rw [HH.out y hy, HF.out y hy]
                  constructor
                  · rintro (⟨r, h1, h2⟩ | ⟨h1, h2, h3⟩)
                    · exact ⟨r, by omega, h2⟩
                    · exact ⟨q, by omega, HB.out, (HE.out y hy).1 h3⟩
                  · rintro ⟨r, h1, h2, h3⟩
                    by_cases he : r = q
                    · subst he
                      have hb := Copies.bound (N := s.size) (fun p q hp ha => AtomR.bound s l[kk] p q hp ha) h3 hql
                      exact .inr ⟨hb.1, by omega, (HE.out y hy).2 h3⟩
                    · exact .inl ⟨r, by omega, h2, h3⟩
        · go_wp2_with fail
          go_roundg (k0 - 1)
          case measure => have := HK0.out; omega
          case rel =>
            have hk0 := HK0.out
            refine ⟨kk + 1, gn, F, rfl, by go_num, by omega, hN, by omega, hBel2, ?_⟩
            intro y
            rw [HQ.out y]
            have e1 : l.drop kk = l[kk] :: l.drop (kk + 1) := List.drop_eq_getElem_cons hlt
            rw [e1]
            simp only [SeqR]
            constructor
            · rintro ⟨r, h1, h2, r', h3, h4⟩
              have hb := Copies.bound (N := s.size) (fun p q hp ha => AtomR.bound s l[kk] p q hp ha) h3 h1
              exact ⟨r', hb.2, (HF.out r' hb.2).2 ⟨r, by omega, h2, h3⟩, h4⟩
            · rintro ⟨r', h1, h2, h3⟩
              obtain ⟨r, h4, h5, h6⟩ := (HF.out r' h1).1 h2
              exact ⟨r, by omega, h5, r', h6, h3⟩
    · go_wp2_with fail
      go_ret
      refine ⟨ga, B, rfl, hBa, hga, ?_, hBel⟩
      intro q hq
      rw [HQ.out q]
      have e1 : l.drop kk = [] := List.drop_eq_nil_of_le (by omega)
      rw [e1]
      simp only [SeqR]
      constructor
      · intro h; exact ⟨q, hq, h, rfl⟩
      · rintro ⟨r, _, h, rfl⟩; exact h
end Go.Proofs.YtpnecblofjpgfaaGreatDoor
