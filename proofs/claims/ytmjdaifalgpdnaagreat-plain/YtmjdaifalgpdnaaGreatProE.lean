import Derived.Test.YtmjdaifalgpdnaaGreatProD
import Derived.Deep.RegionWith
namespace Go.Proofs.YtmjdaifalgpdnaaGreat
open Go.RowKit

theorem pitem_ok {b : Nat} {s : ByteArray} {at_ : Nat} {en : Int} {pv : Value} {g : Nat} {w : World} (h : ER w b s at_ en pv g) (hs : s.size ≤ 1048576) (ha : at_ ≤ s.size) (hb : (itemS s ⟨at_, false, g⟩).2.bad = false) :
    Calls Tryz.prog 112 #[.pointer (some ⟨b, 0, none⟩)] w fun e w' => ∃ W, e = .returned (.agg #[.int .u64 (W 0 : Nat), .int .u64 (W 1 : Nat), .int .u64 (W 2 : Nat), .int .u64 (W 3 : Nat)]) ∧ Holds4 W (fun c => inPairs (itemS s ⟨at_, false, g⟩).1.data.toList c) ∧ ER w' b s (itemS s ⟨at_, false, g⟩).2.i en pv g ∧ Kp b w w' := by
  refine (pitem_any b s at_ en pv g w h hs ha).mono ?_
  rintro e w' ⟨hk, ⟨_, ⟨v, rfl, W, rfl, hW⟩, hE⟩ | ⟨hb', _⟩⟩
  · exact ⟨W, rfl, hW, hE, hk⟩
  · rw [hb] at hb'; cases hb'
theorem pitem_bad {b : Nat} {s : ByteArray} {at_ : Nat} {en : Int} {pv : Value} {g : Nat} {w : World} (h : ER w b s at_ en pv g) (hs : s.size ≤ 1048576) (ha : at_ ≤ s.size) (hb : (itemS s ⟨at_, false, g⟩).2.bad = true) :
    Calls Tryz.prog 112 #[.pointer (some ⟨b, 0, none⟩)] w fun e w' => e = .panicked (gaveUp en (itemS s ⟨at_, false, g⟩).2.i) ∧ Kp b w w' := by
  refine (pitem_any b s at_ en pv g w h hs ha).mono ?_
  rintro e w' ⟨hk, ⟨hb', _⟩ | ⟨_, he⟩⟩
  · rw [hb] at hb'; cases hb'
  · exact ⟨he, hk⟩

theorem with_of {V W : Nat → Nat} {M N : Nat → Bool} (hv : Holds4 V M) (hu : Holds4 W N) {w : World} :
    Calls Tryz.prog 113 #[.agg #[.int .u64 (V 0 : Nat), .int .u64 (V 1 : Nat), .int .u64 (V 2 : Nat), .int .u64 (V 3 : Nat)], .agg #[.int .u64 (W 0 : Nat), .int .u64 (W 1 : Nat), .int .u64 (W 2 : Nat), .int .u64 (W 3 : Nat)]] w fun e w' => ∃ X, e = .returned (.agg #[.int .u64 (X 0 : Nat), .int .u64 (X 1 : Nat), .int .u64 (X 2 : Nat), .int .u64 (X 3 : Nat)]) ∧ Holds4 X (fun z => M z || N z) ∧ Below w.heap.size w w' := by
  refine (with_any _ _ M N ⟨V, rfl, hv⟩ ⟨W, rfl, hu⟩ w).mono ?_
  rintro e w' ⟨x, rfl, ⟨X, rfl, hX⟩, hb⟩
  exact ⟨X, rfl, hX, hb⟩

theorem others_of {V : Nat → Nat} {M : Nat → Bool} (hv : Holds4 V M) {w : World} :
    Calls Tryz.prog 107 #[.agg #[.int .u64 (V 0 : Nat), .int .u64 (V 1 : Nat), .int .u64 (V 2 : Nat), .int .u64 (V 3 : Nat)]] w fun e w' => ∃ X, e = .returned (.agg #[.int .u64 (X 0 : Nat), .int .u64 (X 1 : Nat), .int .u64 (X 2 : Nat), .int .u64 (X 3 : Nat)]) ∧ Holds4 X (fun z => !M z) ∧ Below w.heap.size w w' := by
  refine (others_any _ M ⟨V, rfl, hv⟩ w).mono ?_
  rintro e w' ⟨x, rfl, ⟨X, rfl, hX⟩, hb⟩
  exact ⟨X, rfl, hX, hb⟩

theorem inPairs_append : ∀ (a b : List UInt8) (c : Int), a.length % 2 = 0 → inPairs (a ++ b) c = (inPairs a c || inPairs b c)
  | [], b, c, _ => by simp [inPairs]
  | [x], b, c, h => by simp at h
  | x :: y :: a, b, c, h => by
    have := inPairs_append a b c (by simp at h; omega)
    simp only [List.cons_append, inPairs, this, Bool.or_assoc]

/-- The loop of the document's set, as the program goes: an item has been read. -/
theorem setLoop_first {s : ByteArray} {st : St} (h : st.bad = false) (n : Nat) : setLoop s (n + 1) ⟨#[]⟩ st = setLoop s n (itemS s st).1 (itemS s st).2 := by
  rw [setLoop_go ⟨h, .inl rfl⟩]
  congr 1

theorem setLoop_bad {s : ByteArray} {st : St} (h : st.bad = true) (n : Nat) (ps : ByteArray) : setLoop s n ps st = (ps, st) := setLoop_stop (by rw [h]; simp) n

/-- What class hands back. -/
def GoodSet (neg : Bool) (ps : ByteArray) (e : Ending) : Prop := ∃ W, e = .returned (.agg #[.int .u64 (W 0 : Nat), .int .u64 (W 1 : Nat), .int .u64 (W 2 : Nat), .int .u64 (W 3 : Nat)]) ∧ Holds4 W (fun c => oneB neg ps c)

theorem takeIf_of {b : Nat} {s : ByteArray} {at_ : Nat} {en : Int} {pv : Value} {g : Nat} {c : UInt8} {x : Bool} (hx : nextW s at_ ⟨#[c]⟩ = x) {w : World} (h : ER w b s at_ en pv g) (hs : s.size ≤ 1048576) (ha : at_ ≤ s.size) :
    Calls Tryz.prog 58 #[.pointer (some ⟨b, 0, none⟩), .string ⟨#[c]⟩] w fun e w' => e = .returned (.bool x) ∧ ER w' b s (if x then at_ + 1 else at_) en pv g ∧ Kp b w w' := by
  cases x
  · refine (takeIf_no b s at_ en ⟨#[c]⟩ w h.rd hs ha (by show 1 ≤ _; omega) hx).mono ?_
    rintro e w' ⟨rfl, n, rfl⟩
    exact ⟨rfl, h.drewN n, (Kp.refl b w).drewN n⟩
  · refine (takeIf_one b s at_ en c w h.rd hs ha hx).mono ?_
    rintro e w' ⟨rfl, hm⟩
    exact ⟨rfl, h.moved hm, hm.kp⟩

theorem even_item {s : ByteArray} {st : St} (h : (itemS s st).2.bad = false) : (itemS s st).1.size = 2 := by
  rcases item_cases s st with h1 | h1
  · rw [h] at h1; cases h1.2.1
  · exact h1.1

set_option maxRecDepth 100000 in
set_option maxHeartbeats 1600000 in
theorem class_any (b : Nat) (s : ByteArray) (at_ : Nat) (en : Int) (pv : Value) (g n : Nat) (w : World) (h : ER w b s at_ en pv g) (hs : s.size ≤ 1048576) (ha : at_ ≤ s.size) (hn : s.size + 1 < at_ + n) :
    Calls Tryz.prog 108 #[.pointer (some ⟨b, 0, none⟩)] w fun e w' => Took w b s en pv g (setS s n ⟨at_, false, g⟩).2 (GoodSet (setS s n ⟨at_, false, g⟩).1.1 (setS s n ⟨at_, false, g⟩).1.2) e w' := by
  have hbl := h.lt
  have hB := Blk.new w #[.int .u64 0, .int .u64 0, .int .u64 0, .int .u64 0] 165
  have h1 := h.alloc (.cells #[.int .u64 0, .int .u64 0, .int .u64 0, .int .u64 0] 165)
  have hk1 := (Kp.refl b w).alloc (.cells #[.int .u64 0, .int .u64 0, .int .u64 0, .int .u64 0] 165)
  obtain ⟨n', rfl⟩ : ∃ n', n = n' + 1 := ⟨n - 1, by omega⟩
  -- behind the ^
  obtain ⟨neg, hneg⟩ : ∃ neg, isB s ⟨at_, false, g⟩ 94 = neg := ⟨_, rfl⟩
  obtain ⟨a1, ha1⟩ : ∃ a1, a1 = if neg then at_ + 1 else at_ := ⟨_, rfl⟩
  have ha1s : a1 ≤ s.size := by
    rw [ha1]; split
    · next hx => subst hx; exact peekOk_lt (isB_ok hneg)
    · exact ha
  have ha1g : at_ ≤ a1 := by rw [ha1]; split <;> omega
  have HS : Hid (setS s (n' + 1) ⟨at_, false, g⟩ = ((neg, (setLoop s n' (itemS s ⟨a1, false, g⟩).1 (itemS s ⟨a1, false, g⟩).2).1), eatIf s 93 (setLoop s n' (itemS s ⟨a1, false, g⟩).1 (itemS s ⟨a1, false, g⟩).2).2)) := by
    have e1 : (if isB s ⟨at_, false, g⟩ 94 then adv ⟨at_, false, g⟩ else (⟨at_, false, g⟩ : St)) = ⟨a1, false, g⟩ := by
      rw [hneg, ha1]; cases neg <;> rfl
    rw [Hid, setS, e1, setLoop_first rfl, hneg]
  have hcar := nextW_one s at_ g 94
  have h94 : (((94 : UInt8).toNat : Nat) : Int) = 94 := rfl
  rw [h94, hneg] at hcar
  have HCAR := hide hcar
  clear hcar
  go_enter Tryz.func108, Tryz.ntmps108
  go_wp2_with fail
  refine (takeIf_of HCAR.out h1 hs ha).mono ?_
  rintro e w1 ⟨rfl, h2, k2⟩
  rw [← ha1] at h2
  have B2 := hB.kp k2 (by omega)
  have k3 := hk1.trans k2
  have hcs := item_cases s ⟨a1, false, g⟩
  have hle := item_le s ⟨a1, false, g⟩ ha1s
  have HNEG := hide (And.intro hneg ha1)
  clear hneg ha1 h1 hk1 hB h
  cases hib : (itemS s ⟨a1, false, g⟩).2.bad
  · have hsz := even_item hib
    have HIB := hide hib
    clear hib
    go_wp2_with fail
    refine (pitem_ok h2 hs ha1s HIB.out).mono ?_
    rintro e w2 ⟨W, rfl, hW, h3, k4⟩
    have HW := hide hW
    clear hW
    have B3 := (B2.kp k4 (by omega)).alloc (.cells (ucells W) 165)
    have C3 := Blk.new w2 (ucells W) 165
    have h4 := h3.alloc (.cells (ucells W) 165)
    have k5 := (k3.trans k4).alloc (.cells (ucells W) 165)
    have hbw : w.heap.size < w2.heap.size := by have := (B2.kp k4 (by omega)).lt; exact this
    have hlt1 : a1 < (itemS s ⟨a1, false, g⟩).2.i := by rcases hcs with h | h; (rw [HIB.out] at h; cases h.2.1); exact h.2.2.1
    clear B2 k2 k3 k4 h2 h3
    go_wp2_with fail
    generalize hr1 : w2.heap.size = r1 at *
    unfold ucells at B3 C3 h4 k5
    generalize w2.alloc (.cells #[.int .u64 (W 0 : Nat), .int .u64 (W 1 : Nat), .int .u64 (W 2 : Nat), .int .u64 (W 3 : Nat)] 165) = w3 at *
    clear hr1
    go_loopg [] n' (fun k w' => ∃ (ps : ByteArray) (st : St) (X : Nat → Nat), ER w' b s st.i en pv g ∧ st.bad = false ∧ st.g = g ∧ st.i ≤ s.size ∧ s.size + 1 < st.i + k ∧ Blk w' w.heap.size #[.int .u64 0, .int .u64 0, .int .u64 0, .int .u64 0] 165 ∧ Blk w' r1 #[.int .u64 (X 0 : Nat), .int .u64 (X 1 : Nat), .int .u64 (X 2 : Nat), .int .u64 (X 3 : Nat)] 165 ∧ Kp b w w' ∧ Hid (Holds4 X (fun c => inPairs ps.data.toList c) ∧ ps.size % 2 = 0 ∧ ¬ ps.size = 0 ∧ setLoop s n' (itemS s ⟨a1, false, g⟩).1 (itemS s ⟨a1, false, g⟩).2 = setLoop s k ps st))
    case atStart =>
      exact ⟨(itemS s ⟨a1, false, g⟩).1, (itemS s ⟨a1, false, g⟩).2, W, h4, HIB.out, item_g s _, hle, by omega, B3, C3, k5, HW.out, by omega, by omega, rfl⟩
    case round =>
      obtain ⟨ps, st, X, h5, hb5, hg5, hi5, hk5, B5, C5, k6, HX⟩ := hrel
      clear h4 B3 C3 k5
      obtain ⟨i5, bd5, g5⟩ := st
      dsimp only at h5 hb5 hg5 hi5 hk5
      subst hb5
      subst hg5
      obtain ⟨c0, c1, c2, c3, cf⟩ := C5.four
      obtain ⟨d0, d1, d2, d3, df⟩ := B5.four
      have hcl := nextW_one s i5 g5 93
      have h93 : (((93 : UInt8).toNat : Nat) : Int) = 93 := rfl
      rw [h93] at hcl
      cases hcb : isB s ⟨i5, false, g5⟩ 93
      · rw [hcb] at hcl
        have HCL := hide hcl
        have HGO : Hid ((false = false) ∧ (ps.size = 0 ∨ isB s ⟨i5, false, g5⟩ 93 = false)) := ⟨rfl, .inr hcb⟩
        clear hcl hcb
        obtain ⟨k', rfl⟩ : ∃ k', gk = k' + 1 := ⟨gk - 1, by omega⟩
        have hcs5 := item_cases s ⟨i5, false, g5⟩
        have hle5 := item_le s ⟨i5, false, g5⟩ hi5
        cases hib5 : (itemS s ⟨i5, false, g5⟩).2.bad
        · have hsz5 := even_item hib5
          have hlt5 : i5 < (itemS s ⟨i5, false, g5⟩).2.i := by rcases hcs5 with h | h; (rw [hib5] at h; cases h.2.1); exact h.2.2.1
          have HIB5 := hide hib5
          clear hib5 hcs5
          go_wp2_with fail
          refine (takeIf_of HCL.out h5 hs hi5).mono ?_
          rintro e w6 ⟨rfl, h6, k7⟩
          have B6 := B5.kp k7 (by omega)
          have C6 := C5.kp k7 (by omega)
          have k8 := k6.trans k7
          obtain ⟨c0, c1, c2, c3, cf⟩ := C6.four
          simp only [Bool.false_eq_true, if_false] at h6
          go_wp2_with fail
          go_region_with (first | (go_at_call 112; refine (pitem_ok (by exact h6) hs hi5 HIB5.out).mono ?_; rintro e w7 ⟨Y, rfl, hY, h7, k9⟩; have C7 := Blk.kp (by exact C6) k9 (by omega); obtain ⟨e0, e1, e2, e3, ef⟩ := C7.four) | (go_at_call 113; refine (with_of HX.out.1 hY).mono ?_; rintro e w8 ⟨Z, rfl, hZ, hb8⟩; have C8 := C7.below hb8; obtain ⟨f0, f1, f2, f3, ff⟩ := C8.four))
          all_goals
            go_wp2_with fail
            go_roundg k'
            case measure => omega
            case rel =>
              refine ⟨ps ++ (itemS s ⟨i5, false, g5⟩).1, (itemS s ⟨i5, false, g5⟩).2, Z, ?_, HIB5.out, item_g s _, hle5, by omega, ?_, ?_, ?_, ?_⟩
              · exact ((((h7.below hb8).other (by simp; omega) _).other (by simp; omega) _).other (by simp; omega) _).other (by simp; omega) _
              · have B8 := (Blk.kp (w := w6.drew) (by exact B6) k9 (by omega)).below hb8
                exact (((B8.other (by simp; omega) _).other (by simp; omega) _).other (by simp; omega) _).other (by simp; omega) _
              · exact C8.put4 _ _ _ _
              · exact (((k8.drew).trans k9).trans (Kp.below (b := b) hb8)).put4 (by omega) _ _ _ _
              · refine ⟨hZ.congr (fun c hc => ?_), ?_, ?_, ?_⟩
                · rw [ByteArray.toList_data_append, inPairs_append _ _ _ (by have := HX.out.2.1; simpa using this)]
                · have := HX.out.2.1; rw [bsize_append]; omega
                · have := HX.out.2.2.1; rw [bsize_append]; omega
                · rw [HX.out.2.2.2, setLoop_go ⟨rfl, HGO.out.2⟩]
        · have HIB5 := hide hib5
          have HE : Hid (setS s (n' + 1) ⟨at_, false, g5⟩ = ((neg, (setLoop s n' (itemS s ⟨a1, false, g5⟩).1 (itemS s ⟨a1, false, g5⟩).2).1), (itemS s ⟨i5, false, g5⟩).2)) := by
            rw [Hid, HS.out]
            congr 1
            rw [HX.out.2.2.2, setLoop_go HGO.out, setLoop_bad hib5, eatIf_bad hib5]
          clear hib5 hcs5
          go_wp2_with fail
          refine (takeIf_of HCL.out h5 hs hi5).mono ?_
          rintro e w6 ⟨rfl, h6, k7⟩
          have C6 := C5.kp k7 (by omega)
          have k8 := k6.trans k7
          obtain ⟨c0, c1, c2, c3, cf⟩ := C6.four
          simp only [Bool.false_eq_true, if_false] at h6
          go_wp2_with fail
          refine wp_region_any (by kernel_rfl) ?_
          change wpAny _ _ _ _ _ _ _ (World.drew _)
          refine wpAny_ready (rs := [0, 1]) (by kernel_rfl) (by simp) ?_
          refine AllReady.cons rfl (fun K hK => ?_) (AllReady.cons rfl (fun K hK => ?_) AllReady.nil)
          · go_simp
            refine hK _ _ ?_
            clear hK K
            refine wpAny_ready (rs := [1]) (by kernel_rfl) (by simp) ?_
            refine AllReady.cons rfl (fun K hK => ?_) AllReady.nil
            go_simp
            refine hK _ _ ?_
            clear hK K
            refine wpAny_ready (rs := [2]) (by kernel_rfl) (by simp) ?_
            refine AllReady.cons rfl (fun K hK => ?_) AllReady.nil
            go_simp
            refine (pitem_bad (by exact h6) hs hi5 HIB5.out).mono ?_
            rintro e w7 ⟨rfl, k9⟩
            refine ⟨rfl, ?_⟩
            rw [HE.out]
            exact ⟨(k8.drew).trans k9, .inr ⟨HIB5.out, rfl⟩⟩
          · go_simp
            refine hK _ _ ?_
            clear hK K
            refine wpAny_ready (rs := [0, 2]) (by kernel_rfl) (by simp) ?_
            refine AllReady.cons rfl (fun K hK => ?_) (AllReady.cons rfl (fun K hK => ?_) AllReady.nil)
            · go_simp
              refine hK _ _ ?_
              clear hK K
              refine wpAny_ready (rs := [2]) (by kernel_rfl) (by simp) ?_
              refine AllReady.cons rfl (fun K hK => ?_) AllReady.nil
              go_simp
              refine (pitem_bad (by exact h6) hs hi5 HIB5.out).mono ?_
              rintro e w7 ⟨rfl, k9⟩
              refine ⟨rfl, ?_⟩
              rw [HE.out]
              exact ⟨(k8.drew).trans k9, .inr ⟨HIB5.out, rfl⟩⟩
            · go_simp
              refine (pitem_bad (by exact h6) hs hi5 HIB5.out).mono ?_
              rintro e w7 ⟨rfl, k9⟩
              refine ⟨rfl, ?_⟩
              rw [HE.out]
              exact ⟨(k8.drew).trans k9, .inr ⟨HIB5.out, rfl⟩⟩
      · rw [hcb] at hcl
        have HCL := hide hcl
        have HE : Hid (setS s (n' + 1) ⟨at_, false, g5⟩ = ((neg, ps), ⟨i5 + 1, false, g5⟩)) := by
          have hst : setLoop s gk ps ⟨i5, false, g5⟩ = (ps, ⟨i5, false, g5⟩) := setLoop_stop (by rw [hcb]; intro hx; rcases hx.2 with h | h; exact HX.out.2.2.1 h; cases h) gk
          rw [Hid, HS.out, HX.out.2.2.2, hst, eatIf_ok rfl, eatS, hcb]; rfl
        clear hcl hcb
        cases neg
        · go_wp2_with fail
          refine (takeIf_of HCL.out h5 hs hi5).mono ?_
          rintro e w6 ⟨rfl, h6, k7⟩
          have B6 := B5.kp k7 (by omega)
          have C6 := C5.kp k7 (by omega)
          have k8 := k6.trans k7
          obtain ⟨c0, c1, c2, c3, cf⟩ := C6.four
          obtain ⟨d0, d1, d2, d3, df⟩ := B6.four
          simp only [if_true] at h6
          go_wp2_with fail
          refine bodyPost_ret (ret_four Tryz.results108 rfl (B6.put4 _ _ _ _)) rfl ?_
          rw [HE.out]
          refine ⟨k8.put4 (Nat.le_refl _) _ _ _ _, .inl ⟨rfl, ⟨X, rfl, HX.out.1.congr (fun c hc => ?_)⟩, ?_⟩⟩
          · simp only [oneB]; cases inPairs ps.data.toList c <;> rfl
          · exact (((h6.other (by simp; omega) _).other (by simp; omega) _).other (by simp; omega) _).other (by simp; omega) _
        · go_wp2_with fail
          refine (takeIf_of HCL.out h5 hs hi5).mono ?_
          rintro e w6 ⟨rfl, h6, k7⟩
          have B6 := B5.kp k7 (by omega)
          have C6 := C5.kp k7 (by omega)
          have k8 := k6.trans k7
          obtain ⟨c0, c1, c2, c3, cf⟩ := C6.four
          simp only [if_true] at h6
          go_wp2_with fail
          refine (others_of HX.out.1).mono ?_
          rintro e w7 ⟨Y, rfl, hY, hb7⟩
          have HY := hide hY
          clear hY
          have B7 := B6.below hb7
          have h7 := h6.below hb7
          have k9 := k8.trans (Kp.below (b := b) hb7)
          obtain ⟨d0, d1, d2, d3, df⟩ := B7.four
          go_wp2_with fail
          refine bodyPost_ret (ret_four Tryz.results108 rfl (B7.put4 _ _ _ _)) rfl ?_
          rw [HE.out]
          refine ⟨k9.put4 (Nat.le_refl _) _ _ _ _, .inl ⟨rfl, ⟨Y, rfl, HY.out.congr (fun c hc => ?_)⟩, ?_⟩⟩
          · simp only [oneB]; cases inPairs ps.data.toList c <;> rfl
          · exact (((h7.other (by simp; omega) _).other (by simp; omega) _).other (by simp; omega) _).other (by simp; omega) _
  · have HE : Hid ((setS s (n' + 1) ⟨at_, false, g⟩).2 = (itemS s ⟨a1, false, g⟩).2) := by
      rw [Hid, HS.out, setLoop_bad hib, eatIf_bad hib]
    have HIB := hide hib
    clear hib
    go_wp2_with fail
    refine (pitem_bad h2 hs ha1s HIB.out).mono ?_
    rintro e w2 ⟨rfl, k4⟩
    refine ⟨rfl, ?_⟩
    refine ⟨k3.trans k4, .inr ⟨?_, ?_⟩⟩
    · rw [HE.out]; exact HIB.out
    · rw [HE.out]
end Go.Proofs.YtmjdaifalgpdnaaGreat
