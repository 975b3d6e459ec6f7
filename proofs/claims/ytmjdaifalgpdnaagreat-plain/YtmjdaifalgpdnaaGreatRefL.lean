import Derived.Test.YtmjdaifalgpdnaaGreatRefK
namespace Go.Proofs.YtmjdaifalgpdnaaGreat
open Go.RowKit

theorem parse_all (n : Nat) : PartsC n ∧ EscC n ∧ PartC n := by
  induction n using Nat.strongRecOn with
  | _ n ih =>
    refine ⟨parts_any n (fun k hk => (ih k hk).2.2), ?_, ?_⟩
    · cases n with
      | zero => intro b s st w _ _ _ _ h _; omega
      | succ m => exact esc_any m (ih m (Nat.lt_succ_self m)).1
    · cases n with
      | zero => intro b s st w _ _ _ _ h _; omega
      | succ m => exact part_any m (ih m (Nat.lt_succ_self m)).2.1

/-- An expression, as the document's reader has it. -/
structure Ex where
  first : Bool
  last : Bool
  parts : List Part
  groups : Nat

def zeroed (st : St) : St := { st with g := 0 }
def advIf (s : ByteArray) (c : Int) (st : St) : St := if isB s st c then adv st else st

def exprS (s : ByteArray) (n : Nat) (st : St) : Ex × St :=
  (⟨isB s (zeroed st) 94, isB s (partsS s false n (advIf s 94 (zeroed st)) []).2 36, (partsS s false n (advIf s 94 (zeroed st)) []).1, (partsS s false n (advIf s 94 (zeroed st)) []).2.g⟩,
   advIf s 36 (partsS s false n (advIf s 94 (zeroed st)) []).2)

section
variable {w : World} {k : Nat} {t : TypeId} {a0 a1 a2 a3 : Value}
theorem Blk.put4 (h : Blk w k #[a0, a1, a2, a3] t) (b0 b1 b2 b3 : Value) :
    Blk ((((w.setCell ⟨k, 0, none⟩ b0).setCell ⟨k, 1, none⟩ b1).setCell ⟨k, 2, none⟩ b2).setCell ⟨k, 3, none⟩ b3) k #[b0, b1, b2, b3] t :=
  (((h.set 0 b0 rfl).set 1 b1 rfl).set 2 b2 rfl).set 3 b3 rfl
theorem Kp.put4 {b : Nat} {W w : World} (h : Kp b W w) {k : Nat} (hk : W.heap.size ≤ k) (b0 b1 b2 b3 : Value) :
    Kp b W ((((w.setCell ⟨k, 0, none⟩ b0).setCell ⟨k, 1, none⟩ b1).setCell ⟨k, 2, none⟩ b2).setCell ⟨k, 3, none⟩ b3) :=
  (((h.setNew hk _).setNew hk _).setNew hk _).setNew hk _
theorem RD.put4 {w : World} {b : Nat} {s : ByteArray} {st : St} (h : RD w b s st) {k : Nat} (hk : k ≠ b) (b0 b1 b2 b3 : Value) :
    RD ((((w.setCell ⟨k, 0, none⟩ b0).setCell ⟨k, 1, none⟩ b1).setCell ⟨k, 2, none⟩ b2).setCell ⟨k, 3, none⟩ b3) b s st :=
  (((h.other hk _).other hk _).other hk _).other hk _
theorem Agree.put4 {ok : Nat → Prop} {w w1 : World} (h : Agree ok w w1) {k : Nat} (hk : ¬ ok k) (b0 b1 b2 b3 : Value) :
    Agree ok w ((((w1.setCell ⟨k, 0, none⟩ b0).setCell ⟨k, 1, none⟩ b1).setCell ⟨k, 2, none⟩ b2).setCell ⟨k, 3, none⟩ b3) :=
  (((h.set hk _).set hk _).set hk _).set hk _
/-- An expression that is handed back out of its variable. -/
theorem ret_expr {fn : Func} {p : Tmp} (hres : fn.results = #[.cell p 57]) {tmps : Array Value} (ht : tmps.getD p undef = .pointer (some ⟨k, 0, none⟩)) (h : Blk w k #[a0, a1, a2, a3] 57) :
    (results fn tmps).run Tryz.prog w = .ok (.agg #[a0, a1, a2, a3]) w := by
  obtain ⟨c0, c1, c2, c3, _⟩ := h.four
  have ht' : tmps[p]?.getD undef = .pointer (some ⟨k, 0, none⟩) := by simpa using ht
  simp [results, hres, ht', go_sem, c0, c1, c2, c3]
end

set_option maxHeartbeats 1600000 in
theorem expr_any (n b : Nat) (s : ByteArray) (st : St) (w : World) (h : RD w b s st) (hs : s.size ≤ 1048576) (hi : st.i ≤ s.size) (hn : 2 * (s.size - st.i) + 2 ≤ n) (hn' : n ≤ 4000000) :
    Calls Tryz.prog 66 #[.pointer (some ⟨b, 0, none⟩)] w fun e w' => ∃ ka kl kc xs, e = .returned (.agg #[.bool (exprS s n st).1.first, .bool (exprS s n st).1.last, .slice ka kl kc, .int .i64 (exprS s n st).1.groups]) ∧
      Row (fun k => w.heap.size ≤ k) w' (.slice ka kl kc) (exprS s n st).1.parts.length xs ∧ KRep (fun k => w.heap.size ≤ k) w' (exprS s n st).1.parts xs ∧ RD w' b s (exprS s n st).2 ∧ Kp b w w' := by
  have hbl := h.lt
  have h1 := h.c1
  have h2 := h.c2
  have h3 := h.c3
  have hf := h.fz
  have R0 : RD (((w.setCell ⟨b, 3, none⟩ (.int .i64 0)).alloc (.cells #[.bool false, .bool false, .slice none 0 0, .int .i64 0] 57)).alloc (.cells #[.bool false, .bool false, .slice none 0 0, .int .i64 0] 57)) b s (zeroed st) := ((h.set3 0 0 rfl).alloc _).alloc _
  have K0 := (((Kp.refl b w).set 3 (.int .i64 0)).alloc (.cells #[.bool false, .bool false, .slice none 0 0, .int .i64 0] 57)).alloc (.cells #[.bool false, .bool false, .slice none 0 0, .int .i64 0] 57)
  have B0 := (Blk.newAt (w := w.setCell ⟨b, 3, none⟩ (.int .i64 0)) (k := w.heap.size) (c := #[.bool false, .bool false, .slice none 0 0, .int .i64 0]) (t := 57) (by simp [World.setCell])).alloc (.cells #[.bool false, .bool false, .slice none 0 0, .int .i64 0] 57)
  have C0 := Blk.newAt (w := (w.setCell ⟨b, 3, none⟩ (.int .i64 0)).alloc (.cells #[.bool false, .bool false, .slice none 0 0, .int .i64 0] 57)) (k := w.heap.size + 1) (c := #[.bool false, .bool false, .slice none 0 0, .int .i64 0]) (t := 57) (by simp [World.setCell])
  go_enter Tryz.func66, Tryz.ntmps66
  cases hf1 : isB s (zeroed st) 94
  · have HF : Hid (isB s (zeroed st) 94 = false) := hf1
    clear hf1
    go_wp2_with fail
    refine (is_of HF.out R0 hs).mono ?_
    rintro e w1 ⟨rfl, m, rfl⟩
    have HA : Hid (advIf s 94 (zeroed st) = zeroed st) := by simp [Hid, advIf, HF.out]
    have hi1 : (zeroed st).i ≤ s.size := hi
    have hg1 : (zeroed st).g ≤ 9 := by simp [zeroed]
    have hn1 : 2 * (s.size - (zeroed st).i) + 2 ≤ n := hn
    have R1 := R0.drewN m
    have K1 := K0.drewN m
    have B1 := B0.drewN m
    have C1 := C0.drewN m
    go_wp2_with fail
    refine ((parse_all n).1 b s (zeroed st) false _ R1 hs hi1 hg1 hn1 hn').mono ?_
    rintro e w2 ⟨ka, kl, kc, xs, rfl, hRow, hKR, R2, K2⟩
    have hF2 := ((fwd_all s n).2.2 false (zeroed st) [] hi1).2.1
    have B2 := B1.kp K2 (by omega)
    have C2 := C1.kp K2 (by omega)
    have K3 := K1.trans K2
    have hRow3 := hRow.mono (ok' := fun k => w.heap.size + 2 ≤ k) (fun k hk _ => by simpa [World.setCell, World.drewN] using hk)
    have hKR3 := KRep.mono (ok' := fun k => w.heap.size + 2 ≤ k) (fun k hk _ => by simpa [World.setCell, World.drewN] using hk) _ _ hKR
    have HE : Hid (exprS s n st = (⟨false, isB s (partsS s false n (zeroed st) []).2 36, (partsS s false n (zeroed st) []).1, (partsS s false n (zeroed st) []).2.g⟩, advIf s 36 (partsS s false n (zeroed st) []).2)) := by simp only [Hid, exprS, HA.out, HF.out]
    clear R0 K0 B0 C0 R1 K1 B1 C1 hRow hKR K2 h h1 h2 h3 hf
    generalize partsS s false n (zeroed st) [] = q at *
    obtain ⟨kids, st2⟩ := q
    dsimp only at R2 hRow3 hKR3 hF2
    replace HE : Hid (exprS s n st = (⟨false, isB s st2 36, kids, st2.g⟩, advIf s 36 st2)) := HE
    obtain ⟨x0, x1, x2, x3, xf⟩ := B2.four
    obtain ⟨y0, y1, y2, y3, yf⟩ := C2.four
    have R3 := R2.other (p := ⟨w.heap.size + 1, 2, none⟩) (by simp; omega) (.slice ka kl kc)
    cases hl1 : isB s st2 36
    · have HL : Hid (isB s st2 36 = false) := hl1
      clear hl1
      go_wp2_with fail
      refine (is_of HL.out R3 hs).mono ?_
      rintro e w1 ⟨rfl, m2, rfl⟩
      have t3 := R2.c3
      have tf := R2.fz
      go_wp2_with fail
      refine bodyPost_ret (ret_expr Tryz.results66 rfl ((((B2.other (p := ⟨w.heap.size + 1, 2, none⟩) (by simp) (.slice ka kl kc)).drewN m2).other (p := ⟨w.heap.size + 1, 3, none⟩) (by simp) (.int .i64 st2.g)).put4 _ _ _ _)) rfl ⟨ka, kl, kc, xs, ?_, ?_, ?_, ?_, ?_⟩
      · rw [HE.out, HL.out]
      · rw [HE.out]
        have hA := ((((Agree.refl (fun k => w.heap.size + 2 ≤ k) w2).set (p := ⟨w.heap.size + 1, 2, none⟩) (by simp) (.slice ka kl kc)).drewN m2).set (p := ⟨w.heap.size + 1, 3, none⟩) (by simp) (.int .i64 st2.g)).put4 (k := w.heap.size) (by omega) (.bool false) (.bool false) (.slice ka kl kc) (.int .i64 st2.g)
        exact (hRow3.agree hA).mono (fun k hk _ => by omega)
      · rw [HE.out]
        have hA := ((((Agree.refl (fun k => w.heap.size + 2 ≤ k) w2).set (p := ⟨w.heap.size + 1, 2, none⟩) (by simp) (.slice ka kl kc)).drewN m2).set (p := ⟨w.heap.size + 1, 3, none⟩) (by simp) (.int .i64 st2.g)).put4 (k := w.heap.size) (by omega) (.bool false) (.bool false) (.slice ka kl kc) (.int .i64 st2.g)
        exact KRep.mono (fun k hk _ => by omega) _ _ (KRep.agree hA _ _ hKR3)
      · rw [HE.out]; simp only [advIf, HL.out, Bool.false_eq_true, if_false]; exact ((R3.drewN m2).other (p := ⟨w.heap.size + 1, 3, none⟩) (by simp; omega) (.int .i64 st2.g)).put4 (by omega) _ _ _ _
      · exact (((K3.setNew (p := ⟨w.heap.size + 1, 2, none⟩) (by simp) (.slice ka kl kc)).drewN m2).setNew (p := ⟨w.heap.size + 1, 3, none⟩) (by simp) (.int .i64 st2.g)).put4 (Nat.le_refl _) _ _ _ _
    · have HL : Hid (isB s st2 36 = true) := hl1
      have hlt2 : st2.i < s.size := peekOk_lt (isB_ok hl1)
      clear hl1
      go_wp2_with fail
      refine (is_of HL.out R3 hs).mono ?_
      rintro e w1 ⟨rfl, m2, rfl⟩
      have t1 := R2.c1
      have t3 := R2.c3
      have tf := R2.fz
      go_wp2_with fail
      refine bodyPost_ret (ret_expr Tryz.results66 rfl ((((((B2.other (p := ⟨w.heap.size + 1, 2, none⟩) (by simp) (.slice ka kl kc)).drewN m2).other (p := ⟨w.heap.size + 1, 1, none⟩) (by simp) (.bool true)).other (p := ⟨b, 1, none⟩) (by simp; omega) (.int .i64 ((st2.i : Int) + 1))).other (p := ⟨w.heap.size + 1, 3, none⟩) (by simp) (.int .i64 st2.g)).put4 _ _ _ _)) rfl ⟨ka, kl, kc, xs, ?_, ?_, ?_, ?_, ?_⟩
      · rw [HE.out, HL.out]
      · rw [HE.out]
        have hA := ((((((Agree.refl (fun k => w.heap.size + 2 ≤ k) w2).set (p := ⟨w.heap.size + 1, 2, none⟩) (by simp) (.slice ka kl kc)).drewN m2).set (p := ⟨w.heap.size + 1, 1, none⟩) (by simp) (.bool true)).set (p := ⟨b, 1, none⟩) (by simp; omega) (.int .i64 ((st2.i : Int) + 1))).set (p := ⟨w.heap.size + 1, 3, none⟩) (by simp) (.int .i64 st2.g)).put4 (k := w.heap.size) (by omega) (.bool false) (.bool true) (.slice ka kl kc) (.int .i64 st2.g)
        exact (hRow3.agree hA).mono (fun k hk _ => by omega)
      · rw [HE.out]
        have hA := ((((((Agree.refl (fun k => w.heap.size + 2 ≤ k) w2).set (p := ⟨w.heap.size + 1, 2, none⟩) (by simp) (.slice ka kl kc)).drewN m2).set (p := ⟨w.heap.size + 1, 1, none⟩) (by simp) (.bool true)).set (p := ⟨b, 1, none⟩) (by simp; omega) (.int .i64 ((st2.i : Int) + 1))).set (p := ⟨w.heap.size + 1, 3, none⟩) (by simp) (.int .i64 st2.g)).put4 (k := w.heap.size) (by omega) (.bool false) (.bool true) (.slice ka kl kc) (.int .i64 st2.g)
        exact KRep.mono (fun k hk _ => by omega) _ _ (KRep.agree hA _ _ hKR3)
      · rw [HE.out]; simp only [advIf, HL.out, if_true]; exact ((((R3.drewN m2).other (p := ⟨w.heap.size + 1, 1, none⟩) (by simp; omega) (.bool true)).adv (i := (st2.i : Int) + 1) rfl).other (p := ⟨w.heap.size + 1, 3, none⟩) (by simp; omega) (.int .i64 st2.g)).put4 (by omega) _ _ _ _
      · exact (((((K3.setNew (p := ⟨w.heap.size + 1, 2, none⟩) (by simp) (.slice ka kl kc)).drewN m2).setNew (p := ⟨w.heap.size + 1, 1, none⟩) (by simp) (.bool true)).set 1 (.int .i64 ((st2.i : Int) + 1))).setNew (p := ⟨w.heap.size + 1, 3, none⟩) (by simp) (.int .i64 st2.g)).put4 (Nat.le_refl _) _ _ _ _
  · have HF : Hid (isB s (zeroed st) 94 = true) := hf1
    have hlt1 : st.i < s.size := peekOk_lt (isB_ok hf1)
    clear hf1
    go_wp2_with fail
    refine (is_of HF.out R0 hs).mono ?_
    rintro e w1 ⟨rfl, m, rfl⟩
    have HA : Hid (advIf s 94 (zeroed st) = adv (zeroed st)) := by simp [Hid, advIf, HF.out]
    have hi1 : (adv (zeroed st)).i ≤ s.size := by simp [adv, zeroed]; omega
    have hg1 : (adv (zeroed st)).g ≤ 9 := by simp [adv, zeroed]
    have hn1 : 2 * (s.size - (adv (zeroed st)).i) + 2 ≤ n := by simp [adv, zeroed]; omega
    have R1 := ((R0.drewN m).other (p := ⟨w.heap.size + 1, 0, none⟩) (by simp; omega) (.bool true)).adv (i := (st.i : Int) + 1) rfl
    have K1 := ((K0.drewN m).setNew (p := ⟨w.heap.size + 1, 0, none⟩) (by simp) (.bool true)).set 1 (.int .i64 ((st.i : Int) + 1))
    have B1 := ((B0.drewN m).other (p := ⟨w.heap.size + 1, 0, none⟩) (by simp) (.bool true)).other (p := ⟨b, 1, none⟩) (by simp; omega) (.int .i64 ((st.i : Int) + 1))
    have C1 := ((C0.drewN m).set 0 (.bool true) rfl).other (p := ⟨b, 1, none⟩) (by simp; omega) (.int .i64 ((st.i : Int) + 1))
    go_wp2_with fail
    refine ((parse_all n).1 b s (adv (zeroed st)) false _ R1 hs hi1 hg1 hn1 hn').mono ?_
    rintro e w2 ⟨ka, kl, kc, xs, rfl, hRow, hKR, R2, K2⟩
    have hF2 := ((fwd_all s n).2.2 false (adv (zeroed st)) [] hi1).2.1
    have B2 := B1.kp K2 (by omega)
    have C2 := C1.kp K2 (by omega)
    have K3 := K1.trans K2
    have hRow3 := hRow.mono (ok' := fun k => w.heap.size + 2 ≤ k) (fun k hk _ => by simpa [World.setCell, World.drewN] using hk)
    have hKR3 := KRep.mono (ok' := fun k => w.heap.size + 2 ≤ k) (fun k hk _ => by simpa [World.setCell, World.drewN] using hk) _ _ hKR
    have HE : Hid (exprS s n st = (⟨true, isB s (partsS s false n (adv (zeroed st)) []).2 36, (partsS s false n (adv (zeroed st)) []).1, (partsS s false n (adv (zeroed st)) []).2.g⟩, advIf s 36 (partsS s false n (adv (zeroed st)) []).2)) := by simp only [Hid, exprS, HA.out, HF.out]
    clear R0 K0 B0 C0 R1 K1 B1 C1 hRow hKR K2 h h1 h2 h3 hf
    generalize partsS s false n (adv (zeroed st)) [] = q at *
    obtain ⟨kids, st2⟩ := q
    dsimp only at R2 hRow3 hKR3 hF2
    replace HE : Hid (exprS s n st = (⟨true, isB s st2 36, kids, st2.g⟩, advIf s 36 st2)) := HE
    obtain ⟨x0, x1, x2, x3, xf⟩ := B2.four
    obtain ⟨y0, y1, y2, y3, yf⟩ := C2.four
    have R3 := R2.other (p := ⟨w.heap.size + 1, 2, none⟩) (by simp; omega) (.slice ka kl kc)
    cases hl1 : isB s st2 36
    · have HL : Hid (isB s st2 36 = false) := hl1
      clear hl1
      go_wp2_with fail
      refine (is_of HL.out R3 hs).mono ?_
      rintro e w1 ⟨rfl, m2, rfl⟩
      have t3 := R2.c3
      have tf := R2.fz
      go_wp2_with fail
      refine bodyPost_ret (ret_expr Tryz.results66 rfl ((((B2.other (p := ⟨w.heap.size + 1, 2, none⟩) (by simp) (.slice ka kl kc)).drewN m2).other (p := ⟨w.heap.size + 1, 3, none⟩) (by simp) (.int .i64 st2.g)).put4 _ _ _ _)) rfl ⟨ka, kl, kc, xs, ?_, ?_, ?_, ?_, ?_⟩
      · rw [HE.out, HL.out]
      · rw [HE.out]
        have hA := ((((Agree.refl (fun k => w.heap.size + 2 ≤ k) w2).set (p := ⟨w.heap.size + 1, 2, none⟩) (by simp) (.slice ka kl kc)).drewN m2).set (p := ⟨w.heap.size + 1, 3, none⟩) (by simp) (.int .i64 st2.g)).put4 (k := w.heap.size) (by omega) (.bool true) (.bool false) (.slice ka kl kc) (.int .i64 st2.g)
        exact (hRow3.agree hA).mono (fun k hk _ => by omega)
      · rw [HE.out]
        have hA := ((((Agree.refl (fun k => w.heap.size + 2 ≤ k) w2).set (p := ⟨w.heap.size + 1, 2, none⟩) (by simp) (.slice ka kl kc)).drewN m2).set (p := ⟨w.heap.size + 1, 3, none⟩) (by simp) (.int .i64 st2.g)).put4 (k := w.heap.size) (by omega) (.bool true) (.bool false) (.slice ka kl kc) (.int .i64 st2.g)
        exact KRep.mono (fun k hk _ => by omega) _ _ (KRep.agree hA _ _ hKR3)
      · rw [HE.out]; simp only [advIf, HL.out, Bool.false_eq_true, if_false]; exact ((R3.drewN m2).other (p := ⟨w.heap.size + 1, 3, none⟩) (by simp; omega) (.int .i64 st2.g)).put4 (by omega) _ _ _ _
      · exact (((K3.setNew (p := ⟨w.heap.size + 1, 2, none⟩) (by simp) (.slice ka kl kc)).drewN m2).setNew (p := ⟨w.heap.size + 1, 3, none⟩) (by simp) (.int .i64 st2.g)).put4 (Nat.le_refl _) _ _ _ _
    · have HL : Hid (isB s st2 36 = true) := hl1
      have hlt2 : st2.i < s.size := peekOk_lt (isB_ok hl1)
      clear hl1
      go_wp2_with fail
      refine (is_of HL.out R3 hs).mono ?_
      rintro e w1 ⟨rfl, m2, rfl⟩
      have t1 := R2.c1
      have t3 := R2.c3
      have tf := R2.fz
      go_wp2_with fail
      refine bodyPost_ret (ret_expr Tryz.results66 rfl ((((((B2.other (p := ⟨w.heap.size + 1, 2, none⟩) (by simp) (.slice ka kl kc)).drewN m2).other (p := ⟨w.heap.size + 1, 1, none⟩) (by simp) (.bool true)).other (p := ⟨b, 1, none⟩) (by simp; omega) (.int .i64 ((st2.i : Int) + 1))).other (p := ⟨w.heap.size + 1, 3, none⟩) (by simp) (.int .i64 st2.g)).put4 _ _ _ _)) rfl ⟨ka, kl, kc, xs, ?_, ?_, ?_, ?_, ?_⟩
      · rw [HE.out, HL.out]
      · rw [HE.out]
        have hA := ((((((Agree.refl (fun k => w.heap.size + 2 ≤ k) w2).set (p := ⟨w.heap.size + 1, 2, none⟩) (by simp) (.slice ka kl kc)).drewN m2).set (p := ⟨w.heap.size + 1, 1, none⟩) (by simp) (.bool true)).set (p := ⟨b, 1, none⟩) (by simp; omega) (.int .i64 ((st2.i : Int) + 1))).set (p := ⟨w.heap.size + 1, 3, none⟩) (by simp) (.int .i64 st2.g)).put4 (k := w.heap.size) (by omega) (.bool true) (.bool true) (.slice ka kl kc) (.int .i64 st2.g)
        exact (hRow3.agree hA).mono (fun k hk _ => by omega)
      · rw [HE.out]
        have hA := ((((((Agree.refl (fun k => w.heap.size + 2 ≤ k) w2).set (p := ⟨w.heap.size + 1, 2, none⟩) (by simp) (.slice ka kl kc)).drewN m2).set (p := ⟨w.heap.size + 1, 1, none⟩) (by simp) (.bool true)).set (p := ⟨b, 1, none⟩) (by simp; omega) (.int .i64 ((st2.i : Int) + 1))).set (p := ⟨w.heap.size + 1, 3, none⟩) (by simp) (.int .i64 st2.g)).put4 (k := w.heap.size) (by omega) (.bool true) (.bool true) (.slice ka kl kc) (.int .i64 st2.g)
        exact KRep.mono (fun k hk _ => by omega) _ _ (KRep.agree hA _ _ hKR3)
      · rw [HE.out]; simp only [advIf, HL.out, if_true]; exact ((((R3.drewN m2).other (p := ⟨w.heap.size + 1, 1, none⟩) (by simp; omega) (.bool true)).adv (i := (st2.i : Int) + 1) rfl).other (p := ⟨w.heap.size + 1, 3, none⟩) (by simp; omega) (.int .i64 st2.g)).put4 (by omega) _ _ _ _
      · exact (((((K3.setNew (p := ⟨w.heap.size + 1, 2, none⟩) (by simp) (.slice ka kl kc)).drewN m2).setNew (p := ⟨w.heap.size + 1, 1, none⟩) (by simp) (.bool true)).set 1 (.int .i64 ((st2.i : Int) + 1))).setNew (p := ⟨w.heap.size + 1, 3, none⟩) (by simp) (.int .i64 st2.g)).put4 (Nat.le_refl _) _ _ _ _

end Go.Proofs.YtmjdaifalgpdnaaGreat
