import Derived.Test.YtpnecblofjpgfaaGreatDoorProJ
namespace Go.Proofs.YtpnecblofjpgfaaGreatDoor
open Go.RowKit

/-- What list does. -/
def ListPost (w : World) (b : Nat) (s : ByteArray) (en : Int) (pv : Value) (ps : List PP) (r : List Part × St) (e : Ending) (w' : World) : Prop :=
  Kq b pv.ownBlock w w' ∧ ((r.2.bad = false ∧ ∃ pv' qs, e = .returned (.int .i64 (firstIx ps.length r.1)) ∧ LayL ps.length r.1 qs ∧ Flat w' pv' (ps ++ qs) ∧ ER w' b s r.2.i en pv' r.2.g ∧ pv'.ownBlock ≠ some b ∧ Fresh w pv.ownBlock pv'.ownBlock ∧ (ps ++ qs).length ≤ r.2.i) ∨ (r.2.bad = true ∧ e = .panicked (gaveUp en r.2.i)))

def PListC (n : Nat) : Prop := ∀ (b rb : Nat) (s : ByteArray) (at_ : Nat) (en : Int) (pv : Value) (g : Nat) (ps : List PP) (w : World), ER w b s at_ en pv g → Flat w pv ps → pv.ownBlock ≠ some b → Blk w rb #[.pointer (some ⟨b, 0, none⟩)] 53 → rb ≠ b → pv.ownBlock ≠ some rb → s.size ≤ 1048576 → at_ ≤ s.size → g ≤ 9 → ps.length ≤ at_ → 2 * (s.size - at_) + 2 ≤ n →
  Calls Tryz.prog 32 #[.pointer (some ⟨b, 0, none⟩), .func (.func 112) #[] #[.pointer (some ⟨rb, 0, none⟩)]] w fun e w' => ListPost w b s en pv ps ((partsS s true n ⟨at_, false, g⟩ []).1, eatIf s 41 (eatIf s 92 (partsS s true n ⟨at_, false, g⟩ []).2)) e w'

theorem ER.setG {w : World} {b : Nat} {s : ByteArray} {at_ g : Nat} {en : Int} {pv : Value} (h : ER w b s at_ en pv g) (g' : Nat) {i : Int} (e : i = g') : ER (w.setCell ⟨b, 4, none⟩ (.int .i64 i)) b s at_ en pv g' := by
  subst e; exact Blk.set h 4 _ rfl

set_option maxRecDepth 100000 in
set_option maxHeartbeats 1600000 in
theorem group_any (n : Nat) (ih : PListC n) : PGroupC n := by
  intro b s at_ en pv g ps w h hfl hpb hs ha hg hpl hn
  have IH := hide ih
  clear ih
  have hbl := h.lt
  have hR := (Blk.new w #[.pointer (some ⟨b, 0, none⟩)] 53).alloc (.cells #[.int .u64 0, .int .u64 0, .int .u64 0, .int .u64 0, .int .i64 0, .int .i64 0, .int .i64 0, .int .i64 0, .int .i64 0] 104)
  have hB := Blk.newAt (w := w.alloc (.cells #[.pointer (some ⟨b, 0, none⟩)] 53)) (k := w.heap.size + 1) (c := #[.int .u64 0, .int .u64 0, .int .u64 0, .int .u64 0, .int .i64 0, .int .i64 0, .int .i64 0, .int .i64 0, .int .i64 0]) (t := 104) (by simp)
  have h1 := (h.alloc (.cells #[.pointer (some ⟨b, 0, none⟩)] 53)).alloc (.cells #[.int .u64 0, .int .u64 0, .int .u64 0, .int .u64 0, .int .i64 0, .int .i64 0, .int .i64 0, .int .i64 0, .int .i64 0] 104)
  have f1 := (hfl.alloc (.cells #[.pointer (some ⟨b, 0, none⟩)] 53)).alloc (.cells #[.int .u64 0, .int .u64 0, .int .u64 0, .int .u64 0, .int .i64 0, .int .i64 0, .int .i64 0, .int .i64 0, .int .i64 0] 104)
  have k1 := ((Kp.refl b w).alloc (.cells #[.pointer (some ⟨b, 0, none⟩)] 53)).alloc (.cells #[.int .u64 0, .int .u64 0, .int .u64 0, .int .u64 0, .int .i64 0, .int .i64 0, .int .i64 0, .int .i64 0, .int .i64 0] 104)
  have hpl2 := hfl.lt
  have hpn : ∀ k, w.heap.size ≤ k → pv.ownBlock ≠ some k := fun k hk e => by have := hpl2 _ e; omega
  have HPL := hide (And.intro hpl2 (And.intro hpn hpb))
  clear hpl2 hpn hpb
  have c4 : ((w.alloc (.cells #[.pointer (some ⟨b, 0, none⟩)] 53)).alloc (.cells #[.int .u64 0, .int .u64 0, .int .u64 0, .int .u64 0, .int .i64 0, .int .i64 0, .int .i64 0, .int .i64 0, .int .i64 0] 104)).cell? ⟨b, 4, none⟩ = some (.int .i64 g) := Blk.cell h1 4 rfl
  have cf := Blk.fz h1
  have r0 : ((w.alloc (.cells #[.pointer (some ⟨b, 0, none⟩)] 53)).alloc (.cells #[.int .u64 0, .int .u64 0, .int .u64 0, .int .u64 0, .int .i64 0, .int .i64 0, .int .i64 0, .int .i64 0, .int .i64 0] 104)).cell? ⟨w.heap.size, 0, none⟩ = some (.pointer (some ⟨b, 0, none⟩)) := hR.cell 0 rfl
  have hg9 : ((g : Int) == 9) = false := by simp; omega
  have h2 := ((h.setG (g + 1) (i := (g : Int) + 1) (by simp)).alloc (.cells #[.pointer (some ⟨b, 0, none⟩)] 53)).alloc (.cells #[.int .u64 0, .int .u64 0, .int .u64 0, .int .u64 0, .int .i64 0, .int .i64 0, .int .i64 0, .int .i64 0, .int .i64 0] 104)
  have f2 := ((hfl.set (p := ⟨b, 4, none⟩) HPL.out.2.2 (.int .i64 ((g : Int) + 1))).alloc (.cells #[.pointer (some ⟨b, 0, none⟩)] 53)).alloc (.cells #[.int .u64 0, .int .u64 0, .int .u64 0, .int .u64 0, .int .i64 0, .int .i64 0, .int .i64 0, .int .i64 0, .int .i64 0] 104)
  have k2 := (((Kp.refl b w).set 4 (.int .i64 ((g : Int) + 1))).alloc (.cells #[.pointer (some ⟨b, 0, none⟩)] 53)).alloc (.cells #[.int .u64 0, .int .u64 0, .int .u64 0, .int .u64 0, .int .i64 0, .int .i64 0, .int .i64 0, .int .i64 0, .int .i64 0] 104)
  have R2 := (Blk.newAt (w := w.setCell ⟨b, 4, none⟩ (.int .i64 ((g : Int) + 1))) (k := w.heap.size) (c := #[.pointer (some ⟨b, 0, none⟩)]) (t := 53) (by simp [World.setCell])).alloc (.cells #[.int .u64 0, .int .u64 0, .int .u64 0, .int .u64 0, .int .i64 0, .int .i64 0, .int .i64 0, .int .i64 0, .int .i64 0] 104)
  have B2 := Blk.newAt (w := (w.setCell ⟨b, 4, none⟩ (.int .i64 ((g : Int) + 1))).alloc (.cells #[.pointer (some ⟨b, 0, none⟩)] 53)) (k := w.heap.size + 1) (c := #[.int .u64 0, .int .u64 0, .int .u64 0, .int .u64 0, .int .i64 0, .int .i64 0, .int .i64 0, .int .i64 0, .int .i64 0]) (t := 104) (by simp [World.setCell])
  have e4 : (((w.setCell ⟨b, 4, none⟩ (.int .i64 ((g : Int) + 1))).alloc (.cells #[.pointer (some ⟨b, 0, none⟩)] 53)).alloc (.cells #[.int .u64 0, .int .u64 0, .int .u64 0, .int .u64 0, .int .i64 0, .int .i64 0, .int .i64 0, .int .i64 0, .int .i64 0] 104)).cell? ⟨b, 4, none⟩ = some (.int .i64 ((g : Int) + 1)) := (Blk.cell h2 4 rfl).trans (by simp)
  have e0 : (((w.setCell ⟨b, 4, none⟩ (.int .i64 ((g : Int) + 1))).alloc (.cells #[.pointer (some ⟨b, 0, none⟩)] 53)).alloc (.cells #[.int .u64 0, .int .u64 0, .int .u64 0, .int .u64 0, .int .i64 0, .int .i64 0, .int .i64 0, .int .i64 0, .int .i64 0] 104)).cell? ⟨w.heap.size, 0, none⟩ = some (.pointer (some ⟨b, 0, none⟩)) := R2.cell 0 rfl
  have hmf : ∀ (fn : Fn) (first cap : Array Value) (w : World), (Instr.makeFunc fn first cap).run Tryz.prog w = .ok (.func fn first cap) w := fun _ _ _ _ => rfl
  have HE : Hid (openT s n at_ g = _) := openT.eq_1 s n at_ g
  go_enter Tryz.func107, Tryz.ntmps107
  go_wp2_with fail
  refine (IH.out b w.heap.size s at_ en pv (g + 1) ps _ h2 f2 HPL.out.2.2 R2 (by omega) (HPL.out.2.1 _ (Nat.le_refl _)) hs ha (by omega) hpl hn).mono ?_
  rintro e w3 ⟨k3, hT⟩
  generalize partsS s true n ⟨at_, false, g + 1⟩ [] = q at *
  obtain ⟨kids, st1⟩ := q
  dsimp only at hT HE
  have k4 : Kq b pv.ownBlock w w3 := (Kq.of_kp (row := pv.ownBlock) k2).trans k3 (.inl rfl)
  rcases hT with ⟨hbd, pv', qs, rfl, hlay, f3, h3, hpb3, hfr, hln⟩ | ⟨hbd, rfl⟩
  · have B3 := B2.kq k3 (by omega) (fun e => HPL.out.2.1 _ (by omega) e.symm)
    have hw2 := B2.lt
    have hpn3 : pv'.ownBlock ≠ some (w.heap.size + 1) := by
      intro e
      rcases hfr with e2 | e2
      · exact HPL.out.2.1 _ (by omega) (e2.symm.trans e)
      · have := e2 _ e; omega
    have hfr2 : Fresh w pv.ownBlock pv'.ownBlock := (Fresh.refl w _).trans hfr k2.size
    have HX := hide (And.intro hlay (And.intro hln (And.intro hpb3 (And.intro hpn3 hfr2))))
    clear hlay hln hpb3 hpn3 hfr2 hfr
    obtain ⟨c0, c1, c2, c3, c4, c5, c6, c7, c8, cf⟩ := B3.nine
    go_wp2_with fail
    refine bodyPost_ret (ret_part98 Tryz.results107 rfl (B3.put9 _ _ _ _ _ _ _ _ _)) rfl ?_
    rw [HE.out]
    obtain ⟨hlay, hln, hpb3, hpn3, hfr2⟩ := HX.out
    refine ⟨kq_put9 k4 (by omega) _ _ _ _ _ _ _ _ _, .inl ⟨hbd, fun _ => 0, (g : Int) + 1, firstIx ps.length kids, pv', qs, rfl, ?_, f3.put9 hpn3 _ _ _ _ _ _ _ _ _, h3.put9 (by omega) _ _ _ _ _ _ _ _ _, hpb3, hfr2, hln⟩⟩
    rw [LayA, if_neg (by omega)]
    exact ⟨by simp, rfl, hlay⟩
  · refine ⟨rfl, ?_⟩
    rw [HE.out]
    exact ⟨k4, .inr ⟨hbd, rfl⟩⟩

set_option maxHeartbeats 400000 in
theorem groupEnd_any {b rb : Nat} {s : ByteArray} {at_ : Nat} {en : Int} {pv : Value} {g : Nat} {x : Bool} {w : World} (hx : isEsc s ⟨at_, false, g⟩ 41 = x) (h : ER w b s at_ en pv g) (hr : Blk w rb #[.pointer (some ⟨b, 0, none⟩)] 53) (hs : s.size ≤ 1048576) (ha : at_ ≤ s.size) :
    Calls Tryz.prog 112 #[.pointer (some ⟨rb, 0, none⟩)] w fun e w' => e = .returned (.bool x) ∧ ER w' b s (if x then at_ + 2 else at_) en pv g ∧ Kp b w w' := by
  have r0 : w.cell? ⟨rb, 0, none⟩ = some (.pointer (some ⟨b, 0, none⟩)) := hr.cell 0 rfl
  have n1 := nextW_two s at_ g 41
  rw [show (((41 : UInt8).toNat : Nat) : Int) = 41 from rfl, hx] at n1
  have N1 := hide n1
  clear n1 hx
  cases x
  all_goals
    go_enter Tryz.func112, Tryz.ntmps112
    go_wp2_with fail
    refine (takeIf_of2 N1.out h hs ha).mono ?_
    rintro e w1 ⟨rfl, h1, k1⟩
    go_wp2_with fail
    go_ret
    exact ⟨rfl, h1, k1⟩

end Go.Proofs.YtpnecblofjpgfaaGreatDoor
