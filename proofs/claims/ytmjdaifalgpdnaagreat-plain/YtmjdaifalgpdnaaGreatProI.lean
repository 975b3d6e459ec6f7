import Derived.Test.YtmjdaifalgpdnaaGreatProH
namespace Go.Proofs.YtmjdaifalgpdnaaGreat
open Go.RowKit

section
variable {w : World} {k : Nat} {t : TypeId} {a0 a1 a2 a3 a4 a5 a6 a7 a8 : Value}
theorem Blk.nine (h : Blk w k #[a0, a1, a2, a3, a4, a5, a6, a7, a8] t) : w.cell? ⟨k, 0, none⟩ = some a0 ∧ w.cell? ⟨k, 1, none⟩ = some a1 ∧ w.cell? ⟨k, 2, none⟩ = some a2 ∧ w.cell? ⟨k, 3, none⟩ = some a3 ∧ w.cell? ⟨k, 4, none⟩ = some a4 ∧ w.cell? ⟨k, 5, none⟩ = some a5 ∧ w.cell? ⟨k, 6, none⟩ = some a6 ∧ w.cell? ⟨k, 7, none⟩ = some a7 ∧ w.cell? ⟨k, 8, none⟩ = some a8 ∧ ∀ o, w.frozen? ⟨k, o, none⟩ = false :=
  ⟨h.cell 0 rfl, h.cell 1 rfl, h.cell 2 rfl, h.cell 3 rfl, h.cell 4 rfl, h.cell 5 rfl, h.cell 6 rfl, h.cell 7 rfl, h.cell 8 rfl, h.fz⟩
set_option maxHeartbeats 800000 in
theorem Blk.put9 (h : Blk w k #[a0, a1, a2, a3, a4, a5, a6, a7, a8] t) (b0 b1 b2 b3 b4 b5 b6 b7 b8 : Value) :
    Blk (((((((((w.setCell ⟨k, 0, none⟩ b0).setCell ⟨k, 1, none⟩ b1).setCell ⟨k, 2, none⟩ b2).setCell ⟨k, 3, none⟩ b3).setCell ⟨k, 4, none⟩ b4).setCell ⟨k, 5, none⟩ b5).setCell ⟨k, 6, none⟩ b6).setCell ⟨k, 7, none⟩ b7).setCell ⟨k, 8, none⟩ b8) k #[b0, b1, b2, b3, b4, b5, b6, b7, b8] t :=
  have q0 := h
  have q1 := q0.set 0 b0 (c' := #[b0, a1, a2, a3, a4, a5, a6, a7, a8]) rfl
  have q2 := q1.set 1 b1 (c' := #[b0, b1, a2, a3, a4, a5, a6, a7, a8]) rfl
  have q3 := q2.set 2 b2 (c' := #[b0, b1, b2, a3, a4, a5, a6, a7, a8]) rfl
  have q4 := q3.set 3 b3 (c' := #[b0, b1, b2, b3, a4, a5, a6, a7, a8]) rfl
  have q5 := q4.set 4 b4 (c' := #[b0, b1, b2, b3, b4, a5, a6, a7, a8]) rfl
  have q6 := q5.set 5 b5 (c' := #[b0, b1, b2, b3, b4, b5, a6, a7, a8]) rfl
  have q7 := q6.set 6 b6 (c' := #[b0, b1, b2, b3, b4, b5, b6, a7, a8]) rfl
  have q8 := q7.set 7 b7 (c' := #[b0, b1, b2, b3, b4, b5, b6, b7, a8]) rfl
  have q9 := q8.set 8 b8 (c' := #[b0, b1, b2, b3, b4, b5, b6, b7, b8]) rfl
  q9
theorem kq_setNew {b : Nat} {row : Option Nat} {W w : World} (h : Kq b row W w) {p : Addr} (hp : W.heap.size ≤ p.block) (u : Value) : Kq b row W (w.setCell p u) :=
  ⟨h.os, h.tape, h.output, by simpa [World.setCell] using h.size, fun k hk hb hr => (Below.heap_setCell _ _ _ _ (by omega)).trans (h.block k hk hb hr)⟩
theorem kq_alloc {b : Nat} {row : Option Nat} {W w : World} (h : Kq b row W w) (o : Obj) : Kq b row W (w.alloc o) :=
  ⟨h.os, h.tape, h.output, by have := h.size; simp; omega, fun k hk hb hr => (Below.heap_alloc _ _ _ (Nat.lt_of_lt_of_le hk h.size)).trans (h.block k hk hb hr)⟩
theorem kq_put9 {b : Nat} {row : Option Nat} {W w : World} (h : Kq b row W w) {k : Nat} (hk : W.heap.size ≤ k) (b0 b1 b2 b3 b4 b5 b6 b7 b8 : Value) : Kq b row W (((((((((w.setCell ⟨k, 0, none⟩ b0).setCell ⟨k, 1, none⟩ b1).setCell ⟨k, 2, none⟩ b2).setCell ⟨k, 3, none⟩ b3).setCell ⟨k, 4, none⟩ b4).setCell ⟨k, 5, none⟩ b5).setCell ⟨k, 6, none⟩ b6).setCell ⟨k, 7, none⟩ b7).setCell ⟨k, 8, none⟩ b8) :=
  (kq_setNew (kq_setNew (kq_setNew (kq_setNew (kq_setNew (kq_setNew (kq_setNew (kq_setNew (kq_setNew h hk b0) hk b1) hk b2) hk b3) hk b4) hk b5) hk b6) hk b7) hk b8)
theorem ER.put9 {w : World} {b : Nat} {s : ByteArray} {at_ g : Nat} {en : Int} {pv : Value} (h : ER w b s at_ en pv g) {k : Nat} (hk : k ≠ b) (b0 b1 b2 b3 b4 b5 b6 b7 b8 : Value) : ER (((((((((w.setCell ⟨k, 0, none⟩ b0).setCell ⟨k, 1, none⟩ b1).setCell ⟨k, 2, none⟩ b2).setCell ⟨k, 3, none⟩ b3).setCell ⟨k, 4, none⟩ b4).setCell ⟨k, 5, none⟩ b5).setCell ⟨k, 6, none⟩ b6).setCell ⟨k, 7, none⟩ b7).setCell ⟨k, 8, none⟩ b8) b s at_ en pv g :=
  (((((((((h.other hk b0).other hk b1).other hk b2).other hk b3).other hk b4).other hk b5).other hk b6).other hk b7).other hk b8)
theorem Flat.put9 {w : World} {pv : Value} {ps : List PP} (h : Flat w pv ps) {k : Nat} (hk : pv.ownBlock ≠ some k) (b0 b1 b2 b3 b4 b5 b6 b7 b8 : Value) : Flat (((((((((w.setCell ⟨k, 0, none⟩ b0).setCell ⟨k, 1, none⟩ b1).setCell ⟨k, 2, none⟩ b2).setCell ⟨k, 3, none⟩ b3).setCell ⟨k, 4, none⟩ b4).setCell ⟨k, 5, none⟩ b5).setCell ⟨k, 6, none⟩ b6).setCell ⟨k, 7, none⟩ b7).setCell ⟨k, 8, none⟩ b8) pv ps :=
  (((((((((h.set hk b0).set hk b1).set hk b2).set hk b3).set hk b4).set hk b5).set hk b6).set hk b7).set hk b8)
theorem ret_part98 {fn : Func} {p : Tmp} (hres : fn.results = #[.cell p 167]) {tmps : Array Value} (ht : tmps.getD p undef = .pointer (some ⟨k, 0, none⟩)) (h : Blk w k #[a0, a1, a2, a3, a4, a5, a6, a7, a8] 167) :
    (results fn tmps).run Tryz.prog w = .ok (.agg #[a0, a1, a2, a3, a4, a5, a6, a7, a8]) w := by
  obtain ⟨c0, c1, c2, c3, c4, c5, c6, c7, c8, _⟩ := h.nine
  have ht' : tmps[p]?.getD undef = .pointer (some ⟨k, 0, none⟩) := by simpa using ht
  simp [results, hres, ht', go_sem, c0, c1, c2, c3, c4, c5, c6, c7, c8]
end

/-- What atom and escaped do. -/
def AtomPost (w : World) (b : Nat) (s : ByteArray) (en : Int) (pv : Value) (ps : List PP) (r : Part × St) (e : Ending) (w' : World) : Prop :=
  Kq b pv.ownBlock w w' ∧ ((r.2.bad = false ∧ ∃ W group inner pv' ks, e = .returned (.agg #[.int .u64 (W 0 : Nat), .int .u64 (W 1 : Nat), .int .u64 (W 2 : Nat), .int .u64 (W 3 : Nat), .int .i64 group, .int .i64 inner, .int .i64 0, .int .i64 0, .int .i64 0]) ∧ LayA ps.length r.1 W group inner ks ∧ Flat w' pv' (ps ++ ks) ∧ ER w' b s r.2.i en pv' r.2.g ∧ pv'.ownBlock ≠ some b ∧ Fresh w pv.ownBlock pv'.ownBlock ∧ (ps ++ ks).length ≤ r.2.i) ∨ (r.2.bad = true ∧ e = .panicked (gaveUp en r.2.i)))

def PEscC (n : Nat) : Prop := ∀ (b : Nat) (s : ByteArray) (at_ : Nat) (en : Int) (pv : Value) (g : Nat) (ps : List PP) (w : World), ER w b s at_ en pv g → Flat w pv ps → pv.ownBlock ≠ some b → s.size ≤ 1048576 → at_ ≤ s.size → g ≤ 9 → ps.length ≤ at_ → 2 * (s.size - at_) + 1 ≤ n →
  Calls Tryz.prog 109 #[.pointer (some ⟨b, 0, none⟩)] w fun e w' => AtomPost w b s en pv ps (escS s n ⟨at_, false, g⟩) e w'

def PAtomC (n : Nat) : Prop := ∀ (b : Nat) (s : ByteArray) (at_ : Nat) (en : Int) (pv : Value) (g : Nat) (ps : List PP) (w : World), ER w b s at_ en pv g → Flat w pv ps → pv.ownBlock ≠ some b → s.size ≤ 1048576 → at_ ≤ s.size → g ≤ 9 → ps.length ≤ at_ + 1 → 2 * (s.size - at_) ≤ n →
  Calls Tryz.prog 104 #[.pointer (some ⟨b, 0, none⟩)] w fun e w' => AtomPost w b s en pv ps (atomT s n ⟨at_, false, g⟩) e w'

theorem others_zero {w : World} : Calls Tryz.prog 107 #[.agg #[.int .u64 0, .int .u64 0, .int .u64 0, .int .u64 0]] w fun e w' => ∃ X, e = .returned (.agg #[.int .u64 (X 0 : Nat), .int .u64 (X 1 : Nat), .int .u64 (X 2 : Nat), .int .u64 (X 3 : Nat)]) ∧ Holds4 X (fun _ => true) ∧ Below w.heap.size w w' :=
  (others_of (V := fun _ => 0) (M := fun _ => false) ⟨fun _ => (by show 0 < 18446744073709551616; omega), fun c _ => Nat.zero_testBit _⟩).mono fun _ _ h => h
theorem oneByte_of {c : Nat} (hc : c < 256) {w : World} : Calls Tryz.prog 110 #[.int .u8 c] w fun e w' => ∃ X, e = .returned (.agg #[.int .u64 (X 0 : Nat), .int .u64 (X 1 : Nat), .int .u64 (X 2 : Nat), .int .u64 (X 3 : Nat)]) ∧ Holds4 X (fun z => decide (z = c)) ∧ Below w.heap.size w w' := by
  refine (oneByte_any c hc w).mono ?_
  rintro e w' ⟨x, rfl, ⟨X, rfl, hX⟩, hb⟩
  exact ⟨X, rfl, hX, hb⟩

def starB : ByteArray := ⟨#[42, 47, 94, 36, 10]⟩
def z9 : Array Value := #[.int .u64 0, .int .u64 0, .int .u64 0, .int .u64 0, .int .i64 0, .int .i64 0, .int .i64 0, .int .i64 0, .int .i64 0]

set_option maxRecDepth 100000 in
set_option maxHeartbeats 1600000 in
theorem patom_any (n : Nat) (ih : PEscC n) : PAtomC n := by
  intro b s at_ en pv g ps w h hfl hpb hs ha hg hpl hn
  have IH := hide ih
  clear ih
  have hbl := h.lt
  have hB := Blk.new w #[.int .u64 0, .int .u64 0, .int .u64 0, .int .u64 0, .int .i64 0, .int .i64 0, .int .i64 0, .int .i64 0, .int .i64 0] 167
  have h1 := h.alloc (.cells #[.int .u64 0, .int .u64 0, .int .u64 0, .int .u64 0, .int .i64 0, .int .i64 0, .int .i64 0, .int .i64 0, .int .i64 0] 167)
  have f1 := hfl.alloc (.cells #[.int .u64 0, .int .u64 0, .int .u64 0, .int .u64 0, .int .i64 0, .int .i64 0, .int .i64 0, .int .i64 0, .int .i64 0] 167)
  have k1 := (Kp.refl b w).alloc (.cells #[.int .u64 0, .int .u64 0, .int .u64 0, .int .u64 0, .int .i64 0, .int .i64 0, .int .i64 0, .int .i64 0, .int .i64 0] 167)
  have hpl2 := hfl.lt
  have hpn : pv.ownBlock ≠ some w.heap.size := fun e => by have := hpl2 _ e; omega
  have HPL := hide (And.intro hpl2 (And.intro hpn hpb))
  clear hpl2 hpn hpb
  have hrd := h1.rd
  by_cases hlt : at_ < s.size
  · have hpc : peekC s ⟨at_, false, g⟩ = ((s[at_]'hlt).toNat : Int) := by simp [peekC, hlt]
    have hpo : peekOk s ⟨at_, false, g⟩ = true := by simp [peekOk, hlt]
    have hb1 := (s[at_]'hlt).toNat_lt
    have hnx : nextOf s at_ starB = hasL starL (peekC s ⟨at_, false, g⟩) := by rw [nextOf_peek s at_ g, hpo]; rfl
    cases hnv : hasL starL (peekC s ⟨at_, false, g⟩)
    · rw [hnv] at hnx
      have HN := hide hnx
      have HC : Hid (¬ (peekOk s ⟨at_, false, g⟩ = false ∨ hasL starL (peekC s ⟨at_, false, g⟩) = true)) := by rw [Hid, hpo, hnv]; simp
      have HPC := hide hpc
      clear hnx hnv hpc hpo
      by_cases hd : (s[at_].toNat : Int) = 46
      · have HE : Hid (atomT s n ⟨at_, false, g⟩ = (.mk 0 [] false ⟨#[byteOf 0, byteOf 255]⟩ 1 1, ⟨at_ + 1, false, g⟩)) := by rw [Hid, atomT, if_neg HC.out, if_pos (by rw [HPC.out]; exact hd)]; rfl
        have hc1 : ((s[at_].toNat : Int) == 46) = true := by simp [hd]
        have HD := hide hd
        clear hd
        go_enter Tryz.func104, Tryz.ntmps104
        go_wp2_with fail
        refine (takeOther_ok b s at_ en starB _ hrd hs hlt HN.out).mono ?_
        rintro e w1 ⟨rfl, hm⟩
        have h2 := h1.moved hm
        have k2 := k1.trans hm.kp
        have B2 := hB.kp hm.kp (by omega)
        have f2 := f1.kp hm.kp HPL.out.2.2
        go_wp2_with fail
        refine (others_zero).mono ?_
        rintro e w3 ⟨X, rfl, hX, hb⟩
        have B3 := B2.below hb
        have h3 := h2.below hb
        have f3 := f2.kp (Kp.below (b := b) hb) HPL.out.2.2
        have k3 := k2.trans (Kp.below (b := b) hb)
        have HX := hide hX
        clear hX
        obtain ⟨c0, c1, c2, c3, c4, c5, c6, c7, c8, cf⟩ := B3.nine
        go_wp2_with fail
        refine bodyPost_ret (ret_part98 Tryz.results104 rfl (B3.put9 _ _ _ _ _ _ _ _ _)) rfl ?_
        rw [HE.out]
        refine ⟨kq_put9 (Kq.of_kp k3) (Nat.le_refl _) _ _ _ _ _ _ _ _ _, .inl ⟨rfl, X, 0, 0, pv, [], rfl, ?_, ?_, ?_, HPL.out.2.2, Fresh.refl _ _, ?_⟩⟩
        · rw [LayA, if_pos rfl]
          exact ⟨rfl, rfl, HX.out.congr (fun c hc => (oneB_dot c hc).symm)⟩
        · rw [List.append_nil]; exact f3.put9 HPL.out.2.1 _ _ _ _ _ _ _ _ _
        · exact h3.put9 (by omega) _ _ _ _ _ _ _ _ _
        · rw [List.append_nil]; exact hpl
      by_cases he : (s[at_].toNat : Int) = 91
      · have HE : Hid (atomT s n ⟨at_, false, g⟩ = (.mk 0 [] (setS s (s.size + 2) ⟨at_ + 1, false, g⟩).1.1 (setS s (s.size + 2) ⟨at_ + 1, false, g⟩).1.2 1 1, (setS s (s.size + 2) ⟨at_ + 1, false, g⟩).2)) := by rw [Hid, atomT, if_neg HC.out, if_neg (by rw [HPC.out]; exact hd), if_pos (by rw [HPC.out]; exact he)]; rfl
        have hc1 : ((s[at_].toNat : Int) == 46) = false := by simpa using hd
        have hc2 : ((s[at_].toNat : Int) == 91) = true := by simp [he]
        have HD := hide he
        have hsg := set_g s (s.size + 2) ⟨at_ + 1, false, g⟩
        have hsf := (Fwd.set (s := s) (st := ⟨at_ + 1, false, g⟩) (s.size + 2) (by show at_ + 1 ≤ s.size; omega)).1
        clear hd he
        go_enter Tryz.func104, Tryz.ntmps104
        go_wp2_with fail
        refine (takeOther_ok b s at_ en starB _ hrd hs hlt HN.out).mono ?_
        rintro e w1 ⟨rfl, hm⟩
        have h2 := h1.moved hm
        have k2 := k1.trans hm.kp
        have B2 := hB.kp hm.kp (by omega)
        have f2 := f1.kp hm.kp HPL.out.2.2
        go_wp2_with fail
        refine (class_any b s (at_ + 1) en pv g (s.size + 2) _ h2 hs (by omega) (by omega)).mono ?_
        rintro e w3 ⟨k3, hT⟩
        generalize setS s (s.size + 2) ⟨at_ + 1, false, g⟩ = q at *
        obtain ⟨⟨neg, sp⟩, st2⟩ := q
        dsimp only at hT hsg hsf HE
        rcases hT with ⟨hbd, ⟨X, rfl, hX⟩, h3⟩ | ⟨hbd, rfl⟩
        · have B3 := B2.kp k3 (by omega)
          have f3 := f2.kp k3 HPL.out.2.2
          have k4 := k2.trans k3
          have HX := hide hX
          clear hX
          obtain ⟨c0, c1, c2, c3, c4, c5, c6, c7, c8, cf⟩ := B3.nine
          go_wp2_with fail
          refine bodyPost_ret (ret_part98 Tryz.results104 rfl (B3.put9 _ _ _ _ _ _ _ _ _)) rfl ?_
          rw [HE.out]
          refine ⟨kq_put9 (Kq.of_kp k4) (Nat.le_refl _) _ _ _ _ _ _ _ _ _, .inl ⟨hbd, X, 0, 0, pv, [], rfl, ?_, ?_, ?_, HPL.out.2.2, Fresh.refl _ _, ?_⟩⟩
          · rw [LayA, if_pos rfl]
            exact ⟨rfl, rfl, HX.out⟩
          · rw [List.append_nil]; exact f3.put9 HPL.out.2.1 _ _ _ _ _ _ _ _ _
          · rw [hsg]; exact h3.put9 (by omega) _ _ _ _ _ _ _ _ _
          · rw [List.append_nil]; show ps.length ≤ st2.i; omega
        · refine ⟨rfl, ?_⟩
          rw [HE.out]
          exact ⟨Kq.of_kp (k2.trans k3), .inr ⟨hbd, rfl⟩⟩
      by_cases hf : (s[at_].toNat : Int) = 92
      · have HE : Hid (atomT s n ⟨at_, false, g⟩ = escS s n ⟨at_ + 1, false, g⟩) := by rw [Hid, atomT, if_neg HC.out, if_neg (by rw [HPC.out]; exact hd), if_neg (by rw [HPC.out]; exact he), if_pos (by rw [HPC.out]; exact hf)]; rfl
        have hc1 : ((s[at_].toNat : Int) == 46) = false := by simpa using hd
        have hc2 : ((s[at_].toNat : Int) == 91) = false := by simpa using he
        have hc3 : ((s[at_].toNat : Int) == 92) = true := by simp [hf]
        have HD := hide hf
        clear hd he hf
        go_enter Tryz.func104, Tryz.ntmps104
        go_wp2_with fail
        refine (takeOther_ok b s at_ en starB _ hrd hs hlt HN.out).mono ?_
        rintro e w1 ⟨rfl, hm⟩
        have h2 := h1.moved hm
        have k2 := k1.trans hm.kp
        have B2 := hB.kp hm.kp (by omega)
        have f2 := f1.kp hm.kp HPL.out.2.2
        go_wp2_with fail
        refine (IH.out b s (at_ + 1) en pv g ps _ h2 f2 HPL.out.2.2 hs (by omega) hg (by omega) (by omega)).mono ?_
        rintro e w3 ⟨k3, hT⟩
        generalize escS s n ⟨at_ + 1, false, g⟩ = q at *
        have k4 : Kq b pv.ownBlock w w3 := (Kq.of_kp (row := pv.ownBlock) k2).trans k3 (.inl rfl)
        rcases hT with ⟨hbd, W, group, inner, pv', ks, rfl, hlay, f3, h3, hpb3, hfr, hln⟩ | ⟨hbd, rfl⟩
        · have B3 := B2.kq k3 (by omega) (fun e => HPL.out.2.1 e.symm)
          have hw2 := B2.lt
          have hpn3 : pv'.ownBlock ≠ some w.heap.size := by
            intro e
            rcases hfr with e2 | e2
            · exact HPL.out.2.1 (e2.symm.trans e)
            · have := e2 _ e; omega
          have hfr2 : Fresh w pv.ownBlock pv'.ownBlock := (Fresh.refl w _).trans hfr k2.size
          have HX := hide (And.intro hlay (And.intro hln (And.intro hpb3 (And.intro hpn3 hfr2))))
          clear hlay hln hpb3 hpn3 hfr2 hfr
          obtain ⟨c0, c1, c2, c3, c4, c5, c6, c7, c8, cf⟩ := B3.nine
          go_wp2_with fail
          refine bodyPost_ret (ret_part98 Tryz.results104 rfl (B3.put9 _ _ _ _ _ _ _ _ _)) rfl ?_
          rw [HE.out]
          obtain ⟨hlay, hln, hpb3, hpn3, hfr2⟩ := HX.out
          exact ⟨kq_put9 k4 (Nat.le_refl _) _ _ _ _ _ _ _ _ _, .inl ⟨hbd, W, group, inner, pv', ks, rfl, hlay, f3.put9 hpn3 _ _ _ _ _ _ _ _ _, h3.put9 (by omega) _ _ _ _ _ _ _ _ _, hpb3, hfr2, hln⟩⟩
        · refine ⟨rfl, ?_⟩
          rw [HE.out]
          exact ⟨k4, .inr ⟨hbd, rfl⟩⟩
      · have HE : Hid (atomT s n ⟨at_, false, g⟩ = (.mk 0 [] false ⟨#[byteOf (s[at_].toNat : Int), byteOf (s[at_].toNat : Int)]⟩ 1 1, ⟨at_ + 1, false, g⟩)) := by rw [Hid, atomT, if_neg HC.out, if_neg (by rw [HPC.out]; exact hd), if_neg (by rw [HPC.out]; exact he), if_neg (by rw [HPC.out]; exact hf), HPC.out]; rfl
        have hc1 : ((s[at_].toNat : Int) == 46) = false := by simpa using hd
        have hc2 : ((s[at_].toNat : Int) == 91) = false := by simpa using he
        have hc3 : ((s[at_].toNat : Int) == 92) = false := by simpa using hf
        clear hd he hf
        go_enter Tryz.func104, Tryz.ntmps104
        go_wp2_with fail
        refine (takeOther_ok b s at_ en starB _ hrd hs hlt HN.out).mono ?_
        rintro e w1 ⟨rfl, hm⟩
        have h2 := h1.moved hm
        have k2 := k1.trans hm.kp
        have B2 := hB.kp hm.kp (by omega)
        have f2 := f1.kp hm.kp HPL.out.2.2
        go_wp2_with fail
        refine (oneByte_of (c := s[at_].toNat) (by omega)).mono ?_
        rintro e w3 ⟨X, rfl, hX, hb⟩
        have B3 := B2.below hb
        have h3 := h2.below hb
        have f3 := f2.kp (Kp.below (b := b) hb) HPL.out.2.2
        have k3 := k2.trans (Kp.below (b := b) hb)
        have HX := hide hX
        clear hX
        obtain ⟨c0, c1, c2, c3, c4, c5, c6, c7, c8, cf⟩ := B3.nine
        go_wp2_with fail
        refine bodyPost_ret (ret_part98 Tryz.results104 rfl (B3.put9 _ _ _ _ _ _ _ _ _)) rfl ?_
        rw [HE.out]
        refine ⟨kq_put9 (Kq.of_kp k3) (Nat.le_refl _) _ _ _ _ _ _ _ _ _, .inl ⟨rfl, X, 0, 0, pv, [], rfl, ?_, ?_, ?_, HPL.out.2.2, Fresh.refl _ _, ?_⟩⟩
        · rw [LayA, if_pos rfl]
          exact ⟨rfl, rfl, HX.out.congr (fun c hc => by rw [oneB_single _ (by omega) (by omega), Bool.eq_iff_iff]; simp; omega)⟩
        · rw [List.append_nil]; exact f3.put9 HPL.out.2.1 _ _ _ _ _ _ _ _ _
        · exact h3.put9 (by omega) _ _ _ _ _ _ _ _ _
        · rw [List.append_nil]; exact hpl
    · have HE : Hid (atomT s n ⟨at_, false, g⟩ = (emptyP, ⟨at_, true, g⟩)) := by rw [Hid, atomT, if_pos (.inr hnv)]; rfl
      rw [hnv] at hnx
      have HN := hide hnx
      clear hnx hnv hpc hpo
      go_enter Tryz.func104, Tryz.ntmps104
      go_wp2_with fail
      refine (takeOther_bad b s at_ en starB _ hrd hs HN.out).mono ?_
      rintro e w1 ⟨rfl, m, rfl⟩
      refine ⟨rfl, ?_⟩
      rw [HE.out]
      exact ⟨Kq.of_kp (k1.drewN m), .inr ⟨rfl, rfl⟩⟩
  · obtain rfl : at_ = s.size := by omega
    have HE : Hid (atomT s n ⟨s.size, false, g⟩ = (emptyP, ⟨s.size, true, g⟩)) := by rw [Hid, atomT, if_pos (by simp [peekOk])]; rfl
    go_enter Tryz.func104, Tryz.ntmps104
    go_wp2_with fail
    refine (takeOther_end b s en starB _ hrd hs).mono ?_
    rintro e w1 ⟨rfl, m, rfl⟩
    refine ⟨rfl, ?_⟩
    rw [HE.out]
    exact ⟨Kq.of_kp (k1.drewN m), .inr ⟨rfl, rfl⟩⟩

end Go.Proofs.YtmjdaifalgpdnaaGreat
