import Derived.Test.YtpnecblofjpgfaaGreatDoorMatJ
import Derived.Deep.RegionHeld3
namespace Go.Proofs.YtpnecblofjpgfaaGreatDoor
open Go.RowKit Go.Shelf

theorem zeroSet (w : World) : (zeroValue 66).run Tryz.prog w = .ok (.slice none 0 0) w := by
  simp [go_sem]

theorem look_no {C : MC} {w : World} {D : DataW Value} (ok : C.Ok) (h : MS C w D) {i c p : Int} (hu : InU C i c p) (hh : Maps.has D (key3L i c p) = false) :
    (Instr.lookup 61 (.map (some C.mm)) (.agg #[.int .i64 i, .int .i64 c, .int .i64 p]) true).run Tryz.prog w = .ok (.tuple #[.slice none 0 0, .bool false]) w := by
  obtain ⟨n, hown, _⟩ := h.own
  obtain ⟨v, ps, hrun, hv⟩ := hown.look_ok keyedK Tryz.underlying61 (zeroSet w) (zd := .held (.slice none 0 0)) (zp := []) rfl (key3_ok i c p (hu.wf ok).1 (hu.wf ok).2.1 (hu.wf ok).2.2)
  rw [Maps.atKey_of_not_has hh] at hv
  simp only [asIs, Option.some.injEq, Prod.mk.injEq, DataW.held.injEq] at hv
  rw [hh, hv.1] at hrun
  exact hrun

theorem look_yes {C : MC} {w : World} {D : DataW Value} (ok : C.Ok) (h : MS C w D) {i c p : Int} (hu : InU C i c p) (hh : Maps.has D (key3L i c p) = true) {v : Value} (hv : ∀ z, D.atKey (key3L i c p) z = .held v) :
    (Instr.lookup 61 (.map (some C.mm)) (.agg #[.int .i64 i, .int .i64 c, .int .i64 p]) true).run Tryz.prog w = .ok (.tuple #[v, .bool true]) w := by
  obtain ⟨n, hown, _⟩ := h.own
  obtain ⟨v', ps, hrun, hv'⟩ := hown.look_ok keyedK Tryz.underlying61 (zeroSet w) (zd := .held (.slice none 0 0)) (zp := []) rfl (key3_ok i c p (hu.wf ok).1 (hu.wf ok).2.1 (hu.wf ok).2.2)
  rw [hv] at hv'
  simp only [asIs, Option.some.injEq, Prod.mk.injEq, DataW.held.injEq] at hv'
  rw [hh, hv'.1] at hrun
  exact hrun

theorem MS.update {C : MC} {w : World} {D : DataW Value} (ok : C.Ok) (h : MS C w D) {i c p : Int} (hu : InU C i c p) {v : Value} (hv : PSet w v C.s.size (KeyR C i c p)) :
    ∃ w', (Instr.mapUpdate 61 (.map (some C.mm)) (.agg #[.int .i64 i, .int .i64 c, .int .i64 p]) v).run Tryz.prog w = .ok () w' ∧ MS C w' (D.put (key3L i c p) (.held v)) ∧ w.grownBy w' (some C.mm) := by
  obtain ⟨n, hown, hn⟩ := h.own
  have hmax : n < maxLen := by
    have h1 := univ_len C
    have h2 := ok.small
    have h3 := ok.few
    have h4 : (C.all.length + 1) * (12 * (C.s.size + 2)) ≤ 1048577 * (12 * 60002) := Nat.mul_le_mul (by omega) (by omega)
    unfold maxLen
    omega
  obtain ⟨w', hup, hown1, hgr⟩ := hown.update keyedK Tryz.underlying61 hmax (val := v) (d := .held v) (ps := []) (key3_ok i c p (hu.wf ok).1 (hu.wf ok).2.1 (hu.wf ok).2.2) rfl
  exact ⟨w', hup, h.put ok hu hown1 hgr hv, hgr⟩

theorem Kp.undrew {b : Nat} {w w1 : World} (h : Kp b w.drew w1) : Kp b w w1 := ⟨h.os, h.tape, h.output, h.size, h.block⟩
/-- What a call through a function value enters. -/
def Enters (F : FuncId) : Prop := ∀ (a : Array Value) (w : World), (callFunc F a).run Tryz.prog w = .ok (.enter F a) w

set_option maxRecDepth 100000 in
set_option maxHeartbeats 1000000 in
theorem kept_any (C : MC) (ok : C.Ok) (i c p : Int) (hu : InU C i c p) (F : FuncId) (caps : Array Value) (hF1 : Enters F) (w : World) (D : DataW Value) (h : MS C w D)
    (hF : ∀ w1 D1, MS C w1 D1 → Kp C.mm w w1 → Calls Tryz.prog F caps w1 (EndsP C w1 (KeyR C i c p))) :
    Calls Tryz.prog 35 #[.pointer (some ⟨C.mb, 0, none⟩), .agg #[.int .i64 i, .int .i64 c, .int .i64 p], .func (.func F) #[] caps] w (EndsP C w (KeyR C i c p)) := by
  have hb1 : Below w.heap.size w (w.alloc (.cells #[.int .i64 i, .int .i64 c, .int .i64 p] 84)) := (Below.refl _ _).alloc (Nat.le_refl _) _
  have B := Blk.new w #[.int .i64 i, .int .i64 c, .int .i64 p] 84
  have h1 := h.below hb1
  have k0 : (w.alloc (.cells #[.int .i64 i, .int .i64 c, .int .i64 p] 84)).cell? ⟨w.heap.size, 0, none⟩ = some (.int .i64 i) := B.cell 0 rfl
  have k1 : (w.alloc (.cells #[.int .i64 i, .int .i64 c, .int .i64 p] 84)).cell? ⟨w.heap.size, 1, none⟩ = some (.int .i64 c) := B.cell 1 rfl
  have k2 : (w.alloc (.cells #[.int .i64 i, .int .i64 c, .int .i64 p] 84)).cell? ⟨w.heap.size, 2, none⟩ = some (.int .i64 p) := B.cell 2 rfl
  have m2 : (w.alloc (.cells #[.int .i64 i, .int .i64 c, .int .i64 p] 84)).cell? ⟨C.mb, 2, none⟩ = some (.map (some C.mm)) := h1.m.cell 2 rfl
  have HF := hide hF
  have HU := hide hu
  have HH := hide (And.intro h (And.intro h1 (And.intro hb1 B)))
  unfold Enters at hF1
  cases hh : Maps.has D (key3L i c p)
  · have l1 := look_no ok h1 hu hh
    have l2 := look_no ok h1.drew hu hh
    clear h h1 hb1 B hu hF hh
    go_enter Tryz.func35, Tryz.ntmps35
    go_wp2_with fail
    go_region_held3 (fun w' => w'.cell? ⟨C.mb, 2, none⟩ = some (.map (some C.mm)) ∧ w'.cell? ⟨w.heap.size, 0, none⟩ = some (.int .i64 i) ∧ w'.cell? ⟨w.heap.size, 1, none⟩ = some (.int .i64 c) ∧ w'.cell? ⟨w.heap.size, 2, none⟩ = some (.int .i64 p)) (go_keep) (fail)
    go_wp2_with fail
    obtain ⟨h, h1, hb1, B⟩ := HH.out
    refine (HF.out _ D h1.drew ((Kp.below hb1).drew)).mono ?_
    rintro e w2 ⟨v, D2, rfl, hv, h2, K2⟩
    have B2 : Blk w2 w.heap.size #[.int .i64 i, .int .i64 c, .int .i64 p] 84 := Blk.kpm (h := B) h1 K2.undrew
    obtain ⟨w3, hup, h3, hg3⟩ := h2.drew.update ok HU.out hv
    have j0 : w2.cell? ⟨w.heap.size, 0, none⟩ = some (.int .i64 i) := B2.cell 0 rfl
    have j1 : w2.cell? ⟨w.heap.size, 1, none⟩ = some (.int .i64 c) := B2.cell 1 rfl
    have j2 : w2.cell? ⟨w.heap.size, 2, none⟩ = some (.int .i64 p) := B2.cell 2 rfl
    have m3 : w2.cell? ⟨C.mb, 2, none⟩ = some (.map (some C.mm)) := h2.m.cell 2 rfl
    have B3 : Blk w3 w.heap.size #[.int .i64 i, .int .i64 c, .int .i64 p] 84 := by
      have := hg3.block w.heap.size B2.lt (fun e => h2.notMap B2 (Option.some.inj e))
      unfold Blk at B2 ⊢
      rw [this]; exact B2
    have i0 : w3.cell? ⟨w.heap.size, 0, none⟩ = some (.int .i64 i) := B3.cell 0 rfl
    have i1 : w3.cell? ⟨w.heap.size, 1, none⟩ = some (.int .i64 c) := B3.cell 1 rfl
    have i2 : w3.cell? ⟨w.heap.size, 2, none⟩ = some (.int .i64 p) := B3.cell 2 rfl
    have m4 : w3.cell? ⟨C.mb, 2, none⟩ = some (.map (some C.mm)) := h3.m.cell 2 rfl
    have HE := hide (And.intro h3 (And.intro hg3 (And.intro hv (And.intro h2 (And.intro K2 hb1)))))
    clear h h1 hb1 B K2 B2 B3 hv h2 h3 hg3 k0 k1 k2 m2
    obtain ⟨g, cap, rfl, -, -⟩ := HE.out.2.2.1.form
    go_wp2_with fail
    go_region_held3 (fun w' => w'.cell? ⟨C.mb, 2, none⟩ = some (.map (some C.mm)) ∧ w'.cell? ⟨w.heap.size, 0, none⟩ = some (.int .i64 i) ∧ w'.cell? ⟨w.heap.size, 1, none⟩ = some (.int .i64 c) ∧ w'.cell? ⟨w.heap.size, 2, none⟩ = some (.int .i64 p)) (go_keep) (fail)
    go_wp2_with fail
    go_ret
    obtain ⟨h3, hg3, hv, h2, K2, hb1⟩ := HE.out
    have K3 : Kp C.mm w2 w3 := ⟨hg3.os, hg3.tape, hg3.output, hg3.size, fun k hk hne => hg3.block k hk (fun e => hne (Option.some.inj e))⟩
    exact ⟨_, _, rfl, hv.kp h2 K3, h3, ((Kp.below hb1).trans K2.undrew).trans K3⟩
  · obtain ⟨v, hv, hset⟩ := h1.inv _ _ _ hu hh
    have l1 := look_yes ok h1.drew hu hh hv
    obtain ⟨g, cap, rfl, -, -⟩ := hset.form
    have HS := hide hset
    clear h h1 hb1 B hu hF hh hset hv
    go_enter Tryz.func35, Tryz.ntmps35
    go_wp2_with fail
    go_region_held3 (fun w' => w'.cell? ⟨C.mb, 2, none⟩ = some (.map (some C.mm)) ∧ w'.cell? ⟨w.heap.size, 0, none⟩ = some (.int .i64 i) ∧ w'.cell? ⟨w.heap.size, 1, none⟩ = some (.int .i64 c) ∧ w'.cell? ⟨w.heap.size, 2, none⟩ = some (.int .i64 p)) (go_keep) (fail)
    go_wp2_with fail
    go_ret
    obtain ⟨h, h1, hb1, B⟩ := HH.out
    exact ⟨_, D, rfl, HS.out, h1.drew, (Kp.below hb1).drew⟩
end Go.Proofs.YtpnecblofjpgfaaGreatDoor
