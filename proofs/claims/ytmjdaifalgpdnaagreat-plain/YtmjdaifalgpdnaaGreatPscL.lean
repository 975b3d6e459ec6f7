import Derived.Test.YtmjdaifalgpdnaaGreatPscJ
import Derived.Deep.RegionLaw
namespace Go.Proofs.YtmjdaifalgpdnaaGreat
open Go.RowKit

theorem addr_gt (s : ByteArray) (n : Nat) (st : St) (_hi : st.i ≤ s.size) (hok : amongB s st addrL = true) : st.i < (addrS s n st).2.i := by
  have hlt := amongB_lt hok
  have ha : (adv st).i = st.i + 1 := rfl
  rcases addr_ways s n st hok with ⟨_, h, _⟩ | ⟨_, h, _⟩ | ⟨_, _, h, _⟩
  · rw [h]; omega
  · have := (pattern_le s n (adv st) (by omega)).1
    rw [h]; omega
  · have := (num_le s 3 (peekC s st - 48) (adv st) (by omega)).1
    rw [h]; omega
/-- Something stands ahead of the letter if and only if there is an address. -/
theorem addrs_some (s : ByteArray) (n : Nat) (st : St) (hi : st.i ≤ s.size) : ((addrsS s n st).1 = 0 ↔ (addrsS s n st).2.i = st.i) := by
  have hle := addr_le s n st hi
  rcases addrs_ways s n st with ⟨_, h⟩ | ⟨h1, h2, h3, h4⟩ | ⟨h1, h2, h3, h5, h4⟩ | ⟨h1, h2, h3, h5, h4⟩
  · rw [h]; simp
  · have := addr_gt s n st hi h1
    rw [h4]
    exact ⟨fun h => absurd h h2, fun h => by omega⟩
  · have := addr_gt s n st hi h1
    rw [h4]
    exact ⟨fun h => absurd h h2, fun h => by omega⟩
  · have := addr_gt s n st hi h1
    have hl := peekOk_lt (isB_ok h5)
    have ha : (adv (addrS s n st).2).i = (addrS s n st).2.i + 1 := rfl
    have hg : (adv (addrS s n st).2).i ≤ (addr1S s n (adv (addrS s n st).2)).i := by
      unfold addr1S
      split
      · exact (addr_le s n _ (by omega)).1
      · exact Nat.le_refl _
    rw [h4]
    exact ⟨fun h => absurd h h2, fun h => by omega⟩

theorem cmd_bad {s : ByteArray} {n nest : Nat} {full : Bool} {st : St} (h : (addrsS s n st).2.bad = true) : (commandS s n nest full st).2 = (addrsS s n st).2 := by
  unfold commandS
  dsimp only
  rw [if_pos h]
theorem blk_le {s : ByteArray} {st : St} {n nest : Nat} {op : Int} (h : st.i ≤ s.size) (hn : 2 * (s.size - st.i) + 2 ≤ n) : (blkS s n nest op st).i ≤ s.size := by
  unfold blkS
  split
  · show st.i - 1 ≤ s.size; omega
  · exact (On.rest op h hn).2
/-- A command, as the program comes to it. -/
theorem cmd_eq {s : ByteArray} {n nest : Nat} {full : Bool} {st q : St} {kind : Int} {nt sm : Bool} (hb : (addrsS s n st).2.bad = false) (hk : (addrsS s n st).1 = kind) (hq : advIf s 33 (blanksS s (s.size + 1) (addrsS s n st).2) = q) (hnt : isB s (blanksS s (s.size + 1) (addrsS s n st).2) 33 = nt) (hsm : sm = true ↔ ¬ (kind = 0 ∧ nt = false)) :
    ((letS s full sm q).bad = true ∧ (commandS s n nest full st).2 = letS s full sm q) ∨
    ((letS s full sm q).bad = false ∧ letS s full sm q = adv q ∧ amongB s q cmdL = true ∧ (commandS s n nest full st).2.bad = (blkS s n nest (peekC s q) (adv q)).bad ∧ (commandS s n nest full st).2.i = (blkS s n nest (peekC s q) (adv q)).i ∧ ((blkS s n nest (peekC s q) (adv q)).bad = false → commandS s n nest full st = (⟨peekC s q, q.i, restT s (peekC s q) (adv q), plainC s st.i (addrsS s n st).2.i nt q.i (blkS s n nest (peekC s q) (adv q)).i⟩, blkS s n nest (peekC s q) (adv q)))) := by
  have hC : commandS s n nest full st = if letterBad s nest full kind nt q then (⟨0, 0, ⟨#[]⟩, ⟨#[]⟩⟩, spoil q) else (⟨peekC s q, q.i, restT s (peekC s q) (adv q), plainC s st.i (addrsS s n st).2.i nt q.i (restS s n (peekC s q) (adv q)).i⟩, restS s n (peekC s q) (adv q)) := by
    unfold commandS
    dsimp only
    rw [if_neg (by rw [hb]; simp), hk, hq, hnt]
  have hqb : q.bad = false := by rw [← hq, advIf_bb, blanks_b]; exact hb
  by_cases hl : amongB s q cmdL = false ∨ full = true ∨ (sm = true ∧ (peekC s q = 125 ∨ peekC s q = 58))
  · left
    have e1 : letS s full sm q = spoil q := by unfold letS; rw [if_pos hl]
    have hlb : letterBad s nest full kind nt q := by
      unfold letterBad
      rcases hl with h | h | ⟨h, h'⟩
      · unfold amongB at h
        simp only [Bool.and_eq_false_iff] at h
        rcases h with h | h
        · exact .inl h
        · exact .inr (.inr (.inl h))
      · exact .inr (.inl h)
      · exact .inr (.inr (.inr (.inl ⟨hsm.1 h, h'⟩)))
    rw [e1, hC, if_pos hlb]
    exact ⟨rfl, rfl⟩
  · right
    have e1 : letS s full sm q = adv q := by unfold letS; rw [if_neg hl]
    simp only [not_or] at hl
    have hcm : amongB s q cmdL = true := by simpa using hl.1
    have hpk : peekOk s q = true ∧ hasL cmdL (peekC s q) = true := by simpa [amongB] using hcm
    by_cases hbk : (peekC s q = 123 ∧ 6 ≤ nest) ∨ (peekC s q = 125 ∧ nest = 0)
    · have e2 : blkS s n nest (peekC s q) (adv q) = { adv q with i := (adv q).i - 1, bad := true } := by unfold blkS; rw [if_pos hbk]
      have hlb : letterBad s nest full kind nt q := by
        unfold letterBad
        rcases hbk with h | h
        · exact .inr (.inr (.inr (.inr (.inl h))))
        · exact .inr (.inr (.inr (.inr (.inr h))))
      rw [e1, e2, hC, if_pos hlb]
      exact ⟨hqb, rfl, hcm, rfl, by simp [spoil, adv], fun h => by cases h⟩
    · have e2 : blkS s n nest (peekC s q) (adv q) = restS s n (peekC s q) (adv q) := by unfold blkS; rw [if_neg hbk]
      have hlb : ¬ letterBad s nest full kind nt q := by
        unfold letterBad
        rintro (h | h | h | h | h | h)
        · rw [hpk.1] at h; cases h
        · exact hl.2.1 h
        · rw [hpk.2] at h; cases h
        · exact hl.2.2 ⟨hsm.2 h.1, h.2⟩
        · exact hbk (.inl h)
        · exact hbk (.inr h)
      rw [e1, e2, hC, if_neg hlb]
      exact ⟨hqb, rfl, hcm, rfl, rfl, fun _ => rfl⟩
end Go.Proofs.YtmjdaifalgpdnaaGreat

namespace Go.Proofs.YtmjdaifalgpdnaaGreat
open Go.RowKit

/-- What command does. -/
def CmdPost (w : World) (base b : Nat) (s : ByteArray) (en : Int) (ls : List CmT) (js : List Nat) (r : CmT × St) (e : Ending) (w' : World) : Prop :=
  Below base w w' ∧ ((r.2.bad = false ∧ e = .returned (.tuple #[]) ∧ ∃ cv' ov' css', SR w' b s r.2.i en cv' ov' ∧ Rws w' base cv' ov' (ls ++ [r.1]) css' (jsB r.1.op ls.length js) (ls.length + 1)) ∨ (r.2.bad = true ∧ e = .panicked (gaveUp en r.2.i)))

theorem Below.kp' {base b : Nat} {w w1 w2 : World} (h : Below base w w1) (k : Kp b w1 w2) (hb : base ≤ b) (hw : base ≤ w.heap.size) : Below base w w2 := h.trans (below_kp k hb (Nat.le_trans hw h.size))
theorem below_new {base : Nat} {w w1 : World} (h : Below base w w1) {p : Addr} (hp : base ≤ p.block) (u : Value) : Below base w (w1.setCell p u) := h.setCell hp u

theorem blk_range {w : World} {k : Nat} {c : Array Value} {t : TypeId} (h : Blk w k c t) : w.rangeAt k 0 c.toList := fun j v hv => by
  rw [Nat.zero_add, cell_of_row w k j c t (0, 0) h]
  simpa using hv
theorem Blk.thirteen {w : World} {k : Nat} {t : TypeId} {a0 a1 a2 a3 a4 a5 a6 a7 a8 a9 a10 a11 a12 : Value} (h : Blk w k #[a0, a1, a2, a3, a4, a5, a6, a7, a8, a9, a10, a11, a12] t) : w.cell? ⟨k, 0, none⟩ = some a0 ∧ w.cell? ⟨k, 1, none⟩ = some a1 ∧ w.cell? ⟨k, 2, none⟩ = some a2 ∧ w.cell? ⟨k, 3, none⟩ = some a3 ∧ w.cell? ⟨k, 4, none⟩ = some a4 ∧ w.cell? ⟨k, 5, none⟩ = some a5 ∧ w.cell? ⟨k, 6, none⟩ = some a6 ∧ w.cell? ⟨k, 7, none⟩ = some a7 ∧ w.cell? ⟨k, 8, none⟩ = some a8 ∧ w.cell? ⟨k, 9, none⟩ = some a9 ∧ w.cell? ⟨k, 10, none⟩ = some a10 ∧ w.cell? ⟨k, 11, none⟩ = some a11 ∧ w.cell? ⟨k, 12, none⟩ = some a12 :=
  ⟨h.cell 0 rfl, h.cell 1 rfl, h.cell 2 rfl, h.cell 3 rfl, h.cell 4 rfl, h.cell 5 rfl, h.cell 6 rfl, h.cell 7 rfl, h.cell 8 rfl, h.cell 9 rfl, h.cell 10 rfl, h.cell 11 rfl, h.cell 12 rfl⟩
theorem infoCommand : (Tryz.prog.info? 81).map (fun i => (i.zero, i.size, i.bytes)) = some (some (.agg #[.int .u8 0, .int .i64 0, .slice none 0 0, .bool false, .string ⟨#[]⟩, .int .i64 0, .string ⟨#[]⟩, .string ⟨#[]⟩, .int .i64 0, .string ⟨#[]⟩, .pointer none, .string ⟨#[]⟩, .string ⟨#[]⟩]), 13, 168) := by kernel_rfl
theorem infoCommand1 : (Tryz.prog.info? 81).map (·.size) = some 13 := by kernel_rfl
theorem below_grown {base : Nat} {w w1 w2 : World} {row : Option Nat} (h : Below base w w1) (hg : w1.grownBy w2 row) (hr : ∀ k, row = some k → base ≤ k) (hw : base ≤ w.heap.size) : Below base w w2 :=
  ⟨hg.os.trans h.os, hg.tape.trans h.tape, hg.output.trans h.output, Nat.le_trans h.size hg.size, fun k hk => (hg.block k (by have := h.size; omega) (fun e => by have := hr k e.symm; omega)).trans (h.block k hk)⟩
theorem toList_nil (x : ByteArray) : x.toList = [] ↔ x.size = 0 := by
  rw [ByteArray.toList_eq]
  constructor
  · intro h
    have : x.data.toList.length = 0 := by rw [h]; rfl
    simpa using this
  · intro h
    have : x.data.toList.length = 0 := by simpa using h
    exact List.eq_nil_of_length_eq_zero this

set_option maxRecDepth 100000 in
set_option maxHeartbeats 1600000 in
theorem pcommand_any (n b base : Nat) (s : ByteArray) (st : St) (en : Int) (cv ov : Value) (ls : List CmT) (css : List (Array Value)) (js : List Nat) (w : World) (h : SR w b s st.i en cv ov) (hr : Rws w base cv ov ls css js ls.length) (hbb : base ≤ b)
    (hb : st.bad = false) (hs : s.size ≤ 1048576) (hi : st.i ≤ s.size) (hn : 2 * (s.size - st.i) + 2 ≤ n) :
    Calls Tryz.prog 45 #[.pointer (some ⟨b, 0, none⟩)] w fun e w' => CmdPost w base b s en ls js (commandS s n js.length (decide (60 ≤ ls.length)) st) e w' := by
  obtain ⟨pl, cl, rfl, -⟩ := own_form hr.L
  have hbl := h.lt
  have hw0 : base ≤ w.heap.size := by omega
  have c1 := h.c1
  have B0 := Blk.new w #[.int .u8 0, .int .i64 0, .slice none 0 0, .bool false, .string ⟨#[]⟩, .int .i64 0, .string ⟨#[]⟩, .string ⟨#[]⟩, .int .i64 0, .string ⟨#[]⟩, .pointer none, .string ⟨#[]⟩, .string ⟨#[]⟩] 81
  have h1 := h.alloc (.cells #[.int .u8 0, .int .i64 0, .slice none 0 0, .bool false, .string ⟨#[]⟩, .int .i64 0, .string ⟨#[]⟩, .string ⟨#[]⟩, .int .i64 0, .string ⟨#[]⟩, .pointer none, .string ⟨#[]⟩, .string ⟨#[]⟩] 81)
  have K1 := (Kp.refl b w).alloc (.cells #[.int .u8 0, .int .i64 0, .slice none 0 0, .bool false, .string ⟨#[]⟩, .int .i64 0, .string ⟨#[]⟩, .string ⟨#[]⟩, .int .i64 0, .string ⟨#[]⟩, .pointer none, .string ⟨#[]⟩, .string ⟨#[]⟩] 81)
  have hcn : w.heap.size ≠ b := by omega
  have hclo : (Value.slice pl ls.length cl).ownBlock ≠ some w.heap.size := fun e => by have := (World.ownsRow.lt hr.L _ e).2; omega
  have hal := On.addrs (s := s) n hi
  have hpa := fun (W : World) (hW : SR W b s st.i en (.slice pl ls.length cl) ov) => paddresses_any n b s st en (.slice pl ls.length cl) ov W hW hb hs hi hn
  have hbad := fun hx => cmd_bad (s := s) (n := n) (nest := js.length) (full := decide (60 ≤ ls.length)) (st := st) hx
  have hsome := addrs_some s n st hi
  have heq := fun (q : St) (nt sm : Bool) (hbq : (addrsS s n st).2.bad = false) => cmd_eq (s := s) (n := n) (nest := js.length) (full := decide (60 ≤ ls.length)) (st := st) (q := q) (kind := (addrsS s n st).1) (nt := nt) (sm := sm) hbq rfl
  have HH := hide (And.intro hpa (And.intro hbad (And.intro hsome heq)))
  have HR := hide hr
  clear hpa hbad hsome heq hr
  go_enter Tryz.func45, Tryz.ntmps45
  go_wp2_with fail
  refine (HH.out.1 _ h1).mono ?_
  rintro e w2 ⟨hK2, hT2⟩
  have B2 := B0.kp hK2 hcn
  have K2 := K1.trans hK2
  have hsome := HH.out.2.2.1
  have hbadq := HH.out.2.1
  have heqq := HH.out.2.2.2
  generalize hcb : w.heap.size = cb at *
  generalize addrsS s n st = a at *
  obtain ⟨kind, aq⟩ := a
  dsimp only at *
  clear HH B0 h1 K1 hK2 c1
  rcases hT2 with ⟨hab, ⟨pa, ka, ca, rfl⟩, hR2⟩ | ⟨hab, rfl⟩
  · have q2 : w2.cell? ⟨cb, 2, none⟩ = some (.slice none 0 0) := B2.cell 2 rfl
    have qf := B2.fz
    have HEQ := hide (And.intro heqq hsome)
    clear heqq hbadq hsome
    have e0 := hR2.c0
    have e1 := hR2.c1
    have hle : (st.i : Int) ≤ aq.i := by have := hal.1; omega
    have hle2 := hal.2
    go_wp2_with fail
    go_quiet (fail)
    have B3 := (B2.set 2 (.slice pa ka ca) rfl).drewN nq
    have R3 := (hR2.other (p := ⟨cb, 2, none⟩) hcn (.slice pa ka ca)).drewN nq
    have K3 := (K2.setNew (p := ⟨cb, 2, none⟩) (show w.heap.size ≤ cb by omega) (.slice pa ka ca)).drewN nq
    generalize (w2.setCell ⟨cb, 2, none⟩ (.slice pa ka ca)).drewN nq = w3 at *
    clear B2 hR2 K2 q2 qf e0 e1
    go_wp2_with fail
    refine (pblanks_any (s.size + 1) b s aq en (.slice pl ls.length cl) ov w3 R3 hab hs hle2 (by omega)).mono ?_
    rintro e w4 ⟨rfl, R4, hK4⟩
    have B4 := B3.kp hK4 hcn
    have K4 := K3.trans hK4
    have hbq : (blanksS s (s.size + 1) aq).bad = false := by rw [blanks_b]; exact hab
    have hbo := On.blanks (s := s) (s.size + 1) hle2
    generalize blanksS s (s.size + 1) aq = bq at *
    clear B3 R3 K3 hK4
    go_wp2_with fail
    refine (sTakeIf 33 33 rfl (x := isB s bq 33) rfl R4 hbq hs hbo.2).mono ?_
    rintro e w5 ⟨rfl, R5, hK5⟩
    have B5 := B4.kp hK5 hcn
    have K5 := K4.trans hK5
    have hqo := On.advIf (s := s) 33 hbo.2
    have hqb : (advIf s 33 bq).bad = false := by rw [advIf_bb]; exact hbq
    have HE2 : Hid (∀ sm : Bool, (sm = true ↔ ¬ (kind = 0 ∧ isB s bq 33 = false)) → _) := fun sm hsm => HEQ.out.1 (advIf s 33 bq) (isB s bq 33) sm hab rfl rfl hsm
    have HSM := hide HEQ.out.2
    generalize isB s bq 33 = nt at *
    generalize advIf s 33 bq = q at *
    clear B4 R4 K4 hK5 HEQ
    have q3 : w5.cell? ⟨cb, 3, none⟩ = some (.bool false) := B5.cell 3 rfl
    have q1 : w5.cell? ⟨cb, 1, none⟩ = some (.int .i64 0) := B5.cell 1 rfl
    have qf := B5.fz
    have e1 := R5.c1
    go_upto_if 33 with fail
    have B6 := B5.set 3 (.bool nt) rfl
    have R6 := R5.other (p := ⟨cb, 3, none⟩) hcn (.bool nt)
    have K6 := K5.setNew (p := ⟨cb, 3, none⟩) (show w.heap.size ≤ cb by omega) (.bool nt)
    generalize w5.setCell ⟨cb, 3, none⟩ (.bool nt) = w6 at *
    clear B5 R5 K5 q3 q1 qf e1
    go_cut [4] (fun wv wc => wv = .string (if nt = true then s.extract st.i aq.i ++ ⟨#[33]⟩ else s.extract st.i aq.i) ∧ wc = w6)
    case first =>
      cases nt
      · go_wp2_with fail
        go_meet
        case rel => exact ⟨rfl, rfl⟩
      · go_wp2_with fail
        go_meet
        case rel => exact ⟨rfl, rfl⟩
    case rest =>
    obtain ⟨rfl, hww⟩ := hcut
    rw [hww]
    clear hww
    obtain ⟨x, hx⟩ : ∃ x, x = if nt = true then s.extract st.i aq.i ++ ⟨#[33]⟩ else s.extract st.i aq.i := ⟨_, rfl⟩
    rw [← hx]
    have q1 : w6.cell? ⟨cb, 1, none⟩ = some (.int .i64 0) := B6.cell 1 rfl
    have q0 : w6.cell? ⟨cb, 0, none⟩ = some (.int .u8 0) := B6.cell 0 rfl
    have qf := B6.fz
    have e1 := R6.c1
    have HXX := hide hx
    clear hx
    have hal1 : st.i ≤ aq.i := hal.1
    have hbo1 : aq.i ≤ bq.i := hbo.1
    have hqo1 : bq.i ≤ q.i := hqo.1
    have hqo2 : q.i ≤ s.size := hqo.2
    have hxs : x.size ≤ 1048577 := by
      rw [HXX.out]
      have he : (s.extract st.i aq.i).size = aq.i - st.i := by rw [ByteArray.size_extract]; omega
      split
      · rw [ByteArray.size_append, he]
        have : (ByteArray.mk #[33]).size = 1 := rfl
        omega
      · omega
    have hsm : (!x.toList.isEmpty) = true ↔ ¬ (kind = 0 ∧ nt = false) := by
      have he : (s.extract st.i aq.i).size = aq.i - st.i := by rw [ByteArray.size_extract]; omega
      have h9 := HSM.out
      have hx2 : (!x.toList.isEmpty) = true ↔ x.size ≠ 0 := by
        rw [Bool.not_eq_true', ← Bool.not_eq_true, List.isEmpty_iff]
        exact not_congr (toList_nil x)
      rw [hx2, HXX.out]
      cases nt
      · rw [if_neg (by simp), he]
        constructor
        · intro h3 h4
          have := h9.1 h4.1
          omega
        · intro h3 h4
          exact h3 ⟨h9.2 (by omega), rfl⟩
      · rw [if_pos rfl, ByteArray.size_append]
        have : (ByteArray.mk #[33]).size = 1 := rfl
        rw [this]
        constructor
        · intro _ h4; cases h4.2
        · intro _; omega
    have HE3 := hide (HE2.out _ hsm)
    clear HE2 hsm HSM
    go_wp2_with fail
    generalize (!x.toList.isEmpty) = sm at *
    have B7 := B6.set 1 (.int .i64 (q.i : Nat)) rfl
    have R7 := R6.other (p := ⟨cb, 1, none⟩) hcn (.int .i64 (q.i : Nat))
    have K7 := K6.setNew (p := ⟨cb, 1, none⟩) (show w.heap.size ≤ cb by omega) (.int .i64 (q.i : Nat))
    generalize w6.setCell ⟨cb, 1, none⟩ (.int .i64 (q.i : Nat)) = w7 at *
    clear B6 R6 K6 q1 q0 qf e1
    refine (pletter_any b ls.length s q en sm pl cl ov w7 R7 hqb hs hqo.2 HR.out.l60).mono ?_
    rintro e w8 ⟨hK8, hT8⟩
    have B8 := B7.kp hK8 hcn
    have K8 := K7.trans hK8
    clear B7 R7 K7 hK8
    rcases hT8 with ⟨hlb, ⟨rfl, -⟩, hR8⟩ | ⟨hlb, rfl⟩
    · have hways := HE3.out
      rcases hways with ⟨hx1, -⟩ | ⟨-, hx1, hx2, hx3, hx4, hx5⟩
      · rw [hlb] at hx1; cases hx1
      · have hl59 : ls.length < 60 := by
          rcases Nat.lt_or_ge ls.length 60 with h9 | h9
          · exact h9
          · exfalso
            have h8 : letS s (decide (60 ≤ ls.length)) sm q = spoil q := by unfold letS; rw [if_pos (.inr (.inl (by simpa using h9)))]
            rw [h8] at hlb
            cases hlb
        rw [hx1] at hR8
        have hlt := amongB_lt hx2
        have haq : (adv q).i = q.i + 1 := rfl
        have haqb : (adv q).bad = false := hqb
        have hblk := blk_le (s := s) (st := adv q) (n := n) (nest := js.length) (op := peekC s q) (by omega) (by omega)
        have hblg : (blkS s n js.length (peekC s q) (adv q)).bad = false → q.i ≤ (blkS s n js.length (peekC s q) (adv q)).i := fun hbd => by
          unfold blkS at hbd ⊢
          split at hbd
          · cases hbd
          · next hc =>
            rw [if_neg hc]
            have := (On.rest (s := s) (a := adv q) (n := n) (peekC s q) (by omega) (by omega)).1
            omega
        have HX5 := hide (And.intro hx3 (And.intro hx4 (And.intro hx5 hblg)))
        clear HE3 hx1 hx2 hx3 hx4 hx5 hblg
        have q0 : w8.cell? ⟨cb, 0, none⟩ = some (.int .u8 0) := B8.cell 0 rfl
        have qf := B8.fz
        go_wp2_with fail
        have B9 := B8.set 0 (.int .u8 (peekC s q)) rfl
        have R9 := hR8.other (p := ⟨cb, 0, none⟩) hcn (.int .u8 (peekC s q))
        have K9 := K8.setNew (p := ⟨cb, 0, none⟩) (show w.heap.size ≤ cb by omega) (.int .u8 (peekC s q))
        generalize w8.setCell ⟨cb, 0, none⟩ (.int .u8 (peekC s q)) = w9 at *
        clear B8 hR8 K8 q0 qf
        have hr9 := HR.out.kp K9 h
        have BW9 := below_kp K9 hbb (by omega)
        refine (pbehind_any n b cb base s (adv q) en (.slice pl ls.length cl) ov ls css js (peekC s q) q.i (.slice pa ka ca) nt w9 R9 hr9 B9 hclo hbb (by omega) haqb hs (by omega) (by omega) (by omega)).mono ?_
        rintro e w10 ⟨hBl, hT10⟩
        have BW10 := BW9.trans hBl
        clear R9 B9 hr9 BW9 hBl K9 h
        generalize hbk : blkS s n js.length (peekC s q) (adv q) = r at *
        rcases hT10 with ⟨hrb, rfl, ov', css', tx, nm, fr, tt, stt, ch, R10, hr10, B10⟩ | ⟨hrb, rfl⟩
        · obtain ⟨hx3, hx4, hx5, hblg⟩ := HX5.out
          have hqr := hblg hrb
          have hE := hx5 hrb
          have e0 := R10.c0
          have e1 := R10.c1
          have d1 : w10.cell? ⟨cb, 1, none⟩ = some (.int .i64 (q.i : Nat)) := B10.cell 1 rfl
          have d4 : w10.cell? ⟨cb, 4, none⟩ = some (.string ⟨#[]⟩) := B10.cell 4 rfl
          have df := B10.fz
          have HE5 := hide hE
          have HR10 := hide hr10
          have hqr' : (q.i : Int) ≤ r.i := by omega
          clear hx3 hx4 hx5 hblg HX5 hE hr10
          have hcat : ¬ 9223372036854775807 < x.size + (r.i - q.i) := by omega
          go_wp2_with fail
          go_region
          have B11 := (B10.set 4 (.string (x ++ s.extract q.i r.i)) rfl).drewN 1
          have R11 := (R10.other (p := ⟨cb, 4, none⟩) hcn (.string (x ++ s.extract q.i r.i))).drewN 1
          have hplain : x ++ s.extract q.i r.i = plainC s st.i aq.i nt q.i r.i := by unfold plainC; rw [HXX.out]
          have hco' : ov'.ownBlock ≠ some cb := own_blk HR10.out.O B10 (by decide)
          have hr11 : Rws ((w10.setCell ⟨cb, 4, none⟩ (.string (x ++ s.extract q.i r.i))).drewN 1) base (.slice pl ls.length cl) ov' ls css' (jsB (peekC s q) ls.length js) (ls.length + 1) := HR10.out.agree (fun k hk => Below.heap_setCell _ _ _ _ (fun e => hclo (by rw [hk, e]))) (fun k hk => Below.heap_setCell _ _ _ _ (fun e => hco' (by rw [hk, e])))
          have BW11 : Below base w ((w10.setCell ⟨cb, 4, none⟩ (.string (x ++ s.extract q.i r.i))).drewN 1) := (BW10.setCell (show base ≤ (⟨cb, 4, none⟩ : Addr).block from (show base ≤ cb by omega)) _).drew
          replace B11 : Blk ((w10.setCell ⟨cb, 4, none⟩ (.string (x ++ s.extract q.i r.i))).drewN 1) cb #[.int .u8 (peekC s q), .int .i64 (q.i : Nat), .slice pa ka ca, .bool nt, .string (x ++ s.extract q.i r.i), .int .i64 0, .string (labS s (peekC s q) (adv q)), .string tx, .int .i64 stt, .string nm, .pointer ch, .string fr, .string tt] 81 := B11
          have hE2 := HE5.out
          rw [← hplain] at hE2
          have hV : PCmdV #[.int .u8 (peekC s q), .int .i64 (q.i : Nat), .slice pa ka ca, .bool nt, .string (x ++ s.extract q.i r.i), .int .i64 0, .string (labS s (peekC s q) (adv q)), .string tx, .int .i64 stt, .string nm, .pointer ch, .string fr, .string tt] (commandS s n js.length (decide (60 ≤ ls.length)) st).1 := by
            rw [hE2]
            refine ⟨rfl, ?_, rfl, rfl, rfl, ?_⟩
            · simp [Value.oneCell']
            · rfl
          have hEr : (commandS s n js.length (decide (60 ≤ ls.length)) st).2 = r := by rw [hE2]
          have hEo : (commandS s n js.length (decide (60 ≤ ls.length)) st).1.op = peekC s q := by rw [hE2]
          change Exit.then _ _ Exit.normal _ ((w10.setCell ⟨cb, 4, none⟩ (.string (x ++ s.extract q.i r.i))).drewN 1)
          generalize (w10.setCell ⟨cb, 4, none⟩ (.string (x ++ s.extract q.i r.i))).drewN 1 = w11 at *
          have HF := hide (And.intro hV (And.intro hEr (And.intro hEo (And.intro hr11 (And.intro BW11 hrb)))))
          clear hV hEr hEo hr11 BW11 hE2 HE5 hplain HR10 R10 B10 e0 e1 d1 d4 df BW10 hrb hcat
          obtain ⟨i0, hi0, hz0, hz1, hz2⟩ := info_parts infoCommand
          have HI := hide (And.intro hi0 (And.intro hz0 (And.intro hz1 hz2)))
          clear hi0 hz0 hz1 hz2
          have hml : ls.length + 1 ≤ maxLen := by unfold maxLen; omega
          have hbytes : (ls.length + 1) * 168 ≤ 140737488355328 := by omega
          have hb11 := R11.lt
          have c3 := R11.c3
          have cf := R11.fz
          have hnb : ¬ b = w11.heap.size := by omega
          go_wp2_with fail
          obtain ⟨z0, z1, z2, z3, z4, z5, z6, z7, z8, z9, z10, z11, z12⟩ := Blk.thirteen B11
          have hncb : ¬ cb = w11.heap.size := by have := B11.lt; omega
          go_region_law (refine step_append_lies _ rfl _ _ 44 rfl 0 81 i0 (.agg #[.int .u8 0, .int .i64 0, .slice none 0 0, .bool false, .string ⟨#[]⟩, .int .i64 0, .string ⟨#[]⟩, .string ⟨#[]⟩, .int .i64 0, .string ⟨#[]⟩, .pointer none, .string ⟨#[]⟩, .string ⟨#[]⟩]) 13 168 Tryz.underlying44 HI.out.1 HI.out.2.1 HI.out.2.2.1 HI.out.2.2.2 rfl (by decide) (.slice pl ls.length cl) ls.length (flatC css') rfl (World.ownsRow.alloc (World.ownsRow.drew HF.out.2.2.2.1.L) _) ⟨w11.heap.size, 0, none⟩ 1 1 [.int .u8 (peekC s q), .int .i64 (q.i : Nat), .slice pa ka ca, .bool nt, .string (x ++ s.extract q.i r.i), .int .i64 0, .string (labS s (peekC s q) (adv q)), .string tx, .int .i64 stt, .string nm, .pointer ch, .string fr, .string tt] rfl rfl (blk_news (Blk.newAt rfl)) (by intro u hu; simp at hu; rcases hu with rfl | rfl | rfl | rfl | rfl | rfl | rfl | rfl | rfl | rfl | rfl | rfl | rfl <;> rfl) (by decide) hml hbytes (Nat.zero_le _) (w11.heap.size + 1) (by simp) ?_; intro g1 cap1 w12 hown12 hgrow12 hat12 hlt12; (have hrne : (Value.slice pl ls.length cl).ownBlock ≠ some b := own_blk HF.out.2.2.2.1.L R11 (by decide)); (have S12 := grown_blk ((R11.drew).alloc (.cells #[.int .u8 (peekC s q), .int .i64 (q.i : Nat), .slice pa ka ca, .bool nt, .string (x ++ s.extract q.i r.i), .int .i64 0, .string (labS s (peekC s q) (adv q)), .string tx, .int .i64 stt, .string nm, .pointer ch, .string fr, .string tt] 81)) hgrow12 hrne); (have B12 := grown_blk ((B11.drewN 1).alloc (.cells #[.int .u8 (peekC s q), .int .i64 (q.i : Nat), .slice pa ka ca, .bool nt, .string (x ++ s.extract q.i r.i), .int .i64 0, .string (labS s (peekC s q) (adv q)), .string tx, .int .i64 stt, .string nm, .pointer ch, .string fr, .string tt] 81)) hgrow12 hclo); (have s3 : w12.cell? ⟨b, 3, none⟩ = some (.slice pl ls.length cl) := S12.cell 3 rfl); (have sf := S12.fz))
          all_goals
            go_wp2_with fail
            refine bodyPost_end (results_none rfl _ _ _) rfl ?_
            clear z0 z1 z2 z3 z4 z5 z6 z7 z8 z9 z10 z11 z12 c3 cf s3 sf
            obtain ⟨hV, hEr, hEo, hr11, BW11, hrb⟩ := HF.out
            have hne := own_blk hr11.O R11 (by decide)
            have O12 : (w12.setCell ⟨b, 3, none⟩ (.slice (some ⟨g1, 0, none⟩) (ls.length + 1) cap1)).ownsRow 0 3 1 ov' (jsB (peekC s q) ls.length js).length (ints (jsB (peekC s q) ls.length js)) := own_agree hr11.O (fun k hk => (Below.heap_setCell _ _ _ _ (fun e => hne (by rw [hk, e]))).trans ((hgrow12.block k (by have := (World.ownsRow.lt hr11.O k hk).2; simp; omega) (fun e => own_ne hr11.L hr11.O (by decide) e.symm hk)).trans (Below.heap_alloc _ _ _ (World.ownsRow.lt hr11.O k hk).2)))
            have L12 := own_set hown12 (p := ⟨b, 3, none⟩) (own_blk hown12 S12 (by decide)) (.slice (some ⟨g1, 0, none⟩) (ls.length + 1) cap1)
            have BW12 : Below base w (w12.setCell ⟨b, 3, none⟩ (.slice (some ⟨g1, 0, none⟩) (ls.length + 1) cap1)) := Below.setCell (below_grown (BW11.drew.alloc (show base ≤ w11.drew.heap.size by have := BW11.size; show base ≤ w11.heap.size; omega) _) hgrow12 hr11.lb (by omega)) hbb _
            have hlen : (ls ++ [(commandS s n js.length (decide (60 ≤ ls.length)) st).1]).length = ls.length + 1 := by simp
            refine ⟨BW12, .inl ⟨by rw [hEr]; exact hrb, rfl, .slice (some ⟨g1, 0, none⟩) (ls.length + 1) cap1, ov', css' ++ [#[.int .u8 (peekC s q), .int .i64 (q.i : Nat), .slice pa ka ca, .bool nt, .string (x ++ s.extract q.i r.i), .int .i64 0, .string (labS s (peekC s q) (adv q)), .string tx, .int .i64 stt, .string nm, .pointer ch, .string fr, .string tt]], ?_, ?_⟩⟩
            · rw [hEr]; exact S12.set 3 _ rfl
            · rw [hEo]
              refine ⟨?_, hr11.A.snoc hV, O12, ?_, hr11.ob, hr11.jn, by omega, hr11.j6⟩
              · rw [hlen, flatC_snoc]; exact L12
              · intro k hk
                simp only [Value.ownBlock, Option.some.injEq] at hk
                rcases hat12 with e | e
                · exact hr11.lb k (by rw [e, hk])
                · have := BW11.size
                  omega
        · refine ⟨rfl, ?_⟩
          obtain ⟨hx3, hx4, hx5, hblg⟩ := HX5.out
          exact ⟨BW10, .inr ⟨by rw [hx3]; exact hrb, by rw [hx4]⟩⟩
    · refine ⟨rfl, ?_⟩
      rcases HE3.out with ⟨hx1, hx2⟩ | ⟨hx1, -⟩
      · exact ⟨below_kp K8 hbb (by omega), .inr ⟨by rw [hx2]; exact hx1, by rw [hx2]⟩⟩
      · rw [hlb] at hx1; cases hx1
  · refine ⟨rfl, ?_⟩
    have hE := hbadq hab
    exact ⟨below_kp K2 hbb (by omega), .inr ⟨by rw [hE]; exact hab, by rw [hE]⟩⟩
end Go.Proofs.YtmjdaifalgpdnaaGreat
