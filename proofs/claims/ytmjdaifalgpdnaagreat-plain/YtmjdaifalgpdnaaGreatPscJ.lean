import Derived.Test.YtmjdaifalgpdnaaGreatPscI
namespace Go.Proofs.YtmjdaifalgpdnaaGreat
open Go.RowKit

/-- The label of : b t; else nothing. -/
def labT (t : CmT) : ByteArray := if t.op = 58 ∨ t.op = 98 ∨ t.op = 116 then t.text else ⟨#[]⟩
/-- A command as the program has it. -/
def PCmdV (cs : Array Value) (t : CmT) : Prop := cs.size = 13 ∧ cs.all (·.oneCell') = true ∧ cs[0]? = some (.int .u8 t.op) ∧ cs[1]? = some (.int .i64 t.pos) ∧ cs[4]? = some (.string t.plain) ∧ cs[6]? = some (.string (labT t))
theorem PCmdV.set5 {cs : Array Value} {t : CmT} (h : PCmdV cs t) {v : Value} (hv : v.oneCell' = true) : PCmdV (cs.setIfInBounds 5 v) t := by
  obtain ⟨h1, h2, h3, h4, h5, h6⟩ := h
  refine ⟨by simp [h1], one_set h2 5 hv, ?_, ?_, ?_, ?_⟩
  · rw [Array.getElem?_setIfInBounds_ne (by omega)]; exact h3
  · rw [Array.getElem?_setIfInBounds_ne (by omega)]; exact h4
  · rw [Array.getElem?_setIfInBounds_ne (by omega)]; exact h5
  · rw [Array.getElem?_setIfInBounds_ne (by omega)]; exact h6

theorem own_agree {w w' : World} {base size n : Nat} {e : TypeId} {v : Value} {xs : List Value} (h : w.ownsRow base e size v n xs) (hk : ∀ k, v.ownBlock = some k → w'.heap[k]? = w.heap[k]?) : w'.ownsRow base e size v n xs := by
  refine ⟨h.1, ?_⟩
  rcases h.2 with hn | ⟨g, cap, cur, rfl, h0, hg, rest⟩
  · exact .inl hn
  · exact .inr ⟨g, cap, cur, rfl, h0, by rw [hk g rfl]; exact hg, rest⟩

/-- The rows of a scriptReader: the commands, and the blocks that are open. -/
structure Rws (w : World) (base : Nat) (cv ov : Value) (ls : List CmT) (css : List (Array Value)) (js : List Nat) (m : Nat) : Prop where
  L : w.ownsRow 0 81 13 cv ls.length (flatC css)
  A : All2 PCmdV css ls
  O : w.ownsRow 0 3 1 ov js.length (ints js)
  lb : ∀ k, cv.ownBlock = some k → base ≤ k
  ob : ∀ k, ov.ownBlock = some k → base ≤ k
  jn : ∀ j ∈ js, j < m
  l60 : ls.length ≤ 60
  j6 : js.length ≤ 6

section
variable {w w' : World} {base b cb m : Nat} {cv ov : Value} {ls : List CmT} {css : List (Array Value)} {js : List Nat} {s : ByteArray} {at_ : Nat} {en : Int}
theorem Rws.agree (h : Rws w base cv ov ls css js m) (h1 : ∀ k, cv.ownBlock = some k → w'.heap[k]? = w.heap[k]?) (h2 : ∀ k, ov.ownBlock = some k → w'.heap[k]? = w.heap[k]?) : Rws w' base cv ov ls css js m :=
  ⟨own_agree h.L h1, h.A, own_agree h.O h2, h.lb, h.ob, h.jn, h.l60, h.j6⟩
theorem Rws.kp (h : Rws w base cv ov ls css js m) (hk : Kp b w w') (hR : SR w b s at_ en cv ov) : Rws w' base cv ov ls css js m :=
  h.agree (fun k hk' => hk.block k (World.ownsRow.lt h.L k hk').2 (fun e => own_blk h.L hR (by decide) (by rw [hk', e]))) (fun k hk' => hk.block k (World.ownsRow.lt h.O k hk').2 (fun e => own_blk h.O hR (by decide) (by rw [hk', e])))
theorem Rws.kq (h : Rws w base cv ov ls css js m) (hk : Kq b (some cb) w w') (hR : SR w b s at_ en cv ov) (h1 : cv.ownBlock ≠ some cb) (h2 : ov.ownBlock ≠ some cb) : Rws w' base cv ov ls css js m :=
  h.agree (fun k hk' => hk.block k (World.ownsRow.lt h.L k hk').2 (fun e => own_blk h.L hR (by decide) (by rw [hk', e])) (fun e => h1 (by rw [hk', e]))) (fun k hk' => hk.block k (World.ownsRow.lt h.O k hk').2 (fun e => own_blk h.O hR (by decide) (by rw [hk', e])) (fun e => h2 (by rw [hk', e])))
theorem Rws.up {m' : Nat} (h : Rws w base cv ov ls css js m) (hm : m ≤ m') : Rws w base cv ov ls css js m' := ⟨h.L, h.A, h.O, h.lb, h.ob, fun j hj => Nat.lt_of_lt_of_le (h.jn j hj) hm, h.l60, h.j6⟩
theorem Rws.sizes (h : Rws w base cv ov ls css js m) : ∀ c ∈ css, c.size = 13 := fun c hc => by
  obtain ⟨i, hi, rfl⟩ := List.getElem_of_mem hc
  have hl : i < ls.length := by rw [← h.A.1]; exact hi
  exact (h.A.2 i _ _ (List.getElem?_eq_getElem hi) (List.getElem?_eq_getElem hl)).1
end
theorem below_kq {w w' : World} {base b : Nat} {row : Option Nat} (h : Kq b row w w') (hb : base ≤ b) (hw : base ≤ w.heap.size) (hr : ∀ k, row = some k → base ≤ k) : Below base w w' :=
  ⟨h.os, h.tape, h.output, h.size, fun k hk => h.block k (by omega) (by omega) (fun e => by have := hr k e.symm; omega)⟩
theorem below_kp {w w' : World} {base b : Nat} (h : Kp b w w') (hb : base ≤ b) (hw : base ≤ w.heap.size) : Below base w w' :=
  ⟨h.os, h.tape, h.output, h.size, fun k hk => h.block k (by omega) (by omega)⟩

/-- What stands behind a letter, blocks too. -/
def blkS (s : ByteArray) (n nest : Nat) (op : Int) (st : St) : St := if (op = 123 ∧ 6 ≤ nest) ∨ (op = 125 ∧ nest = 0) then { st with i := st.i - 1, bad := true } else restS s n op st
def jsB (op : Int) (m : Nat) (js : List Nat) : List Nat := if op = 123 then js ++ [m] else if op = 125 then js.dropLast else js
def labS (s : ByteArray) (op : Int) (st : St) : ByteArray := if op = 58 ∨ op = 98 ∨ op = 116 then restT s op st else ⟨#[]⟩

/-- What behindLetter does. -/
def BehPost (w : World) (base b cb : Nat) (s : ByteArray) (en : Int) (cv : Value) (ls : List CmT) (_js : List Nat) (st' : St) (op pos : Int) (av : Value) (nv : Bool) (lab : ByteArray) (js' : List Nat) (e : Ending) (w' : World) : Prop :=
  Below base w w' ∧ ((st'.bad = false ∧ e = .returned (.tuple #[]) ∧ ∃ (ov' : Value) (css' : List (Array Value)) (tx nm fr tt : ByteArray) (stt : Int) (ch : Option Addr), SR w' b s st'.i en cv ov' ∧ Rws w' base cv ov' ls css' js' (ls.length + 1) ∧ Blk w' cb #[.int .u8 op, .int .i64 pos, av, .bool nv, .string ⟨#[]⟩, .int .i64 0, .string lab, .string tx, .int .i64 stt, .string nm, .pointer ch, .string fr, .string tt] 81) ∨ (st'.bad = true ∧ e = .panicked (gaveUp en st'.i)))

set_option maxRecDepth 100000 in
set_option maxHeartbeats 1600000 in
theorem pbehind_any (n b cb base : Nat) (s : ByteArray) (st : St) (en : Int) (cv ov : Value) (ls : List CmT) (css : List (Array Value)) (js : List Nat) (op pos : Int) (av : Value) (nv : Bool) (w : World) (h : SR w b s st.i en cv ov) (hr : Rws w base cv ov ls css js ls.length)
    (hC : Blk w cb #[.int .u8 op, .int .i64 pos, av, .bool nv, .string ⟨#[]⟩, .int .i64 0, .string ⟨#[]⟩, .string ⟨#[]⟩, .int .i64 0, .string ⟨#[]⟩, .pointer none, .string ⟨#[]⟩, .string ⟨#[]⟩] 81) (hcl : cv.ownBlock ≠ some cb) (hbb : base ≤ b) (hbc : base ≤ cb)
    (hb : st.bad = false) (hs : s.size ≤ 1048576) (hi : st.i ≤ s.size) (hi1 : 1 ≤ st.i) (hn : 2 * (s.size - st.i) + 2 ≤ n) :
    Calls Tryz.prog 62 #[.pointer (some ⟨b, 0, none⟩), .pointer (some ⟨cb, 0, none⟩)] w fun e w' => BehPost w base b cb s en cv ls js (blkS s n js.length op st) op pos av nv (labS s op st) (jsB op ls.length js) e w' := by
  have hbl := h.lt
  have hcbl := hC.lt
  have hw0 : base ≤ w.heap.size := by omega
  have hco : ov.ownBlock ≠ some cb := own_blk hr.O hC (by decide)
  have hcb : cb ≠ b := fun e => by subst e; unfold Blk at hC; unfold SR Blk at h; rw [hC] at h; simp at h
  have c0 : w.cell? ⟨cb, 0, none⟩ = some (.int .u8 op) := hC.cell 0 rfl
  -- only the reader and the command have turned
  have fin : ∀ (W : World) (lab tx nm fr tt : ByteArray) (stt : Int) (ch : Option Addr) (st' : St), Kq b (some cb) w W → SR W b s st'.i en cv ov → Blk W cb #[.int .u8 op, .int .i64 pos, av, .bool nv, .string ⟨#[]⟩, .int .i64 0, .string lab, .string tx, .int .i64 stt, .string nm, .pointer ch, .string fr, .string tt] 81 → st'.bad = false → BehPost w base b cb s en cv ls js st' op pos av nv lab js (.returned (.tuple #[])) W :=
    fun W lab tx nm fr tt stt ch st' hK hS hB hb' => ⟨below_kq hK hbb hw0 (fun k hk => by simp only [Option.some.injEq] at hk; omega), .inl ⟨hb', rfl, ov, css, tx, nm, fr, tt, stt, ch, hS, (hr.kq hK h hcl hco).up (by omega), hB⟩⟩
  have finB : ∀ (W : World) (lab : ByteArray) (js' : List Nat) (st' : St), Kp b w W → st'.bad = true → BehPost w base b cb s en cv ls js st' op pos av nv lab js' (.panicked (gaveUp en st'.i)) W :=
    fun W lab js' st' hK hb' => ⟨below_kp hK hbb hw0, .inr ⟨hb', rfl⟩⟩
  have kqs : ∀ (W : World) (o : Nat) (v : Value), Kq b (some cb) w W → Kq b (some cb) w (W.setCell ⟨cb, o, none⟩ v) := fun W o v hK => ⟨hK.os, hK.tape, hK.output, by simpa [World.setCell] using hK.size, fun k hk h1 h2 => (Below.heap_setCell _ _ _ _ (fun e => h2 (by rw [e]))).trans (hK.block k hk h1 h2)⟩
  by_cases o123 : op = 123
  · subst o123
    have eJ : jsB 123 ls.length js = js ++ [ls.length] := by unfold jsB; rw [if_pos rfl]
    have eL : labS s 123 st = ⟨#[]⟩ := by unfold labS; rw [if_neg (by omega)]
    have eR : restS s n 123 st = st := by unfold restS; rw [if_neg (by omega), if_neg (by omega), if_neg (by omega), if_neg (by omega), if_neg (by omega), if_neg (by omega), if_neg (by omega)]
    obtain ⟨pl, cl, rfl, -⟩ := own_form hr.L
    have hpb := pbegin_any b ls.length s st.i en pl cl ov js w h hr.O hs hi hr.j6 hr.l60
    rw [eJ, eL]
    have HR := hide hr
    have HPB := hide hpb
    clear hpb eJ eL fin finB kqs hr
    go_enter Tryz.func62, Tryz.ntmps62
    go_wp2_with fail
    refine HPB.out.mono ?_
    rintro e w1 ⟨hK1, hT⟩
    have hr := HR.out
    rcases hT with ⟨h6, rfl, ov', hR1, hO1, hF1⟩ | ⟨h6, rfl⟩
    · have eB : blkS s n js.length 123 st = st := by unfold blkS; rw [if_neg (by omega)]; exact eR
      go_wp2_with fail
      refine bodyPost_end (results_none rfl _ _ _) rfl ?_
      rw [eB]
      have hLo : ∀ k, (Value.slice pl ls.length cl).ownBlock = some k → w1.heap[k]? = w.heap[k]? := fun k hk => hK1.block k (World.ownsRow.lt hr.L k hk).2 (fun e => own_blk hr.L h (by decide) (by rw [hk, e])) (fun e => own_ne hr.L hr.O (by decide) hk e.symm)
      refine ⟨below_kq hK1 hbb hw0 hr.ob, .inl ⟨hb, rfl, ov', css, ⟨#[]⟩, ⟨#[]⟩, ⟨#[]⟩, ⟨#[]⟩, 0, none, hR1, ⟨own_agree hr.L hLo, hr.A, hO1, hr.lb, ?_, ?_, hr.l60, ?_⟩, hC.kq hK1 hcb (fun e => hco e.symm)⟩⟩
      · intro k hk
        rcases hF1 with e | e
        · exact hr.ob k (by rw [← e]; exact hk)
        · have := e k hk; omega
      · intro j hj
        simp only [List.mem_append, List.mem_singleton] at hj
        rcases hj with hj | hj
        · have := hr.jn j hj; omega
        · omega
      · simp; omega
    · have eB : blkS s n js.length 123 st = { st with i := st.i - 1, bad := true } := by unfold blkS; rw [if_pos (.inl ⟨rfl, h6⟩)]
      refine ⟨rfl, ?_⟩
      rw [eB]
      exact ⟨below_kq hK1 hbb hw0 hr.ob, .inr ⟨rfl, by rw [show ((st.i : Int) - 1) = ((st.i - 1 : Nat) : Int) from by omega]⟩⟩
  by_cases o125 : op = 125
  · subst o125
    have eJ : jsB 125 ls.length js = js.dropLast := by unfold jsB; rw [if_neg (by omega), if_pos rfl]
    have eL : labS s 125 st = ⟨#[]⟩ := by unfold labS; rw [if_neg (by omega)]
    have eR : restS s n 125 st = st := by unfold restS; rw [if_neg (by omega), if_neg (by omega), if_neg (by omega), if_neg (by omega), if_neg (by omega), if_neg (by omega), if_neg (by omega)]
    have hpe := pend_any b ls.length s st.i en cv ov js (flatC css) w h hr.L hr.O hs hi hr.j6 hr.l60 hr.jn
    rw [eJ, eL]
    have HR := hide hr
    have HPB := hide hpe
    clear hpe eJ eL fin finB kqs hr
    go_enter Tryz.func62, Tryz.ntmps62
    go_wp2_with fail
    refine HPB.out.mono ?_
    rintro e w1 ⟨hK1, hT⟩
    have hr := HR.out
    rcases hT with ⟨js0, j, hjs, rfl, ov', hR1, hL1, hO1, hob⟩ | ⟨hjs, rfl⟩
    · have eB : blkS s n js.length 125 st = st := by unfold blkS; rw [if_neg (by rw [hjs]; simp)]; exact eR
      have hd : js.dropLast = js0 := by rw [hjs]; simp
      go_wp2_with fail
      refine bodyPost_end (results_none rfl _ _ _) rfl ?_
      rw [eB, hd]
      rw [flatC_set hr.sizes j 5 _ (by omega)] at hL1
      refine ⟨below_kq hK1 hbb hw0 hr.lb, .inl ⟨hb, rfl, ov', _, ⟨#[]⟩, ⟨#[]⟩, ⟨#[]⟩, ⟨#[]⟩, 0, none, hR1, ⟨hL1, hr.A.modify j _ (fun x y h => h.set5 rfl), hO1, hr.lb, ?_, ?_, hr.l60, ?_⟩, hC.kq hK1 hcb (fun e => hcl e.symm)⟩⟩
      · intro k hk; exact hr.ob k (by rw [← hob]; exact hk)
      · intro i hi'
        have := hr.jn i (by rw [hjs]; simp [hi'])
        omega
      · have := hr.j6
        rw [hjs] at this
        simp at this
        omega
    · have eB : blkS s n js.length 125 st = { st with i := st.i - 1, bad := true } := by unfold blkS; rw [if_pos (.inr ⟨rfl, by rw [hjs]; rfl⟩)]
      refine ⟨rfl, ?_⟩
      rw [eB]
      exact ⟨below_kq hK1 hbb hw0 hr.lb, .inr ⟨rfl, by rw [show ((st.i : Int) - 1) = ((st.i - 1 : Nat) : Int) from by omega]⟩⟩
  have eB : blkS s n js.length op st = restS s n op st := by unfold blkS; rw [if_neg (by omega)]
  have eJ : jsB op ls.length js = js := by unfold jsB; rw [if_neg o123, if_neg o125]
  rw [eB, eJ]
  have HFIN := hide (And.intro fin (And.intro finB kqs))
  clear fin finB kqs eB eJ
  by_cases o58 : op = 58
  · subst o58
    have e1 : restS s n 58 st = (wordS s st).2 := by unfold restS; rw [if_neg (by omega), if_pos rfl]
    have e2 : labS s 58 st = (wordS s st).1 := by unfold labS restT; rw [if_pos (.inl rfl), if_pos rfl]
    rw [e1, e2]
    clear e1 e2
    go_enter Tryz.func62, Tryz.ntmps62
    go_wp2_with fail
    refine (pword_any b s st en cv ov w h hb hs hi).mono ?_
    rintro e w1 ⟨hK1, hT⟩
    rcases hT with ⟨hbd, rfl, hR1⟩ | ⟨hbd, rfl⟩
    · have C1 := hC.kp hK1 hcb
      have d6 : w1.cell? ⟨cb, 6, none⟩ = some (.string ⟨#[]⟩) := C1.cell 6 rfl
      have df := C1.fz
      go_wp2_with fail
      refine bodyPost_end (results_none rfl _ _ _) rfl ?_
      exact HFIN.out.1 _ _ _ _ _ _ _ _ _ (HFIN.out.2.2 _ _ _ (Kq.of_kp hK1)) (hR1.other hcb _) (C1.set 6 _ rfl) hbd
    · exact ⟨rfl, HFIN.out.2.1 _ _ _ _ hK1 hbd⟩
  by_cases obt : op = 98 ∨ op = 116
  · have e1 : restS s n op st = if isB s st 32 then (spacedS s st).2 else st := by unfold restS; rw [if_neg (by omega), if_neg o58, if_pos obt]
    have e2 : labS s op st = if isB s st 32 then (spacedS s st).1 else ⟨#[]⟩ := by unfold labS restT; rw [if_pos (.inr obt), if_neg o58]
    rw [e1, e2]
    clear e1 e2
    cases hx : isB s st 32
    · have e3 : advIf s 32 st = st := advIf_is hx
      have E3 := hide e3
      have HX := hide hx
      clear e3 hx
      rw [if_neg (by simp), if_neg (by simp)]
      rcases obt with rfl | rfl
      all_goals
        go_enter Tryz.func62, Tryz.ntmps62
        go_wp2_with (go_at_call 58; refine (sTakeIf 32 32 rfl HX.out h hb hs hi).mono ?_; rintro e w1 ⟨rfl, hR1, hK1⟩)
        rw [E3.out] at hR1
        refine bodyPost_end (results_none rfl _ _ _) rfl ?_
        exact HFIN.out.1 _ _ _ _ _ _ _ _ _ (Kq.of_kp hK1) hR1 (hC.kp hK1 hcb) hb
    · have e3 : advIf s 32 st = adv st := by unfold advIf; rw [hx]; rfl
      have e4 : spacedS s st = wordS s (adv st) := by
        have e5 : eatS s 32 st = adv st := by unfold eatS; rw [hx]; rfl
        unfold spacedS
        rw [e5, if_neg (by show ¬ st.bad = true; rw [hb]; simp)]
      have E3 := hide e3
      have HX := hide hx
      have hlt := peekOk_lt (isB_ok hx)
      clear e3 hx
      rw [if_pos rfl, if_pos rfl, e4]
      clear e4
      rcases obt with rfl | rfl
      all_goals
        go_enter Tryz.func62, Tryz.ntmps62
        go_wp2_with (go_at_call 58; refine (sTakeIf 32 32 rfl HX.out h hb hs hi).mono ?_; rintro e w1 ⟨rfl, hR1, hK1⟩)
        rw [E3.out] at hR1
        refine (pword_any b s (adv st) en cv ov w1 hR1 hb hs (by simp [adv]; omega)).mono ?_
        rintro e w2 ⟨hK2, hT⟩
        rcases hT with ⟨hbd, rfl, hR2⟩ | ⟨hbd, rfl⟩
        · have C1 := (hC.kp hK1 hcb).kp hK2 hcb
          have d6 : w2.cell? ⟨cb, 6, none⟩ = some (.string ⟨#[]⟩) := C1.cell 6 rfl
          have df := C1.fz
          go_wp2_with fail
          refine bodyPost_end (results_none rfl _ _ _) rfl ?_
          exact HFIN.out.1 _ _ _ _ _ _ _ _ _ (HFIN.out.2.2 _ _ _ (Kq.of_kp (hK1.trans hK2))) (hR2.other hcb _) (C1.set 6 _ rfl) hbd
        · exact ⟨rfl, HFIN.out.2.1 _ _ _ _ (hK1.trans hK2) hbd⟩
  have e2 : labS s op st = ⟨#[]⟩ := by unfold labS; rw [if_neg (by omega)]
  rw [e2]
  clear e2
  have n98 : ¬ op = 98 := fun e => obt (.inl e)
  have n116 : ¬ op = 116 := fun e => obt (.inr e)
  clear obt
  by_cases oaic : op = 97 ∨ op = 105 ∨ op = 99
  · have e1 : restS s n op st = textS s st := by unfold restS textS; rw [if_pos (by omega)]
    rw [e1]
    clear e1
    rcases oaic with rfl | rfl | rfl
    all_goals
      go_enter Tryz.func62, Tryz.ntmps62
      go_wp2_with fail
      refine (plineOfText_any b s st en cv ov w h hb hs hi).mono ?_
      rintro e w1 ⟨hK1, hT⟩
      rcases hT with ⟨hbd, ⟨t, rfl⟩, hR1⟩ | ⟨hbd, rfl⟩
      · have C1 := hC.kp hK1 hcb
        have d7 : w1.cell? ⟨cb, 7, none⟩ = some (.string ⟨#[]⟩) := C1.cell 7 rfl
        have df := C1.fz
        go_wp2_with fail
        refine bodyPost_end (results_none rfl _ _ _) rfl ?_
        exact HFIN.out.1 _ _ _ _ _ _ _ _ _ (HFIN.out.2.2 _ _ _ (Kq.of_kp hK1)) (hR1.other hcb _) (C1.set 7 _ rfl) hbd
      · exact ⟨rfl, HFIN.out.2.1 _ _ _ _ hK1 hbd⟩
  have n97 : ¬ op = 97 := fun e => oaic (.inl e)
  have n105 : ¬ op = 105 := fun e => oaic (.inr (.inl e))
  have n99 : ¬ op = 99 := fun e => oaic (.inr (.inr e))
  clear oaic
  by_cases oq : op = 113 ∨ op = 81
  · have e1 : restS s n op st = if amongB s st digitsL then (digitS s 48 st).2 else st := by unfold restS; rw [if_neg (by omega), if_neg o58, if_neg (by omega), if_pos oq]
    rw [e1]
    clear e1
    cases hx : amongB s st digitsL
    · have HX := hide hx
      clear hx
      rw [if_neg (by simp)]
      rcases oq with rfl | rfl
      all_goals
        go_enter Tryz.func62, Tryz.ntmps62
        go_wp2_with (go_at_call 69; refine (sIsNextOf digitsB HX.out h hb hs).mono ?_; rintro e w1 ⟨rfl, hw1⟩)
        refine bodyPost_end (results_none rfl _ _ _) rfl ?_
        exact HFIN.out.1 _ _ _ _ _ _ _ _ _ (Kq.of_kp (hw1.kp (Kp.refl b w))) (hw1.sr h) (hw1.blk hC) hb
    · have HX := hide hx
      have hlt := amongB_lt hx
      have hpk : peekOk s st = true := by simp [peekOk, hb, hlt]
      obtain ⟨hd0, hd9⟩ := among_digit hx
      have hwd := u8_sub (peekC s st) hd0 hd9
      rw [if_pos rfl, digitS_yes hx]
      clear hx
      rcases oq with rfl | rfl
      all_goals
        go_enter Tryz.func62, Tryz.ntmps62
        go_wp2_with (go_at_call 69; refine (sIsNextOf digitsB HX.out h hb hs).mono ?_; rintro e w1 ⟨rfl, hw1⟩)
        refine (sTake (hw1.sr h) hb hs hpk).mono ?_
        rintro e w2 ⟨rfl, hR2, hK2⟩
        have C1 := (hw1.blk hC).kp hK2 hcb
        have d8 : w2.cell? ⟨cb, 8, none⟩ = some (.int .i64 0) := C1.cell 8 rfl
        have df := C1.fz
        go_wp2_with fail
        refine bodyPost_end (results_none rfl _ _ _) rfl ?_
        exact HFIN.out.1 _ _ _ _ _ _ _ _ (adv st) (HFIN.out.2.2 _ _ _ (Kq.of_kp ((hw1.kp (Kp.refl b w)).trans hK2))) (hR2.other hcb _) (C1.set 8 _ rfl) hb
  have n113 : ¬ op = 113 := fun e => oq (.inl e)
  have n81 : ¬ op = 81 := fun e => oq (.inr e)
  clear oq
  by_cases o115 : op = 115
  · subst o115
    have e1 : restS s n 115 st = substS s n st := by unfold restS; rw [if_neg (by omega), if_neg o58, if_neg (by omega), if_neg (by omega), if_pos rfl]
    rw [e1, subst_eq]
    clear e1
    have hql := sub1_le s n st hi hn
    have hps := psubst_any n b s st en cv ov w h hb hs hi hn
    generalize sub1S s n st = q at *
    have HPS := hide hps
    clear hps
    cases hqb : q.bad
    · rw [if_neg (by simp)]
      cases hx : isB s q 119
      · have e3 : advIf s 119 q = q := advIf_is hx
        have E3 := hide e3
        have HX := hide hx
        clear e3 hx
        rw [if_neg (by simp)]
        go_enter Tryz.func62, Tryz.ntmps62
        go_wp2_with fail
        refine HPS.out.mono ?_
        rintro e w1 ⟨hK1, ⟨-, ⟨p, rfl⟩, hR1⟩ | ⟨hbd, -⟩⟩
        · have C1 := hC.kp hK1 hcb
          have d10 : w1.cell? ⟨cb, 10, none⟩ = some (.pointer none) := C1.cell 10 rfl
          have df := C1.fz
          have C2 := C1.set 10 (.pointer p) rfl
          have R2 := hR1.other (p := ⟨cb, 10, none⟩) hcb (.pointer p)
          have K2 := HFIN.out.2.2 _ 10 (.pointer p) (Kq.of_kp hK1)
          go_wp2_with (go_at_call 58; refine (sTakeIf 119 119 rfl HX.out R2 hqb hs hql).mono ?_; rintro e w3 ⟨rfl, hR3, hK3⟩)
          rw [E3.out] at hR3
          refine bodyPost_end (results_none rfl _ _ _) rfl ?_
          exact HFIN.out.1 _ _ _ _ _ _ _ _ _ (K2.trans' hK3) hR3 (Blk.kp C2 hK3 hcb) hqb
        · rw [hqb] at hbd; cases hbd
      · have e3 : advIf s 119 q = adv q := by unfold advIf; rw [hx]; rfl
        have E3 := hide e3
        have HX := hide hx
        have hlt := peekOk_lt (isB_ok hx)
        clear e3 hx
        rw [if_pos rfl]
        go_enter Tryz.func62, Tryz.ntmps62
        go_wp2_with fail
        refine HPS.out.mono ?_
        rintro e w1 ⟨hK1, ⟨-, ⟨p, rfl⟩, hR1⟩ | ⟨hbd, -⟩⟩
        · have C1 := hC.kp hK1 hcb
          have d10 : w1.cell? ⟨cb, 10, none⟩ = some (.pointer none) := C1.cell 10 rfl
          have df := C1.fz
          have C2 := C1.set 10 (.pointer p) rfl
          have R2 := hR1.other (p := ⟨cb, 10, none⟩) hcb (.pointer p)
          have K2 := HFIN.out.2.2 _ 10 (.pointer p) (Kq.of_kp hK1)
          go_wp2_with (go_at_call 58; refine (sTakeIf 119 119 rfl HX.out R2 hqb hs hql).mono ?_; rintro e w3 ⟨rfl, hR3, hK3⟩)
          rw [E3.out] at hR3
          refine (pname_any b s (adv q) en cv ov w3 hR3 hqb hs (by simp [adv]; omega)).mono ?_
          rintro e w4 ⟨hK4, hT4⟩
          have C4 := (Blk.kp C2 hK3 hcb).kp hK4 hcb
          have K4 := (K2.trans' hK3).trans' hK4
          rcases hT4 with ⟨hb4, rfl, hR4⟩ | ⟨hb4, rfl⟩
          · have d9 : w4.cell? ⟨cb, 9, none⟩ = some (.string ⟨#[]⟩) := C4.cell 9 rfl
            have dg := C4.fz
            go_wp2_with fail
            refine bodyPost_end (results_none rfl _ _ _) rfl ?_
            exact HFIN.out.1 _ _ _ _ _ _ _ _ _ (HFIN.out.2.2 _ _ _ K4) (hR4.other hcb _) (C4.set 9 _ rfl) hb4
          · refine ⟨rfl, ?_⟩
            exact ⟨below_kq K4 hbb hw0 (fun k hk => by simp only [Option.some.injEq] at hk; omega), .inr ⟨hb4, rfl⟩⟩
        · rw [hqb] at hbd; cases hbd
    · rw [if_pos rfl]
      go_enter Tryz.func62, Tryz.ntmps62
      go_wp2_with fail
      refine HPS.out.mono ?_
      rintro e w1 ⟨hK1, ⟨hbd, -, -⟩ | ⟨-, rfl⟩⟩
      · rw [hqb] at hbd; cases hbd
      · exact ⟨rfl, HFIN.out.2.1 _ _ _ _ hK1 hqb⟩
  by_cases o119 : op = 119
  · subst o119
    have e1 : restS s n 119 st = (spacedS s st).2 := by unfold restS; rw [if_neg (by omega), if_neg o58, if_neg (by omega), if_neg (by omega), if_neg o115, if_pos rfl]
    rw [e1]
    clear e1
    go_enter Tryz.func62, Tryz.ntmps62
    go_wp2_with fail
    refine (pname_any b s st en cv ov w h hb hs hi).mono ?_
    rintro e w1 ⟨hK1, hT⟩
    rcases hT with ⟨hbd, rfl, hR1⟩ | ⟨hbd, rfl⟩
    · have C1 := hC.kp hK1 hcb
      have d9 : w1.cell? ⟨cb, 9, none⟩ = some (.string ⟨#[]⟩) := C1.cell 9 rfl
      have df := C1.fz
      go_wp2_with fail
      refine bodyPost_end (results_none rfl _ _ _) rfl ?_
      exact HFIN.out.1 _ _ _ _ _ _ _ _ _ (HFIN.out.2.2 _ _ _ (Kq.of_kp hK1)) (hR1.other hcb _) (C1.set 9 _ rfl) hbd
    · exact ⟨rfl, HFIN.out.2.1 _ _ _ _ hK1 hbd⟩
  by_cases o121 : op = 121
  · subst o121
    have e1 : restS s n 121 st = (tableS s (s.size + 2) st).2 := by unfold restS; rw [if_neg (by omega), if_neg o58, if_neg (by omega), if_neg (by omega), if_neg o115, if_neg o119, if_pos rfl]
    rw [e1]
    clear e1
    go_enter Tryz.func62, Tryz.ntmps62
    go_wp2_with fail
    refine (pexchange_any (s.size + 2) b s st en cv ov w h hb hs hi (by omega)).mono ?_
    rintro e w1 ⟨hK1, hT⟩
    rcases hT with ⟨hbd, ⟨x, y, rfl⟩, hR1⟩ | ⟨hbd, rfl⟩
    · have C1 := hC.kp hK1 hcb
      have d11 : w1.cell? ⟨cb, 11, none⟩ = some (.string ⟨#[]⟩) := C1.cell 11 rfl
      have d12 : w1.cell? ⟨cb, 12, none⟩ = some (.string ⟨#[]⟩) := C1.cell 12 rfl
      have df := C1.fz
      go_wp2_with fail
      refine bodyPost_end (results_none rfl _ _ _) rfl ?_
      exact HFIN.out.1 _ _ _ _ _ _ _ _ _ (HFIN.out.2.2 _ _ _ (HFIN.out.2.2 _ _ _ (Kq.of_kp hK1))) ((hR1.other hcb _).other hcb _) ((C1.set 11 _ rfl).set 12 _ rfl) hbd
    · exact ⟨rfl, HFIN.out.2.1 _ _ _ _ hK1 hbd⟩
  have e1 : restS s n op st = st := by unfold restS; rw [if_neg (by omega), if_neg o58, if_neg (by omega), if_neg (by omega), if_neg o115, if_neg o119, if_neg o121]
  rw [e1]
  clear e1
  go_enter Tryz.func62, Tryz.ntmps62
  go_wp2_with fail
  refine bodyPost_end (results_none rfl _ _ _) rfl ?_
  exact HFIN.out.1 _ _ _ _ _ _ _ _ _ (Kq.refl _ _ _) h hC hb
end Go.Proofs.YtmjdaifalgpdnaaGreat
