import Derived.Test.YtmjdaifalgpdnaaGreatPscG
namespace Go.Proofs.YtmjdaifalgpdnaaGreat
open Go.RowKit

theorem command_ok {s : ByteArray} {n nest : Nat} {full : Bool} {st : St} (h : (commandS s n nest full st).2.bad = false) : full = false ∧ ((commandS s n nest full st).1.op = 123 → nest < 6) ∧ ((commandS s n nest full st).1.op = 125 → 0 < nest) ∧ 0 ≤ (commandS s n nest full st).1.op ∧ (commandS s n nest full st).1.op < 256 := by
  unfold commandS at h ⊢
  dsimp only at h ⊢
  split at h
  · next hb => rw [hb] at h; cases h
  · next hb =>
    rw [if_neg hb]
    split at h
    · cases h
    · next hl =>
      rw [if_neg hl]
      unfold letterBad at hl
      simp only [not_or] at hl
      obtain ⟨_, h2, _, _, h5, h6⟩ := hl
      have p0 := peekC_lo s (advIf s 33 (blanksS s (s.size + 1) (addrsS s n st).2))
      have p1 := peekC_hi s (advIf s 33 (blanksS s (s.size + 1) (addrsS s n st).2))
      refine ⟨by simpa using h2, fun h => ?_, fun h => ?_, p0, p1⟩
      · dsimp only at h
        by_cases hq : 6 ≤ nest
        · exact absurd ⟨h, hq⟩ h5
        · omega
      · dsimp only at h
        by_cases hq : nest = 0
        · exact absurd ⟨h, hq⟩ h6
        · omega

def ints' (js : List Nat) : List Value := js.map fun j => Value.int .i64 (j : Nat)
theorem infoInt' : (Tryz.prog.info? 3).map (fun i => (i.zero, i.size, i.bytes)) = some (some (.int .i64 0), 1, 8) := by kernel_rfl

theorem own_agree2 {w w' : World} {base size n : Nat} {e : TypeId} {v : Value} {xs : List Value} (h : w.ownsRow base e size v n xs) (hk : ∀ k, v.ownBlock = some k → w'.heap[k]? = w.heap[k]?) : w'.ownsRow base e size v n xs := by
  refine ⟨h.1, ?_⟩
  rcases h.2 with hn | ⟨g, cap, cur, rfl, h0, hg, rest⟩
  · exact .inl hn
  · exact .inr ⟨g, cap, cur, rfl, h0, by rw [hk g rfl]; exact hg, rest⟩

theorem wpList_build_one {ops : Array Oper} {rest : List Oper} {o : Oper} {a : Act} {w : World} {Q : Exit → Act → World → Prop} (hg : o.guard = none) (x : Operand) (t e : TypeId) (ho : o.op = .buildSlice t 1 #[(0, x)]) {m : Nat} (hu : Tryz.prog.underlying t = some (.slice e)) (hi : ∃ ie z, Tryz.prog.info? e = some ie ∧ ie.zero = some z ∧ ie.size = m ∧ z.cells.size = m) (hm : 0 < m) (hm2 : m ≤ 1000) {cs : Array Value} (hc : cs.size = m) (hx : a.eval x = .agg cs)
    (h : wpList Tryz.prog ops Q rest (a.put o.dst (.slice (some ⟨w.heap.size, 0, none⟩) 1 1)) (w.alloc (.cells cs e))) : wpList Tryz.prog ops Q (o :: rest) a w := by
  obtain ⟨ie, z, h1, h2, h3, h4⟩ := hi
  refine wpList_buildSlice hg t e 1 _ ho cs ie z hu h1 h2 (by rw [h3]; omega) (by rw [h3]; omega) ?_ h
  have := Great.fill_whole (s := m) hm [Value.agg cs] ((Array.range (1 * m)).map (z.cells[· % z.cells.size]!)) (by intro v hv; simp at hv; subst hv; exact hc) (by simp)
  rw [h3]
  simpa [Value.cells, hx] using this

/-- The rows that the loop of commands fills. -/
structure Rrw (w : World) (base : Nat) (lv ov : Value) (l : List CmT) (css : List (Array Value)) (js : List Nat) (m : Nat) : Prop where
  L : w.ownsRow 0 62 31 lv l.length (flatC css)
  A : All2 CmdV css l
  O : w.ownsRow 0 3 1 ov js.length (ints' js)
  lb : ∀ k, lv.ownBlock = some k → base ≤ k
  ob : ∀ k, ov.ownBlock = some k → base ≤ k
  jn : ∀ j ∈ js, j < m
  l60 : l.length ≤ 60
  j6 : js.length ≤ 6
section
variable {w w' : World} {base b m : Nat} {lv ov : Value} {l : List CmT} {css : List (Array Value)} {js : List Nat}
theorem Rrw.kp (h : Rrw w base lv ov l css js m) (hk : Kp b w w') (hb : b < base) : Rrw w' base lv ov l css js m :=
  ⟨own_kp h.L hk (fun k hk' => by have := h.lb k hk'; omega), h.A, own_kp h.O hk (fun k hk' => by have := h.ob k hk'; omega), h.lb, h.ob, h.jn, h.l60, h.j6⟩
theorem Rrw.sizes (h : Rrw w base lv ov l css js m) : ∀ c ∈ css, c.size = 31 := fun c hc => by
  obtain ⟨i, hi, rfl⟩ := List.getElem_of_mem hc
  have hl : i < l.length := by rw [← h.A.1]; exact hi
  exact (h.A.2 i _ _ (List.getElem?_eq_getElem hi) (List.getElem?_eq_getElem hl)).1
theorem Rrw.up {m' : Nat} (h : Rrw w base lv ov l css js m) (hm : m ≤ m') : Rrw w base lv ov l css js m' := ⟨h.L, h.A, h.O, h.lb, h.ob, fun j hj => Nat.lt_of_lt_of_le (h.jn j hj) hm, h.l60, h.j6⟩
/-- A command is laid behind the others. -/
theorem Rrw.app (h : Rrw w base lv ov l css js (l.length + 1)) {cs : Array Value} {t : CmT} (hv : CmdV cs t) (hl : l.length < 60) {o : Obj} {g1 cap1 : Nat} (hown : w'.ownsRow 0 62 31 (.slice (some ⟨g1, 0, none⟩) (l.length + 1) cap1) (l.length + 1) (flatC css ++ cs.toList)) (hg : (w.alloc o).grownBy w' lv.ownBlock) (hat : lv.ownBlock = some g1 ∨ g1 = w.heap.size + 1) (hb : base ≤ w.heap.size) :
    Rrw w' base (.slice (some ⟨g1, 0, none⟩) (l.length + 1) cap1) ov (l ++ [t]) (css ++ [cs]) js (l ++ [t]).length := by
  have hlen : (l ++ [t]).length = l.length + 1 := by simp
  refine ⟨?_, h.A.snoc hv, ?_, ?_, h.ob, ?_, by omega, h.j6⟩
  · rw [hlen, flatC_snoc]; exact hown
  · refine own_agree2 (World.ownsRow.alloc h.O o) (fun k hk => ?_)
    exact hg.block k (World.ownsRow.lt (World.ownsRow.alloc h.O o) k hk).2 (fun e => own_ne h.L h.O (by decide) e.symm hk)
  · intro k hk
    simp only [Value.ownBlock, Option.some.injEq] at hk
    rcases hat with e | e
    · exact h.lb k (by rw [e, hk])
    · omega
  · rw [hlen]; exact h.jn
/-- A block begins. -/
theorem Rrw.push (h : Rrw w base lv ov l css js l.length) (hj : js.length < 6) {o : Obj} {g1 cap1 : Nat} (hown : w'.ownsRow 0 3 1 (.slice (some ⟨g1, 0, none⟩) (js.length + 1) cap1) (js.length + 1) (ints' js ++ [.int .i64 (l.length : Nat)])) (hg : (w.alloc o).grownBy w' ov.ownBlock) (hat : ov.ownBlock = some g1 ∨ g1 = w.heap.size + 1) (hb : base ≤ w.heap.size) :
    Rrw w' base lv (.slice (some ⟨g1, 0, none⟩) (js.length + 1) cap1) l css (js ++ [l.length]) (l.length + 1) := by
  have hlen : (js ++ [l.length]).length = js.length + 1 := by simp
  refine ⟨?_, h.A, ?_, h.lb, ?_, ?_, h.l60, by omega⟩
  · refine own_agree2 (World.ownsRow.alloc h.L o) (fun k hk => ?_)
    exact hg.block k (World.ownsRow.lt (World.ownsRow.alloc h.L o) k hk).2 (fun e => own_ne h.L h.O (by decide) hk e.symm)
  · rw [hlen, show ints' (js ++ [l.length]) = ints' js ++ [.int .i64 (l.length : Nat)] from by simp [ints']]; exact hown
  · intro k hk
    simp only [Value.ownBlock, Option.some.injEq] at hk
    rcases hat with e | e
    · exact h.ob k (by rw [e, hk])
    · omega
  · intro j hj'
    simp only [List.mem_append, List.mem_singleton] at hj'
    rcases hj' with hj' | hj'
    · have := h.jn j hj'; omega
    · omega
/-- A block ends. -/
theorem Rrw.pop {gl cl go_ co : Nat} {js0 : List Nat} {j : Nat} (h : Rrw w base (.slice (some ⟨gl, 0, none⟩) l.length cl) (.slice (some ⟨go_, 0, none⟩) (js0.length + 1) co) l css (js0 ++ [j]) l.length) (v : Int) :
    Rrw (w.setCell ⟨gl, j * 31 + 30, none⟩ (.int .i64 v)) base (.slice (some ⟨gl, 0, none⟩) l.length cl) (.slice (some ⟨go_, 0, none⟩) js0.length co) l (css.modify j (·.setIfInBounds 30 (.int .i64 v))) js0 (l.length + 1) := by
  have hO := h.O
  rw [show (js0 ++ [j]).length = js0.length + 1 from by simp, show ints' (js0 ++ [j]) = ints' js0 ++ [.int .i64 (j : Nat)] from by simp [ints']] at hO
  have hj6 := h.j6
  simp at hj6
  refine ⟨?_, h.A.modify j _ (fun x y hxy => hxy.set30 rfl), ?_, h.lb, h.ob, ?_, h.l60, by omega⟩
  · have := (h.L.stored (j * 31 + 30) (.int .i64 v)).1
    rw [flatC_set h.sizes j 30 _ (by omega)] at this
    exact this
  · refine own_set (ownsRow_pop (by simp [ints']) hO) ?_ _
    have := own_ne h.L h.O (by decide) rfl
    simpa [Value.ownBlock] using this
  · intro i hi
    have := h.jn i (by simp [hi])
    omega
end

set_option maxRecDepth 100000 in
set_option maxHeartbeats 1600000 in
theorem commands_any (n b K : Nat) (s : ByteArray) (st : St) (w : World) (h : RD w b s st) (hs : s.size ≤ 1048576) (hi : st.i ≤ s.size) (hn : 2 * (s.size - st.i) + 2 ≤ n) (hn' : n ≤ 4000000) (hK : s.size - st.i < K) :
    Calls Tryz.prog 14 #[.pointer (some ⟨b, 0, none⟩)] w fun e w' => ∃ lv css, e = .returned lv ∧ w'.ownsRow 0 62 31 lv (allS s n K st).1.length (flatC css) ∧ All2 CmdV css (allS s n K st).1 ∧ (allS s n K st).1.length ≤ 60 ∧ (∀ k, lv.ownBlock = some k → w.heap.size ≤ k) ∧ RD w' b s (allS s n K st).2 ∧ Kp b w w' := by
  have hbl := h.lt
  go_enter Tryz.func14, Tryz.ntmps14
  go_wp2_with fail
  go_loopg [3, 4] K (fun k lv ov w' => ∃ (cur : St) (l : List CmT) (css : List (Array Value)) (js : List Nat), Rrw w' w.heap.size lv ov l css js l.length ∧ RD w' b s cur ∧ Kp b w w' ∧ cur.i ≤ s.size ∧ st.i ≤ cur.i ∧ s.size - cur.i < k ∧ Hid (commandsS s n k l js.length cur = commandsS s n K [] 0 st))
  case atStart => exact ⟨st, [], [], [], ⟨World.ownsRow_nil _ _ _ _, All2.nil, World.ownsRow_nil _ _ _ _, fun k hk => (by cases hk), fun k hk => (by cases hk), fun j hj => (by cases hj), by simp, by simp⟩, h, Kp.refl _ _, hi, Nat.le_refl _, hK, rfl⟩
  case round =>
    obtain ⟨cur, l, css, js, hr, hR, hKw, hci, hsi, hck, HE⟩ := hrel
    obtain ⟨k, rfl⟩ : ∃ k, gk = k + 1 := ⟨gk - 1, by omega⟩
    obtain ⟨pl, cl, rfl, hcl⟩ := own_form hr.L
    obtain ⟨po, co, rfl, hco⟩ := own_form hr.O
    have r0 := hR.c0
    have r1 := hR.c1
    have r2 := hR.c2
    by_cases hgo : cur.bad = false ∧ cur.i < s.size
    · obtain ⟨hb, hlt⟩ := hgo
      rw [hb] at r2
      have hd : decide ((cur.i : Int) < s.size) = true := by simp; omega
      have hE := HE.out
      rw [commandsS, if_neg (by rw [hb]; simp; omega)] at hE
      have HE2 := hide hE
      clear hE HE
      go_wp2_with fail
      go_quiet (fail)
      go_wp2_with fail
      refine (blanks_any (s.size + 1) b s cur _ (hR.drewN _) hs hci (by omega)).mono ?_
      rintro e w1 ⟨rfl, hR1, hK1⟩
      have hon := On.blanks (s := s) (s.size + 1) hci
      have hK2 := (hKw.drewN nq).trans hK1
      have hr2 := Rrw.kp hr ((Kp.refl b wr).drewN nq |>.trans hK1) hbl
      clear hR hKw hK1 r0 r1 r2 hd hr
      generalize blanksS s (s.size + 1) cur = q at *
      have hq1 := hon.1
      have hq2 := hon.2
      cases hx : isB s q 10
      · have hE := HE2.out
        rw [if_neg (by rw [hx]; simp)] at hE
        have HE3 := hide hE
        have r0 := hR1.c0
        have r1 := hR1.c1
        clear hE HE2
        by_cases hql : q.i < s.size
        · have hd : decide ((q.i : Int) < s.size) = true := by simp; omega
          have hE := HE3.out
          rw [if_neg (by omega)] at hE
          have HE4 := hide hE
          have hcm := fun (W : World) (hW : RD W b s q) => command_any n b js.length (decide (60 ≤ l.length)) s q W hW hs hq2 (by omega) hn' (by have := hr2.j6; omega)
          have hcok := fun h => command_ok (s := s) (n := n) (nest := js.length) (full := decide (60 ≤ l.length)) (st := q) h
          have hcon := command_on (s := s) (n := n) js.length (decide (60 ≤ l.length)) hq2 (by omega)
          have hf60 : decide ((60 : Int) ≤ (l.length : Nat)) = decide (60 ≤ l.length) := by rw [decide_eq_decide]; omega
          generalize commandS s n js.length (decide (60 ≤ l.length)) q = C at *
          generalize hfl : decide (60 ≤ l.length) = fl at *
          obtain ⟨t, q2⟩ := C
          dsimp only at *
          have HCM := hide hcm
          have HCOK := hide hcok
          clear hE HE3 hcm hcok
          go_wp2_with (go_at_call 27; refine (is_of hx hR1 hs).mono ?_; rintro e w2 ⟨rfl, n2, rfl⟩)
          go_quiet (fail)
          go_upto_region 8 with fail
          go_wp2_with fail
          refine (HCM.out _ (hR1.drewN _)).mono ?_
          rintro e w3 ⟨cs, rfl, ⟨hz, h1⟩, hV, hR3, hK3⟩
          have hr3 := Rrw.kp hr2 (((Kp.refl b w1).drewN (n2 + nq)).trans hK3) hbl
          have K3 := (hK2.drewN (n2 + nq)).trans hK3
          have hbl3 := hR3.lt
          have hwl3 := K3.size
          have HRR3 := hide hr3
          clear hr2 hR1 hK2 hK3 HCM hx r0 r1 hr3
          have hZ0 := Blk.new w3 zeroC 62
          have hi2 : (Tryz.prog.info? 62).map (·.size) = some cs.size := by rw [infoCmd, hz]
          have hth := there_cmd (n := cs.size) hZ0 (by rw [hz]; rfl)
          have hC4 := setCells_all hZ0 cs (by rw [hz]; rfl)
          have hR4 := setCells_rd (k := w3.heap.size) (by omega) cs.toList 0 _ (hR3.alloc (.cells zeroC 62))
          have hK4 := setCells_kp (b := b) (k := w3.heap.size) (Nat.le_refl _) cs.toList 0 _ ((Kp.refl b w3).alloc (.cells zeroC 62))
          have K4 := K3.trans hK4
          have hr4 := Rrw.kp HRR3.out hK4 hbl
          have HRR4 := hide hr4
          have HLCB : Hid (∀ k, (Value.slice pl l.length cl).ownBlock = some k → k < w3.heap.size) := fun k hk => (World.ownsRow.lt HRR3.out.L k hk).2
          clear hr4 K3 hK4 HRR3 hR3
          go_upto_region 9 with (refine wpList_store_mid rfl 62 _ _ rfl w3.heap.size 0 cs rfl rfl hth hi2 h1 ?_)
          generalize hw1 : (w3.alloc (.cells zeroC 62)).setCells w3.heap.size 0 cs.toList = w4 at *
          change Code.wp _ _ _ _ ((w3.alloc (.cells zeroC 62)).setCells w3.heap.size 0 cs.toList)
          rw [hw1]
          have hcbl := hC4.lt
          generalize hcbq : w3.heap.size = cb at *
          clear hw1 hth hZ0 hi2 hcbq
          have r2 := hR4.c2
          cases hb2 : q2.bad
          · rw [hb2] at r2
            have hV2 := hV hb2
            obtain ⟨hf, h123, h125, hop0, hop1⟩ := HCOK.out hb2
            have hlt2 := hcon.2 hb2
            have hq2l := hcon.1.2
            have c0 := hC4.cell 0 hV2.2.2.1
            have hE := HE4.out
            rw [if_neg (by rw [hb2]; simp)] at hE
            have HE5 := hide hE
            have hl59 : l.length < 60 := by
              have : decide (60 ≤ l.length) = false := by rw [hfl]; exact hf
              rw [decide_eq_false_iff_not] at this; omega
            have HVV := hide (And.intro hV2 h1)
            clear hE HE4 HCOK hV hcon hf60 hfl
            obtain ⟨i0, hi0, hz0, hz1, hz2⟩ := info_parts infoCmdF
            have HI := hide (And.intro hi0 (And.intro hz0 (And.intro hz1 hz2)))
            obtain ⟨j0, hj0, hy0, hy1, hy2⟩ := info_parts infoInt'
            have HJ := hide (And.intro hj0 (And.intro hy0 (And.intro hy1 hy2)))
            clear hi0 hz0 hz1 hz2 hj0 hy0 hy1 hy2
            -- behind the blocks: the command is laid behind the others, and the line ends
            by_cases o123 : t.op = 123
            · rw [o123] at c0
              have h6 := h123 o123
              have hE := HE5.out
              rw [if_pos o123] at hE
              have HE6 : Hid (commandsS s n k (l ++ [t]) (js ++ [l.length]).length (if q2.i < s.size then eatS s 10 q2 else q2) = commandsS s n K [] 0 st) := by rw [List.length_append]; exact hE
              have hmj : js.length + 1 ≤ maxLen := by unfold maxLen; omega
              have hmb : (js.length + 1) * 8 ≤ 140737488355328 := by omega
              clear hE HE5
              go_upto_region 13 with (at_builtin; refine wpList_append_lies _ rfl _ _ 87 rfl 0 3 j0 (.int .i64 0) 1 8 Tryz.underlying87 HJ.out.1 HJ.out.2.1 HJ.out.2.2.1 HJ.out.2.2.2 rfl (by decide) (.slice po js.length co) js.length (ints' js) rfl (World.ownsRow.alloc HRR4.out.O _) ⟨w4.heap.size, 0, none⟩ 1 1 [.int .i64 (l.length : Nat)] rfl rfl (blk_news (Blk.newAt rfl)) (by intro u hu; simp at hu; subst hu; rfl) (by decide) hmj hmb (Nat.zero_le _) (w4.heap.size + 1) (by simp) ?_; intro g2 cap2 w5 hown5 hgrow5 hat5 hlt5)
              have HRR5 := hide (Rrw.push HRR4.out h6 hown5 hgrow5 hat5 K4.size)
              have C5 : Blk w5 cb cs 62 := grown_blk (hC4.alloc (.cells #[.int .i64 (l.length : Nat)] 3)) hgrow5 (own_blk HRR4.out.O hC4 (by decide))
              have R5 : RD w5 b s q2 := grown_blk (hR4.alloc (.cells #[.int .i64 (l.length : Nat)] 3)) hgrow5 (fun e => by have := HRR4.out.ob b e; omega)
              have K5 := kp_grown (K4.alloc (.cells #[.int .i64 (l.length : Nat)] 3)) hgrow5 HRR4.out.ob
              have c0' := C5.cell 0 (HVV.out.1.2.2.1)
              rw [o123] at c0'
              clear hC4 hR4 K4 HRR4 c0 hown5 hgrow5 hat5 r2
              obtain ⟨d, hd1, hd2⟩ := rowCmd
              have hi1 : (Tryz.prog.info? 62).map (·.size) = some cs.toList.length := by rw [infoCmd, Array.length_toList, hz]
              have hrg := range_cmd C5
              have hbs := build_one (t := 25) (e := 62) (m := 31) Tryz.underlying25 infoCmd4 (by omega) (by omega) hz
              have h1' : ∀ u ∈ cs.toList, u.oneCell' = true := fun u hu => by
                have := HVV.out.2
                rw [Array.all_eq_true_iff_forall_mem] at this
                exact this u (by simpa using hu)
              have hml : l.length + 1 ≤ maxLen := by unfold maxLen; omega
              have hbytes : (l.length + 1) * 312 ≤ 140737488355328 := by omega
              have H1' := hide h1'
              clear h1' h1
              go_upto_region 17 with (first | (refine wpList_load_mid rfl 62 _ rfl cb 0 rfl cs.toList d hrg hd1 hd2 hi1 ?_; rw [Array.toArray_toList]) | (refine wpList_build_one rfl _ 25 62 rfl (m := 31) Tryz.underlying25 infoCmd4 (by omega) (by omega) hz rfl ?_) | (at_builtin; refine wpList_append_lies _ rfl _ _ 25 rfl 0 62 i0 (.agg zeroC) 31 312 Tryz.underlying25 HI.out.1 HI.out.2.1 HI.out.2.2.1 HI.out.2.2.2 rfl (by decide) (.slice pl l.length cl) l.length (flatC css) rfl (World.ownsRow.alloc HRR5.out.L _) ⟨w5.heap.size, 0, none⟩ 1 1 cs.toList rfl (by rw [Array.length_toList, hz]) (World.news_of_block (heap_alloc_new w5 _)) H1'.out (by decide) hml hbytes (Nat.zero_le _) (w5.heap.size + 1) (by simp) ?_; intro g1 cap1 w7 hown7 hgrow7 hat7 hlt7))
              have hsz5 := K5.size
              have hr7 := Rrw.app HRR5.out HVV.out.1 hl59 hown7 hgrow7 hat7 hsz5
              have R7 : RD w7 b s q2 := grown_blk (R5.alloc (.cells cs 62)) hgrow7 (fun e => by have := HRR5.out.lb b e; omega)
              have K7 := kp_grown (K5.alloc (.cells cs 62)) hgrow7 HRR5.out.lb
              have HR7 := hide hr7
              have r0 := R7.c0
              have r1 := R7.c1
              have hlen7 : (l ++ [t]).length = l.length + 1 := by simp
              clear hrg hbs hown7 hgrow7 hr7 R5 K5 C5 hi1 hd1 hd2
              by_cases hq3 : q2.i < s.size
              · have hd3 : decide ((q2.i : Int) < s.size) = true := by simp; omega
                have hE := HE6.out
                rw [if_pos hq3] at hE
                have HE7 := hide hE
                have hel := eat_le s 10 q2 hq2l
                have heg := eat_ge s 10 q2
                clear hE
                go_quiet (fail)
                go_wp2_with (go_at_call 29; refine (eat_any b s q2 10 _ (R7.drewN _) hs).mono ?_; rintro e w8 ⟨rfl, R8, K8⟩)
                go_roundg k
                case measure => omega
                case rel => exact ⟨eatS s 10 q2, l ++ [t], _, _, HR7.out.kp (((Kp.refl b w7).drewN _).trans K8) hbl, R8, (K7.drewN _).trans K8, hel, by omega, by omega, HE7.out⟩
              · have hd3 : decide ((q2.i : Int) < s.size) = false := by simp; omega
                have hE := HE6.out
                rw [if_neg hq3] at hE
                have HE7 := hide hE
                clear hE
                go_quiet (fail)
                go_wp2_with fail
                go_roundg k
                case measure => omega
                case rel => exact ⟨q2, l ++ [t], _, _, HR7.out.kp ((Kp.refl b w7).drewN _) hbl, R7, K7.drewN _, hq2l, by omega, by omega, HE7.out⟩
            · by_cases o125 : t.op = 125
              · rw [o125] at c0
                have h0 := h125 o125
                have hE := HE5.out
                rw [if_neg o123, if_pos o125] at hE
                have hj0 : js ≠ [] := fun e => by rw [e] at h0; simp at h0
                obtain ⟨js0, j, rfl⟩ : ∃ js0 j, js = js0 ++ [j] := ⟨js.dropLast, js.getLast hj0, (List.dropLast_concat_getLast hj0).symm⟩
                have hrr := HRR4.out
                have hjn := hrr.jn j (by simp)
                have hlen : (js0 ++ [j]).length = js0.length + 1 := by simp
                have HE6 : Hid (commandsS s n k (l ++ [t]) js0.length (if q2.i < s.size then eatS s 10 q2 else q2) = commandsS s n K [] 0 st) := by
                  rw [hlen] at hE; exact hE
                have hj6 := hrr.j6
                rw [hlen] at hj6
                rw [hlen] at hrr hco ⊢
                obtain ⟨go_, co', hgo, -, -⟩ := hrr.O.form (by rw [hlen]; omega)
                obtain ⟨gl, cl', hgl, -, -⟩ := hrr.L.form (by omega)
                rw [hlen] at hgo
                simp only [Value.slice.injEq] at hgo hgl
                obtain ⟨rfl, -, rfl⟩ := hgo
                obtain ⟨rfl, -, rfl⟩ := hgl
                have hO := hrr.O
                rw [hlen, show ints' (js0 ++ [j]) = ints' js0 ++ [.int .i64 (j : Nat)] from by simp [ints']] at hO
                have o1 : w4.cell? ⟨go_, js0.length, none⟩ = some (.int .i64 (j : Nat)) := by
                  rw [hO.cellAt js0.length (by omega), List.getElem?_append_right (by simp [ints'])]
                  simp [ints']
                have hxl : j * 31 + 30 < (flatC css).length := by rw [hrr.L.1]; omega
                have l1 : w4.cell? ⟨gl, j * 31 + 30, none⟩ = some (flatC css)[j * 31 + 30] := by
                  rw [hrr.L.cellAt (j * 31 + 30) (by omega), List.getElem?_eq_getElem hxl]
                have lf : w4.frozen? ⟨gl, j * 31 + 30, none⟩ = false := hrr.L.frozenAt _
                generalize (flatC css)[j * 31 + 30] = x30 at l1
                have hglb := hrr.lb gl rfl
                have hglc : gl < cb := HLCB.out gl rfl
                have hw1 : IntKind.i64.wrap ((js0.length : Int) + 1 - 1) = (js0.length : Int) := by rw [wrapE _ (by omega) (by omega)]; omega
                have HRR5 := hide (Rrw.pop hrr (l.length : Int))
                have C5 := hC4.other (p := ⟨gl, j * 31 + 30, none⟩) (show gl ≠ cb by omega) (.int .i64 (l.length : Int))
                have R5 := hR4.other (p := ⟨gl, j * 31 + 30, none⟩) (show gl ≠ b by omega) (.int .i64 (l.length : Int))
                have K5 := K4.setNew (p := ⟨gl, j * 31 + 30, none⟩) hglb (.int .i64 (l.length : Int))
                clear hE HE5 hrr hO hxl
                go_upto_region 16 with fail
                generalize w4.setCell ⟨gl, j * 31 + 30, none⟩ (.int .i64 (l.length : Int)) = w5 at *
                clear hC4 hR4 K4 HRR4 c0 o1 l1 lf r2
                obtain ⟨d, hd1, hd2⟩ := rowCmd
                have hi1 : (Tryz.prog.info? 62).map (·.size) = some cs.toList.length := by rw [infoCmd, Array.length_toList, hz]
                have hrg := range_cmd C5
                have hbs := build_one (t := 25) (e := 62) (m := 31) Tryz.underlying25 infoCmd4 (by omega) (by omega) hz
                have h1' : ∀ u ∈ cs.toList, u.oneCell' = true := fun u hu => by
                  have := HVV.out.2
                  rw [Array.all_eq_true_iff_forall_mem] at this
                  exact this u (by simpa using hu)
                have hml : l.length + 1 ≤ maxLen := by unfold maxLen; omega
                have hbytes : (l.length + 1) * 312 ≤ 140737488355328 := by omega
                have H1' := hide h1'
                clear h1' h1
                go_upto_region 17 with (first | (refine wpList_load_mid rfl 62 _ rfl cb 0 rfl cs.toList d hrg hd1 hd2 hi1 ?_; rw [Array.toArray_toList]) | (refine wpList_build_one rfl _ 25 62 rfl (m := 31) Tryz.underlying25 infoCmd4 (by omega) (by omega) hz rfl ?_) | (at_builtin; refine wpList_append_lies _ rfl _ _ 25 rfl 0 62 i0 (.agg zeroC) 31 312 Tryz.underlying25 HI.out.1 HI.out.2.1 HI.out.2.2.1 HI.out.2.2.2 rfl (by decide) (.slice (some ⟨gl, 0, none⟩) l.length cl) l.length (flatC (css.modify j (·.setIfInBounds 30 (.int .i64 (l.length : Int))))) rfl (World.ownsRow.alloc HRR5.out.L _) ⟨w5.heap.size, 0, none⟩ 1 1 cs.toList rfl (by rw [Array.length_toList, hz]) (World.news_of_block (heap_alloc_new w5 _)) H1'.out (by decide) hml hbytes (Nat.zero_le _) (w5.heap.size + 1) (by simp) ?_; intro g1 cap1 w7 hown7 hgrow7 hat7 hlt7))
                have hsz5 := K5.size
                have hr7 := Rrw.app HRR5.out HVV.out.1 hl59 hown7 hgrow7 hat7 hsz5
                have R7 : RD w7 b s q2 := grown_blk (R5.alloc (.cells cs 62)) hgrow7 (fun e => by have := HRR5.out.lb b e; omega)
                have K7 := kp_grown (K5.alloc (.cells cs 62)) hgrow7 HRR5.out.lb
                have HR7 := hide hr7
                have r0 := R7.c0
                have r1 := R7.c1
                have hlen7 : (l ++ [t]).length = l.length + 1 := by simp
                clear hrg hbs hown7 hgrow7 hr7 R5 K5 C5 hi1 hd1 hd2
                by_cases hq3 : q2.i < s.size
                · have hd3 : decide ((q2.i : Int) < s.size) = true := by simp; omega
                  have hE := HE6.out
                  rw [if_pos hq3] at hE
                  have HE7 := hide hE
                  have hel := eat_le s 10 q2 hq2l
                  have heg := eat_ge s 10 q2
                  clear hE
                  go_quiet (fail)
                  go_wp2_with (go_at_call 29; refine (eat_any b s q2 10 _ (R7.drewN _) hs).mono ?_; rintro e w8 ⟨rfl, R8, K8⟩)
                  go_roundg k
                  case measure => omega
                  case rel => exact ⟨eatS s 10 q2, l ++ [t], _, _, HR7.out.kp (((Kp.refl b w7).drewN _).trans K8) hbl, R8, (K7.drewN _).trans K8, hel, by omega, by omega, HE7.out⟩
                · have hd3 : decide ((q2.i : Int) < s.size) = false := by simp; omega
                  have hE := HE6.out
                  rw [if_neg hq3] at hE
                  have HE7 := hide hE
                  clear hE
                  go_quiet (fail)
                  go_wp2_with fail
                  go_roundg k
                  case measure => omega
                  case rel => exact ⟨q2, l ++ [t], _, _, HR7.out.kp ((Kp.refl b w7).drewN _) hbl, R7, K7.drewN _, hq2l, by omega, by omega, HE7.out⟩
              · have hE := HE5.out
                rw [if_neg o123, if_neg o125] at hE
                have HE6 := hide hE
                have HRR5 := hide (HRR4.out.up (Nat.le_succ _))
                have C5 := hC4
                have R5 := hR4
                have K5 := K4
                clear hE HE5 hC4 hR4 K4 HRR4
                obtain ⟨d, hd1, hd2⟩ := rowCmd
                have hi1 : (Tryz.prog.info? 62).map (·.size) = some cs.toList.length := by rw [infoCmd, Array.length_toList, hz]
                have hrg := range_cmd C5
                have hbs := build_one (t := 25) (e := 62) (m := 31) Tryz.underlying25 infoCmd4 (by omega) (by omega) hz
                have h1' : ∀ u ∈ cs.toList, u.oneCell' = true := fun u hu => by
                  have := HVV.out.2
                  rw [Array.all_eq_true_iff_forall_mem] at this
                  exact this u (by simpa using hu)
                have hml : l.length + 1 ≤ maxLen := by unfold maxLen; omega
                have hbytes : (l.length + 1) * 312 ≤ 140737488355328 := by omega
                have H1' := hide h1'
                clear h1' h1
                go_upto_region 17 with (first | (refine wpList_load_mid rfl 62 _ rfl cb 0 rfl cs.toList d hrg hd1 hd2 hi1 ?_; rw [Array.toArray_toList]) | (refine wpList_build_one rfl _ 25 62 rfl (m := 31) Tryz.underlying25 infoCmd4 (by omega) (by omega) hz rfl ?_) | (at_builtin; refine wpList_append_lies _ rfl _ _ 25 rfl 0 62 i0 (.agg zeroC) 31 312 Tryz.underlying25 HI.out.1 HI.out.2.1 HI.out.2.2.1 HI.out.2.2.2 rfl (by decide) (.slice pl l.length cl) l.length (flatC css) rfl (World.ownsRow.alloc HRR5.out.L _) ⟨w4.heap.size, 0, none⟩ 1 1 cs.toList rfl (by rw [Array.length_toList, hz]) (World.news_of_block (heap_alloc_new w4 _)) H1'.out (by decide) hml hbytes (Nat.zero_le _) (w4.heap.size + 1) (by simp) ?_; intro g1 cap1 w7 hown7 hgrow7 hat7 hlt7))
                have hsz5 := K5.size
                have hr7 := Rrw.app HRR5.out HVV.out.1 hl59 hown7 hgrow7 hat7 hsz5
                have R7 : RD w7 b s q2 := grown_blk (R5.alloc (.cells cs 62)) hgrow7 (fun e => by have := HRR5.out.lb b e; omega)
                have K7 := kp_grown (K5.alloc (.cells cs 62)) hgrow7 HRR5.out.lb
                have HR7 := hide hr7
                have r0 := R7.c0
                have r1 := R7.c1
                have hlen7 : (l ++ [t]).length = l.length + 1 := by simp
                clear hrg hbs hown7 hgrow7 hr7 R5 K5 C5 hi1 hd1 hd2
                by_cases hq3 : q2.i < s.size
                · have hd3 : decide ((q2.i : Int) < s.size) = true := by simp; omega
                  have hE := HE6.out
                  rw [if_pos hq3] at hE
                  have HE7 := hide hE
                  have hel := eat_le s 10 q2 hq2l
                  have heg := eat_ge s 10 q2
                  clear hE
                  go_quiet (fail)
                  go_wp2_with (go_at_call 29; refine (eat_any b s q2 10 _ (R7.drewN _) hs).mono ?_; rintro e w8 ⟨rfl, R8, K8⟩)
                  go_roundg k
                  case measure => omega
                  case rel => exact ⟨eatS s 10 q2, l ++ [t], _, _, HR7.out.kp (((Kp.refl b w7).drewN _).trans K8) hbl, R8, (K7.drewN _).trans K8, hel, by omega, by omega, HE7.out⟩
                · have hd3 : decide ((q2.i : Int) < s.size) = false := by simp; omega
                  have hE := HE6.out
                  rw [if_neg hq3] at hE
                  have HE7 := hide hE
                  clear hE
                  go_quiet (fail)
                  go_wp2_with fail
                  go_roundg k
                  case measure => omega
                  case rel => exact ⟨q2, l ++ [t], _, _, HR7.out.kp ((Kp.refl b w7).drewN _) hbl, R7, K7.drewN _, hq2l, by omega, by omega, HE7.out⟩
          · rw [hb2] at r2
            have hE := HE4.out
            rw [if_pos hb2] at hE
            have hA : allS s n K st = (l, q2) := by
              unfold allS
              rw [← hE]
              dsimp only
              rw [spoil_bad hb2]
              simp
            have HA := hide hA
            clear hE HE4 hA HCOK hV
            go_wp2_with fail
            go_ret
            rw [HA.out]
            have h2 := HRR4.out
            exact ⟨_, css, rfl, h2.L, h2.A, h2.l60, h2.lb, hR4, K4⟩
        · have hd : decide ((q.i : Int) < s.size) = false := by simp; omega
          have hE := HE3.out
          rw [if_pos (by omega)] at hE
          have HE4 := hide hE
          clear hE HE3
          go_wp2_with (go_at_call 27; refine (is_of hx hR1 hs).mono ?_; rintro e w2 ⟨rfl, n2, rfl⟩)
          go_quiet (fail)
          go_wp2_with fail
          go_roundg k
          case measure => omega
          case rel => exact ⟨q, l, css, js, Rrw.kp hr2 (((Kp.refl b w1).drewN n2).drewN nq) hbl, hR1, (hK2.drewN n2).drewN nq, hq2, by omega, by omega, HE4.out⟩
      · have hE := HE2.out
        rw [if_pos hx] at hE
        have HE3 := hide hE
        have hlt2 := peekOk_lt (isB_ok hx)
        have r1 := hR1.c1
        have rf := hR1.fz
        clear hE HE2
        go_wp2_with (go_at_call 27; refine (is_of hx hR1 hs).mono ?_; rintro e w2 ⟨rfl, n2, rfl⟩)
        go_roundg k
        case measure => omega
        case rel => exact ⟨adv q, l, css, js, Rrw.kp hr2 (((Kp.refl b w1).drewN n2).set 1 _) hbl, (hR1.drewN n2).adv rfl, (hK2.drewN n2).set 1 _, by simp [adv]; omega, by simp [adv]; omega, by simp [adv]; omega, HE3.out⟩
    · have hE := HE.out
      rw [commandsS, if_pos (by
        by_cases h1 : cur.bad = true
        · exact .inl h1
        · right
          have : cur.bad = false := by simpa using h1
          by_cases h2 : cur.i < s.size
          · exact absurd ⟨this, h2⟩ hgo
          · omega)] at hE
      have hA : allS s n K st = (l, if 0 < js.length then spoil cur else cur) := by
        unfold allS
        rw [← hE]
      have HA := hide hA
      clear hE HE hA
      have hrr : ∀ W : World, Kp b wr W → Rrw W w.heap.size (.slice pl l.length cl) (.slice po js.length co) l css js l.length := fun W hW => hr.kp hW hbl
      have HRR := hide hrr
      clear hrr
      have hspo := hR.spoil
      have key : cur.bad = true ∨ (cur.bad = false ∧ ¬ cur.i < s.size) := by
        cases hq : cur.bad
        · exact .inr ⟨rfl, fun h2 => hgo ⟨hq, h2⟩⟩
        · exact .inl rfl
      have rf := hR.fz
      clear hgo
      by_cases hj : js.length = 0
      · have hdj : decide ((0 : Int) < (js.length : Nat)) = false := by rw [decide_eq_false_iff_not]; omega
        rw [if_neg (by omega)] at HA
        rcases key with hb | ⟨hb, hlt⟩
        · rw [hb] at r2
          go_wp2_with fail
          go_quiet (fail)
          go_wp2_with fail
          go_ret
          have h2 := HRR.out _ ((Kp.refl b wr).drewN nq)
          rw [HA.out]
          exact ⟨_, css, rfl, h2.L, h2.A, h2.l60, h2.lb, hR.drewN nq, hKw.drewN nq⟩
        · rw [hb] at r2
          have hd : decide ((cur.i : Int) < s.size) = false := by simp; omega
          go_wp2_with fail
          go_quiet (fail)
          go_wp2_with fail
          go_ret
          have h2 := HRR.out _ ((Kp.refl b wr).drewN nq)
          rw [HA.out]
          exact ⟨_, css, rfl, h2.L, h2.A, h2.l60, h2.lb, hR.drewN nq, hKw.drewN nq⟩
      · have hdj : decide ((0 : Int) < (js.length : Nat)) = true := by rw [decide_eq_true_iff]; omega
        rw [if_pos (by omega)] at HA
        rcases key with hb | ⟨hb, hlt⟩
        · rw [hb] at r2
          go_wp2_with fail
          go_quiet (fail)
          go_wp2_with fail
          go_ret
          have h2 := HRR.out _ (((Kp.refl b wr).drewN nq).set 2 (.bool true))
          rw [HA.out]
          exact ⟨_, css, rfl, h2.L, h2.A, h2.l60, h2.lb, (hR.drewN nq).spoil, (hKw.drewN nq).set 2 _⟩
        · rw [hb] at r2
          have hd : decide ((cur.i : Int) < s.size) = false := by simp; omega
          go_wp2_with fail
          go_quiet (fail)
          go_wp2_with fail
          go_ret
          have h2 := HRR.out _ (((Kp.refl b wr).drewN nq).set 2 (.bool true))
          rw [HA.out]
          exact ⟨_, css, rfl, h2.L, h2.A, h2.l60, h2.lb, (hR.drewN nq).spoil, (hKw.drewN nq).set 2 _⟩
end Go.Proofs.YtmjdaifalgpdnaaGreat
