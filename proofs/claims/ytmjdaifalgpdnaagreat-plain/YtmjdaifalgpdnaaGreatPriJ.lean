import Derived.Test.YtmjdaifalgpdnaaGreatPriH
import Derived.Test.YtmjdaifalgpdnaaGreatPscS
namespace Go.Proofs.YtmjdaifalgpdnaaGreat
open Go.RowKit

theorem full_bad (s : ByteArray) (n nest : Nat) (st : St) : (commandS s n nest true st).2.bad = true := by
  unfold commandS
  dsimp only
  split
  · next h => exact h
  · split
    · rfl
    · next h => exact absurd (.inr (.inl rfl)) h
theorem plain_small (s : ByteArray) (n nest : Nat) (full : Bool) (st : St) : (commandS s n nest full st).1.plain.size ≤ 2 * s.size + 1 := by
  unfold commandS
  dsimp only
  split
  · exact Nat.zero_le _
  · split
    · exact Nat.zero_le _
    · unfold plainC
      have h1 := size_ext s st.i (addrsS s n st).2.i
      dsimp only
      rw [ByteArray.size_append]
      have h2 := size_ext s (advIf s 33 (blanksS s (s.size + 1) (addrsS s n st).2)).i (restS s n (peekC s (advIf s 33 (blanksS s (s.size + 1) (addrsS s n st).2))) (adv (advIf s 33 (blanksS s (s.size + 1) (addrsS s n st).2)))).i
      split
      · rw [ByteArray.size_append]
        show _ + 1 + _ ≤ _
        omega
      · omega
theorem commands_len (s : ByteArray) (n : Nat) : ∀ (k : Nat) (l : List CmT) (nest : Nat) (st : St), l.length ≤ 60 → (∀ t ∈ l, t.plain.size ≤ 2 * s.size + 1) → (commandsS s n k l nest st).1.1.length ≤ 60 ∧ ∀ t ∈ (commandsS s n k l nest st).1.1, t.plain.size ≤ 2 * s.size + 1
  | 0, l, nest, st, h, h2 => ⟨h, h2⟩
  | k + 1, l, nest, st, h, h2 => by
    rw [commandsS]
    split
    · exact ⟨h, h2⟩
    · split
      · exact commands_len s n k l nest _ h h2
      · split
        · exact commands_len s n k l nest _ h h2
        · split
          · exact ⟨h, h2⟩
          · next hb =>
            have hl : l.length < 60 := by
              rcases Nat.lt_or_ge l.length 60 with h9 | h9
              · exact h9
              · rw [show decide (60 ≤ l.length) = true by simpa using h9] at hb
                exact absurd (full_bad s n nest _) hb
            refine commands_len s n k _ _ _ (by simp; omega) (fun t ht => ?_)
            simp only [List.mem_append, List.mem_singleton] at ht
            rcases ht with ht | rfl
            · exact h2 t ht
            · exact plain_small s n nest _ _
theorem scr_len (s : ByteArray) : (scrS s).1.length ≤ 60 ∧ ∀ t ∈ (scrS s).1, t.plain.size ≤ 2 * s.size + 1 := commands_len s _ _ [] 0 _ (Nat.zero_le _) (fun t ht => by cases ht)

theorem strCells_bytes (s : ByteArray) : Lib.strCells s = Lib.byteCells s.data.toList := rfl
theorem bytes_app (a b : ByteArray) : Lib.byteCells a.data.toList ++ Lib.strCells b = Lib.byteCells (a ++ b).data.toList := by
  rw [strCells_bytes, ByteArray.data_append, Array.toList_append]
  unfold Lib.byteCells
  rw [List.map_append]
theorem bytes_snoc (a : ByteArray) : Lib.byteCells a.data.toList ++ [.int .u8 10] = Lib.byteCells (a ++ ⟨#[10]⟩).data.toList := bytes_app a ⟨#[10]⟩
theorem bytes_len (a : ByteArray) : (Lib.byteCells a.data.toList).length = a.size := by rw [Lib.byteCells_length, Array.length_toList]; rfl

theorem bld_below {T e : TypeId} {b : Nat} {bs : List Value} {w w' : World} (h : Lib.IsBuilder T e b b bs w) (hk : ∀ k, k < w.heap.size → w'.heap[k]? = w.heap[k]?) : Lib.IsBuilder T e b b bs w' := by
  have key : ∀ p, Lib.BuilderAt T e b b p bs w → Lib.BuilderAt T e b b p bs w' := fun p h => by
    have hlt := h.lt
    obtain ⟨h1, v, h2, h3, h4⟩ := h
    exact ⟨h1, v, by rw [hk b hlt]; exact h2, own_agree h3 (fun k hk' => hk k (World.ownsRow.lt h3 k hk').2), h4⟩
  rcases h with h | h
  · exact .inl (key _ h)
  · exact .inr (key _ h)

set_option maxRecDepth 100000 in
set_option maxHeartbeats 1600000 in
theorem plain_any (cv : Value) (ls : List CmT) (css : List (Array Value)) (w : World) (m : Nat) (hL : w.ownsRow 0 81 13 cv ls.length (flatC css)) (hA : All2 PCmdV css ls) (h60 : ls.length ≤ 60) (hm : m ≤ 3000000) (hsm : ∀ t ∈ ls, t.plain.size ≤ m) :
    Calls Tryz.prog 13 #[cv] w fun e w' => e = .returned (.string (printL ls)) ∧ Below w.heap.size w w' := by
  have hz : ∀ c ∈ css, c.size = 13 := fun c hc => by
    obtain ⟨i, hi, rfl⟩ := List.getElem_of_mem hc
    have hl : i < ls.length := by rw [← hA.1]; exact hi
    exact (hA.2 i _ _ (List.getElem?_eq_getElem hi) (List.getElem?_eq_getElem hl)).1
  have hB0 : Below w.heap.size w (w.alloc (.cells #[.pointer none, .slice none 0 0] 77)) := (Below.refl _ w).alloc (Nat.le_refl _) _
  have hI0 : Lib.IsBuilder 77 5 w.heap.size w.heap.size (Lib.byteCells (printL (ls.take 0)).data.toList) (w.alloc (.cells #[.pointer none, .slice none 0 0] 77)) := .inl ⟨Nat.le_refl _, .slice none 0 0, heap_alloc_new w _, World.ownsRow_nil _ _ _ _, by simp [Value.ownBlock]⟩
  obtain ⟨pl, cl, rfl, hcl⟩ := own_form hL
  have HLS := hide (And.intro hL (And.intro hA (And.intro hz hsm)))
  clear hL hA hz hsm
  go_enter Tryz.func13, Tryz.ntmps13
  go_wp2_with fail
  go_loopg [8] ls.length (fun k iv w' => ∃ i : Nat, iv = .int .i64 i ∧ i + k = ls.length ∧ (printL (ls.take i)).size ≤ i * 3000001 ∧ Lib.IsBuilder 77 5 w.heap.size w.heap.size (Lib.byteCells (printL (ls.take i)).data.toList) w' ∧ Below w.heap.size w w')
  case atStart => exact ⟨0, rfl, by omega, Nat.zero_le _, hI0, hB0⟩
  case round =>
    obtain ⟨i, rfl, hik, hsz, hI, hB⟩ := hrel
    by_cases hil : i < ls.length
    · have hd : decide ((i : Int) < (ls.length : Nat)) = true := by rw [decide_eq_true_iff]; omega
      obtain ⟨hL, hA, hz, hsm⟩ := HLS.out
      obtain ⟨gl, cl', hgl, -, hgl2⟩ := hL.form (by omega)
      simp only [Value.slice.injEq] at hgl
      obtain ⟨rfl, -, rfl⟩ := hgl
      have hL2 := own_agree (w' := wr) hL (fun k hk => hB.block k (World.ownsRow.lt hL k hk).2)
      have hic : i < css.length := by rw [hA.1]; exact hil
      obtain ⟨t, ht⟩ : ∃ t, ls[i]? = some t := ⟨_, List.getElem?_eq_getElem hil⟩
      obtain ⟨cs, hcs⟩ : ∃ cs, css[i]? = some cs := ⟨_, List.getElem?_eq_getElem hic⟩
      have hV := hA.2 i cs t hcs ht
      have htx := hsm t (List.mem_of_getElem? ht)
      have hrg := flat_range hL2 hz hil hcs
      have hzc := hV.1
      have h1c := hV.2.1
      obtain ⟨d, hd1, hd2⟩ := rowCommand
      have hi1 : (Tryz.prog.info? 81).map (·.size) = some cs.toList.length := by rw [infoCommand1, Array.length_toList, hzc]
      have hi2 : (Tryz.prog.info? 81).map (·.size) = some cs.size := by rw [infoCommand1, hzc]
      have hZ := Blk.new wr #[.int .u8 0, .int .i64 0, .slice none 0 0, .bool false, .string ⟨#[]⟩, .int .i64 0, .string ⟨#[]⟩, .string ⟨#[]⟩, .int .i64 0, .string ⟨#[]⟩, .pointer none, .string ⟨#[]⟩, .string ⟨#[]⟩] 81
      have hth : (wr.alloc (.cells #[.int .u8 0, .int .i64 0, .slice none 0 0, .bool false, .string ⟨#[]⟩, .int .i64 0, .string ⟨#[]⟩, .string ⟨#[]⟩, .int .i64 0, .string ⟨#[]⟩, .pointer none, .string ⟨#[]⟩, .string ⟨#[]⟩] 81)).there wr.heap.size 0 cs.size := blk_there hZ (by rw [hzc]; rfl)
      have hC5 := setCells_all hZ cs (by rw [hzc]; rfl)
      have hK5 := setCells_kp (b := wr.heap.size) (k := wr.heap.size) (W := wr) (Nat.le_refl _) cs.toList 0 _ ((Kp.refl wr.heap.size wr).alloc (.cells #[.int .u8 0, .int .i64 0, .slice none 0 0, .bool false, .string ⟨#[]⟩, .int .i64 0, .string ⟨#[]⟩, .string ⟨#[]⟩, .int .i64 0, .string ⟨#[]⟩, .pointer none, .string ⟨#[]⟩, .string ⟨#[]⟩] 81))
      have hbs := hB.size
      have hI5 := bld_below hI (fun k hk => hK5.block k hk (by omega))
      have hB5 := hB.trans (below_kp hK5 hbs hbs)
      have HT := hide (printL_take ls ht)
      have hw1 : IntKind.i64.wrap ((i : Int) + 1) = (i : Int) + 1 := wrapE _ (by omega) (by omega)
      clear hL hA hz hsm hL2
      go_upto_region 5 with (first | (refine wpList_load_mid rfl 81 _ rfl gl (i * 13) rfl cs.toList d hrg hd1 hd2 hi1 ?_; rw [Array.toArray_toList]) | (refine wpList_store_mid rfl 81 _ _ rfl wr.heap.size 0 cs rfl rfl hth hi2 h1c ?_))
      generalize hcbq : wr.heap.size = cb at *
      generalize (wr.alloc (.cells #[.int .u8 0, .int .i64 0, .slice none 0 0, .bool false, .string ⟨#[]⟩, .int .i64 0, .string ⟨#[]⟩, .string ⟨#[]⟩, .int .i64 0, .string ⟨#[]⟩, .pointer none, .string ⟨#[]⟩, .string ⟨#[]⟩] 81)).setCells cb 0 cs.toList = w5 at *
      have c4 := hC5.cell 4 hV.2.2.2.2.1
      generalize printL (ls.take i) = P at *
      have sP := bytes_len P
      have b5 := hB5.size
      have sP2 := bytes_len (P ++ t.plain)
      rw [ByteArray.size_append] at sP2
      clear hrg hi1 hi2 hth hZ hd1 hd2 h1c hK5 hC5 hI hB
      go_wp2_with (go_at_call 23; refine (bWriteString w.heap.size w.heap.size _ t.plain w5 hI5 (by omega) b5).mono ?_; rintro e w6 ⟨rfl, hI6, hB6⟩; rw [bytes_app] at hI6; have b6 := hB6.size)
      refine (bWriteByte w.heap.size w.heap.size _ 10 w6 (.inr hI6) (by omega) (by omega)).mono ?_
      rintro e w7 ⟨rfl, hI7, hB7⟩
      rw [bytes_snoc] at hI7
      go_wp2_with fail
      go_roundg (gk - 1)
      case measure => omega
      case rel =>
        refine ⟨i + 1, by go_num, by omega, ?_, ?_, (hB5.trans hB6).trans hB7⟩
        · rw [HT.out, ByteArray.size_append, ByteArray.size_append]
          show _ + _ + 1 ≤ _
          omega
        · rw [HT.out]; exact .inr hI7
    · have hd : decide ((i : Int) < (ls.length : Nat)) = false := by rw [decide_eq_false_iff_not]; omega
      have : i = ls.length := by omega
      subst this
      rw [List.take_length] at hI
      have b5 := hB.size
      go_wp2_with fail
      refine (bString w.heap.size w.heap.size _ _ hI b5).mono ?_
      rintro e w7 ⟨rfl, hB7⟩
      go_wp2_with fail
      go_ret
      exact ⟨rfl, hB.trans hB7⟩
end Go.Proofs.YtmjdaifalgpdnaaGreat

namespace Go.Proofs.YtmjdaifalgpdnaaGreat
open Go.RowKit

/-- What the document's Script does. -/
def RefPost (w : World) (s : ByteArray) (e : Ending) (w' : World) : Prop :=
  Below w.heap.size w w' ∧ ∃ lv, e = .returned (.tuple #[lv, .int .i64 (errS s).1, .int .i64 (errS s).2]) ∧ ((errS s).1 = 0 → ∃ css, w'.ownsRow 0 62 31 lv (scrS s).1.length (flatC css) ∧ All2 CmdV css (scrS s).1 ∧ (scrS s).1.length ≤ 60 ∧ (∀ k, lv.ownBlock = some k → w.heap.size ≤ k)) ∧ ∃ pa n cap, lv = .slice pa n cap

set_option maxRecDepth 100000 in
set_option maxHeartbeats 1000000 in
theorem script_any (s : ByteArray) (w : World) : Calls Tryz.prog 6 #[.string s] w fun e w' => RefPost w s e w' := by
  by_cases hlen : 1000 < s.size
  · have hd : decide ((1000 : Int) < (s.size : Nat)) = true := by rw [decide_eq_true_iff]; omega
    have hE : errS s = (1, 0) := by unfold errS; rw [if_pos hlen]
    have HE := hide hE
    clear hE hlen
    go_enter Tryz.func6, Tryz.ntmps6
    go_wp2_with fail
    refine bodyPost_ret (res_tmp3 rfl _ _ _) rfl ?_
    refine ⟨Below.refl _ w, .slice none 0 0, ?_, ?_, none, 0, 0, rfl⟩
    · rw [HE.out]; rfl
    · rw [HE.out]; intro h; cases h
  · have hd : decide ((1000 : Int) < (s.size : Nat)) = false := by rw [decide_eq_false_iff_not]; omega
    have hR : RD (w.alloc (.cells #[.string s, .int .i64 0, .bool false, .int .i64 0] 52)) w.heap.size s ⟨0, false, 0⟩ := Blk.new w _ _
    have hB : Below w.heap.size w (w.alloc (.cells #[.string s, .int .i64 0, .bool false, .int .i64 0] 52)) := (Below.refl _ w).alloc (Nat.le_refl _) _
    have hc := commands_any (2 * s.size + 2) w.heap.size (s.size + 1) s ⟨0, false, 0⟩ _ hR (by omega) (Nat.zero_le _) (by simp) (by omega) (by simp)
    have hAll : allS s (2 * s.size + 2) (s.size + 1) ⟨0, false, 0⟩ = scrS s := rfl
    rw [hAll] at hc
    have hE : errS s = if (scrS s).2.bad = true then ((3 : Int), (((scrS s).2.i : Nat) : Int)) else match lostS (scrS s).1 (scrS s).1.length 0 with | some p => ((4 : Int), ((p : Nat) : Int)) | none => ((0 : Int), (0 : Int)) := by unfold errS; rw [if_neg hlen]; rfl
    have HE := hide hE
    have HC := hide hc
    have HB := hide hB
    clear hc hAll hE hR hB hlen
    go_enter Tryz.func6, Tryz.ntmps6
    go_wp2_with fail
    refine HC.out.mono ?_
    rintro e w1 ⟨lv, css, rfl, hL, hA, h60, hlb, hR1, hK1⟩
    have B1 : Below w.heap.size w w1 := Kp.toBelow HB.out hK1 (Nat.le_refl _)
    have hlb2 : ∀ k, lv.ownBlock = some k → w.heap.size ≤ k := fun k hk => by have := hlb k hk; simp at this; omega
    clear HC HB hK1 hlb
    have r1 := hR1.c1
    have r2 := hR1.c2
    obtain ⟨pa, cap, rfl, hcap⟩ := own_form hL
    cases hb : (scrS s).2.bad
    · rw [hb] at r2 HE
      have hlo := lost_any (.slice pa (scrS s).1.length cap) (scrS s).1 css w1 hL hA h60
      have HLO := hide (And.intro hlo (And.intro hL (And.intro hA (And.intro h60 hlb2))))
      clear hlo hL hA h60 hlb2 hR1
      cases hl : lostS (scrS s).1 (scrS s).1.length 0 with
      | some p =>
        rw [hl] at HE
        have ho : optI (some p) = (p : Int) := rfl
        have HL2 := hide hl
        clear hl
        go_wp2_with (go_at_call 15; refine HLO.out.1.mono ?_; rintro e w2 ⟨rfl, rfl⟩; rw [HL2.out, ho])
        refine bodyPost_ret (res_tmp3 rfl _ _ _) rfl ?_
        have hE : errS s = (4, ((p : Nat) : Int)) := by rw [HE.out]; rfl
        refine ⟨B1, .slice none 0 0, ?_, ?_, none, 0, 0, rfl⟩
        · rw [hE]; rfl
        · rw [hE]; intro h; cases h
      | none =>
        rw [hl] at HE
        have ho : optI none = -1 := rfl
        have HL2 := hide hl
        clear hl
        go_wp2_with (go_at_call 15; refine HLO.out.1.mono ?_; rintro e w2 ⟨rfl, rfl⟩; rw [HL2.out, ho])
        refine bodyPost_ret (res_tmp3 rfl _ _ _) rfl ?_
        have hE : errS s = (0, 0) := by rw [HE.out]; rfl
        obtain ⟨-, hL, hA, h60, hlb2⟩ := HLO.out
        refine ⟨B1, .slice pa (scrS s).1.length cap, ?_, fun _ => ⟨css, hL, hA, h60, hlb2⟩, pa, _, cap, rfl⟩
        rw [hE]; rfl
    · rw [hb] at r2 HE
      clear hL hA h60 hlb2 hR1
      go_wp2_with fail
      go_quiet (fail)
      go_wp2_with fail
      refine bodyPost_ret (res_tmp3 rfl _ _ _) rfl ?_
      have hE : errS s = (3, (((scrS s).2.i : Nat) : Int)) := by rw [HE.out]; rfl
      refine ⟨below_kp ((Kp.below (b := w1.heap.size) B1).drewN nq) (by have := B1.size; omega) (Nat.le_refl _), .slice none 0 0, ?_, ?_, none, 0, 0, rfl⟩
      · rw [hE]; rfl
      · rw [hE]; intro h; cases h

set_option maxHeartbeats 400000 in
theorem num_any (e : Int) (w : World) : Calls Tryz.prog 7 #[.int .i64 e] w fun r w' => r = .returned (.int .i64 e) ∧ w' = w := by
  go_enter Tryz.func7, Tryz.ntmps7
  go_wp2_with fail
  go_ret
  exact ⟨rfl, rfl⟩
end Go.Proofs.YtmjdaifalgpdnaaGreat

namespace Go.Proofs.YtmjdaifalgpdnaaGreat
open Go.RowKit

theorem err_ok {s : ByteArray} (h : (errS s).1 = 0) : errS s = (0, 0) ∧ s.size ≤ 1000 := by
  unfold errS at h ⊢
  split at h
  · cases h
  · next hl =>
    rw [if_neg hl]
    split at h
    · cases h
    · next hb =>
      rw [if_neg hb]
      split at h
      · cases h
      · exact ⟨rfl, by omega⟩

/-- What Print answers of a script. -/
def printS (s : ByteArray) : ByteArray := if (errS s).1 = 0 then printL (scrS s).1 else ⟨#[]⟩

set_option maxRecDepth 100000 in
set_option maxHeartbeats 1000000 in
theorem pprint_any (s : ByteArray) (w : World) : Calls Tryz.prog 5 #[.string s] w fun e w' => e = .returned (.tuple #[.string (printS s), .int .i64 (errS s).1, .int .i64 (errS s).2]) ∧ Below w.heap.size w w' := by
  go_enter Tryz.func5, Tryz.ntmps5
  go_wp2_with fail
  refine (commandsOf_any s w).mono ?_
  rintro e w1 ⟨hB, cv, rfl, hR, pa, n, cap, rfl⟩
  have G := Blk.new w1 #[.int .i64 (errS s).1, .int .i64 (errS s).2] 46
  have B2 := hB.alloc hB.size (.cells #[.int .i64 (errS s).1, .int .i64 (errS s).2] 46)
  by_cases h0 : (errS s).1 = 0
  · obtain ⟨css, hL, hA, -⟩ := hR h0
    obtain ⟨hE, hsz⟩ := err_ok h0
    have HP := hide (show printS s = printL (scrS s).1 by unfold printS; rw [if_pos h0])
    have HE := hide hE
    rw [hE] at G B2 ⊢
    dsimp only at G B2 ⊢
    have g0 : (w1.alloc (.cells #[.int .i64 0, .int .i64 0] 46)).cell? ⟨w1.heap.size, 0, none⟩ = some (.int .i64 0) := G.cell 0 rfl
    have hl := scr_len s
    have hL2 := hL.alloc (.cells #[.int .i64 0, .int .i64 0] 46)
    have hpl := plain_any _ (scrS s).1 css _ (2 * s.size + 1) hL2 hA hl.1 (by omega) hl.2
    have HPL := hide (And.intro hpl B2)
    clear hpl hL hL2 hA hl G B2 hR h0 hE
    go_wp2_with fail
    refine HPL.out.1.mono ?_
    rintro e w2 ⟨rfl, hB3⟩
    go_wp2_with fail
    refine bodyPost_ret (res_tmp3 rfl _ _ _) rfl ?_
    refine ⟨by rw [HP.out, HE.out]; rfl, HPL.out.2.trans (hB3.mono HPL.out.2.size)⟩
  · have HP := hide (show printS s = ⟨#[]⟩ by unfold printS; rw [if_neg h0])
    have g0 : (w1.alloc (.cells #[.int .i64 (errS s).1, .int .i64 (errS s).2] 46)).cell? ⟨w1.heap.size, 0, none⟩ = some (.int .i64 (errS s).1) := G.cell 0 rfl
    have g1 : (w1.alloc (.cells #[.int .i64 (errS s).1, .int .i64 (errS s).2] 46)).cell? ⟨w1.heap.size, 1, none⟩ = some (.int .i64 (errS s).2) := G.cell 1 rfl
    have hd : ((errS s).1 == 0) = false := by simpa using h0
    clear hR h0
    go_wp2_with fail
    go_region
    all_goals
      go_wp2_with fail
      refine bodyPost_ret (res_tmp3 rfl _ _ _) rfl ?_
      exact ⟨by rw [HP.out]; rfl, B2.drew⟩

set_option maxRecDepth 100000 in
set_option maxHeartbeats 1000000 in
theorem Prints_any (s : ByteArray) (w : World) : Calls Tryz.prog 3 #[.string s] w fun e w' => e = .returned (.bool true) ∧ Below w.heap.size w w' := by
  go_enter Tryz.func3, Tryz.ntmps3
  go_wp2_with fail
  refine (pprint_any s w).mono ?_
  rintro e w1 ⟨rfl, B1⟩
  go_wp2_with fail
  refine (script_any s w1).mono ?_
  rintro e w2 ⟨B2, lv, rfl, hR, pa, n, cap, rfl⟩
  have B3 := B1.trans (B2.mono B1.size)
  clear B1 B2
  have q1 : ((errS s).1 == (errS s).1) = true := by simp
  have q2 : ((errS s).2 == (errS s).2) = true := by simp
  by_cases h0 : (errS s).1 = 0
  · obtain ⟨css, hL, hA, h60, -⟩ := hR h0
    have hd : ((errS s).1 == 0) = true := by simpa using h0
    have HP := hide (show printS s = printL (scrS s).1 by unfold printS; rw [if_pos h0])
    have hpr := rprint_any _ (scrS s).1 css w2 hL hA h60
    have HPR := hide (And.intro hpr (fun (w' : World) (h : ∀ b, Kp b w2 w') => B3.trans (below_kp (h w2.heap.size) B3.size B3.size)))
    have hqe : ((printL (scrS s).1).toList == (printL (scrS s).1).toList) = true := by simp
    rw [HP.out]
    clear hpr hL hA h60 hR B3 h0
    go_wp2_with (first | (go_at_call 7; refine (num_any _ _).mono ?_; rintro e w3 ⟨rfl, rfl⟩) | (go_at_call 8; refine HPR.out.1.mono ?_; rintro e w3 ⟨rfl, hz3, hK3⟩))
    go_ret
    exact ⟨rfl, HPR.out.2 _ hK3⟩
  · have hd : ((errS s).1 == 0) = false := by simpa using h0
    have HP := hide (show printS s = ⟨#[]⟩ by unfold printS; rw [if_neg h0])
    rw [HP.out]
    clear hR h0
    go_wp2_with (go_at_call 7; refine (num_any _ _).mono ?_; rintro e w3 ⟨rfl, rfl⟩)
    go_ret
    exact ⟨rfl, B3⟩
end Go.Proofs.YtmjdaifalgpdnaaGreat
