import Derived.Test.YtmjdaifalgpdnaaGreatScrG
namespace Go.Proofs.YtmjdaifalgpdnaaGreat
open Go.RowKit

def fromL (s : ByteArray) : Nat → ByteArray → St → ByteArray × St
  | 0, f, st => (f, st)
  | n + 1, f, st => if st.bad = true ∨ isB s st 47 = true then (f, st) else
    if peekOk s st = false ∨ peekC s st = 10 ∨ peekC s st = 92 ∨ hasL f.data.toList (peekC s st) = true then fromL s n f (spoil st) else fromL s n (f ++ ⟨#[byteOf (peekC s st)]⟩) (adv st)
def toL (s : ByteArray) (m : Nat) : Nat → ByteArray → St → ByteArray × St
  | 0, f, st => (f, st)
  | n + 1, f, st => if st.bad = true ∨ m ≤ f.size then (f, st) else
    if peekOk s st = false ∨ peekC s st = 10 ∨ peekC s st = 92 ∨ peekC s st = 47 then toL s m n f (spoil st) else toL s m n (f ++ ⟨#[byteOf (peekC s st)]⟩) (adv st)
def tableS (s : ByteArray) (n : Nat) (st : St) : ByteArray × St :=
  let a := fromL s n ⟨#[]⟩ (eatS s 47 st)
  let b := toL s a.1.size n ⟨#[]⟩ (eatIf s 47 a.2)
  (a.1 ++ b.1, eatIf s 47 b.2)

/-- 'string([]byte{c})'. -/
theorem byte_str (c : Int) (w : World) (hc : 0 ≤ c) (hc' : c < 256) : (convert 75 9 (.slice (some ⟨w.heap.size, 0, none⟩) 1 1)).run Tryz.prog (w.alloc (.cells #[.int .u8 c] 5)) = .ok (.string ⟨#[byteOf c]⟩) (w.alloc (.cells #[.int .u8 c] 5)) := by
  have := run_convert_bytes_back (P := Tryz.prog) (w.alloc (.cells #[.int .u8 c] 5)) 75 9 5 ⟨w.heap.size, 0, none⟩ 1 [byteOf c] (by kernel_rfl) (by kernel_rfl) (by kernel_rfl) (by
    intro j hj
    have hh : (w.alloc (.cells #[.int .u8 c] 5)).heap[w.heap.size]? = some (.cells #[.int .u8 c] 5) := heap_alloc_new w _
    have : j = 0 := by simp at hj; omega
    subst this
    exact (cell_of_row _ _ 0 _ 5 (0, 0) hh).trans (by simp [byteOf_toNat hc hc']))
  simpa using this

set_option maxRecDepth 100000 in
set_option maxHeartbeats 1600000 in
theorem table_any (n b : Nat) (s : ByteArray) (st : St) (w : World) (h : RD w b s st) (hs : s.size ≤ 1048576) (hi : st.i ≤ s.size) (hn : s.size + 1 < st.i + n) :
    Calls Tryz.prog 57 #[.pointer (some ⟨b, 0, none⟩)] w fun e w' => e = .returned (.string (tableS s n st).1) ∧ RD w' b s (tableS s n st).2 ∧ Kp b w w' := by
  go_enter Tryz.func57, Tryz.ntmps57
  go_wp2_with fail
  refine (eat_any b s st 47 w h hs).mono ?_
  rintro e w1 ⟨rfl, hR1, hK1⟩
  have r2 := hR1.c2
  have hbl := hR1.lt
  have hle := eat_le s 47 st hi
  have hge := eat_ge s 47 st
  generalize hq : eatS s 47 st = q at *
  have HQ := hide hq
  clear hq
  go_wp2_with fail
  go_loopg [3, 4, 5] n (fun k f cv okv w' => ∃ (fs : ByteArray) (cur : St), f = .string fs ∧ RD w' b s cur ∧ Kp b w w' ∧ cur.i ≤ s.size ∧ fs.size ≤ cur.i ∧ q.i ≤ cur.i ∧ (cur.bad = true ∨ s.size + 1 < cur.i + k) ∧ Hid (fromL s k fs cur = fromL s n ⟨#[]⟩ q))
  case atStart => exact ⟨⟨#[]⟩, q, rfl, hR1, hK1, hle, Nat.zero_le _, Nat.le_refl _, .inr (by omega), rfl⟩
  case round =>
    obtain ⟨fs, cur, rfl, hR, hK, hci, hfs, hqc, hfu, HE⟩ := hrel
    clear hR1 hK1 r2
    have r1 := hR.c1
    have r2 := hR.c2
    have rf := hR.fz
    by_cases hex : cur.bad = true ∨ isB s cur 47 = true
    · have hE := HE.out
      have E : fromL s gk fs cur = (fs, cur) := by
        cases gk with
        | zero => rfl
        | succ k => rw [fromL, if_pos hex]
      have HF := hide (show fromL s n ⟨#[]⟩ q = (fs, cur) by rw [← hE, E])
      clear hE E HE
      go_upto_region 3 with fail
      go_cut [20] (fun bv wc => bv = .bool false ∧ Same wr wc)
      case first =>
        cases hb : cur.bad
        · rw [hb] at r2
          have hsl : isB s cur 47 = true := by
            rcases hex with h | h
            · rw [hb] at h; cases h
            · exact h
          go_wp2_with (go_at_call 27; refine (is_of hsl hR hs).mono ?_; rintro e w5 ⟨rfl, hw5⟩; replace hw5 : Same wr w5 := hw5)
          go_meet
          case rel => exact ⟨rfl, hw5⟩
        · rw [hb] at r2
          go_wp2_with fail
          go_meet
          case rel => exact ⟨rfl, 0, rfl⟩
      case rest =>
        obtain ⟨rfl, hsm⟩ := hcut
        have hR5 := hsm.rd hR
        have hK5 := hsm.kp hK
        clear hsm hR hK r1 r2 rf hex
        have r2 := hR5.c2
        have hle2 := eatIf_le s 47 cur hci
        have hge2 := eatIf_ge s 47 cur
        have HT : Hid (∀ q2, eatIf s 47 cur = q2 → ∀ ts cur2, toL s fs.size n ⟨#[]⟩ q2 = (ts, cur2) → tableS s n st = (fs ++ ts, eatIf s 47 cur2)) := by
          intro q2 h1 ts cur2 h2
          unfold tableS
          simp only [HQ.out, HF.out, h1, h2]
        cases hb : cur.bad
        · rw [hb] at r2
          have e3 := eatIf_ok (s := s) (c := 47) hb
          go_wp2_with fail
          refine (eat_any b s cur 47 _ hR5 hs).mono ?_
          rintro e w6 ⟨rfl, hR6, hK6⟩
          rw [← e3] at hR6
          replace hK6 := hK5.trans hK6
          clear e3 hR5 hK5 r2 hb
          go_wp2_with fail
          generalize hq2 : eatIf s 47 cur = q2 at *
          have HQ2 := hide (HT.out q2 rfl)
          clear HT hq2
          go_loopg [6, 7, 8] n (fun k f cv okv w' => ∃ (ts : ByteArray) (cur2 : St), f = .string ts ∧ RD w' b s cur2 ∧ Kp b w w' ∧ cur2.i ≤ s.size ∧ ts.size ≤ cur2.i ∧ (cur2.bad = true ∨ s.size + 1 < cur2.i + k) ∧ Hid (toL s fs.size k ts cur2 = toL s fs.size n ⟨#[]⟩ q2))
          case atStart => exact ⟨⟨#[]⟩, q2, rfl, hR6, hK6, hle2, Nat.zero_le _, .inr (by omega), rfl⟩
          case round =>
            obtain ⟨ts, cur2, rfl, hR, hK, hci2, hts, hfu2, HE⟩ := hrel
            clear hR6 hK6
            have r2 := hR.c2
            by_cases hex : cur2.bad = true ∨ fs.size ≤ ts.size
            · have hE := HE.out
              have E : toL s fs.size gk ts cur2 = (ts, cur2) := by
                cases gk with
                | zero => rfl
                | succ k => rw [toL, if_pos hex]
              have HTB := hide (HQ2.out ts cur2 (by rw [← hE, E]))
              have hadd : ∀ w, (Op.stringOp .add fs ts).run Tryz.prog w = .ok (.string (fs ++ ts)) w := fun w => run_string_add_sum w _ _ (by omega)
              clear hE E HE HQ2
              cases hb : cur2.bad
              · rw [hb] at r2
                have e3 := eatIf_ok (s := s) (c := 47) hb
                have hlen : ¬ (ts.size : Int) < fs.size := by
                  rcases hex with h | h
                  · rw [hb] at h; cases h
                  · omega
                have HHB := hide hb
                clear hex hb
                go_wp2_with fail
                refine (eat_any b s cur2 47 _ hR hs).mono ?_
                rintro e w8 ⟨rfl, hR8, hK8⟩
                go_wp2_with fail
                go_ret
                rw [HTB.out, e3]
                exact ⟨rfl, hR8, hK.trans hK8⟩
              · rw [hb] at r2
                have e3 := eatIf_bad (s := s) (c := 47) hb
                clear hex hb
                go_wp2_with fail
                go_ret
                rw [HTB.out, e3]
                exact ⟨rfl, hR, hK⟩
            · have hb : cur2.bad = false := by
                cases hx : cur2.bad
                · rfl
                · exact absurd (.inl hx) hex
              rw [hb] at r2
              have hlen : (ts.size : Int) < fs.size := by omega
              obtain ⟨k, rfl⟩ : ∃ k, gk = k + 1 := ⟨gk - 1, by rcases hfu2 with h | h; (rw [hb] at h; cases h); omega⟩
              have hfu' : s.size + 1 < cur2.i + (k + 1) := by rcases hfu2 with h | h; (rw [hb] at h; cases h); exact h
              have hlo := peekC_lo s cur2
              have hhi := peekC_hi s cur2
              have hE := HE.out
              rw [toL, if_neg hex] at hE
              have HE2 := hide hE
              have HOK : Hid (peekOk s cur2 = true → cur2.i < s.size) := fun h => peekOk_lt h
              clear hE HE hfu2 hb hex
              generalize hpc : peekC s cur2 = pc at *
              generalize hpo : peekOk s cur2 = ok at *
              have HPC := hide (And.intro hpc hpo)
              clear hpc hpo
              go_upto_region 14 with (go_at_call 39; refine (peek_of HPC.out.1 HPC.out.2 hR hs).mono ?_; rintro e w7 ⟨rfl, hw7⟩; replace hw7 : Same wr w7 := hw7)
              have hR7 := hw7.rd hR
              have hK7 := hw7.kp hK
              clear hw7 hR hK r2
              go_cut [93] (fun bv wc => bv = .bool (!ok || decide (pc = 10) || decide (pc = 92) || decide (pc = 47)) ∧ wc = w7)
              case first =>
                cases ok
                · go_wp2_with fail
                  go_meet
                  case rel => exact ⟨by simp, rfl⟩
                · by_cases h1 : pc = 10
                  · subst h1
                    go_wp2_with fail
                    go_meet
                    case rel => exact ⟨by simp, rfl⟩
                  · by_cases h2 : pc = 92
                    · subst h2
                      go_wp2_with fail
                      go_meet
                      case rel => exact ⟨by simp, rfl⟩
                    · by_cases h3 : pc = 47
                      · subst h3
                        go_wp2_with fail
                        go_meet
                        case rel => exact ⟨by simp, rfl⟩
                      · go_wp2_with fail
                        go_meet
                        case rel => exact ⟨by simp [h1, h2, h3], rfl⟩
              case rest =>
                obtain ⟨rfl, rfl⟩ := hcut
                have r1 := hR7.c1
                have r2 := hR7.c2
                have rf := hR7.fz
                cases ht : (!ok || decide (pc = 10) || decide (pc = 92) || decide (pc = 47))
                · have hne : ¬ (ok = false ∨ pc = 10 ∨ pc = 92 ∨ pc = 47) := by
                    intro h
                    simp at ht
                    rcases h with h | h | h | h
                    · rw [h] at ht; simp at ht
                    · exact ht.1.1.2 h
                    · exact ht.1.2 h
                    · exact ht.2 h
                  have hok : ok = true := by
                    cases ok
                    · exact absurd (.inl rfl) hne
                    · rfl
                  have hlt := HOK.out hok
                  have hE := HE2.out
                  rw [if_neg hne] at hE
                  have HE3 := hide hE
                  have hcv := byte_str pc wc hlo hhi
                  have hone : ByteArray.size ⟨#[byteOf pc]⟩ = 1 := rfl
                  have hadd : ∀ w, (Op.stringOp .add ts ⟨#[byteOf pc]⟩).run Tryz.prog w = .ok (.string (ts ++ ⟨#[byteOf pc]⟩)) w := fun w => run_string_add_sum w _ _ (by omega)
                  have hbc := hR7.lt
                  have hsz : (ts ++ ⟨#[byteOf pc]⟩).size = ts.size + 1 := by rw [ByteArray.size_append, hone]
                  have HSZ := hide hsz
                  clear hsz hone ht hne HE2 hE
                  go_wp2_with fail
                  go_roundg k
                  case measure => omega
                  case rel =>
                    refine ⟨ts ++ ByteArray.mk #[byteOf pc], adv cur2, rfl, ?_, ?_, by simp [adv]; omega, by rw [HSZ.out]; simp [adv]; omega, .inr (by simp [adv]; omega), HE3.out⟩
                    · exact (hR7.adv rfl).alloc _
                    · exact (hK7.set 1 _).alloc _
                · have hex : ok = false ∨ pc = 10 ∨ pc = 92 ∨ pc = 47 := by
                    simp at ht
                    rcases ht with ((h | h) | h) | h
                    · exact .inl h
                    · exact .inr (.inl h)
                    · exact .inr (.inr (.inl h))
                    · exact .inr (.inr (.inr h))
                  have hE := HE2.out
                  rw [if_pos hex] at hE
                  have HE3 := hide hE
                  clear ht hex HE2 hE
                  go_wp2_with fail
                  go_roundg k
                  case measure => omega
                  case rel => exact ⟨ts, spoil cur2, rfl, hR7.spoil, hK7.set 2 _, hci2, hts, .inl rfl, HE3.out⟩
        · rw [hb] at r2
          have e3 := eatIf_bad (s := s) (c := 47) hb
          have E : toL s fs.size n ⟨#[]⟩ cur = (⟨#[]⟩, cur) := by
            cases n with
            | zero => rfl
            | succ k => rw [toL, if_pos (.inl hb)]
          have HTB := hide (HT.out cur e3 _ _ E)
          have hadd : ∀ w, (Op.stringOp .add fs ⟨#[]⟩).run Tryz.prog w = .ok (.string (fs ++ ⟨#[]⟩)) w := fun w => run_string_add_sum w _ _ (by have : ByteArray.size ⟨#[]⟩ = 0 := rfl; omega)
          clear E HT hb
          go_wp2_with fail
          go_loopg [6, 7, 8] 1 (fun k f cv okv w' => f = .string ⟨#[]⟩ ∧ w' = wc)
          case atStart => exact ⟨rfl, rfl⟩
          case round =>
            obtain ⟨rfl, rfl⟩ := hrel
            go_wp2_with fail
            go_ret
            rw [HTB.out, e3]
            exact ⟨rfl, hR5, hK5⟩
    · have hb : cur.bad = false := by
        cases hx : cur.bad
        · rfl
        · exact absurd (.inl hx) hex
      have hsl : isB s cur 47 = false := by
        cases hx : isB s cur 47
        · rfl
        · exact absurd (.inr hx) hex
      rw [hb] at r2
      clear hex
      · obtain ⟨k, rfl⟩ : ∃ k, gk = k + 1 := ⟨gk - 1, by rcases hfu with h | h; (rw [hb] at h; cases h); omega⟩
        have hfu' : s.size + 1 < cur.i + (k + 1) := by rcases hfu with h | h; (rw [hb] at h; cases h); exact h
        clear r1
        go_upto_region 4 with (go_at_call 27; refine (is_of hsl hR hs).mono ?_; rintro e w5 ⟨rfl, hw5⟩; replace hw5 : Same wr w5 := hw5)
        have hR5 := hw5.rd hR
        have hK5 := hw5.kp hK
        clear hw5 hR hK rf r2
        have hlo := peekC_lo s cur
        have hhi := peekC_hi s cur
        have hE := HE.out
        rw [fromL, if_neg (by rw [hb, hsl]; simp)] at hE
        have HE2 := hide hE
        have HOK : Hid (peekOk s cur = true → cur.i < s.size) := fun h => peekOk_lt h
        clear hE HE hfu hb
        generalize hpc : peekC s cur = pc at *
        generalize hpo : peekOk s cur = ok at *
        have HPC := hide (And.intro hpc hpo)
        clear hpc hpo
        go_upto_region 5 with (go_at_call 39; refine (peek_of HPC.out.1 HPC.out.2 hR5 hs).mono ?_; rintro e w6 ⟨rfl, hw6⟩; replace hw6 : Same w5 w6 := hw6)
        have hR6 := hw6.rd hR5
        have hK6 := hw6.kp hK5
        clear hw6 hR5 hK5
        go_cut [40] (fun bv wc => bv = .bool (!ok || decide (pc = 10) || decide (pc = 92) || hasL fs.data.toList pc) ∧ wc = w6)
        case first =>
          cases ok
          · go_wp2_with fail
            go_meet
            case rel => exact ⟨by simp, rfl⟩
          · by_cases h1 : pc = 10
            · subst h1
              go_wp2_with fail
              go_meet
              case rel => exact ⟨by simp, rfl⟩
            · by_cases h2 : pc = 92
              · subst h2
                go_wp2_with fail
                go_meet
                case rel => exact ⟨by simp, rfl⟩
              · go_wp2_with (go_at_call 41; refine (has_any fs pc _ (by omega)).mono ?_; rintro e w7 ⟨rfl, rfl⟩)
                go_meet
                case rel => exact ⟨by simp [h1, h2], rfl⟩
        case rest =>
          obtain ⟨rfl, rfl⟩ := hcut
          have r1 := hR6.c1
          have r2 := hR6.c2
          have rf := hR6.fz
          cases ht : (!ok || decide (pc = 10) || decide (pc = 92) || hasL fs.data.toList pc)
          · have hne : ¬ (ok = false ∨ pc = 10 ∨ pc = 92 ∨ hasL fs.data.toList pc = true) := by
              intro h
              simp at ht
              rcases h with h | h | h | h
              · rw [h] at ht; simp at ht
              · exact ht.1.1.2 h
              · exact ht.1.2 h
              · rw [h] at ht; simp at ht
            have hok : ok = true := by
              cases ok
              · exact absurd (.inl rfl) hne
              · rfl
            have hlt := HOK.out hok
            have hE := HE2.out
            rw [if_neg hne] at hE
            have HE3 := hide hE
            have hcv := byte_str pc wc hlo hhi
            have hone : ByteArray.size ⟨#[byteOf pc]⟩ = 1 := rfl
            have hadd : ∀ w, (Op.stringOp .add fs ⟨#[byteOf pc]⟩).run Tryz.prog w = .ok (.string (fs ++ ⟨#[byteOf pc]⟩)) w := fun w => run_string_add_sum w _ _ (by omega)
            have hbc := hR6.lt
            have hsz : (fs ++ ⟨#[byteOf pc]⟩).size = fs.size + 1 := by rw [ByteArray.size_append, hone]
            have HSZ := hide hsz
            clear hsz hone
            clear ht hne HE2 hE
            go_wp2_with fail
            go_roundg k
            case measure => omega
            case rel =>
              refine ⟨fs ++ ByteArray.mk #[byteOf pc], adv cur, rfl, ?_, ?_, by simp [adv]; omega, by rw [HSZ.out]; simp [adv]; omega, by simp [adv]; omega, .inr (by simp [adv]; omega), HE3.out⟩
              · exact (hR6.adv rfl).alloc _
              · exact (hK6.set 1 _).alloc _
          · have hex : ok = false ∨ pc = 10 ∨ pc = 92 ∨ hasL fs.data.toList pc = true := by
              simp at ht
              rcases ht with ((h | h) | h) | h
              · exact .inl h
              · exact .inr (.inl h)
              · exact .inr (.inr (.inl h))
              · exact .inr (.inr (.inr h))
            have hE := HE2.out
            rw [if_pos hex] at hE
            have HE3 := hide hE
            clear ht hex HE2 hE
            go_wp2_with fail
            go_roundg k
            case measure => omega
            case rel => exact ⟨fs, spoil cur, rfl, hR6.spoil, hK6.set 2 _, hci, hfs, hqc, .inl rfl, HE3.out⟩
end Go.Proofs.YtmjdaifalgpdnaaGreat
