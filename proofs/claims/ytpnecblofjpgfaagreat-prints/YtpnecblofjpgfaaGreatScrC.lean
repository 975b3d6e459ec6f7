import Derived.Test.YtpnecblofjpgfaaGreatScrB
import Derived.Test.YtpnecblofjpgfaaGreatRefN
namespace Go.Proofs.YtpnecblofjpgfaaGreat
open Go.RowKit

def amongB (s : ByteArray) (st : St) (l : List UInt8) : Bool := peekOk s st && hasL l (peekC s st)

set_option maxHeartbeats 400000 in
theorem among_any (b : Nat) (s l : ByteArray) (st : St) (w : World) (h : RD w b s st) (hs : s.size ≤ 1048576) (hl : l.size ≤ 1048576) :
    Calls Tryz.prog 45 #[.pointer (some ⟨b, 0, none⟩), .string l] w fun e w' => e = .returned (.bool (amongB s st l.data.toList)) ∧ ∃ n, w' = w.drewN n := by
  cases hp : peekOk s st
  · have HP : Hid (peekOk s st = false) := hp
    clear hp
    go_enter Tryz.func45, Tryz.ntmps45
    go_wp2_with fail
    refine (peek_any b s st _ h hs).mono ?_
    rintro e w1 ⟨rfl, n, rfl⟩
    rw [HP.out]
    go_wp2_with fail
    go_ret
    exact ⟨ret_bool (by simp [amongB, HP.out]), n, rfl⟩
  · have HP : Hid (peekOk s st = true) := hp
    clear hp
    go_enter Tryz.func45, Tryz.ntmps45
    go_wp2_with fail
    refine (peek_any b s st _ h hs).mono ?_
    rintro e w1 ⟨rfl, n, rfl⟩
    rw [HP.out]
    go_wp2_with (go_at_call 35; refine (has_any l _ _ hl).mono ?_; rintro e w2 ⟨rfl, rfl⟩)
    go_ret
    exact ⟨ret_bool (by simp [amongB, HP.out]), n, rfl⟩

/-- Blanks are passed. -/
def blanksS (s : ByteArray) : Nat → St → St
  | 0, st => st
  | n + 1, st => if isB s st 32 then blanksS s n (adv st) else st

theorem Fwd.blanks {s : ByteArray} : ∀ (n : Nat) (st : St), st.i ≤ s.size → Fwd s st (blanksS s n st)
  | 0, st, h => Fwd.refl h
  | n + 1, st, h => by
    rw [blanksS]
    split
    · next hc => exact (Fwd.adv (peekOk_lt (isB_ok hc))).trans (Fwd.blanks n _ (Fwd.adv (peekOk_lt (isB_ok hc))).2.1)
    · exact Fwd.refl h

theorem RD.kp_drew {w : World} {b : Nat} {s : ByteArray} {st : St} (h : RD w b s st) (n : Nat) : RD (w.drewN n) b s st := h

set_option maxHeartbeats 800000 in
theorem blanks_any (n b : Nat) (s : ByteArray) (st : St) (w : World) (h : RD w b s st) (hs : s.size ≤ 1048576) (hi : st.i ≤ s.size) (hn : s.size < st.i + n) :
    Calls Tryz.prog 18 #[.pointer (some ⟨b, 0, none⟩)] w fun e w' => e = .returned (.tuple #[]) ∧ RD w' b s (blanksS s n st) ∧ Kp b w w' := by
  go_enter Tryz.func18, Tryz.ntmps18
  go_wp2_with fail
  go_loopg [] n (fun k w' => ∃ cur : St, RD w' b s cur ∧ Kp b w w' ∧ cur.i ≤ s.size ∧ s.size < cur.i + k ∧ Hid (blanksS s k cur = blanksS s n st))
  case atStart => exact ⟨st, h, Kp.refl _ _, hi, hn, rfl⟩
  case round =>
    obtain ⟨cur, hR, hK, hci, hck, HE⟩ := hrel
    have r1 := hR.c1
    have rf := hR.fz
    cases hx : isB s cur 32
    · have HX := hide hx
      go_wp2_with (go_at_call 19; refine (is_of hx hR hs).mono ?_; rintro e w1 ⟨rfl, n1, rfl⟩)
      go_end0
      refine ⟨rfl, ?_, hK.drewN n1⟩
      have := HE.out
      rw [← this]
      cases hk : gk with
      | zero => rw [hk] at hck; omega
      | succ k => rw [blanksS, HX.out]; exact hR
    · have HX := hide hx
      have hlt := peekOk_lt (isB_ok hx)
      go_wp2_with (go_at_call 19; refine (is_of hx hR hs).mono ?_; rintro e w1 ⟨rfl, n1, rfl⟩)
      go_roundg (gk - 1)
      case measure => omega
      case rel =>
        obtain ⟨k, rfl⟩ : ∃ k, gk = k + 1 := ⟨gk - 1, by omega⟩
        refine ⟨adv cur, (hR.drewN n1).adv rfl, (hK.drewN n1).set _ _, by simp [adv]; omega, by simp [adv]; omega, ?_⟩
        have := HE.out
        rw [blanksS, HX.out] at this
        exact this
end Go.Proofs.YtpnecblofjpgfaaGreat
