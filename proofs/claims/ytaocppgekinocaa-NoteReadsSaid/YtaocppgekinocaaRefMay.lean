/- The document's own May and all. Conditions: the slice's cells. -/
import Derived.Test.YtaocppgekinocaaNoteBase
set_option linter.unusedVariables false
set_option linter.unusedSimpArgs false
namespace Go.Proofs.Ytaocppgekinocaa
open Go.RowKit

set_option maxHeartbeats 4000000 in
theorem refmay_any (v : V) (w : World) : Calls Try.prog 19 #[noteV v] w (SaysB w (okB v)) := by
  obtain ⟨g, a, p, d, s⟩ := v
  unfold noteV
  dsimp only
  have S1 := Lib.hid (since_alloc (since_alloc (Below.refl w.heap.size w) (.cells #[.bool g, .int .u64 a, .int .i64 p, .bool d, .int .i64 s] 43)) (.cells #[.int .u64 a, .int .i64 p, .bool d, .int .i64 s] 41))
  by_cases h0 : s < 1
  · rw [okB_seq (Or.inl h0)]
    go_enter Try.func19, Try.ntmps19
    go_wp2
    go_ret
    exact ⟨rfl, S1⟩
  by_cases h1 : 1099511627775 < s
  · rw [okB_seq (Or.inr h1)]
    go_enter Try.func19, Try.ntmps19
    go_wp2
    go_ret
    exact ⟨rfl, S1⟩
  cases g
  · rw [okB_here (by omega) (by omega)]
    by_cases p0 : 0 ≤ p
    · by_cases p1 : p ≤ 255
      · rw [decide_eq_true ⟨p0, p1⟩]
        go_enter Try.func19, Try.ntmps19
        go_wp2
        go_ret
        exact ⟨by simp, S1⟩
      · rw [decide_eq_false (fun h => p1 h.2)]
        go_enter Try.func19, Try.ntmps19
        go_wp2
        go_ret
        exact ⟨by simp, S1⟩
    · rw [decide_eq_false (fun h => p0 h.1)]
      go_enter Try.func19, Try.ntmps19
      go_wp2
      go_ret
      exact ⟨by simp, S1⟩
  · rw [okB_gone (by omega) (by omega)]
    by_cases p0 : p = 0
    · subst p0
      rw [if_pos rfl]
      go_enter Try.func19, Try.ntmps19
      go_wp2
      go_ret
      exact ⟨by simp, S1⟩
    · rw [if_neg p0]
      have b0 : (p == 0) = false := by simpa using p0
      go_enter Try.func19, Try.ntmps19
      go_wp2
      go_ret
      exact ⟨by simp, S1⟩
set_option maxHeartbeats 1000000 in
theorem refall_any (A : Option Addr) (n c : Nat) (vs : List V) (w : World) (hn : n ≤ 9223372036854775807) (hA : Notes w w.heap.size A n vs) :
    Calls Try.prog 33 #[.slice A n c] w (SaysB w (allB vs)) := by
  have HA := Lib.hid hA
  have HL := Lib.hid hA.len
  clear hA
  go_enter Try.func33, Try.ntmps33
  go_wp2
  go_loopw [3] (fun t3 wr => ∃ (k : Nat), k ≤ n ∧ t3 = .int .i64 k ∧ Hid (∀ j, j < k → okB (vs.getD j V.zero) = true) ∧ Hid (Below w.heap.size w wr)) (fun t3 _ => n - (intOf t3).toNat)
  case atStart => exact ⟨0, Nat.zero_le _, rfl, fun j hj => absurd hj (Nat.not_lt_zero j), Below.refl _ _⟩
  case round =>
    obtain ⟨k, hk, rfl, HK, HB⟩ := hrel
    by_cases hlt : k < n
    · obtain ⟨ad, hA, hblk, hat⟩ := (HA.out.since HB.out).each k hlt
      subst hA
      obtain ⟨v, HV⟩ : ∃ v, Hid (v = vs.getD k V.zero) := ⟨_, rfl⟩
      rw [← HV.out] at hat
      have i0 : (0 : Int) ≤ (k : Int) := by omega
      have i1 : (k : Int) < (n : Int) := by omega
      obtain ⟨c0, c1, c2, c3, c4⟩ := hat
      go_wp2_with fail
      refine (refmay_any v _).mono ?_
      rcases hok : okB v
      · rintro e W1 ⟨rfl, hb⟩
        have HN : Hid (allB vs = false) := allB_no (k := k) (by have := HL.out; omega) (by rw [← HV.out]; exact hok)
        go_wp2_with fail
        go_ret
        rw [HN.out]
        exact ⟨rfl, below_chain HB.out hb.out⟩
      · rintro e W1 ⟨rfl, hb⟩
        have S2 := Lib.hid (below_chain HB.out hb.out)
        have HK2 : Hid (∀ j, j < k + 1 → okB (vs.getD j V.zero) = true) := fun j hj => by
          by_cases e : j = k
          · subst e; rw [← HV.out]; exact hok
          · exact HK.out j (by omega)
        go_wp2_with fail
        go_roundw
        case rel => exact ⟨k + 1, by omega, by go_num, HK2, S2⟩
        case measure => simp [intOf]; omega
    · have HY : Hid (allB vs = true) := allB_yes (vs := vs) (fun j hj => HK.out j (by have := HL.out; omega))
      go_wp2
      go_ret
      rw [HY.out]
      exact ⟨rfl, HB⟩
end Go.Proofs.Ytaocppgekinocaa
