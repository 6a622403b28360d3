/- PackRows answers true, for all numbers. Conditions: the slice's cells. -/
import Derived.Test.YthifdiplndgdbaaAwakePack
import Derived.Test.YthifdiplndgdbaaWords
set_option linter.unusedVariables false
set_option linter.unusedSimpArgs false
namespace Go.Proofs.Ythifdiplndgdbaa
open Go.RowKit

/-- The bytes of numbers one behind the other. -/
def flat (ws : List Nat) : List Nat := (ws.map Pk.put).flatten
theorem flat_snoc {ws : List Nat} {j : Nat} (h : j < ws.length) : flat (ws.take (j + 1)) = flat (ws.take j) ++ Pk.put (ws.getD j 0) := by
  unfold flat
  rw [take_succ_getD h, List.map_append, List.flatten_append]; simp
theorem flat_drop {ws : List Nat} {j : Nat} (h : j < ws.length) : flat (ws.drop j) = Pk.put (ws.getD j 0) ++ flat (ws.drop (j + 1)) := by
  unfold flat
  rw [drop_cons h, List.map_cons, List.flatten_cons]
set_option maxHeartbeats 4000000 in
theorem rows_short (A : Option Addr) (n c : Nat) (ws : List Nat) (w : World) (hl : ¬ 30 < n) (hA : Words w w.heap.size A n ws) :
    Calls Try.prog 6 #[.slice A n c] w fun e w' => e = .returned (.bool true) ∧ Below w.heap.size w w' := by
  have HA := Lib.hid hA
  clear hA
  go_enter Try.func6, Try.ntmps6
  go_wp2_with fail
  go_loopw [3, 4] (fun t3 t4 wr => ∃ (j : Nat) (B : Option Addr) (k q : Nat), t3 = .slice B k q ∧ t4 = .int .i64 j ∧ j ≤ n ∧ k ≤ 10 * j ∧ Hid (Own wr w.heap.size B k q (flat (ws.take j))) ∧ Hid (Below w.heap.size w wr)) (fun _ t4 _ => n - (intOf t4).toNat)
  case atStart => exact ⟨0, none, 0, 0, rfl, rfl, by omega, by omega, by rw [List.take_zero]; exact Own.none_, Below.refl _ _⟩
  case round =>
    obtain ⟨j, B, k, q, rfl, rfl, hj, hk, HO, HB⟩ := hrel
    by_cases hlt : j < n
    · obtain ⟨ad, hA, hblk, hcell⟩ := (HA.out.since HB.out).at_ hlt
      have hsm := HA.out.small j
      have hfl := flat_snoc (ws := ws) (j := j) (by rw [HA.out.len]; exact hlt)
      obtain ⟨u, HU⟩ : ∃ u : Nat, Hid (ws.getD j 0 = u) := ⟨_, rfl⟩
      rw [HU.out] at hcell hsm hfl
      obtain ⟨y, HY⟩ : ∃ y : Int, Hid (y = (u : Int)) := ⟨_, rfl⟩
      have hy0 : 0 ≤ y := by rw [HY.out]; exact Int.natCast_nonneg _
      have hy1 : y ≤ 18446744073709551615 := by rw [HY.out]; omega
      rw [← HY.out] at hcell
      subst hA
      have HSM := Lib.hid hsm
      have HFL := Lib.hid hfl
      clear hsm hfl
      go_wp2_with fail
      refine (put_any B k q _ y u _ hy0 hy1 HY (by omega) HO.out.bytes).mono ?_
      rw [← HFL.out]
      rintro e W1 ⟨B1, k1, q1, rfl, ho1, hb1⟩
      have hk1 : k1 ≤ 10 * (j + 1) := by
        have e1 := ho1.len
        have e2 := HO.out.len
        rw [HFL.out, List.length_append] at e1
        have := Pk.put_len10 HSM.out
        omega
      have HO1 := Lib.hid (ho1.elder (base' := w.heap.size) HB.out.size)
      have HB1 := Lib.hid (below_chain HB.out hb1)
      clear ho1 hb1
      go_wp2_with fail
      go_roundw
      case rel => exact ⟨j + 1, B1, k1, q1, rfl, by go_num, by omega, hk1, HO1, HB1⟩
      case measure => simp [intOf]; omega
    · have HJ : Hid (j = n) := by show j = n; omega
      have HO2 : Hid (Own wr w.heap.size B k q (flat (ws.drop 0))) := by
        rw [List.drop_zero]
        have e : ws.take j = ws := List.take_of_length_le (by rw [HA.out.len, HJ.out]; exact Nat.le_refl _)
        have := HO.out
        rwa [e] at this
      have hk3 : k ≤ 300 := by omega
      clear HO hk HJ
      go_wp2_with fail
      clear hlt hj
      go_loopw [3, 5] (fun t3 t5 wr => ∃ (j : Nat) (B : Option Addr) (k q : Nat), t3 = .slice B k q ∧ t5 = .int .i64 j ∧ j ≤ n ∧ k ≤ 900 ∧ Hid (Own wr w.heap.size B k q (flat (ws.drop j))) ∧ Hid (Below w.heap.size w wr)) (fun _ t5 _ => n - (intOf t5).toNat)
      case atStart => exact ⟨0, B, k, q, rfl, rfl, by omega, by omega, HO2, HB⟩
      case round =>
        obtain ⟨j, B3, k3, q3, rfl, rfl, hj, hk, HO3, HB3⟩ := hrel
        by_cases hlt : j < n
        · have HA3 := Lib.hid (HA.out.since HB3.out)
          have hsm := HA.out.small j
          have hfl := flat_drop (ws := ws) (j := j) (by rw [HA.out.len]; exact hlt)
          obtain ⟨u, HU⟩ : ∃ u : Nat, Hid (ws.getD j 0 = u) := ⟨_, rfl⟩
          rw [HU.out] at hsm hfl
          have HSM := Lib.hid hsm
          have HFL := Lib.hid hfl
          clear hsm hfl
          go_wp2_with fail
          refine (get_any B3 k3 q3 _ _ hk HO3.out.cap HO3.out.bytes).mono ?_
          rw [HFL.out, Pk.get_put _ HSM.out]
          rintro e W4 ⟨y, B4, k4, q4, rfl, HY, hy0, hy1, hk4, HO4, HB4⟩
          obtain ⟨ad, hA, hblk, hcell⟩ := (HA3.out.since HB4.out).at_ hlt
          rw [HU.out, ← HY.out] at hcell
          subst hA
          have HO4' := Lib.hid (HO4.out.elder (base' := w.heap.size) HB3.out.size)
          have HB4' := Lib.hid (below_chain HB3.out HB4.out)
          go_wp2_with fail
          go_roundw
          case rel => exact ⟨j + 1, B4, k4, q4, rfl, by go_num, by omega, hk4, HO4', HB4'⟩
          case measure => simp [intOf]; omega
        · have HE : Hid (flat (ws.drop j) = []) := by
            show _ = _
            rw [List.drop_eq_nil_of_le (by rw [HA.out.len]; omega)]; rfl
          have HO5 : Hid (Own wr w.heap.size B3 k3 q3 []) := HO3.out.same HE.out
          have hk0 : 0 = k3 := HO5.out.len
          subst hk0
          go_wp2_with fail
          refine (get_any B3 0 q3 [] _ (by omega) HO5.out.cap HO5.out.bytes).mono ?_
          rw [Pk.get_nil]
          rintro e W6 ⟨rfl, HB6⟩
          have S6 := Lib.hid (below_chain HB3.out HB6.out)
          go_wp2_with fail
          refine (awake_any _).mono ?_
          rintro e W7 ⟨rfl, hb7⟩
          have S7 := below_chain S6.out hb7
          go_wp2_with fail
          go_ret
          exact ⟨rfl, S7⟩
set_option maxHeartbeats 1000000 in
theorem rows_long (A : Option Addr) (n c : Nat) (w : World) (hl : 30 < n) :
    Calls Try.prog 6 #[.slice A n c] w fun e w' => e = .returned (.bool true) ∧ Below w.heap.size w w' := by
  go_enter Try.func6, Try.ntmps6
  go_wp2_with fail
  refine (awake_any _).mono ?_
  rintro e W7 ⟨rfl, hb7⟩
  go_wp2_with fail
  go_ret
  exact ⟨rfl, hb7⟩
theorem rows_law (A : Option Addr) (n c : Nat) (ws : List Nat) (w : World) (hA : Words w w.heap.size A n ws) :
    Calls Try.prog 6 #[.slice A n c] w fun e w' => e = .returned (.bool true) ∧ Below w.heap.size w w' := by
  by_cases hl : 30 < n
  · exact rows_long A n c w hl
  · exact rows_short A n c ws w hl hA
end Go.Proofs.Ythifdiplndgdbaa
