/- The document's own May and Darks of mishaps; SameMishaps, OverMishaps. Conditions: the slices' cells; at most 7000 mishaps. -/
import Derived.Test.YtgonphcjkoobmaaMish
set_option linter.unusedVariables false
set_option linter.unusedSimpArgs false
namespace Go.Proofs.Ytgonphcjkoobmaa
open Go.RowKit
open Go.Sort (grow)

set_option maxHeartbeats 8000000 in
set_option maxRecDepth 20000 in
theorem refmay7_any (A : Option Addr) (n c : Nat) (ms : List M) (w : World) (hn : n ≤ 9223372036854775807) (hA : mishK.Lie w w.heap.size A n ms) :
    Calls Try.prog 13 #[.slice A n c] w (SaysB w (mayM ms)) := by
  have HA := Lib.hid hA
  have HL := Lib.hid hA.len
  clear hA
  by_cases hbig : 24 < n
  · rw [mayM_many (by rw [HL.out]; exact hbig)]
    go_enter Try.func13, Try.ntmps13
    go_wp2_with fail
    go_loopw [3] (fun t3 wr => t3 = .int .i64 0 ∧ Hid (Below w.heap.size w wr)) (fun _ _ => 0)
    case atStart => exact ⟨rfl, Below.refl _ _⟩
    case round =>
      obtain ⟨rfl, HB⟩ := hrel
      go_wp2_with fail
      go_ret
      exact ⟨by simp; omega, HB.out⟩
  go_enter Try.func13, Try.ntmps13
  go_wp2_with fail
  go_loopw [3] (fun t3 wr => ∃ (k : Nat), k ≤ n ∧ t3 = .int .i64 k ∧ Hid (∀ j, j < k → stepM ms j = true) ∧ Hid (Below w.heap.size w wr)) (fun t3 _ => n - (intOf t3).toNat)
  case atStart => exact ⟨0, Nat.zero_le _, rfl, fun j hj => absurd hj (Nat.not_lt_zero j), Below.refl _ _⟩
  case round =>
    obtain ⟨k, hk, rfl, HK, HB⟩ := hrel
    have hn24 : (n : Int) ≤ 24 := by omega
    by_cases hlt : k < n
    · obtain ⟨ad, hA, hblk, hat⟩ := mish_at (HA.out.since HB.out) hlt
      subst hA
      have i0 : (0 : Int) ≤ (k : Int) := by omega
      have i1 : (k : Int) < (n : Int) := by omega
      have h4 : ∃ a' : Int, (0 < k → a' = (getM ms (k - 1)).at_) ∧ (0 < k → wr.cell? (ad.add ((k - 1) * 4)) = some (.int .i64 a')) := by
        by_cases hk0 : 0 < k
        · obtain ⟨ad', hA', _, hat'⟩ := mish_at (HA.out.since HB.out) (k := k - 1) (by omega)
          obtain rfl := Option.some.inj hA'
          exact ⟨_, fun _ => rfl, fun _ => hat'.c0⟩
        · exact ⟨0, fun h => absurd h hk0, fun h => absurd h hk0⟩
      obtain ⟨a', hpa, hcp⟩ := h4
      have HPA := Lib.hid hpa
      clear hpa
      have hidx : 0 < k → ∀ W : World, (Instr.indexAt 22 (.slice (some ad) n c) (.int .i64 ((k : Int) - 1))).run Try.prog W = .ok (.pointer (some (ad.add ((k - 1) * 4)))) W := fun hk0 W => by
        have j0 : (0 : Int) ≤ (k : Int) - 1 := by omega
        have j1 : (k : Int) - 1 < (n : Int) := by omega
        have e : ((k : Int) - 1).toNat = k - 1 := by omega
        go_simp
        intro h
        omega
      obtain ⟨e, HV⟩ : ∃ e, Hid (e = getM ms k) := ⟨_, rfl⟩
      rw [← HV.out] at hat
      have HST : Hid (stepM ms k = (okM e && (k == 0 || decide (a' < e.at_)))) := by
        show _ = _
        unfold stepM
        rw [← HV.out]
        by_cases hk0 : 0 < k
        · rw [HPA.out hk0]
        · have : (k == 0) = true := by simp; omega
          rw [this]; simp
      obtain ⟨c0, c1, c2, c3⟩ := hat
      obtain ⟨a, kd, by_, fl⟩ := e
      dsimp only at c0 c1 c2 c3 HST
      go_wp2_with fail
      obtain ⟨W1, HW1⟩ : ∃ W1, Hid (W1 = wr.alloc (.cells #[.int .i64 a, .int .i64 kd, .int .i64 by_, .int .u8 fl] 25)) := ⟨_, rfl⟩
      have L1 : Hid (Below wr.heap.size wr W1) := by rw [HW1.out]; exact later_alloc _ _
      have R1 : Hid (RowM W1 wr.heap.size ⟨a, kd, by_, fl⟩) := by rw [HW1.out]; exact rowM_new wr ⟨a, kd, by_, fl⟩
      have hcp1 : 0 < k → W1.cell? (ad.add ((k - 1) * 4)) = some (.int .i64 a') := fun hk0 => (L1.out.cell (by rw [addr_block]; exact hblk)).trans (hcp hk0)
      have HCP := Lib.hid hcp1
      have HIX := Lib.hid hidx
      rw [← HW1.out]
      clear c0 c1 c2 c3 hcp hcp1 hidx
      obtain ⟨c0, c1, c2, c3⟩ := R1.out.at_
      dsimp only at c0 c1 c2 c3
      by_cases ha0 : a < 1
      · clear HPA HCP HIX
        have HF : Hid (mayM ms = false) := mayM_no (k := k) (by rw [HL.out]; exact hlt) (by rw [HST.out]; show (okM ⟨a, kd, by_, fl⟩ && _) = false; rw [show okM ⟨a, kd, by_, fl⟩ = false from decide_eq_false (fun h => absurd h.1 (by show ¬ 1 ≤ a; omega))]; rfl)
        clear HST
        go_quiet (fail)
        go_wp2_with fail
        go_ret
        rw [HF.out]
        exact ⟨rfl, below_drewN (below_chain HB.out L1.out) _⟩
      by_cases ha1 : 1073741824 < a
      · clear HPA HCP HIX
        have HF : Hid (mayM ms = false) := mayM_no (k := k) (by rw [HL.out]; exact hlt) (by rw [HST.out]; show (okM ⟨a, kd, by_, fl⟩ && _) = false; rw [show okM ⟨a, kd, by_, fl⟩ = false from decide_eq_false (fun h => absurd h.2.1 (by show ¬ a ≤ 1073741824; omega))]; rfl)
        clear HST
        go_quiet (fail)
        go_wp2_with fail
        go_ret
        rw [HF.out]
        exact ⟨rfl, below_drewN (below_chain HB.out L1.out) _⟩
      by_cases hk0 : 0 < k
      · have hk0' : (0 : Int) < (k : Int) := by omega
        have b0 : (k == 0) = false := by simp; omega
        rw [b0, Bool.false_or] at HST
        have ix := HIX.out hk0
        have cp := HCP.out hk0
        have hw1 : IntKind.i64.wrap ((k : Int) - 1) = (k : Int) - 1 := by rw [IntKind.wrap_i64]; omega
        clear HPA HCP HIX
        by_cases hle : a ≤ a'
        · skip
          have HF : Hid (mayM ms = false) := mayM_no (k := k) (by rw [HL.out]; exact hlt) (by rw [HST.out]; rw [decide_eq_false (by omega), Bool.and_false])
          clear HST
          go_quiet (fail)
          go_wp2_with fail
          go_ret
          rw [HF.out]
          exact ⟨rfl, below_drewN (below_chain HB.out L1.out) _⟩
        by_cases h1 : kd = 1
        · have n1 : (kd != 1) = false := by simpa using h1
          by_cases hb0 : by_ < 0
          · skip
            have HF : Hid (mayM ms = false) := mayM_no (k := k) (by rw [HL.out]; exact hlt) (by rw [HST.out]; show (okM ⟨a, kd, by_, fl⟩ && _) = false; rw [show okM ⟨a, kd, by_, fl⟩ = false from decide_eq_false (fun h => absurd h.2.2.2.1 (by show ¬ 0 ≤ by_; omega))]; rfl)
            clear HST
            go_quiet (fail)
            go_wp2_with fail
            go_ret
            rw [HF.out]
            exact ⟨rfl, below_drewN (below_chain HB.out L1.out) _⟩
          by_cases hb1 : 65536 < by_
          · skip
            have HF : Hid (mayM ms = false) := mayM_no (k := k) (by rw [HL.out]; exact hlt) (by rw [HST.out]; show (okM ⟨a, kd, by_, fl⟩ && _) = false; rw [show okM ⟨a, kd, by_, fl⟩ = false from decide_eq_false (fun h => absurd h.2.2.2.2 (by show ¬ by_ ≤ 65536; omega))]; rfl)
            clear HST
            go_quiet (fail)
            go_wp2_with fail
            go_ret
            rw [HF.out]
            exact ⟨rfl, below_drewN (below_chain HB.out L1.out) _⟩
          have HF : Hid (stepM ms k = true) := by show _ = _; rw [HST.out]; rw [show okM ⟨a, kd, by_, fl⟩ = true from decide_eq_true ⟨by show 1 ≤ a; omega, by show a ≤ 1073741824; omega, Or.inl h1, by show 0 ≤ by_; omega, by show by_ ≤ 65536; omega⟩, Bool.true_and]; exact decide_eq_true (by omega)
          clear HST
          go_quiet (fail)
          have S3 : Hid (Below w.heap.size w (W1.drewN nq)) := below_drewN (below_chain HB.out L1.out) _
          have HK2 : Hid (∀ j, j < k + 1 → stepM ms j = true) := fun j hj => by
            by_cases e : j = k
            · subst e; exact HF.out
            · exact HK.out j (by omega)
          go_wp2_with fail
          go_roundw
          case rel => exact ⟨k + 1, by omega, by go_num, HK2, S3⟩
          case measure => simp [intOf]; omega
        · have n1 : (kd != 1) = true := by simpa using h1
          by_cases h2 : kd = 2
          · have n2 : (kd != 2) = false := by simpa using h2
            by_cases hb0 : by_ < 0
            · skip
              have HF : Hid (mayM ms = false) := mayM_no (k := k) (by rw [HL.out]; exact hlt) (by rw [HST.out]; show (okM ⟨a, kd, by_, fl⟩ && _) = false; rw [show okM ⟨a, kd, by_, fl⟩ = false from decide_eq_false (fun h => absurd h.2.2.2.1 (by show ¬ 0 ≤ by_; omega))]; rfl)
              clear HST
              go_quiet (fail)
              go_wp2_with fail
              go_ret
              rw [HF.out]
              exact ⟨rfl, below_drewN (below_chain HB.out L1.out) _⟩
            by_cases hb1 : 65536 < by_
            · skip
              have HF : Hid (mayM ms = false) := mayM_no (k := k) (by rw [HL.out]; exact hlt) (by rw [HST.out]; show (okM ⟨a, kd, by_, fl⟩ && _) = false; rw [show okM ⟨a, kd, by_, fl⟩ = false from decide_eq_false (fun h => absurd h.2.2.2.2 (by show ¬ by_ ≤ 65536; omega))]; rfl)
              clear HST
              go_quiet (fail)
              go_wp2_with fail
              go_ret
              rw [HF.out]
              exact ⟨rfl, below_drewN (below_chain HB.out L1.out) _⟩
            have HF : Hid (stepM ms k = true) := by show _ = _; rw [HST.out]; rw [show okM ⟨a, kd, by_, fl⟩ = true from decide_eq_true ⟨by show 1 ≤ a; omega, by show a ≤ 1073741824; omega, Or.inr h2, by show 0 ≤ by_; omega, by show by_ ≤ 65536; omega⟩, Bool.true_and]; exact decide_eq_true (by omega)
            clear HST
            go_quiet (fail)
            have S3 : Hid (Below w.heap.size w (W1.drewN nq)) := below_drewN (below_chain HB.out L1.out) _
            have HK2 : Hid (∀ j, j < k + 1 → stepM ms j = true) := fun j hj => by
              by_cases e : j = k
              · subst e; exact HF.out
              · exact HK.out j (by omega)
            go_wp2_with fail
            go_roundw
            case rel => exact ⟨k + 1, by omega, by go_num, HK2, S3⟩
            case measure => simp [intOf]; omega
          · have n2 : (kd != 2) = true := by simpa using h2
            have HF : Hid (mayM ms = false) := mayM_no (k := k) (by rw [HL.out]; exact hlt) (by rw [HST.out]; show (okM ⟨a, kd, by_, fl⟩ && _) = false; rw [show okM ⟨a, kd, by_, fl⟩ = false from decide_eq_false (fun h => absurd h.2.2.1 (by show ¬ (kd = 1 ∨ kd = 2); omega))]; rfl)
            clear HST
            go_quiet (fail)
            go_wp2_with fail
            go_ret
            rw [HF.out]
            exact ⟨rfl, below_drewN (below_chain HB.out L1.out) _⟩
      · have hk0' : ¬ (0 : Int) < (k : Int) := by omega
        have b0 : (k == 0) = true := by simp; omega
        rw [b0, Bool.true_or] at HST
        clear HPA HCP HIX
        by_cases h1 : kd = 1
        · have n1 : (kd != 1) = false := by simpa using h1
          by_cases hb0 : by_ < 0
          · skip
            have HF : Hid (mayM ms = false) := mayM_no (k := k) (by rw [HL.out]; exact hlt) (by rw [HST.out]; show (okM ⟨a, kd, by_, fl⟩ && _) = false; rw [show okM ⟨a, kd, by_, fl⟩ = false from decide_eq_false (fun h => absurd h.2.2.2.1 (by show ¬ 0 ≤ by_; omega))]; rfl)
            clear HST
            go_quiet (fail)
            go_wp2_with fail
            go_ret
            rw [HF.out]
            exact ⟨rfl, below_drewN (below_chain HB.out L1.out) _⟩
          by_cases hb1 : 65536 < by_
          · skip
            have HF : Hid (mayM ms = false) := mayM_no (k := k) (by rw [HL.out]; exact hlt) (by rw [HST.out]; show (okM ⟨a, kd, by_, fl⟩ && _) = false; rw [show okM ⟨a, kd, by_, fl⟩ = false from decide_eq_false (fun h => absurd h.2.2.2.2 (by show ¬ by_ ≤ 65536; omega))]; rfl)
            clear HST
            go_quiet (fail)
            go_wp2_with fail
            go_ret
            rw [HF.out]
            exact ⟨rfl, below_drewN (below_chain HB.out L1.out) _⟩
          have HF : Hid (stepM ms k = true) := by show _ = _; rw [HST.out]; rw [show okM ⟨a, kd, by_, fl⟩ = true from decide_eq_true ⟨by show 1 ≤ a; omega, by show a ≤ 1073741824; omega, Or.inl h1, by show 0 ≤ by_; omega, by show by_ ≤ 65536; omega⟩, Bool.true_and]; all_goals rfl
          clear HST
          go_quiet (fail)
          have S3 : Hid (Below w.heap.size w (W1.drewN nq)) := below_drewN (below_chain HB.out L1.out) _
          have HK2 : Hid (∀ j, j < k + 1 → stepM ms j = true) := fun j hj => by
            by_cases e : j = k
            · subst e; exact HF.out
            · exact HK.out j (by omega)
          go_wp2_with fail
          go_roundw
          case rel => exact ⟨k + 1, by omega, by go_num, HK2, S3⟩
          case measure => simp [intOf]; omega
        · have n1 : (kd != 1) = true := by simpa using h1
          by_cases h2 : kd = 2
          · have n2 : (kd != 2) = false := by simpa using h2
            by_cases hb0 : by_ < 0
            · skip
              have HF : Hid (mayM ms = false) := mayM_no (k := k) (by rw [HL.out]; exact hlt) (by rw [HST.out]; show (okM ⟨a, kd, by_, fl⟩ && _) = false; rw [show okM ⟨a, kd, by_, fl⟩ = false from decide_eq_false (fun h => absurd h.2.2.2.1 (by show ¬ 0 ≤ by_; omega))]; rfl)
              clear HST
              go_quiet (fail)
              go_wp2_with fail
              go_ret
              rw [HF.out]
              exact ⟨rfl, below_drewN (below_chain HB.out L1.out) _⟩
            by_cases hb1 : 65536 < by_
            · skip
              have HF : Hid (mayM ms = false) := mayM_no (k := k) (by rw [HL.out]; exact hlt) (by rw [HST.out]; show (okM ⟨a, kd, by_, fl⟩ && _) = false; rw [show okM ⟨a, kd, by_, fl⟩ = false from decide_eq_false (fun h => absurd h.2.2.2.2 (by show ¬ by_ ≤ 65536; omega))]; rfl)
              clear HST
              go_quiet (fail)
              go_wp2_with fail
              go_ret
              rw [HF.out]
              exact ⟨rfl, below_drewN (below_chain HB.out L1.out) _⟩
            have HF : Hid (stepM ms k = true) := by show _ = _; rw [HST.out]; rw [show okM ⟨a, kd, by_, fl⟩ = true from decide_eq_true ⟨by show 1 ≤ a; omega, by show a ≤ 1073741824; omega, Or.inr h2, by show 0 ≤ by_; omega, by show by_ ≤ 65536; omega⟩, Bool.true_and]; all_goals rfl
            clear HST
            go_quiet (fail)
            have S3 : Hid (Below w.heap.size w (W1.drewN nq)) := below_drewN (below_chain HB.out L1.out) _
            have HK2 : Hid (∀ j, j < k + 1 → stepM ms j = true) := fun j hj => by
              by_cases e : j = k
              · subst e; exact HF.out
              · exact HK.out j (by omega)
            go_wp2_with fail
            go_roundw
            case rel => exact ⟨k + 1, by omega, by go_num, HK2, S3⟩
            case measure => simp [intOf]; omega
          · have n2 : (kd != 2) = true := by simpa using h2
            have HF : Hid (mayM ms = false) := mayM_no (k := k) (by rw [HL.out]; exact hlt) (by rw [HST.out]; show (okM ⟨a, kd, by_, fl⟩ && _) = false; rw [show okM ⟨a, kd, by_, fl⟩ = false from decide_eq_false (fun h => absurd h.2.2.1 (by show ¬ (kd = 1 ∨ kd = 2); omega))]; rfl)
            clear HST
            go_quiet (fail)
            go_wp2_with fail
            go_ret
            rw [HF.out]
            exact ⟨rfl, below_drewN (below_chain HB.out L1.out) _⟩
    · have HY : Hid (mayM ms = true) := mayM_yes (ms := ms) (by have := HL.out; omega) (fun j hj => HK.out j (by have := HL.out; omega))
      rw [HY.out]
      have hlt' : ¬ (k : Int) < (n : Int) := by omega
      go_wp2
      go_ret
      exact ⟨by simp [HY.out], HB.out⟩
set_option maxHeartbeats 4000000 in
theorem refdarks7_any (A : Option Addr) (n c : Nat) (ms : List M) (w : World) (hn : n ≤ 7000) (hA : mishK.Lie w w.heap.size A n ms) :
    Calls Try.prog 15 #[.slice A n c] w (SaysN w (darksM ms)) := by
  have HL := Lib.hid hA.len
  have HA := Lib.hid hA
  clear hA
  go_enter Try.func15, Try.ntmps15
  go_wp2_with fail
  go_loop [3, 4] (fun t3 t4 => ∃ (k d : Nat), t4 = .int .i64 k ∧ k ≤ n ∧ t3 = .int .i64 d ∧ d ≤ k ∧ Hid (d = darksM (ms.take k))) (fun _ t4 => n - (intOf t4).toNat)
  case atStart => exact ⟨0, 0, rfl, Nat.zero_le _, rfl, Nat.le_refl _, rfl⟩
  case round =>
    obtain ⟨k, d, rfl, hk, rfl, hd, HD⟩ := hrel
    by_cases hlt : k < n
    · obtain ⟨ad, rfl, hblk, hat⟩ := mish_at HA.out hlt
      have HN := Lib.hid (darksM_next (ms := ms) (k := k) (by rw [HL.out]; exact hlt))
      obtain ⟨m, HM⟩ : ∃ m, Hid (m = getM ms k) := ⟨_, rfl⟩
      rw [← HM.out] at hat HN
      obtain ⟨c0, c1, c2, c3⟩ := hat
      have i0 : (0 : Int) ≤ (k : Int) := by omega
      have i1 : (k : Int) < (n : Int) := by omega
      by_cases h : m.kind = 2
      · have hb : (m.kind == 2) = true := by simpa using h
        rw [if_pos h] at HN
        have HD2 : Hid (d + 1 = darksM (ms.take (k + 1))) := by show _ = _; rw [HN.out, HD.out]
        clear h
        go_wp2_with fail
        go_round
        case rel => exact ⟨k + 1, d + 1, by go_num, by omega, by go_num, by omega, HD2⟩
        case measure => simp [intOf]; omega
      · have hb : (m.kind == 2) = false := by simpa using h
        rw [if_neg h] at HN
        have HD2 : Hid (d = darksM (ms.take (k + 1))) := by show _ = _; rw [HN.out, HD.out]; rfl
        clear h
        go_wp2_with fail
        go_round
        case rel => exact ⟨k + 1, d, by go_num, by omega, rfl, by omega, HD2⟩
        case measure => simp [intOf]; omega
    · have HF : Hid (d = darksM ms) := by show _ = _; rw [HD.out, List.take_of_length_le (by have := HL.out; omega)]
      go_wp2_with fail
      go_ret
      rw [← HF.out]
      exact ⟨rfl, Below.refl _ _⟩
set_option maxHeartbeats 2000000 in
theorem samemish_yes (A A' : Option Addr) (n c c' : Nat) (ms : List M) (w : World) (hn : n ≤ 9223372036854775807) (hA : mishK.Lie w w.heap.size A n ms) (hA' : mishK.Lie w w.heap.size A' n ms) :
    Calls Try.prog 10 #[.slice A n c, .slice A' n c'] w (SaysB w true) := by
  have HA := Lib.hid hA
  have HA' := Lib.hid hA'
  clear hA hA'
  go_enter Try.func10, Try.ntmps10
  go_wp2
  go_loopw [5] (fun t5 wr => ∃ (k m : Nat), k ≤ n ∧ t5 = .int .i64 k ∧ wr = w.drewN m) (fun t5 _ => n - (intOf t5).toNat)
  case atStart => exact ⟨0, 0, Nat.zero_le _, rfl, rfl⟩
  case round =>
    obtain ⟨k, m, hk, rfl, rfl⟩ := hrel
    by_cases hlt : k < n
    · obtain ⟨ad, hA, hblk, hat⟩ := mish_at HA.out hlt
      obtain ⟨ad', hA', hblk', hat'⟩ := mish_at HA'.out hlt
      obtain ⟨v, HV⟩ : ∃ v, Hid (getM ms k = v) := ⟨_, rfl⟩
      rw [HV.out] at hat hat'
      obtain ⟨c0, c1, c2, c3⟩ := hat
      obtain ⟨e0, e1, e2, e3⟩ := hat'
      subst hA hA'
      have i0 : (0 : Int) ≤ (k : Int) := by omega
      have i1 : (k : Int) < (n : Int) := by omega
      go_wp2
      go_quiet (fail)
      go_wp2
      go_roundw
      case rel => exact ⟨k + 1, m + nq, by omega, by go_num, rfl⟩
      case measure => simp [intOf]; omega
    · go_wp2
      go_ret
      exact ⟨rfl, below_drewN (Below.refl _ _) m⟩
theorem mish_cells_set : ∀ (vs : List M) (i : Nat) (v : M), i < vs.length → mishK.cells (vs.set i v) = ((((mishK.cells vs).set (i * 4) (.int .i64 v.at_)).set (i * 4 + 1) (.int .i64 v.kind)).set (i * 4 + 2) (.int .i64 v.bytes)).set (i * 4 + 3) (.int .u8 v.fill)
  | [], i, v, h => by simp at h
  | u :: r, 0, v, _ => rfl
  | u :: r, i + 1, v, h => by
    have ih := mish_cells_set r i v (by simpa using h)
    have e : ∀ (l : List Value) (k : Nat) (x : Value), (mishCells u ++ l).set (k + 4) x = mishCells u ++ l.set k x := fun l k x => rfl
    show mishCells u ++ mishK.cells (r.set i v) = _
    rw [ih, show (i + 1) * 4 = i * 4 + 4 by omega]
    show _ = ((((mishCells u ++ mishK.cells r).set (i * 4 + 4) _).set (i * 4 + 4 + 1) _).set (i * 4 + 4 + 2) _).set (i * 4 + 4 + 3) _
    rw [e, show i * 4 + 4 + 1 = i * 4 + 1 + 4 by omega, e, show i * 4 + 4 + 2 = i * 4 + 2 + 4 by omega, e, show i * 4 + 4 + 3 = i * 4 + 3 + 4 by omega, e]
/-- The world behind the store of a mishap. -/
def putM (W : World) (g p : Nat) (v : M) : World := (((W.setCell ⟨g, p, none⟩ (.int .i64 v.at_)).setCell ⟨g, p + 1, none⟩ (.int .i64 v.kind)).setCell ⟨g, p + 2, none⟩ (.int .i64 v.bytes)).setCell ⟨g, p + 3, none⟩ (.int .u8 v.fill)
theorem mishRow_set {W : World} {base g n c : Nat} {vs : List M} (h : mishK.Row W base (some ⟨g, 0, none⟩) n c vs) {i : Nat} (hi : i < n) (v : M) (hv : MWf v) : mishK.Row (putM W g (i * 4) v) base (some ⟨g, 0, none⟩) n c (vs.set i v) ∧ W.grownBy (putM W g (i * 4) v) (some g) := by
  obtain ⟨h1, g1⟩ := h.row.stored (i * 4) (.int .i64 v.at_)
  obtain ⟨h2, g2⟩ := h1.stored (i * 4 + 1) (.int .i64 v.kind)
  obtain ⟨h3, g3⟩ := h2.stored (i * 4 + 2) (.int .i64 v.bytes)
  obtain ⟨h4, g4⟩ := h3.stored (i * 4 + 3) (.int .u8 v.fill)
  refine ⟨⟨?_, fun u hu => ?_⟩, grownBy_trans (grownBy_trans (grownBy_trans g1 g2) g3) g4⟩
  · rw [mish_cells_set vs i v (by rw [h.len]; exact hi)]; exact h4
  · rcases List.mem_or_eq_of_mem_set hu with hu | hu
    · exact h.wf u hu
    · rw [hu]; exact hv
def overM : M := ⟨-9, 0, 0, 0⟩
theorem overM_wf : MWf overM := ⟨by decide, by decide, by decide, by decide, by decide, by decide, by decide, by decide⟩
set_option maxHeartbeats 4000000 in
theorem overmish_any (A : Option Addr) (n c base : Nat) (ms : List M) (w : World) (hn : n ≤ 7000) (hbase : base ≤ w.heap.size) (hO : mishK.Row w base A n c ms) :
    Calls Try.prog 16 #[.slice A n c] w fun e w' => e = .returned (.tuple #[]) ∧ w.grownBy w' (Value.slice A n c).ownBlock := by
  have HO := Lib.hid hO
  have HNZ : Hid (0 < n → ∃ g, A = some ⟨g, 0, none⟩) := fun h => by
    rcases hO.row.2 with ⟨_, h0⟩ | ⟨g, cap, cur, hv, hbg, hg, _⟩
    · omega
    · injection hv with e1 e2 e3
      exact ⟨g, e1⟩
  clear hO
  go_enter Try.func16, Try.ntmps16
  go_wp2_with fail
  go_loopw [2] (fun t2 wr => ∃ (j : Nat) (cs : List M), t2 = .int .i64 j ∧ j ≤ n ∧ Hid (mishK.Row wr base A n c cs) ∧ Hid (w.grownBy wr (Value.slice A n c).ownBlock)) (fun t2 _ => n - (intOf t2).toNat)
  case atStart => exact ⟨0, ms, rfl, Nat.zero_le _, HO, World.grownBy.refl _ _⟩
  case round =>
    obtain ⟨j, cs, rfl, hj, HR, HG⟩ := hrel
    by_cases hlt : j < n
    · obtain ⟨g, rfl⟩ := HNZ.out (by omega)
      obtain ⟨ad, hA, hblk, hat⟩ := mish_at HR.out.lie hlt
      obtain rfl := Option.some.inj hA
      rw [add_zero_addr] at hat
      obtain ⟨m, HM⟩ : ∃ m, Hid (m = getM cs j) := ⟨_, rfl⟩
      rw [← HM.out] at hat
      obtain ⟨c0, c1, c2, c3⟩ := hat
      dsimp only at c0 c1 c2 c3
      have f0 : wr.frozen? ⟨g, j * 4, none⟩ = false := HR.out.row.frozenAt _
      have f1 : wr.frozen? ⟨g, j * 4 + 1, none⟩ = false := HR.out.row.frozenAt _
      have f2 : wr.frozen? ⟨g, j * 4 + 2, none⟩ = false := HR.out.row.frozenAt _
      have f3 : wr.frozen? ⟨g, j * 4 + 3, none⟩ = false := HR.out.row.frozenAt _
      obtain ⟨hr, hg⟩ := mishRow_set HR.out hlt overM overM_wf
      have HR3 := Lib.hid hr
      have HG3 : Hid (w.grownBy (putM wr g (j * 4) overM) (some g)) := grownBy_trans HG.out hg
      unfold putM overM at HR3 HG3
      dsimp only at HR3 HG3
      have i0 : (0 : Int) ≤ (j : Int) := by omega
      have i1 : (j : Int) < (n : Int) := by omega
      clear hr hg
      go_wp2
      go_roundw
      case rel => exact ⟨j + 1, _, by go_num, by omega, HR3, HG3⟩
      case measure => simp [intOf]; omega
    · obtain ⟨A9, c9, W9, hr9, ho9, hg9⟩ := Kind.append_one_b (K := mishK) (Nat.le_trans hbase HG.out.size) HR.out overM overM_wf #[.int .i64 (-9), .int .i64 0, .int .i64 0, .int .u8 0] rfl (by omega)
      have R9 := Lib.hid hr9
      have HG9 := Lib.hid (grownBy_trans HG.out hg9)
      clear hr9 ho9 hg9
      go_wp2_with (at_builtin; refine wpList_append_run rfl (.tmp 13) (.tmp 15) 22 rfl rfl rfl R9.out ?_)
      go_end0
      exact ⟨rfl, HG9.out⟩
end Go.Proofs.Ytgonphcjkoobmaa
