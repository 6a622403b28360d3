/- IdealNone: true, whatever its arguments are. No conditions. -/
import Derived.Test.YtfmlognahcaacaaIdAw
import Derived.Test.YtfmlognahcaacaaOpenPair
set_option linter.unusedVariables false
set_option linter.unusedSimpArgs false
set_option maxRecDepth 20000
namespace Go.Proofs.Ytfmlognahcaacaa
open Go.RowKit

theorem dirty_nil (w : World) : Calls Try.prog 19 #[.pointer none] w fun e w' => e = .returned (.tuple #[.slice none 0 0, .slice none 0 0]) ∧ w' = w := by
  go_enter Try.func19, Try.ntmps19
  go_wp2_with fail
  go_ret2
  exact ⟨rfl, rfl⟩
theorem copy_nil (w : World) : Calls Try.prog 27 #[.pointer none] w fun e w' => e = .returned (.pointer none) ∧ w' = w := by
  go_enter Try.func27, Try.ntmps27
  go_wp2_with fail
  go_ret
  exact ⟨rfl, rfl⟩
set_option maxHeartbeats 8000000 in
theorem none_great (k a : Int) (A : Option Addr) (n c : Nat) (m rk re : Int) (rA : Option Addr) (rn rc : Nat) (rd : Bool) (zA : Option Addr) (zn zc : Nat) (w : World) (hg : 300 < (n : Int) ∨ 300 < (rn : Int) ∨ 80 < (zn : Int)) :
    Calls Try.prog 5 #[.agg #[.int .i64 k, .int .u64 a, .slice A n c, .int .i64 m], .agg #[.int .i64 rk, .int .i64 re, .slice rA rn rc, .bool rd, .slice zA zn zc]] w (SaysB w true) := by
  have S0 : Hid (Below w.heap.size w ((w.alloc (.cells #[.int .i64 k, .int .u64 a, .slice A n c, .int .i64 m] 32)).alloc (.cells #[.int .i64 rk, .int .i64 re, .slice rA rn rc, .bool rd, .slice zA zn zc] 36))) := since_alloc ((Below.refl _ _).alloc (Nat.le_refl _) _) _
  have fin : ∀ W, Hid (Below w.heap.size w W) → Calls Try.prog 9 #[] W fun e W' => e = .returned (.bool true) ∧ Hid (Below w.heap.size w W') := fun W hW => (awake18_any W).mono fun e W' h => ⟨h.1, below_chain hW.out h.2.out⟩
  have HF := Lib.hid fin
  clear fin
  by_cases h1 : 300 < (n : Int)
  · have d1 : decide (300 < (n : Int)) = true := decide_eq_true h1
    go_enter Try.func5, Try.ntmps5
    go_wp2_with fail
    refine (HF.out _ S0).mono ?_
    rintro e W ⟨rfl, hB⟩
    go_wp2_with fail
    go_ret
    exact ⟨rfl, hB⟩
  · have d1 : decide (300 < (n : Int)) = false := decide_eq_false h1
    by_cases h2 : 300 < (rn : Int)
    · have d2 : decide (300 < (rn : Int)) = true := decide_eq_true h2
      go_enter Try.func5, Try.ntmps5
      go_wp2_with fail
      refine (HF.out _ S0).mono ?_
      rintro e W ⟨rfl, hB⟩
      go_wp2_with fail
      go_ret
      exact ⟨rfl, hB⟩
    · have d2 : decide (300 < (rn : Int)) = false := decide_eq_false h2
      have h3 : 80 < (zn : Int) := by rcases hg with h | h | h; exact absurd h h1; exact absurd h h2; exact h
      have d3 : decide (80 < (zn : Int)) = true := decide_eq_true h3
      go_enter Try.func5, Try.ntmps5
      go_wp2_with fail
      refine (HF.out _ S0).mono ?_
      rintro e W ⟨rfl, hB⟩
      go_wp2_with fail
      go_ret
      exact ⟨rfl, hB⟩
set_option maxHeartbeats 8000000 in
theorem none_main (k a : Int) (A : Option Addr) (n c : Nat) (m rk re : Int) (rA : Option Addr) (rn rc : Nat) (rd : Bool) (zA : Option Addr) (zn zc : Nat) (w : World) (h1 : ¬ 300 < (n : Int)) (h2 : ¬ 300 < (rn : Int)) (h3 : ¬ 80 < (zn : Int)) :
    Calls Try.prog 5 #[.agg #[.int .i64 k, .int .u64 a, .slice A n c, .int .i64 m], .agg #[.int .i64 rk, .int .i64 re, .slice rA rn rc, .bool rd, .slice zA zn zc]] w (SaysB w true) := by
  obtain ⟨g, HG⟩ : ∃ g, Hid (w.heap.size = g) := ⟨_, rfl⟩
  obtain ⟨g2, HG2⟩ : ∃ q, Hid (g + 1 = q) := ⟨_, rfl⟩
  obtain ⟨W2, HW2⟩ : ∃ W, Hid ((w.alloc (.cells #[.int .i64 k, .int .u64 a, .slice A n c, .int .i64 m] 32)).alloc (.cells #[.int .i64 rk, .int .i64 re, .slice rA rn rc, .bool rd, .slice zA zn zc] 36) = W) := ⟨_, rfl⟩
  have S2 : Hid (Below w.heap.size w W2) := by show Below _ _ _; rw [← HW2.out]; exact since_alloc ((Below.refl _ _).alloc (Nat.le_refl _) _) _
  have B1 : Hid (RestC (fun _ => False) W2 g #[.int .i64 k, .int .u64 a, .slice A n c, .int .i64 m] 32) := by show RestC _ _ _ _ _; rw [← HW2.out, ← HG.out]; exact (RestC.new w _ _ (fun b hb => hb.elim)).since ((Below.refl _ _).alloc (Nat.le_refl _) _)
  have B2 : Hid (RestC (fun _ => False) W2 g2 #[.int .i64 rk, .int .i64 re, .slice rA rn rc, .bool rd, .slice zA zn zc] 36) := by
    show RestC _ _ _ _ _
    have h1 := RestC.new (fp := fun _ => False) (w.alloc (.cells #[.int .i64 k, .int .u64 a, .slice A n c, .int .i64 m] 32)) #[.int .i64 rk, .int .i64 re, .slice rA rn rc, .bool rd, .slice zA zn zc] 36 (fun b hb => hb.elim)
    rw [World.size_alloc, HG.out, HG2.out, HW2.out] at h1; exact h1
  have d1 : decide (300 < (n : Int)) = false := decide_eq_false h1
  have d2 : decide (300 < (rn : Int)) = false := decide_eq_false h2
  have d3 : decide (80 < (zn : Int)) = false := decide_eq_false h3
  go_enter Try.func5, Try.ntmps5
  go_wp2_with fail
  rw [HW2.out, HG.out, HG2.out]
  refine (dirty_nil W2).mono ?_
  rintro e W ⟨rfl, rfl⟩
  have o0 := B1.out.cell 0
  have o1 := B1.out.cell 1
  have o2 := B1.out.cell 2
  have o3 := B1.out.cell 3
  simp only [List.getElem?_toArray, List.getElem?_cons_zero, List.getElem?_cons_succ] at o0 o1 o2 o3
  go_wp2_with fail
  clear o0 o1 o2 o3
  refine (may_nil ⟨k, a, A, n, c, m⟩ W).mono ?_
  rintro e W3 ⟨rfl, hB⟩
  have S3 := Lib.hid (below_chain S2.out hB)
  have B1 := Lib.hid (B1.out.since hB)
  have B2 := Lib.hid (B2.out.since hB)
  clear hB S2
  have o0 := B1.out.cell 0
  have o1 := B1.out.cell 1
  have o2 := B1.out.cell 2
  have o3 := B1.out.cell 3
  simp only [List.getElem?_toArray, List.getElem?_cons_zero, List.getElem?_cons_succ] at o0 o1 o2 o3
  have r0 := B2.out.cell 0
  have r1 := B2.out.cell 1
  have r2 := B2.out.cell 2
  have r3 := B2.out.cell 3
  have r4 := B2.out.cell 4
  simp only [List.getElem?_toArray, List.getElem?_cons_zero, List.getElem?_cons_succ] at r0 r1 r2 r3 r4
  go_wp2_with fail
  clear o0 o1 o2 o3 r0 r1 r2 r3 r4
  refine (take_nil ⟨k, a, A, n, c, m⟩ ⟨rk, re, rA, rn, rc, rd, zA, zn, zc⟩ W3).mono ?_
  rintro e W4 ⟨rfl, hB⟩
  have S4 := Lib.hid (below_chain S3.out hB)
  have B1 := Lib.hid (B1.out.since hB)
  have B2 := Lib.hid (B2.out.since hB)
  clear hB S3
  have o0 := B1.out.cell 0
  have o1 := B1.out.cell 1
  have o2 := B1.out.cell 2
  have o3 := B1.out.cell 3
  simp only [List.getElem?_toArray, List.getElem?_cons_zero, List.getElem?_cons_succ] at o0 o1 o2 o3
  have r0 := B2.out.cell 0
  have r1 := B2.out.cell 1
  have r2 := B2.out.cell 2
  have r3 := B2.out.cell 3
  have r4 := B2.out.cell 4
  simp only [List.getElem?_toArray, List.getElem?_cons_zero, List.getElem?_cons_succ] at r0 r1 r2 r3 r4
  go_wp2_with fail
  clear o0 o1 o2 o3 r0 r1 r2 r3 r4
  refine (can_nil a ⟨rk, re, rA, rn, rc, rd, zA, zn, zc⟩ W4).mono ?_
  rintro e W5 ⟨rfl, hB⟩
  have S5 := Lib.hid (below_chain S4.out hB)
  have B1 := Lib.hid (B1.out.since hB)
  have B2 := Lib.hid (B2.out.since hB)
  clear hB S4
  go_wp2_with fail
  refine (addrs_nil W5).mono ?_
  rintro e W6 ⟨rfl, rfl⟩
  go_wp2_with fail
  refine (copy_nil W6).mono ?_
  rintro e W7 ⟨rfl, rfl⟩
  go_wp2_with fail
  refine (awake18_any W7).mono ?_
  rintro e W8 ⟨rfl, hB⟩
  have S8 := Lib.hid (below_chain S5.out hB.out)
  clear hB
  go_wp2_with fail
  go_ret
  exact ⟨rfl, S8⟩
theorem none_law (k a : Int) (A : Option Addr) (n c : Nat) (m rk re : Int) (rA : Option Addr) (rn rc : Nat) (rd : Bool) (zA : Option Addr) (zn zc : Nat) (w : World) :
    Calls Try.prog 5 #[.agg #[.int .i64 k, .int .u64 a, .slice A n c, .int .i64 m], .agg #[.int .i64 rk, .int .i64 re, .slice rA rn rc, .bool rd, .slice zA zn zc]] w (SaysB w true) := by
  by_cases h1 : 300 < (n : Int)
  · exact none_great k a A n c m rk re rA rn rc rd zA zn zc w (Or.inl h1)
  · by_cases h2 : 300 < (rn : Int)
    · exact none_great k a A n c m rk re rA rn rc rd zA zn zc w (Or.inr (Or.inl h2))
    · by_cases h3 : 80 < (zn : Int)
      · exact none_great k a A n c m rk re rA rn rc rd zA zn zc w (Or.inr (Or.inr h3))
      · exact none_main k a A n c m rk re rA rn rc rd zA zn zc w h1 h2 h3
end Go.Proofs.Ytfmlognahcaacaa
