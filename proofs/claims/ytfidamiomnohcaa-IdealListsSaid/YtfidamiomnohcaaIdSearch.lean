/- slices.BinarySearchFunc of things, by the landed compare. Conditions: a sorted list of at most 120. -/
import Derived.Test.YtfidamiomnohcaaIdLeaf
import Derived.Test.YtfidamiomnohcaaIdMap
import Derived.Shelf.SlSortCmp.QuietGrown
set_option linter.unusedVariables false
set_option linter.unusedSimpArgs false
set_option maxRecDepth 20000
namespace Go.Proofs.Ytfidamiomnohcaa
open Go.RowKit Go.Sort

/-- Where a thing stands, or would stand, and whether it is there. -/
def whereTh (l : List Th) (x : Th) : Value := .tuple #[.int .i64 (aheadT l x : Nat), .bool (isT l x)]
theorem gro_cell {w w' : World} (h : Gro w w') {p : Addr} {v : Value} (hp : p.block < w.heap.size) (hc : w.cell? p = some v) : w'.cell? p = some v := (h.later.cell hp).trans hc
theorem isT_at {l : List Th} {x : Th} {k : Nat} (hk : aheadT l x = k) : isT l x = (decide (k < l.length) && decide (l.getD k Th.zero = x)) := by
  unfold isT
  rw [hk]
  by_cases h1 : k < l.length <;> by_cases h2 : l.getD k Th.zero = x <;> simp [h1, h2]
set_option maxRecDepth 20000 in
set_option maxHeartbeats 8000000 in
theorem tsearch_any (A : Option Addr) (n c : Nat) (l : List Th) (x : Th) (w : World) (hs : Srt l) (hn : n ≤ 4000) (hA : thK.Lie w w.heap.size A n l) :
    Calls Try.prog 68 #[.slice A n c, thV x, .func (.func 69) #[] #[]] w fun e w' => e = .returned (whereTh l x) ∧ Gro w w' := by
  have HL : Hid (l.length = n) := hA.len
  have HS := Lib.hid hs
  have HA := Lib.hid hA
  obtain ⟨k, HK⟩ : ∃ k, Hid (aheadT l x = k) := ⟨_, rfl⟩
  have hkn : k ≤ n := by rw [← HK.out, ← HL.out]; exact ahead_le l x
  have HW : Hid (∀ y W, Calls Try.prog 69 #[thV y, thV x] W fun e w' => e = .returned (.int .i64 (cmpT y x)) ∧ Gro W w') := fun y W => compare_gro y x W
  have HX := Lib.hid (th_new w x _ rfl 85)
  have HG0 : Hid (Gro w (w.alloc (.cells (thCells x).toArray 85))) := gro_alloc _ _
  have hsz : (w.alloc (.cells (thCells x).toArray 85)).heap.size = w.heap.size + 1 := by simp
  obtain ⟨g, HG⟩ : ∃ g, Hid (w.heap.size = g) := ⟨_, rfl⟩
  have HGL : Hid (g < (w.alloc (.cells (thCells x).toArray 85)).heap.size) := by show _ < _; rw [hsz, ← HG.out]; omega
  rw [HG.out] at HX
  have HISS : Hid (isT l x = (decide (k < n) && decide (l.getD k Th.zero = x))) := by
    have := isT_at HK.out
    rw [HL.out] at this
    exact this
  unfold whereTh
  rw [HK.out]
  obtain ⟨q0, HQ⟩ : ∃ q, Hid (isT l x = q) := ⟨_, rfl⟩
  rw [HQ.out] at HISS ⊢
  obtain ⟨xk, xd⟩ := x
  obtain ⟨sx, HSX⟩ : ∃ s, Hid (strB xd = s) := ⟨_, rfl⟩
  have hx1 := HX.out.c0; have hx2 := HX.out.c1
  simp only [thCells] at hx1 hx2
  rw [HSX.out] at hx1 hx2
  have HW2 : Hid (∀ (yk : Int) (yd : List UInt8) W, Calls Try.prog 69 #[.agg #[.int .i64 yk, .string (strB yd)], .agg #[.int .i64 xk, .string sx]] W fun e w' => e = .returned (.int .i64 (cmpT ⟨yk, yd⟩ ⟨xk, xd⟩)) ∧ Gro W w') := fun yk yd W => by rw [← HSX.out]; exact HW.out ⟨yk, yd⟩ W
  have HG1 : Hid (Gro w (w.alloc (.cells #[.int .i64 xk, .string sx] 85))) := gro_alloc _ _
  have LX1 : Hid ((w.alloc (.cells #[.int .i64 xk, .string sx] 85)).cell? ⟨g, 0, none⟩ = some (.int .i64 xk)) := hx1
  have LX2 : Hid ((w.alloc (.cells #[.int .i64 xk, .string sx] 85)).cell? ⟨g, 1, none⟩ = some (.string sx)) := hx2
  have HGL2 : Hid (g < (w.alloc (.cells #[.int .i64 xk, .string sx] 85)).heap.size) := by show _ < _; rw [← HG.out]; simp
  clear hs hA HX HG0 HGL hsz hx1 hx2 HW
  show Calls _ _ #[_, .agg #[.int .i64 xk, .string (strB xd)], _] _ _
  rw [HSX.out]
  go_enter Try.func68, Try.ntmps68
  go_wp2_with fail
  rw [HG.out]
  go_loopw [9, 10] (fun t9 t10 wr => ∃ i j : Nat, t9 = .int .i64 i ∧ t10 = .int .i64 j ∧ i ≤ k ∧ k ≤ j ∧ j ≤ n ∧ Hid (Gro w wr) ∧ Hid (wr.cell? ⟨g, 0, none⟩ = some (.int .i64 xk)) ∧ Hid (wr.cell? ⟨g, 1, none⟩ = some (.string sx)) ∧ Hid (g < wr.heap.size)) (fun t9 t10 _ => (intOf t10).toNat - (intOf t9).toNat)
  case atStart => exact ⟨0, n, rfl, rfl, Nat.zero_le _, hkn, Nat.le_refl _, HG1, LX1, LX2, HGL2⟩
  case round =>
    clear HG1 LX1 LX2 HGL2
    obtain ⟨i, j, rfl, rfl, hik, hkj, hjn, HB, K1, K2, HGS⟩ := hrel
    have kg1 : ∀ n os, (grow (wr.drewN n) os).cell? ⟨g, 0, none⟩ = some (.int .i64 xk) := fun n os => cell_grown (a := ⟨g, 0, none⟩) HGS.out K1.out n os
    have kg2 : ∀ n os, (grow (wr.drewN n) os).cell? ⟨g, 1, none⟩ = some (.string sx) := fun n os => cell_grown (a := ⟨g, 1, none⟩) HGS.out K2.out n os
    by_cases hlt : i < j
    · obtain ⟨q, hq⟩ : ∃ q, q = (i + j) / 2 := ⟨_, rfl⟩
      have hltz : (i : Int) < (j : Int) := by omega
      have hqz : ((i : Int) + (j : Int)) / 2 = (q : Int) := by omega
      have hq1 : i ≤ q := by omega
      have hq2 : q < j := by omega
      have hqn : q < n := by omega
      clear hq
      obtain ⟨ad, rfl, hblk, hat⟩ := th_at HA.out hqn
      obtain ⟨⟨yk, yd⟩, HY⟩ : ∃ x, Hid (l.getD q Th.zero = x) := ⟨_, rfl⟩
      rw [HY.out] at hat
      have HLT : Hid (ltT ⟨yk, yd⟩ ⟨xk, xd⟩ ↔ q < k) := by
        have := ahead_lt (x := ⟨xk, xd⟩) HS.out (i := q) (by rw [HL.out]; exact hqn)
        rw [HY.out, HK.out] at this; exact this
      have hadb : (ad.add (q * 2)).block < wr.heap.size := by rw [addr_block]; exact Nat.lt_of_lt_of_le hblk HB.out.later.size
      have e0 := gro_cell HB.out (by rw [addr_block]; exact hblk) hat.c0
      have e1 := gro_cell (p := ⟨(ad.add (q * 2)).block, (ad.add (q * 2)).off + 1, none⟩) HB.out (by show (ad.add (q * 2)).block < _; rw [addr_block]; exact hblk) hat.c1
      dsimp only at e0 e1
      have kg3 : ∀ n os, (grow (wr.drewN n) os).cell? (ad.add (q * 2)) = some (.int .i64 yk) := fun n os => cell_grown hadb e0 n os
      have kg4 : ∀ n os, (grow (wr.drewN n) os).cell? ⟨(ad.add (q * 2)).block, (ad.add (q * 2)).off + 1, none⟩ = some (.string (strB yd)) := fun n os => cell_grown (a := ⟨(ad.add (q * 2)).block, (ad.add (q * 2)).off + 1, none⟩) hadb e1 n os
      have i0 : (0 : Int) ≤ (q : Int) := by omega
      have i1 : (q : Int) < (n : Int) := by omega
      obtain ⟨z, HZ⟩ : ∃ z, Hid (cmpT ⟨yk, yd⟩ ⟨xk, xd⟩ = z) := ⟨_, rfl⟩
      have HC := Lib.hid (HW2.out yk yd)
      rw [HZ.out] at HC
      obtain ⟨sy, HSY⟩ : ∃ s, Hid (strB yd = s) := ⟨_, rfl⟩
      rw [HSY.out] at HC kg4
      have HZL : Hid (z < 0 ↔ q < k) := by rw [← HZ.out]; exact (cmpT_neg _ _).trans HLT.out
      clear hat e0 e1 hadb HLT
      go_wp2_with fail
      refine wp_region_quiet_grown (by kernel_rfl) (by kernel_rfl) ?_
      repeat (quiet_step (refine Calls.grown_of (HC.out _)))
      refine wpQuiet_nil ?_
      intro _ hw'
      obtain ⟨⟨nq, osq⟩, hw''⟩ := hw'
      subst hw''
      have HBn : Hid (Gro w (grow (wr.drewN nq) osq)) := HB.out.trans ⟨nq, osq, rfl⟩
      have K1n := Lib.hid (kg1 nq osq)
      have K2n := Lib.hid (kg2 nq osq)
      have HGn : Hid (g < (grow (wr.drewN nq) osq).heap.size) := by show g < (wr.heap ++ osq).size; rw [Array.size_append]; have := HGS.out; omega
      by_cases hv : z < 0
      · have hqk : q < k := HZL.out.1 hv
        go_wp2_with fail
        go_roundw
        case rel => exact ⟨q + 1, j, by go_num, rfl, hqk, hkj, hjn, HBn, K1n, K2n, HGn⟩
        case measure => simp [intOf]; omega
      · have hqk : k ≤ q := Nat.le_of_not_lt fun h => hv (HZL.out.2 h)
        go_wp2_with fail
        go_roundw
        case rel => exact ⟨i, q, rfl, rfl, hik, hqk, by omega, HBn, K1n, K2n, HGn⟩
        case measure => simp [intOf]; omega
    · obtain rfl : i = k := by omega
      by_cases hin : i < n
      · have d0 : decide ((i : Int) < (n : Int)) = true := decide_eq_true (by omega)
        have hinz : (i : Int) < (n : Int) := by omega
        obtain ⟨ad, rfl, hblk, hat⟩ := th_at HA.out hin
        obtain ⟨⟨yk, yd⟩, HY⟩ : ∃ x, Hid (l.getD i Th.zero = x) := ⟨_, rfl⟩
        rw [HY.out] at hat
        have hadb : (ad.add (i * 2)).block < wr.heap.size := by rw [addr_block]; exact Nat.lt_of_lt_of_le hblk HB.out.later.size
        have e0 := gro_cell HB.out (by rw [addr_block]; exact hblk) hat.c0
        have e1 := gro_cell (p := ⟨(ad.add (i * 2)).block, (ad.add (i * 2)).off + 1, none⟩) HB.out (by show (ad.add (i * 2)).block < _; rw [addr_block]; exact hblk) hat.c1
        dsimp only at e0 e1
        have kg3 : ∀ n os, (grow (wr.drewN n) os).cell? (ad.add (i * 2)) = some (.int .i64 yk) := fun n os => cell_grown hadb e0 n os
        have kg4 : ∀ n os, (grow (wr.drewN n) os).cell? ⟨(ad.add (i * 2)).block, (ad.add (i * 2)).off + 1, none⟩ = some (.string (strB yd)) := fun n os => cell_grown (a := ⟨(ad.add (i * 2)).block, (ad.add (i * 2)).off + 1, none⟩) hadb e1 n os
        have i0 : (0 : Int) ≤ (i : Int) := by omega
        obtain ⟨z, HZ⟩ : ∃ z, Hid (cmpT ⟨yk, yd⟩ ⟨xk, xd⟩ = z) := ⟨_, rfl⟩
        have HC := Lib.hid (HW2.out yk yd)
        rw [HZ.out] at HC
        obtain ⟨sy, HSY⟩ : ∃ s, Hid (strB yd = s) := ⟨_, rfl⟩
        rw [HSY.out] at HC kg4
        have HZE : Hid ((z == 0) = q0) := by
          show _ = _
          rw [HISS.out, decide_eq_true hin, HY.out, Bool.true_and]
          have h1 := cmpT_zero ⟨yk, yd⟩ ⟨xk, xd⟩
          rw [HZ.out] at h1
          rw [Bool.eq_iff_iff]
          simp only [beq_iff_eq, decide_eq_true_eq]
          exact h1
        clear hat e0 e1 hadb
        go_wp2_with fail
        refine wp_region_quiet_grown (by kernel_rfl) (by kernel_rfl) ?_
        repeat (quiet_step (refine Calls.grown_of (HC.out _)))
        refine wpQuiet_nil ?_
        intro _ hw'
        obtain ⟨⟨nq, osq⟩, hw''⟩ := hw'
        subst hw''
        have HBn : Hid (Gro w (grow (wr.drewN nq) osq)) := HB.out.trans ⟨nq, osq, rfl⟩
        go_wp2_with fail
        go_ret2
        rw [HZE.out]
        exact ⟨rfl, HBn.out⟩
      · have d0 : decide ((i : Int) < (n : Int)) = false := decide_eq_false (by omega)
        have d1 : decide (i < n) = false := decide_eq_false (by omega)
        have HQF : Hid (q0 = false) := by show _ = _; rw [HISS.out, d1]; rfl
        go_wp2_with fail
        go_quiet (fail)
        have HBn : Hid (Gro w (wr.drewN nq)) := HB.out.trans ⟨nq, #[], by rw [Go.Sort.grow_empty]⟩
        go_wp2_with fail
        go_ret2
        rw [HQF.out]
        exact ⟨rfl, HBn.out⟩
end Go.Proofs.Ytfidamiomnohcaa
