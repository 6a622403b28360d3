/- The document's own victim: what may be, what stands ahead, the order, the gain. Conditions: the list's cells; at most 41 blocks. -/
import Derived.Test.YtafnnpebdcnadaaVicRun
set_option linter.unusedVariables false
set_option linter.unusedSimpArgs false
namespace Go.Proofs.Ytafnnpebdcnadaa
open Go.RowKit Go.Sort

theorem rfine_any (x : Int) (w : World) : Calls Try.prog 26 #[.int .i64 x] w fun e w' => e = .returned (.bool (fineI x)) ∧ w' = w := by
  by_cases h0 : 0 ≤ x
  · by_cases h1 : x ≤ 1073741824
    · rw [show fineI x = true from fineI_yes.2 ⟨h0, h1⟩]
      go_enter Try.func26, Try.ntmps26
      go_wp2_with fail
      go_ret
      exact ⟨rfl, rfl⟩
    · rw [show fineI x = false from fineI_no.2 (by omega)]
      go_enter Try.func26, Try.ntmps26
      go_wp2_with fail
      go_ret
      exact ⟨rfl, rfl⟩
  · rw [show fineI x = false from fineI_no.2 (by omega)]
    go_enter Try.func26, Try.ntmps26
    go_wp2_with fail
    go_ret
    exact ⟨rfl, rfl⟩
/-- A block laid anew. -/
def boxW (w : World) (b : VB) : World := w.alloc (.cells #[.int .i64 b.id, .int .i64 b.cl, .int .i64 b.di, .int .i64 b.ot, .int .i64 b.we] 37)
set_option maxHeartbeats 4000000 in
theorem rmay_any (b : VB) (w : World) : Calls Try.prog 16 #[vblkV b] w (SaysB w (mayV b)) := by
  have hb := vb_new w b #[.int .i64 b.id, .int .i64 b.cl, .int .i64 b.di, .int .i64 b.ot, .int .i64 b.we] rfl 37
  have HB : Hid (Below w.heap.size w (w.alloc (.cells #[.int .i64 b.id, .int .i64 b.cl, .int .i64 b.di, .int .i64 b.ot, .int .i64 b.we] 37))) := later_alloc _ _
  obtain ⟨c0, c1, c2, c3, c4⟩ := hb
  unfold vblkV
  have HM : Hid (mayV b = (fineI b.id && fineI b.cl && fineI b.di && fineI b.ot && fineI b.we)) := rfl
  rw [HM.out]
  obtain ⟨p0, HP0⟩ : ∃ q, Hid (fineI b.id = q) := ⟨_, rfl⟩
  have F0 : Hid (∀ W, Calls Try.prog 26 #[.int .i64 b.id] W fun e w' => e = .returned (.bool p0) ∧ w' = W) := fun W => by rw [← HP0.out]; exact rfine_any b.id W
  obtain ⟨p1, HP1⟩ : ∃ q, Hid (fineI b.cl = q) := ⟨_, rfl⟩
  have F1 : Hid (∀ W, Calls Try.prog 26 #[.int .i64 b.cl] W fun e w' => e = .returned (.bool p1) ∧ w' = W) := fun W => by rw [← HP1.out]; exact rfine_any b.cl W
  obtain ⟨p2, HP2⟩ : ∃ q, Hid (fineI b.di = q) := ⟨_, rfl⟩
  have F2 : Hid (∀ W, Calls Try.prog 26 #[.int .i64 b.di] W fun e w' => e = .returned (.bool p2) ∧ w' = W) := fun W => by rw [← HP2.out]; exact rfine_any b.di W
  obtain ⟨p3, HP3⟩ : ∃ q, Hid (fineI b.ot = q) := ⟨_, rfl⟩
  have F3 : Hid (∀ W, Calls Try.prog 26 #[.int .i64 b.ot] W fun e w' => e = .returned (.bool p3) ∧ w' = W) := fun W => by rw [← HP3.out]; exact rfine_any b.ot W
  obtain ⟨p4, HP4⟩ : ∃ q, Hid (fineI b.we = q) := ⟨_, rfl⟩
  have F4 : Hid (∀ W, Calls Try.prog 26 #[.int .i64 b.we] W fun e w' => e = .returned (.bool p4) ∧ w' = W) := fun W => by rw [← HP4.out]; exact rfine_any b.we W
  rw [HP0.out, HP1.out, HP2.out, HP3.out, HP4.out]
  clear HM HP0 HP1 HP2 HP3 HP4
  cases p0 with
  | false =>
    go_enter Try.func16, Try.ntmps16
    go_wp2_with fail
    refine (F0.out _).mono ?_
    rintro e w' ⟨rfl, rfl⟩
    go_wp2_with fail
    go_ret
    exact ⟨by simp, HB⟩
  | true =>
    cases p1 with
    | false =>
      go_enter Try.func16, Try.ntmps16
      go_wp2_with fail
      refine (F0.out _).mono ?_
      rintro e w' ⟨rfl, rfl⟩
      go_wp2_with fail
      refine (F1.out _).mono ?_
      rintro e w' ⟨rfl, rfl⟩
      go_wp2_with fail
      go_ret
      exact ⟨by simp, HB⟩
    | true =>
      cases p2 with
      | false =>
        go_enter Try.func16, Try.ntmps16
        go_wp2_with fail
        refine (F0.out _).mono ?_
        rintro e w' ⟨rfl, rfl⟩
        go_wp2_with fail
        refine (F1.out _).mono ?_
        rintro e w' ⟨rfl, rfl⟩
        go_wp2_with fail
        refine (F2.out _).mono ?_
        rintro e w' ⟨rfl, rfl⟩
        go_wp2_with fail
        go_ret
        exact ⟨by simp, HB⟩
      | true =>
        cases p3 with
        | false =>
          go_enter Try.func16, Try.ntmps16
          go_wp2_with fail
          refine (F0.out _).mono ?_
          rintro e w' ⟨rfl, rfl⟩
          go_wp2_with fail
          refine (F1.out _).mono ?_
          rintro e w' ⟨rfl, rfl⟩
          go_wp2_with fail
          refine (F2.out _).mono ?_
          rintro e w' ⟨rfl, rfl⟩
          go_wp2_with fail
          refine (F3.out _).mono ?_
          rintro e w' ⟨rfl, rfl⟩
          go_wp2_with fail
          go_ret
          exact ⟨by simp, HB⟩
        | true =>
          cases p4 with
          | false =>
            go_enter Try.func16, Try.ntmps16
            go_wp2_with fail
            refine (F0.out _).mono ?_
            rintro e w' ⟨rfl, rfl⟩
            go_wp2_with fail
            refine (F1.out _).mono ?_
            rintro e w' ⟨rfl, rfl⟩
            go_wp2_with fail
            refine (F2.out _).mono ?_
            rintro e w' ⟨rfl, rfl⟩
            go_wp2_with fail
            refine (F3.out _).mono ?_
            rintro e w' ⟨rfl, rfl⟩
            go_wp2_with fail
            refine (F4.out _).mono ?_
            rintro e w' ⟨rfl, rfl⟩
            go_wp2_with fail
            go_ret
            exact ⟨by simp, HB⟩
          | true =>
            go_enter Try.func16, Try.ntmps16
            go_wp2_with fail
            refine (F0.out _).mono ?_
            rintro e w' ⟨rfl, rfl⟩
            go_wp2_with fail
            refine (F1.out _).mono ?_
            rintro e w' ⟨rfl, rfl⟩
            go_wp2_with fail
            refine (F2.out _).mono ?_
            rintro e w' ⟨rfl, rfl⟩
            go_wp2_with fail
            refine (F3.out _).mono ?_
            rintro e w' ⟨rfl, rfl⟩
            go_wp2_with fail
            refine (F4.out _).mono ?_
            rintro e w' ⟨rfl, rfl⟩
            go_wp2_with fail
            go_ret
            exact ⟨rfl, HB⟩
set_option maxHeartbeats 4000000 in
theorem rahead_any (a b : VB) (w : World) : Calls Try.prog 22 #[vblkV a, vblkV b] w (SaysB w (decide (aheadV a b))) := by
  rcases a with ⟨i, c, d, o, v⟩
  rcases b with ⟨i', c', d', o', v'⟩
  obtain ⟨W1, HW1⟩ : ∃ W, Hid (W = w.alloc (.cells #[.int .i64 i, .int .i64 c, .int .i64 d, .int .i64 o, .int .i64 v] 37)) := ⟨_, rfl⟩
  obtain ⟨W2, HW2⟩ : ∃ W, Hid (W = W1.alloc (.cells #[.int .i64 i', .int .i64 c', .int .i64 d', .int .i64 o', .int .i64 v'] 37)) := ⟨_, rfl⟩
  have L1 : Hid (Below w.heap.size w W1) := by rw [HW1.out]; exact later_alloc _ _
  have L2 : Hid (Below W1.heap.size W1 W2) := by rw [HW2.out]; exact later_alloc _ _
  have HB := Lib.hid (below_chain L1.out L2.out)
  have ha : VBAt W1 ⟨w.heap.size, 0, none⟩ ⟨i, c, d, o, v⟩ := by rw [HW1.out]; exact vb_new w ⟨i, c, d, o, v⟩ _ rfl _
  have ha2 := ha.since L2.out (by show w.heap.size < _; rw [HW1.out]; simp)
  have hb : VBAt W2 ⟨W1.heap.size, 0, none⟩ ⟨i', c', d', o', v'⟩ := by rw [HW2.out]; exact vb_new W1 ⟨i', c', d', o', v'⟩ _ rfl _
  have hs : W1.heap.size = w.heap.size + 1 := by rw [HW1.out]; simp
  rw [hs] at hb
  have a0 := ha2.c0
  have a1 : W2.cell? ⟨w.heap.size, 1, none⟩ = _ := ha2.c1
  have a2 : W2.cell? ⟨w.heap.size, 2, none⟩ = _ := ha2.c2
  have a4 : W2.cell? ⟨w.heap.size, 4, none⟩ = _ := ha2.c4
  have b0 := hb.c0
  have b1 : W2.cell? ⟨w.heap.size + 1, 1, none⟩ = _ := hb.c1
  have b2 : W2.cell? ⟨w.heap.size + 1, 2, none⟩ = _ := hb.c2
  have b4 : W2.cell? ⟨w.heap.size + 1, 4, none⟩ = _ := hb.c4
  rw [HW2.out, HW1.out] at a0 a1 a2 a4 b0 b1 b2 b4 HB
  clear ha ha2 hb hs L1 L2 HW1 HW2 W2 W1
  unfold vblkV
  by_cases hd : d = d'
  · subst hd
    by_cases hc : c = c'
    · subst hc
      by_cases hv : v = v'
      · subst hv
        obtain ⟨r, HR⟩ : ∃ r, Hid (decide (i < i') = r) := ⟨_, rfl⟩
        have HA : Hid (decide (aheadV ⟨i, c, d, o, v⟩ ⟨i', c, d, o', v⟩) = r) := by
          show _ = _
          rw [← HR.out]
          unfold aheadV
          dsimp only
          refine decide_eq_decide.2 ?_
          omega
        rw [HA.out]
        clear HA
        go_enter Try.func22, Try.ntmps22
        go_wp2_with fail
        go_ret
        exact ⟨by rw [← HR.out]; rfl, HB⟩
      · have nv : (v != v') = true := by simp [hv]
        obtain ⟨r, HR⟩ : ∃ r, Hid (decide (v < v') = r) := ⟨_, rfl⟩
        have HA : Hid (decide (aheadV ⟨i, c, d, o, v⟩ ⟨i', c, d, o', v'⟩) = r) := by
          show _ = _
          rw [← HR.out]
          unfold aheadV
          dsimp only
          refine decide_eq_decide.2 ?_
          omega
        rw [HA.out]
        clear HA
        go_enter Try.func22, Try.ntmps22
        go_wp2_with fail
        go_ret
        exact ⟨by rw [← HR.out]; rfl, HB⟩
    · have nc : (c != c') = true := by simp [hc]
      obtain ⟨r, HR⟩ : ∃ r, Hid (decide (c' < c) = r) := ⟨_, rfl⟩
      have HA : Hid (decide (aheadV ⟨i, c, d, o, v⟩ ⟨i', c', d, o', v'⟩) = r) := by
        show _ = _
        rw [← HR.out]
        unfold aheadV
        dsimp only
        refine decide_eq_decide.2 ?_
        omega
      rw [HA.out]
      clear HA
      go_enter Try.func22, Try.ntmps22
      go_wp2_with fail
      go_ret
      exact ⟨by rw [← HR.out]; rfl, HB⟩
  · have nd : (d != d') = true := by simp [hd]
    obtain ⟨r, HR⟩ : ∃ r, Hid (decide (d < d') = r) := ⟨_, rfl⟩
    have HA : Hid (decide (aheadV ⟨i, c, d, o, v⟩ ⟨i', c', d', o', v'⟩) = r) := by
      show _ = _
      rw [← HR.out]
      unfold aheadV
      dsimp only
      refine decide_eq_decide.2 ?_
      omega
    rw [HA.out]
    clear HA
    go_enter Try.func22, Try.ntmps22
    go_wp2_with fail
    go_ret
    exact ⟨by rw [← HR.out]; rfl, HB⟩
end Go.Proofs.Ytafnnpebdcnadaa
