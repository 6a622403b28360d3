/- Small contracts for package head: whether bytes are erased, bytes.Equal, an error's number, bytes of a number, the statements' head. Conditions: the slices' cells. -/
import Derived.Test.YticjdjffmagdkaaDoorHeadMay
import Derived.Test.YticjdjffmagdkaaDoorHeadMath
import Derived.Test.YticjdjffmagdkaaDoorRegion
import Derived.Test.YticjdjffmagdkaaDoorShared
set_option linter.unusedVariables false
set_option linter.unusedSimpArgs false
namespace Go.Proofs.YticjdjffmagdkaaDoor
open Go.RowKit

/-- All bytes are 255. -/
def blankB (bs : List Nat) : Bool := bs.all fun b => b == 255
theorem blankB_iff {bs : List Nat} : blankB bs = true ↔ ∀ b ∈ bs, b = 255 := by unfold blankB; simp
theorem blank_no {bs : List Nat} {k : Nat} (hk : k < bs.length) (h : bs.getD k 0 ≠ 255) : blankB bs = false := by
  cases hb : blankB bs with
  | false => rfl
  | true =>
    exfalso
    refine h ?_
    rw [List.getD_eq_getElem?_getD, List.getElem?_eq_getElem hk]
    exact blankB_iff.1 hb _ (List.getElem_mem hk)
set_option maxHeartbeats 1000000 in
theorem isblank_any (A : Option Addr) (n c : Nat) (bs : List Nat) (w : World) (hn : n ≤ 900) (hA : Bytes w w.heap.size A n bs) : Calls Tryd.prog 28 #[.slice A n c] w (SaysB w (blankB bs)) := by
  have HA := Lib.hid hA
  clear hA
  go_enter Tryd.func28, Tryd.ntmps28
  go_wp2_with fail
  go_loop [4, 7] (fun t4 t7 => ∃ k : Nat, t7 = .int .i64 k ∧ k ≤ n ∧ Hid (∀ j, j < k → bs.getD j 0 = 255)) (fun _ t7 => n - (intOf t7).toNat)
  case atStart => exact ⟨0, rfl, Nat.zero_le _, fun j hj => absurd hj (Nat.not_lt_zero _)⟩
  case round =>
    obtain ⟨k, rfl, hk, HK⟩ := hrel
    by_cases hlt : k < n
    · obtain ⟨ad, hA, hblk, hcell⟩ := HA.out.at_ hlt
      subst hA
      by_cases h255 : bs.getD k 0 = 255
      · rw [h255] at hcell
        have HK2 : Hid (∀ j, j < k + 1 → bs.getD j 0 = 255) := fun j hj => by
          rcases (by omega : j < k ∨ j = k) with h | rfl
          · exact HK.out j h
          · exact h255
        clear h255
        go_wp2_with fail
        go_round
        case rel => exact ⟨k + 1, by go_num, by omega, HK2⟩
        case measure => simp [intOf]; omega
      · have HB := Lib.hid (blank_no (by rw [HA.out.len]; exact hlt) h255)
        obtain ⟨y, HY⟩ : ∃ y : Int, Hid (y = ((bs.getD k 0 : Nat) : Int)) := ⟨_, rfl⟩
        rw [← HY.out] at hcell
        have hy : (y == 255) = false := by have := HY.out; simp; omega
        have hy' : ¬ y = 255 := by have := HY.out; omega
        clear h255
        go_wp2_with fail
        go_ret
        rw [HB.out]
        exact ⟨rfl, Below.refl _ _⟩
    · have HB : Hid (blankB bs = true) := blankB_iff.2 fun b hb => by
        obtain ⟨i, hi, rfl⟩ := List.mem_iff_getElem.1 hb
        have h1 := HK.out i (by have := HA.out.len; omega)
        rw [List.getD_eq_getElem?_getD, List.getElem?_eq_getElem hi] at h1
        exact h1
      go_wp2_with fail
      go_ret
      rw [HB.out]
      exact ⟨rfl, Below.refl _ _⟩
set_option maxHeartbeats 1000000 in
theorem refall_any (A : Option Addr) (n c : Nat) (bs : List Nat) (w : World) (hn : n ≤ 900) (hA : Bytes w w.heap.size A n bs) : Calls Tryd.prog 32 #[.slice A n c] w (SaysB w (blankB bs)) := by
  have HA := Lib.hid hA
  clear hA
  go_enter Tryd.func32, Tryd.ntmps32
  go_wp2_with fail
  go_loop [3] (fun t3 => ∃ k : Nat, t3 = .int .i64 k ∧ k ≤ n ∧ Hid (∀ j, j < k → bs.getD j 0 = 255)) (fun t3 => n - (intOf t3).toNat)
  case atStart => exact ⟨0, rfl, Nat.zero_le _, fun j hj => absurd hj (Nat.not_lt_zero _)⟩
  case round =>
    obtain ⟨k, rfl, hk, HK⟩ := hrel
    by_cases hlt : k < n
    · obtain ⟨ad, hA, hblk, hcell⟩ := HA.out.at_ hlt
      subst hA
      by_cases h255 : bs.getD k 0 = 255
      · rw [h255] at hcell
        have HK2 : Hid (∀ j, j < k + 1 → bs.getD j 0 = 255) := fun j hj => by
          rcases (by omega : j < k ∨ j = k) with h | rfl
          · exact HK.out j h
          · exact h255
        clear h255
        go_wp2_with fail
        go_round
        case rel => exact ⟨k + 1, by go_num, by omega, HK2⟩
        case measure => simp [intOf]; omega
      · have HB := Lib.hid (blank_no (by rw [HA.out.len]; exact hlt) h255)
        obtain ⟨y, HY⟩ : ∃ y : Int, Hid (y = ((bs.getD k 0 : Nat) : Int)) := ⟨_, rfl⟩
        rw [← HY.out] at hcell
        have hy : (y == 255) = false := by have := HY.out; simp; omega
        have hy' : ¬ y = 255 := by have := HY.out; omega
        clear h255
        go_wp2_with fail
        go_ret
        rw [HB.out]
        exact ⟨rfl, Below.refl _ _⟩
    · have HB : Hid (blankB bs = true) := blankB_iff.2 fun b hb => by
        obtain ⟨i, hi, rfl⟩ := List.mem_iff_getElem.1 hb
        have h1 := HK.out i (by have := HA.out.len; omega)
        rw [List.getD_eq_getElem?_getD, List.getElem?_eq_getElem hi] at h1
        exact h1
      go_wp2_with fail
      go_ret
      rw [HB.out]
      exact ⟨rfl, Below.refl _ _⟩

/- bytes.Equal -/
theorem strOf_beq {bs cs : List Nat} (hb : ∀ b ∈ bs, b < 256) (hc : ∀ b ∈ cs, b < 256) : (strOf bs == strOf cs) = sameB bs cs := by
  unfold sameB
  by_cases h : bs = cs
  · subst h
    have := strOf_same bs
    rw [bne] at this
    simpa using this
  · have := strOf_other hb hc h
    rw [bne] at this
    simp only [h, decide_false]
    simpa using this
theorem equal_any (A A' : Option Addr) (n c n' c' : Nat) (bs cs : List Nat) (w : World) (hA : Bytes w w.heap.size A n bs) (hA' : Bytes w w.heap.size A' n' cs) : Calls Tryd.prog 30 #[.slice A n c, .slice A' n' c'] w (SaysB w (sameB bs cs)) := by
  have h1 := conv_bytes hA c
  have h2 := conv_bytes hA' c'
  have HB := Lib.hid (strOf_beq hA.lt256 hA'.lt256)
  obtain ⟨s1, H1⟩ : ∃ s, Hid (s = strOf bs) := ⟨_, rfl⟩
  obtain ⟨s2, H2⟩ : ∃ s, Hid (s = strOf cs) := ⟨_, rfl⟩
  rw [← H1.out] at h1 HB
  rw [← H2.out] at h2 HB
  obtain ⟨b, hb⟩ : ∃ b, (s1 == s2) = b := ⟨_, rfl⟩
  have HBB : Hid (b = sameB bs cs) := by rw [← hb]; exact HB
  rw [← HBB.out]
  clear HB hA hA'
  go_enter Tryd.func30, Tryd.ntmps30
  go_wp2
  go_ret
  exact ⟨by simp; rw [← beq_toListBytes]; exact hb, Below.refl _ _⟩

/- the statements' head; an error's number -/
theorem one_any (w : World) : Calls Tryd.prog 23 #[] w fun e w' => e = .returned (.agg #[.int .i64 1, .int .u64 5, .int .i64 1, .int .i64 0]) ∧ Hid (Below w.heap.size w w') := by
  go_enter Tryd.func23, Tryd.ntmps23
  go_wp2
  refine bodyPost_ret (v := .agg #[.int .i64 1, .int .u64 5, .int .i64 1, .int .i64 0]) (by simp [results, Tryd.results23, go_sem]) rfl ⟨rfl, ?_⟩
  exact since_alloc (Below.refl _ _) _
/-- What is known of an error that says 'may not be'. -/
def Bad (W : World) (v : Value) : Prop := ∃ g s, v = .iface 50 (.pointer (some ⟨g, 0, none⟩)) ∧ W.cell? ⟨g, 0, none⟩ = some (.int .i64 2) ∧ W.cell? ⟨g, 1, none⟩ = some (.string s)
theorem run_assert_wrong (v : Value) (w : World) : (Instr.typeAssert (.iface 50 v) 29 50 true).run Tryd.prog w = .ok (.tuple #[v, .bool true]) w := by
  simp [Instr.typeAssert, run_underlying Tryd.underlying50]
theorem code_bad (v : Value) (w : World) (h : Bad w v) : Calls Tryd.prog 34 #[v] w fun e w' => e = .returned (.int .i64 2) ∧ w = w' := by
  obtain ⟨g, s, rfl, h0, h1⟩ := h
  have ha := run_assert_wrong (.pointer (some ⟨g, 0, none⟩)) w
  go_enter Tryd.func34, Tryd.ntmps34
  go_wp2
  go_ret
  exact ⟨rfl, rfl⟩
theorem num_bad (v : Value) (w : World) (h : Bad w v) : Calls Tryd.prog 15 #[v] w fun e w' => e = .returned (.int .i64 2) ∧ w = w' := by
  have HC := Lib.hid (code_bad v w h)
  obtain ⟨g, s, rfl, h0, h1⟩ := h
  clear h0 h1
  go_enter Tryd.func15, Tryd.ntmps15
  go_wp2_with fail
  refine HC.out.mono ?_
  rintro e W1 ⟨rfl, rfl⟩
  go_wp2_with fail
  refine HC.out.mono ?_
  rintro e W2 ⟨rfl, rfl⟩
  go_wp2_with fail
  go_ret
  exact ⟨rfl, rfl⟩
theorem Bad.since {w w' : World} {v : Value} (h : Bad w v) (hb : Below w.heap.size w w') : Bad w' v := by
  obtain ⟨g, s, e, h0, h1⟩ := h
  exact ⟨g, s, e, (hb.cell (World.block_lt_of_cell? w _ h0)).trans h0, (hb.cell (World.block_lt_of_cell? w _ h1)).trans h1⟩
theorem Bad.ne {w : World} {v : Value} (h : Bad w v) : ∃ x, v = .iface 50 x := by
  obtain ⟨g, s, e, _⟩ := h
  exact ⟨_, e⟩

/- bytes of a number -/
def fillAt (n : Int) (i : Nat) : Nat := ((n / 2 ^ (8 * (i % 4)) + (i : Int)) % 256).toNat
def fillL (n : Int) : Nat → List Nat
  | 0 => []
  | k + 1 => fillL n k ++ [fillAt n k]
theorem fillL_len (n : Int) (k : Nat) : (fillL n k).length = k := by
  induction k with
  | zero => rfl
  | succ k ih => simp [fillL, ih]
theorem fillL_byte (n : Int) (k : Nat) : ∀ b ∈ fillL n k, b < 256 := by
  induction k with
  | zero => intro b hb; simp [fillL] at hb
  | succ k ih =>
    intro b hb
    rcases List.mem_append.1 hb with h | h
    · exact ih b h
    · simp at h
      rw [h]; unfold fillAt; omega
set_option maxHeartbeats 1000000 in
theorem fill_any (x M : Int) (m : Nat) (w : World) (hM : M = (m : Int)) (hx0 : -9223372036854775808 ≤ x) (hx1 : x ≤ 9223372036854775807) (hm : m ≤ 300) :
    Calls Tryd.prog 21 #[.int .i64 x, .int .i64 M] w (GivesBytes w (fillL x m)) := by
  subst hM
  go_enter Tryd.func21, Tryd.ntmps21
  go_wp2_with fail
  go_loopw [5, 6] (fun t5 t6 wr => ∃ (A : Option Addr) (k c : Nat), t5 = .slice A k c ∧ t6 = .int .i64 k ∧ k ≤ m ∧ Hid (Own wr w.heap.size A k c (fillL x k)) ∧ Hid (Below w.heap.size w wr)) (fun _ t6 _ => m - (intOf t6).toNat)
  case atStart => exact ⟨none, 0, 0, rfl, rfl, Nat.zero_le _, Own.none_, Below.refl _ _⟩
  case round =>
    obtain ⟨A3, k, c3, rfl, rfl, hk, HO3, HB3⟩ := hrel
    by_cases hlt : k < m
    · obtain ⟨A4, c4, W4, hr, ho, hb⟩ := own_append_one HB3.out HO3.out ((x / 2 ^ (8 * (k % 4)) + (k : Int)) % 256) (fillAt x k) (by unfold fillAt; omega) (by unfold fillAt; omega) (by omega)
      have R := Lib.hid hr
      have HO4 := Lib.hid ho
      have HB4 := Lib.hid hb
      clear hr ho hb
      go_wp2_with (at_builtin; refine wpList_append_run rfl (.tmp 16) (.tmp 26) 22 rfl rfl rfl R.out ?_)
      go_roundw
      case rel => exact ⟨_, k + 1, _, rfl, by go_num, by omega, HO4, HB4⟩
      case measure => simp [intOf]; omega
    · have hkm : k = m := by omega
      subst hkm
      go_wp2_with fail
      go_ret
      exact ⟨_, _, _, rfl, HO3.out, HB3.out⟩
end Go.Proofs.YticjdjffmagdkaaDoor
