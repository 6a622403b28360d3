/- The landed yard's small helpers: wrong, has, slices.Contains of numbers, which pages are needed or dirty. Conditions: the yard's cells. -/
import Derived.Test.YtmfpelgkjgpfmaaYardSays
import Derived.Test.YtmfpelgkjgpfmaaIntsShared
set_option linter.unusedVariables false
set_option linter.unusedSimpArgs false
namespace Go.Proofs.Ytmfpelgkjgpfmaa
open Go.RowKit

theorem ywrong_new (st : ByteArray) (k : Int) (hk : 1 ≤ k) (w : World) (fp : Nat → Prop) (hf : ∀ b, fp b → b < w.heap.size) :
    Calls Try.prog 27 #[.string st, .int .i64 k] w fun e w' => ∃ v, e = .returned v ∧ ErrNew w fp w' k v ∧ Below w.heap.size w w' := by
  have h0 : (w.alloc (.cells #[.int .i64 k, .string st] 82)).cell? ⟨w.heap.size, 0, none⟩ = some (.int .i64 k) := by rw [cell_new]; rfl
  have h1 : (w.alloc (.cells #[.int .i64 k, .string st] 82)).cell? ⟨w.heap.size, 1, none⟩ = some (.string st) := by rw [cell_new]; rfl
  have HE : Hid (ErrNew w fp (w.alloc (.cells #[.int .i64 k, .string st] 82)) k (.iface 79 (.pointer (some ⟨w.heap.size, 0, none⟩)))) :=
    Or.inr ⟨hk, _, _, rfl, h0, h1, Nat.le_refl _, fun h => by have := hf _ h; omega⟩
  have HB : Hid (Below w.heap.size w (w.alloc (.cells #[.int .i64 k, .string st] 82))) := (Below.refl _ _).alloc (Nat.le_refl _) _
  clear h0 h1 hf
  go_enter Try.func27, Try.ntmps27
  go_wp2_with fail
  go_ret
  exact ⟨_, rfl, HE.out, HB.out⟩
section
variable {w : World} {base g : Nat} {fp : Nat → Prop} {s : Yd} {L : YLo}
def hasY (s : Yd) (b : Int) : Bool := decide (0 ≤ b ∧ b < (s.S.length : Int))
theorem yhas_any (b : Int) (h : YRep w base g s L) (hs : s.S.length ≤ 32) : Calls Try.prog 28 #[.pointer (some ⟨g, 0, none⟩), .int .i64 b] w fun e w' => e = .returned (.bool (hasY s b)) ∧ w = w' := by
  have c0 := h.c0
  have HH : Hid (hasY s b = decide (0 ≤ b ∧ b < (s.S.length : Int))) := rfl
  obtain ⟨z, HZ⟩ : ∃ z : Nat, Hid (s.S.length = z) := ⟨_, rfl⟩
  rw [HZ.out] at c0 hs HH
  clear h HZ
  by_cases h0 : 0 ≤ b
  · by_cases h1 : b < (z : Int)
    · rw [show hasY s b = true by rw [HH.out]; exact decide_eq_true ⟨h0, h1⟩]
      clear HH
      go_enter Try.func28, Try.ntmps28
      go_wp2_with fail
      go_ret
      exact ⟨rfl, rfl⟩
    · rw [show hasY s b = false by rw [HH.out]; exact decide_eq_false fun h => h1 h.2]
      clear HH
      go_enter Try.func28, Try.ntmps28
      go_wp2_with fail
      go_ret
      exact ⟨rfl, rfl⟩
  · rw [show hasY s b = false by rw [HH.out]; exact decide_eq_false fun h => h0 h.1]
    clear HH
    go_enter Try.func28, Try.ntmps28
    go_wp2_with fail
    go_ret
    exact ⟨rfl, rfl⟩
end
theorem yhas_nil (b : Int) (w : World) : Calls Try.prog 28 #[.pointer none, .int .i64 b] w fun e w' => e = .returned (.bool false) ∧ w = w' := by
  go_enter Try.func28, Try.ntmps28
  go_wp2_with fail
  go_ret
  exact ⟨rfl, rfl⟩
/- slices.Index, slices.Contains of numbers -/
set_option maxHeartbeats 1000000 in
theorem yindex_any (A : Option Addr) (n c : Nat) (xs : List Int) (x : Int) (w : World) (hn : n ≤ 1000) (hA : intK.Lie w w.heap.size A n xs) :
    Calls Try.prog 50 #[.slice A n c, .int .i64 x] w fun e w' => ∃ r : Int, e = .returned (.int .i64 r) ∧ decide (0 ≤ r) = xs.contains x ∧ w = w' := by
  have HA := Lib.hid hA
  have HL : Hid (xs.length = n) := hA.len
  clear hA
  go_enter Try.func50, Try.ntmps50
  go_wp2_with fail
  go_loopw [8] (fun t8 wr => ∃ (k : Nat), k ≤ n ∧ t8 = .int .i64 k ∧ Hid (∀ j, j < k → xs.getD j 0 ≠ x) ∧ w = wr) (fun t8 _ => n - (intOf t8).toNat)
  case atStart => exact ⟨0, Nat.zero_le _, rfl, fun j hj => absurd hj (Nat.not_lt_zero j), rfl⟩
  case round =>
    obtain ⟨k, hk, rfl, HK, rfl⟩ := hrel
    by_cases hlt : k < n
    · obtain ⟨ad, hA, hblk, hcell⟩ := int_at HA.out hlt
      obtain ⟨y, HY⟩ : ∃ y : Int, Hid (xs.getD k 0 = y) := ⟨_, rfl⟩
      rw [HY.out] at hcell
      subst hA
      have i0 : (0 : Int) ≤ (k : Int) := by omega
      have i1 : (k : Int) < (n : Int) := by omega
      by_cases hyx : x = y
      · have HC : Hid (xs.contains x = true) := by
          refine List.elem_iff.2 ?_
          rw [hyx, ← HY.out, List.getD_eq_getElem?_getD, List.getElem?_eq_getElem (by rw [HL.out]; exact hlt)]
          exact List.getElem_mem _
        go_wp2_with fail
        go_ret
        exact ⟨_, rfl, by rw [HC.out]; exact decide_eq_true i0, rfl⟩
      · go_wp2_with fail
        go_roundw
        case rel => exact ⟨k + 1, by omega, by go_num, fun j hj => by
          by_cases e : j = k
          · subst e; rw [HY.out]; exact Ne.symm hyx
          · exact HK.out j (by omega), by first | rfl | trivial⟩
        case measure => simp [intOf]; omega
    · have HC : Hid (xs.contains x = false) := by
        refine Bool.eq_false_iff.2 fun h => ?_
        obtain ⟨j, hj, e⟩ := List.mem_iff_getElem.1 (List.elem_iff.1 h)
        refine HK.out j (by rw [HL.out] at hj; omega) ?_
        rw [List.getD_eq_getElem?_getD, List.getElem?_eq_getElem hj]
        exact e
      go_wp2_with fail
      go_ret
      exact ⟨_, rfl, by rw [HC.out]; decide, rfl⟩
theorem ycontains_any (A : Option Addr) (n c : Nat) (xs : List Int) (x : Int) (w : World) (hn : n ≤ 1000) (hA : intK.Lie w w.heap.size A n xs) :
    Calls Try.prog 45 #[.slice A n c, .int .i64 x] w fun e w' => e = .returned (.bool (xs.contains x)) ∧ w = w' := by
  have C := Lib.hid (yindex_any A n c xs x w hn hA)
  clear hA
  obtain ⟨q, HQ⟩ : ∃ q, Hid (xs.contains x = q) := ⟨_, rfl⟩
  rw [HQ.out] at C ⊢
  clear HQ
  go_enter Try.func45, Try.ntmps45
  go_wp2_with fail
  refine C.out.mono ?_
  rintro e w' ⟨r, rfl, HR, rfl⟩
  have HR := Lib.hid HR
  by_cases h0 : 0 ≤ r
  · obtain rfl : q = true := by rw [← HR.out]; exact decide_eq_true h0
    go_wp2_with fail
    go_ret
    exact ⟨rfl, rfl⟩
  · obtain rfl : q = false := by rw [← HR.out]; exact decide_eq_false h0
    go_wp2_with fail
    go_ret
    exact ⟨rfl, rfl⟩
/- one page -/
theorem yisneeded_any (n d : Bool) (w : World) : Calls Try.prog 31 #[.agg #[.bool n, .bool d]] w fun e w' => e = .returned (.bool n) ∧ Below w.heap.size w w' := by
  have h0 : (w.alloc (.cells #[.bool n, .bool d] 66)).cell? ⟨w.heap.size, 0, none⟩ = some (.bool n) := by rw [cell_new]; rfl
  have h1 : (w.alloc (.cells #[.bool n, .bool d] 66)).cell? ⟨w.heap.size, 1, none⟩ = some (.bool d) := by rw [cell_new]; rfl
  have HB : Hid (Below w.heap.size w (w.alloc (.cells #[.bool n, .bool d] 66))) := (Below.refl _ _).alloc (Nat.le_refl _) _
  go_enter Try.func31, Try.ntmps31
  go_wp2_with fail
  go_ret
  exact ⟨rfl, HB.out⟩
theorem yisdirty_any (n d : Bool) (w : World) : Calls Try.prog 34 #[.agg #[.bool n, .bool d]] w fun e w' => e = .returned (.bool d) ∧ Below w.heap.size w w' := by
  have h0 : (w.alloc (.cells #[.bool n, .bool d] 66)).cell? ⟨w.heap.size, 0, none⟩ = some (.bool n) := by rw [cell_new]; rfl
  have h1 : (w.alloc (.cells #[.bool n, .bool d] 66)).cell? ⟨w.heap.size, 1, none⟩ = some (.bool d) := by rw [cell_new]; rfl
  have HB : Hid (Below w.heap.size w (w.alloc (.cells #[.bool n, .bool d] 66))) := (Below.refl _ _).alloc (Nat.le_refl _) _
  go_enter Try.func34, Try.ntmps34
  go_wp2_with fail
  go_ret
  exact ⟨rfl, HB.out⟩
end Go.Proofs.Ytmfpelgkjgpfmaa
