/- The contract of the statements' awake: it answers true. Conditions: what the two tables hold. -/
import Derived.Test.YteglhfimmbphmaaDoorRef
import Derived.Lib.SlBytesConst
set_option linter.unusedVariables false
set_option linter.unusedSimpArgs false
namespace Go.Proofs.YteglhfimmbphmaaDoor
open Go.RowKit

theorem Tabs.alloc {w : World} (h : Tabs w) (o : Obj) : Tabs (w.alloc o) := h.below (Nat.le_refl 2) ((Below.refl 2 w).alloc h.size o)
theorem cell_new (W : World) (vs : Array Value) (t : TypeId) (z : Nat × Nat) (k : Nat) : (W.alloc (.cells vs t z)).cell? ⟨W.heap.size, k, none⟩ = vs[k]? :=
  cell_of_row _ _ k vs t z (heap_alloc_new W _)
theorem add_zero_addr (b k : Nat) : (⟨b, 0, none⟩ : Addr).add k = ⟨b, k, none⟩ := by
  unfold Addr.add
  split
  · next h => simp_all
  · simp
/-- A new row of slices of bytes. -/
theorem parts_new {W : World} (vs : Array Value) (z : Nat × Nat) (t : TypeId) (n : Nat) (ps : List (List Nat)) (hn : n = vs.size) (hl : ps.length = n)
    (h : ∀ k, k < n → ∃ A' n' c', vs[k]? = some (.slice A' n' c') ∧ n' ≤ 9223372036854775807 ∧ Bytes W W.heap.size A' n' (ps.getD k [])) :
    Parts (W.alloc (.cells vs t z)) (W.alloc (.cells vs t z)).heap.size (some ⟨W.heap.size, 0, none⟩) n ps := by
  have hs : (W.alloc (.cells vs t z)).heap.size = W.heap.size + 1 := by simp
  refine ⟨hl, fun k hk => ?_⟩
  obtain ⟨A', n', c', e1, e2, e3⟩ := h k hk
  refine ⟨_, A', n', c', rfl, by rw [hs]; exact Nat.lt_succ_self _, ?_, e2, (e3.alloc (Nat.le_refl _) _).wider (by omega)⟩
  rw [add_zero_addr, cell_new, e1]
theorem parts_one {W : World} {A : Option Addr} {n : Nat} {bs : List Nat} (c : Nat) (h : Bytes W W.heap.size A n bs) (hn : n ≤ 9223372036854775807) :
    Parts (W.alloc (.cells #[.slice A n c] 24)) (W.alloc (.cells #[.slice A n c] 24)).heap.size (some ⟨W.heap.size, 0, none⟩) 1 [bs] :=
  parts_new _ _ _ 1 [bs] rfl rfl fun k hk => by
    obtain rfl : k = 0 := by omega
    exact ⟨A, n, c, rfl, hn, h⟩
/-- The sum of one part, of memory that the caller made. -/
theorem of_one {W : World} {A : Option Addr} {n : Nat} {bs : List Nat} (c : Nat) (hT : Tabs W) (h : Bytes W W.heap.size A n bs) (hn : n ≤ 9223372036854775807) :
    Calls Tryd.prog 11 #[.slice (some ⟨W.heap.size, 0, none⟩) 1 1] (W.alloc (.cells #[.slice A n c] 24)) fun e w' => e = .returned (.int .u32 ((Crc.more 0#32 bs).toNat : Int)) ∧ ∃ m, w' = (W.alloc (.cells #[.slice A n c] 24)).drewN m := by
  have hp := parts_one c h hn
  have := of_any (some ⟨W.heap.size, 0, none⟩) 1 1 [bs] (W.alloc (.cells #[.slice A n c] 24)) (by omega) (hT.alloc _) hp
  rw [show ([bs] : List (List Nat)).flatten = bs by simp] at this
  exact this
theorem below_drewN {B : Nat} {a w : World} (h : Below B a w) (n : Nat) : Below B a (w.drewN n) := ⟨h.os, h.tape, h.output, h.size, h.block⟩

def nine : List Nat := [49, 50, 51, 52, 53, 54, 55, 56, 57]
theorem sum_nine : (Crc.more 0#32 nine).toNat = 3808858755 := by decide +kernel
def nineC : Array Value := #[.int .u8 49, .int .u8 50, .int .u8 51, .int .u8 52, .int .u8 53, .int .u8 54, .int .u8 55, .int .u8 56, .int .u8 57]
theorem bytes_nine (W : World) : Bytes (W.alloc (.cells nineC 5 (9, 10))) (W.alloc (.cells nineC 5 (9, 10))).heap.size (some ⟨W.heap.size, 0, none⟩) 9 nine := by
  have hs : (W.alloc (.cells nineC 5 (9, 10))).heap.size = W.heap.size + 1 := by simp
  refine ⟨rfl, fun k hk => ⟨_, rfl, by rw [hs]; exact Nat.lt_succ_self _, ?_⟩, fun k => ?_⟩
  · rw [add_zero_addr, cell_new]
    have all : ∀ j : Fin 9, nineC[j.val]? = some (byteAt nine j.val) := by
      intro j
      match j with
      | ⟨0, _⟩ => rfl
      | ⟨1, _⟩ => rfl
      | ⟨2, _⟩ => rfl
      | ⟨3, _⟩ => rfl
      | ⟨4, _⟩ => rfl
      | ⟨5, _⟩ => rfl
      | ⟨6, _⟩ => rfl
      | ⟨7, _⟩ => rfl
      | ⟨8, _⟩ => rfl
    exact all ⟨k, hk⟩
  · by_cases h : k < 9
    · have all : ∀ j : Fin 9, nine.getD j.val 0 < 256 := by decide
      exact all ⟨k, h⟩
    · rw [List.getD_eq_getElem?_getD, List.getElem?_eq_none (by simp only [nine, List.length_cons, List.length_nil]; omega)]; simp
theorem aw_one (W : World) (hT : Tabs W) :
    Calls Tryd.prog 11 #[.slice (some ⟨W.heap.size + 1, 0, none⟩) 1 1] ((W.alloc (.cells nineC 5 (9, 10))).alloc (.cells #[.slice (some ⟨W.heap.size, 0, none⟩) 9 9] 24))
      fun e w' => e = .returned (.int .u32 3808858755) ∧ ∃ m, w' = ((W.alloc (.cells nineC 5 (9, 10))).alloc (.cells #[.slice (some ⟨W.heap.size, 0, none⟩) 9 9] 24)).drewN m := by
  have h := of_one 9 (hT.alloc _) (bytes_nine W) (by omega)
  rw [sum_nine] at h
  have hs : (W.alloc (.cells nineC 5 (9, 10))).heap.size = W.heap.size + 1 := by simp
  rw [hs] at h
  exact h
theorem aw_two (W : World) (hT : Tabs W) : Calls Tryd.prog 11 #[.slice none 0 0] W fun e w' => e = .returned (.int .u32 0) ∧ ∃ m, w' = W.drewN m := by
  have h := of_any none 0 0 [] W (by omega) hT Parts.none_
  rw [show (Crc.more 0#32 ([] : List (List Nat)).flatten).toNat = 0 by rw [List.flatten_nil, Crc.more_nil]; rfl] at h
  exact h

set_option maxHeartbeats 1000000 in
theorem awake_any (w : World) (hT : Tabs w) : Calls Tryd.prog 9 #[] w fun e w' => e = .returned (.bool true) ∧ Below w.heap.size w w' := by
  have HT := Lib.hid hT
  clear hT
  have kc := fun (w : World) (C : Array Value) (n c : Nat) => Lib.run_convert_bytes_const (P := Tryd.prog) w 24 5 C n c Tryd.underlying24 Tryd.underlying5
  go_enter Tryd.func9, Tryd.ntmps9
  go_wp2_with fail
  refine (aw_one _ HT.out).mono ?_
  rintro e W1 ⟨rfl, m, hw⟩
  obtain rfl : W1 = _ := hw
  go_wp2_with fail
  refine (aw_two _ ?_).mono ?_
  · exact ((HT.out.alloc _).alloc _).drewN _
  rintro e W2 ⟨rfl, m2, hw⟩
  obtain rfl : W2 = _ := hw
  go_wp2_with fail
  go_ret
  exact ⟨rfl, below_drewN (((Below.refl _ _).alloc (Nat.le_refl _) _).alloc (by simp) _) _⟩
end Go.Proofs.YteglhfimmbphmaaDoor
