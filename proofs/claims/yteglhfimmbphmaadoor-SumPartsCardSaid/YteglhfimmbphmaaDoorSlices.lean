/- Slice expressions of bytes: what they answer, what lies there. No conditions. -/
import Derived.Test.YteglhfimmbphmaaDoorWords
import Derived.Test.YteglhfimmbphmaaDoorAppend
set_option linter.unusedVariables false
set_option linter.unusedSimpArgs false
namespace Go.Proofs.YteglhfimmbphmaaDoor
open Go.RowKit

theorem elem24 : Tryd.prog.elem 24 = 5 := by kernel_rfl
theorem under24 : Tryd.prog.underlying 24 = some (.slice (Tryd.prog.elem 24)) := by rw [elem24]; exact Tryd.underlying24
theorem add_none (a : Addr) : a.add 0 = a := by unfold Addr.add; simp
theorem slice_to (A : Option Addr) (n c k : Nat) (hk : k ≤ n) (hc : n ≤ c) (W : World) :
    (Instr.slice 24 (.slice A n c) none (some (.int .i64 (k : Int))) none).run Tryd.prog W = .ok (.slice A k c) W := by
  obtain ⟨i0, hi, hz0, hz1, hz2⟩ := info_parts info5
  have h := run_slice_h (P := Tryd.prog) (w := W) 24 A n c under24 .i64 (k : Int) (by omega) (by omega)
  rw [h, elem24]
  cases A <;> simp [sizeOf, typeInfo, hi, hz1, sliced, add_none]
theorem slice_from (A : Option Addr) (n c k : Nat) (hk : k ≤ n) (W : World) :
    (Instr.slice 24 (.slice A n c) (some (.int .i64 (k : Int))) none none).run Tryd.prog W = .ok (.slice (if c = k then A else A.map (·.add (k * 1))) (n - k) (c - k)) W := by
  obtain ⟨i0, hi, hz0, hz1, hz2⟩ := info_parts info5
  have h := run_slice_l (P := Tryd.prog) (w := W) 24 A n c under24 .i64 (k : Int) (by omega) (by omega)
  rw [h, elem24]
  simp [sizeOf, typeInfo, hi, hz1, sliced]

theorem getD_take (bs : List Nat) (k j : Nat) (h : j < k) : (bs.take k).getD j 0 = bs.getD j 0 := by
  rw [List.getD_eq_getElem?_getD, List.getD_eq_getElem?_getD, List.getElem?_take_of_lt h]
theorem Bytes.first {w : World} {B : Nat} {A : Option Addr} {n : Nat} {bs : List Nat} (h : Bytes w B A n bs) {k : Nat} (hk : k ≤ n) : Bytes w B A k (bs.take k) :=
  ⟨by rw [List.length_take, h.len]; omega, fun j hj => by
    obtain ⟨ad, e1, e2, e3⟩ := h.lies j (by omega)
    exact ⟨ad, e1, e2, by rw [e3]; unfold byteAt; rw [getD_take _ _ _ hj]⟩,
   fun j => by
    by_cases hj : j < k
    · rw [getD_take _ _ _ hj]; exact h.small j
    · rw [List.getD_eq_getElem?_getD, List.getElem?_eq_none (by rw [List.length_take]; omega)]; simp⟩
theorem getD_drop (bs : List Nat) (k j : Nat) : (bs.drop k).getD j 0 = bs.getD (k + j) 0 := by
  rw [List.getD_eq_getElem?_getD, List.getD_eq_getElem?_getD, List.getElem?_drop]
theorem Bytes.rest {w : World} {B : Nat} {A : Option Addr} {n : Nat} {bs : List Nat} (h : Bytes w B A n bs) {k c : Nat} (hk : k ≤ n) (hc : n ≤ c) : Bytes w B (if c = k then A else A.map (·.add (k * 1))) (n - k) (bs.drop k) :=
  ⟨by rw [List.length_drop, h.len], (h.lies.behind hk hc).same fun j hj => by unfold byteAt; rw [getD_drop], fun j => by rw [getD_drop]; exact h.small _⟩
end Go.Proofs.YteglhfimmbphmaaDoor
