/- make([]T, n) of any kind of element, as a row of the call's own; a pointer's own cell stored. Conditions: at most 8000 elements. -/
import Derived.Test.YtfidamiomnohcaaKinds
set_option linter.unusedVariables false
set_option linter.unusedSimpArgs false
set_option maxRecDepth 20000
namespace Go.Proofs.Ytfidamiomnohcaa
open Go.RowKit

namespace Kind
variable {α : Type} (K : Kind α)
theorem made_cells (n : Nat) : (madeCells (K.cv K.dflt).toArray (n * K.k)).toList = K.cells (List.replicate n K.dflt) := by
  apply List.ext_getElem?
  intro j
  have hl := K.cells_len (List.replicate n K.dflt)
  rw [List.length_replicate] at hl
  by_cases h : j < n * K.k
  · have hr : j % K.k < K.k := Nat.mod_lt _ K.pos
    have hi : j / K.k < n := (Nat.div_lt_iff_lt_mul K.pos).2 h
    have e : j = (j / K.k) * K.k + j % K.k := by rw [Nat.mul_comm]; exact (Nat.div_add_mod j K.k).symm
    have h1 := K.cells_at (List.replicate n K.dflt) (j / K.k) (j % K.k) (by rw [List.length_replicate]; exact hi) hr
    rw [← e] at h1
    have h2 : (List.replicate n K.dflt).getD (j / K.k) K.dflt = K.dflt := by rw [List.getD_eq_getElem?_getD, List.getElem?_replicate, if_pos hi]; rfl
    rw [h1, h2]
    have hlen := K.len K.dflt
    simp [madeCells, h, hlen, List.getD_eq_getElem?_getD, List.getElem?_eq_getElem (show j % K.k < (K.cv K.dflt).length by rw [hlen]; exact hr)]
  · rw [List.getElem?_eq_none (by simp [madeCells]; omega), List.getElem?_eq_none (by rw [hl]; omega)]
/-- make([]T, n) -/
theorem made (hz : ∃ i z, Try.prog.info? K.T = some i ∧ i.zero = some z ∧ i.size = K.k ∧ i.bytes ≤ 1000 ∧ z.cells = (K.cv K.dflt).toArray) (n : Nat) (x : Int) (hx : x = (n : Int)) (hn : n ≤ 8000) (W : World) (base : Nat) (hb : base ≤ W.heap.size) :
    ∃ W', (Instr.makeSlice K.L (.int .i64 x) (.int .i64 x)).run Try.prog W = .ok (.slice (some ⟨W.heap.size, 0, none⟩) n n) W' ∧ Below W.heap.size W W' ∧ K.Row W' base (some ⟨W.heap.size, 0, none⟩) n n (List.replicate n K.dflt) := by
  subst hx
  obtain ⟨i, z, h1, h2, h3, h4, h5⟩ := hz
  have hbn : (i.bytes : Int) * (n : Int) ≤ 281474976710656 := by
    have h6 : (i.bytes : Int) ≤ 1000 := by omega
    have h7 : (i.bytes : Int) * (n : Int) ≤ 1000 * (n : Int) := Int.mul_le_mul_of_nonneg_right h6 (by omega)
    omega
  have hrun := run_make (P := Try.prog) W K.L K.T i z K.under h1 h2 .i64 .i64 (n : Int) (n : Int) (by omega) (by omega) hbn (by omega)
  rw [h3, h5] at hrun
  simp only [Int.toNat_natCast] at hrun
  refine ⟨_, hrun, (Below.refl _ _).alloc (Nat.le_refl _) _, ⟨?_, ?_⟩⟩
  · have := World.ownsRow_lit (base := base) (e := K.T) (size := K.k) W (madeCells (K.cv K.dflt).toArray (n * K.k)) n hb (by unfold maxLen; omega) (by simp [madeCells])
    rwa [K.made_cells n] at this
  · intro v hv
    rw [(List.mem_replicate.1 hv).2]; exact K.ok
variable {K}
theorem cells_set : ∀ (vs : List α) (i r : Nat) (u : Value) (x : α), i < vs.length → r < K.k → K.cv x = (K.cv (vs.getD i K.dflt)).set r u → K.cells (vs.set i x) = (K.cells vs).set (i * K.k + r) u
  | [], i, r, u, x, hi, _, _ => by simp at hi
  | v :: vs, 0, r, u, x, hi, hr, hx => by
    show K.cv x ++ K.cells vs = (K.cv v ++ K.cells vs).set (0 * K.k + r) u
    rw [Nat.zero_mul, Nat.zero_add, List.set_append_left _ _ (by rw [K.len]; exact hr)]
    have : K.cv x = (K.cv v).set r u := hx
    rw [this]
  | v :: vs, i + 1, r, u, x, hi, hr, hx => by
    show K.cv v ++ K.cells (vs.set i x) = (K.cv v ++ K.cells vs).set ((i + 1) * K.k + r) u
    have e : (i + 1) * K.k + r = K.k + (i * K.k + r) := by rw [Nat.add_mul, Nat.one_mul]; omega
    rw [List.set_append_right _ _ (by rw [K.len, e]; omega), K.len, e, Nat.add_sub_cancel_left, cells_set vs i r u x (by simpa using hi) hr hx]
/-- One cell of one element is another one. -/
theorem Row.put {w : World} {base b n c : Nat} {vs : List α} (h : K.Row w base (some ⟨b, 0, none⟩) n c vs) {i r : Nat} (hi : i < n) (hr : r < K.k) (u : Value) (x : α) (hx : K.cv x = (K.cv (vs.getD i K.dflt)).set r u) (hw : K.wf x) :
    K.Row (w.setCell ⟨b, i * K.k + r, none⟩ u) base (some ⟨b, 0, none⟩) n c (vs.set i x) := by
  obtain ⟨h1, _⟩ := h.row.stored (i * K.k + r) u
  refine ⟨by rw [cells_set vs i r u x (by rw [h.len]; exact hi) hr hx]; exact h1, fun v hv => ?_⟩
  rcases List.mem_or_eq_of_mem_set hv with h2 | rfl
  · exact h.wf v h2
  · exact hw
end Kind
end Go.Proofs.Ytfidamiomnohcaa
