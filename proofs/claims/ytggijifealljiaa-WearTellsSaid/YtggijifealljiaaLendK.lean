/- What is lent with spare room that is marked, of any kind of element of one cell: the row, its marks. Conditions: at most 900 elements. -/
import Derived.Test.YtggijifealljiaaKinds
set_option linter.unusedVariables false
set_option linter.unusedSimpArgs false
namespace Go.Proofs.Ytggijifealljiaa
open Go.RowKit

/-- A row of the call's own at the first new block: the elements, then j marks, then others; below it all is as it was. -/
structure LentK {α : Type} (K : Kind α) (mk : Value) (w wr : World) (n j : Nat) (vs : List α) : Prop where
  below : Below w.heap.size w wr
  row : ∃ cur : Array Value, wr.heap[w.heap.size]? = some (.cells cur K.T (0, 0)) ∧ cur.size = n + 3 ∧ (∀ (i : Nat) (u : Value), (K.cells vs)[i]? = some u → cur[i]? = some u) ∧ (∀ k, k < j → cur[n + k]? = some mk)
  len : vs.length = n
  wf : ∀ v ∈ vs, K.wf v
section
variable {α : Type} {K : Kind α} {mk : Value} {w wr w' : World} {n j : Nat} {vs : List α}
theorem LentK.lt (h : LentK K mk w wr n j vs) : w.heap.size < wr.heap.size := by
  obtain ⟨cur, e, _⟩ := h.row
  exact (Array.getElem?_eq_some_iff.1 e).1
theorem LentK.cell (h : LentK K mk w wr n j vs) (k : Nat) (hk : k < 3) : ∃ u, wr.cell? ⟨w.heap.size, n + k, none⟩ = some u := by
  obtain ⟨cur, e, hs, _, _⟩ := h.row
  exact ⟨cur[n + k]'(by omega), by rw [cell_of_row _ _ _ cur K.T (0, 0) e]; exact Array.getElem?_eq_getElem (by omega)⟩
theorem LentK.free (h : LentK K mk w wr n j vs) (k : Nat) : wr.frozen? ⟨w.heap.size, k, none⟩ = false := by
  obtain ⟨cur, e, _⟩ := h.row
  simp [World.frozen?, e]
theorem LentK.mark (h : LentK K mk w wr n j vs) (k : Nat) (hk : k < j) : wr.cell? ⟨w.heap.size, n + k, none⟩ = some mk := by
  obtain ⟨cur, e, hs, _, hm⟩ := h.row
  rw [cell_of_row _ _ _ cur K.T (0, 0) e]; exact hm k hk
theorem LentK.lie (h : LentK K mk w wr n j vs) : K.Lie wr wr.heap.size (some ⟨w.heap.size, 0, none⟩) n vs := by
  obtain ⟨cur, e, hs, hb, _⟩ := h.row
  refine Kind.lie_of h.len h.wf h.lt fun i u hu => ?_
  rw [cell_of_row _ _ _ cur K.T (0, 0) e]
  exact hb i u hu
theorem LentK.since (h : LentK K mk w wr n j vs) (hb : Below wr.heap.size wr w') : LentK K mk w w' n j vs := by
  refine ⟨h.below.trans (hb.mono (Nat.le_of_lt h.lt)), ?_, h.len, h.wf⟩
  obtain ⟨cur, e, rest⟩ := h.row
  exact ⟨cur, (hb.block _ h.lt).trans e, rest⟩
/-- It stays where only younger blocks turn. -/
theorem LentK.upto {B : Nat} (h : LentK K mk w wr n j vs) (hB : w.heap.size < B) (hb : Below B wr w') : LentK K mk w w' n j vs := by
  refine ⟨h.below.trans (hb.mono (Nat.le_of_lt hB)), ?_, h.len, h.wf⟩
  obtain ⟨cur, e, rest⟩ := h.row
  exact ⟨cur, (hb.block _ hB).trans e, rest⟩
theorem LentK.step (h : LentK K mk w wr n j vs) (hk : K.k = 1) (hj : j < 3) : LentK K mk w (wr.setCell ⟨w.heap.size, n + j, none⟩ mk) n (j + 1) vs := by
  obtain ⟨cur, e, hs, hb, hm⟩ := h.row
  have hcl : ∀ i u, (K.cells vs)[i]? = some u → i < n := fun i u hu => by
    rcases Nat.lt_or_ge i (K.cells vs).length with h' | h'
    · rw [K.cells_len, h.len, hk, Nat.mul_one] at h'; exact h'
    · rw [List.getElem?_eq_none h'] at hu; cases hu
  refine ⟨h.below.setCell (Nat.le_refl _) _, ⟨cur.setIfInBounds (n + j) mk, ?_, by simpa using hs, fun i u hu => ?_, fun k hk2 => ?_⟩, h.len, h.wf⟩
  · simp [World.setCell, Array.getElem?_modify, e]
  · have := hcl i u hu
    rw [Array.getElem?_setIfInBounds_ne (by omega)]; exact hb i u hu
  · by_cases hkj : k = j
    · subst hkj
      rw [Array.getElem?_setIfInBounds_self_of_lt (by omega)]
    · rw [Array.getElem?_setIfInBounds_ne (by omega)]; exact hm k (by omega)
/-- make([]T, 0, n + 3), then append(that, l...): both runs. -/
theorem lent_runs (hk : K.k = 1) (hz : ∃ i z, Try.prog.info? K.T = some i ∧ i.zero = some z ∧ i.size = K.k ∧ i.bytes ≤ 1000 ∧ z.cells = (K.cv K.dflt).toArray) (A : Option Addr) (n c : Nat) (hn : n ≤ 900) (hA : K.Lie w w.heap.size A n vs) :
    ∃ W1 W2, (Instr.makeSlice K.L (.int .i64 0) (.int .i64 ((n : Int) + 3))).run Try.prog w = .ok (.slice (some ⟨w.heap.size, 0, none⟩) 0 (n + 3)) W1 ∧ (∀ ty, (Builtin.append_ #[K.L, K.L] ty #[.slice (some ⟨w.heap.size, 0, none⟩) 0 (n + 3), .slice A n c]).run Try.prog W1 = .ok (.slice (some ⟨w.heap.size, 0, none⟩) n (n + 3)) W2) ∧ LentK K mk w W2 n 0 vs := by
  obtain ⟨i0, z, hi, hz0, hz1, hz2, hz3⟩ := hz
  have hbn : (i0.bytes : Int) * ((n : Int) + 3) ≤ 281474976710656 := by
    have h6 : (i0.bytes : Int) ≤ 1000 := by omega
    have h7 : (i0.bytes : Int) * ((n : Int) + 3) ≤ 1000 * ((n : Int) + 3) := Int.mul_le_mul_of_nonneg_right h6 (by omega)
    omega
  have hrun := run_make (P := Try.prog) w K.L K.T i0 z K.under hi hz0 .i64 .i64 0 ((n : Int) + 3) (by omega) (by omega) hbn (by omega)
  rw [hz1, hz3, hk, Nat.mul_one] at hrun
  have e3 : ((n : Int) + 3).toNat = n + 3 := by omega
  rw [e3] at hrun
  have hnew := heap_alloc_new w (.cells (madeCells (K.cv K.dflt).toArray (n + 3)) K.T)
  have hsz := size_madeCells (K.cv K.dflt).toArray (n + 3)
  have hwf : ∀ v ∈ vs, K.wf v := hA.all
  refine ⟨w.alloc (.cells (madeCells (K.cv K.dflt).toArray (n + 3)) K.T), ?_⟩
  rcases A with _ | ad
  · have hn0 : n = 0 := by
      rcases Nat.eq_zero_or_pos n with h | h
      · exact h
      · obtain ⟨ad, h', _⟩ := hA.each 0 h
        cases h'
    subst hn0
    obtain rfl := List.eq_nil_of_length_eq_zero hA.len
    refine ⟨_, hrun, fun ty => ?_, ⟨(Below.refl _ _).alloc (Nat.le_refl _) _, ⟨_, hnew, hsz, fun k u hk => by simp [Kind.cells] at hk, fun k hk => absurd hk (Nat.not_lt_zero k)⟩, rfl, hwf⟩⟩
    simp [Builtin.append_, run_underlying K.under, sizeOf, typeInfo, hi, Builtin.lenOf, Builtin.firstCells, storeCells]
  · have hlen := hA.len
    have hcells : ∀ j u, (K.cells vs)[j]? = some u → (w.alloc (.cells (madeCells (K.cv K.dflt).toArray (n + 3)) K.T)).cell? (ad.add j) = some u := fun j u hu => by
      have := hA.cells j u hu
      exact (World.cell?_alloc_lt w _ (ad.add j) (World.block_lt_of_cell? w _ this)).trans this
    have hl : (K.cells vs).length = n * i0.size := by rw [hz1, K.cells_len, hlen]
    have hr := fun ty => run_append_room (P := Try.prog) (w.alloc (.cells (madeCells (K.cv K.dflt).toArray (n + 3)) K.T)) K.L ty K.T i0 K.under hi w.heap.size 0 (n + 3) _ hnew ad n c (K.cells vs) hl hcells (K.cells_one vs) (by omega) (by rw [hsz, hl, hz1, hk]; omega)
    simp only [Nat.zero_add] at hr
    have hcl2 : (K.cells vs).length = n := by rw [K.cells_len, hlen, hk, Nat.mul_one]
    refine ⟨_, hrun, hr, ⟨below_setRow ((Below.refl _ _).alloc (Nat.le_refl _) _) (Nat.le_refl _) _, ⟨_, setRow_heap _ _ _ _ _ _ hnew, ?_, fun k u hu => ?_, fun k hk => absurd hk (Nat.not_lt_zero k)⟩, hlen, hwf⟩⟩
    · simp [hsz, hcl2]
    · have hkl : k < (K.cells vs).length := by
        rcases Nat.lt_or_ge k (K.cells vs).length with h' | h'
        · exact h'
        · rw [List.getElem?_eq_none h'] at hu; cases hu
      simp only [Nat.zero_mul, List.take_zero, List.nil_append, List.getElem?_toArray]
      rw [List.getElem?_append_left (by simpa using hkl)]
      exact hu
end
end Go.Proofs.Ytggijifealljiaa
