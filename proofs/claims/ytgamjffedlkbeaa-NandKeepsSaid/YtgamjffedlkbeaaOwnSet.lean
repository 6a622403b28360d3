/- One byte of a row of the call's own stored. No conditions. -/
import Derived.Test.YtgamjffedlkbeaaOver
set_option linter.unusedVariables false
set_option linter.unusedSimpArgs false
namespace Go.Proofs.Ytgamjffedlkbeaa
open Go.RowKit

theorem own_set {W : World} {base g n c : Nat} {us : List Nat} (h : Own W base (some ⟨g, 0, none⟩) n c us) (j : Nat) (Y : Int) (y : Nat) (hY : Y = (y : Int)) (hy : y < 256) :
    Own (W.setCell ⟨g, j, none⟩ (.int .u8 Y)) base (some ⟨g, 0, none⟩) n c (us.set j y) ∧ W.grownBy (W.setCell ⟨g, j, none⟩ (.int .u8 Y)) (some g) := by
  subst hY
  obtain ⟨ho3, hg3⟩ := h.row.stored j (.int .u8 (y : Int))
  refine ⟨⟨?_, fun k => ?_⟩, hg3⟩
  · have e : cellsOf (us.set j y) = (cellsOf us).set j (.int .u8 (y : Int)) := by unfold cellsOf; rw [List.map_set]
    rw [e]; exact ho3
  · rw [List.getD_eq_getElem?_getD, List.getElem?_set]
    have := h.small k
    rw [List.getD_eq_getElem?_getD] at this
    by_cases hjk : j = k
    · by_cases hl : j < us.length <;> simp [hjk] <;> split <;> simp <;> omega
    · simpa [hjk] using this
theorem getD_set_ (us : List Nat) (j y k : Nat) (hj : j < us.length) : (us.set j y).getD k 0 = if j = k then y else us.getD k 0 := by
  rw [List.getD_eq_getElem?_getD, List.getD_eq_getElem?_getD, List.getElem?_set]
  by_cases h : j = k
  · subst h; simp [hj]
  · simp [h]
theorem own_cell {w : World} {base g n c : Nat} {us : List Nat} (h : Own w base (some ⟨g, 0, none⟩) n c us) {k : Nat} (hk : k < n) : w.cell? ⟨g, k, none⟩ = some (.int .u8 ((us.getD k 0 : Nat) : Int)) := by
  obtain ⟨ad, e, _, hc⟩ := h.bytes.at_ hk
  obtain rfl := Option.some.inj e
  rw [add_zero_addr] at hc
  exact hc
theorem own_free {w : World} {base g n c : Nat} {us : List Nat} (h : Own w base (some ⟨g, 0, none⟩) n c us) (k : Nat) : w.frozen? ⟨g, k, none⟩ = false := h.row.frozenAt k
end Go.Proofs.Ytgamjffedlkbeaa
