/- The document's own May and Darks of mishaps; SameMishaps, OverMishaps. Conditions: the slices' cells; at most 7000 mishaps. -/
import Derived.Test.YtgamjffedlkbeaaMish
set_option linter.unusedVariables false
set_option linter.unusedSimpArgs false
namespace Go.Proofs.Ytgamjffedlkbeaa
open Go.RowKit
open Go.Sort (grow)

theorem mish_cells_set : ∀ (vs : List M) (i : Nat) (v : M), i < vs.length → mishK.cells (vs.set i v) = ((((mishK.cells vs).set (i * 4) (.int .i64 v.at_)).set (i * 4 + 1) (.int .i64 v.kind)).set (i * 4 + 2) (.int .i64 v.bytes)).set (i * 4 + 3) (.int .u8 v.fill)
  | [], i, v, h => by simp at h
  | u :: r, 0, v, _ => rfl
  | u :: r, i + 1, v, h => by
    have ih := mish_cells_set r i v (by simpa using h)
    have e : ∀ (l : List Value) (k : Nat) (x : Value), (mishCells u ++ l).set (k + 4) x = mishCells u ++ l.set k x := fun l k x => rfl
    show mishCells u ++ mishK.cells (r.set i v) = _
    rw [ih, show (i + 1) * 4 = i * 4 + 4 by omega]
    show _ = ((((mishCells u ++ mishK.cells r).set (i * 4 + 4) _).set (i * 4 + 4 + 1) _).set (i * 4 + 4 + 2) _).set (i * 4 + 4 + 3) _
    rw [e, show i * 4 + 4 + 1 = i * 4 + 1 + 4 by omega, e, show i * 4 + 4 + 2 = i * 4 + 2 + 4 by omega, e, show i * 4 + 4 + 3 = i * 4 + 3 + 4 by omega, e]
/-- The world behind the store of a mishap. -/
def putM (W : World) (g p : Nat) (v : M) : World := (((W.setCell ⟨g, p, none⟩ (.int .i64 v.at_)).setCell ⟨g, p + 1, none⟩ (.int .i64 v.kind)).setCell ⟨g, p + 2, none⟩ (.int .i64 v.bytes)).setCell ⟨g, p + 3, none⟩ (.int .u8 v.fill)
theorem mishRow_set {W : World} {base g n c : Nat} {vs : List M} (h : mishK.Row W base (some ⟨g, 0, none⟩) n c vs) {i : Nat} (hi : i < n) (v : M) (hv : MWf v) : mishK.Row (putM W g (i * 4) v) base (some ⟨g, 0, none⟩) n c (vs.set i v) ∧ W.grownBy (putM W g (i * 4) v) (some g) := by
  obtain ⟨h1, g1⟩ := h.row.stored (i * 4) (.int .i64 v.at_)
  obtain ⟨h2, g2⟩ := h1.stored (i * 4 + 1) (.int .i64 v.kind)
  obtain ⟨h3, g3⟩ := h2.stored (i * 4 + 2) (.int .i64 v.bytes)
  obtain ⟨h4, g4⟩ := h3.stored (i * 4 + 3) (.int .u8 v.fill)
  refine ⟨⟨?_, fun u hu => ?_⟩, grownBy_trans (grownBy_trans (grownBy_trans g1 g2) g3) g4⟩
  · rw [mish_cells_set vs i v (by rw [h.len]; exact hi)]; exact h4
  · rcases List.mem_or_eq_of_mem_set hu with hu | hu
    · exact h.wf u hu
    · rw [hu]; exact hv
def overM : M := ⟨-9, 0, 0, 0⟩
theorem overM_wf : MWf overM := ⟨by decide, by decide, by decide, by decide, by decide, by decide, by decide, by decide⟩
end Go.Proofs.Ytgamjffedlkbeaa
