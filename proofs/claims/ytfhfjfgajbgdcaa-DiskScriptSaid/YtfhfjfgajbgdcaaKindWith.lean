/- Arguments opened: slices of any kind of element, in a field too, with what else is known of each. Conditions: how one element's cells read. -/
import Derived.Test.YtfhfjfgajbgdcaaKindOpen
import Derived.Test.YtfhfjfgajbgdcaaOpen
import Derived.Lib.SmallJoins
import Derived.Deep.Slices
import Derived.Deep.Fields
set_option linter.unusedVariables false
set_option linter.unusedSimpArgs false
namespace Go.Proofs.Ytfhfjfgajbgdcaa
open Go.ChangeShapes Go.WideShapes Go.ChangeAt Go.RowKit Go.Lib Go.Deep

section
variable {H : Type} {enc : TypeId × Value → H} {W : World} {α : Type}
/-- The same for a slice's one cell (a field's), with what else is known of each element. -/
theorem kind_cells_with (K : Kind α) (X : α → Prop) (hX : X K.dflt) (hk : Try.prog.cellsOf K.T = K.k) (hone : ∀ (n : Nat) (cs : List Value) (x : DataW H × List MemPlace), DataW.trod enc Try.prog W 0 (fun _ => true) true n K.T cs = some x → ∃ v, cs = K.cv v ∧ K.wf v ∧ X v)
    {fuel : Nat} {cs0 : List Value} {x0 : DataW H × List MemPlace} (hf : DataW.trod enc Try.prog W 0 (fun _ => true) true fuel K.L cs0 = some x0) :
    ∃ A n c vs, cs0 = [.slice A n c] ∧ n ≤ c ∧ n ≤ 9223372036854775807 ∧ K.Lie W W.heap.size A n vs ∧ ∀ k, X (vs.getD k K.dflt) := by
  rcases open_slice K.under hf with ⟨hcs, hx⟩ | ⟨a, len, cap, m, n, D, Pl, hcs, _, hl, hm, hmm, _, hi⟩
  · exact ⟨none, 0, 0, [], hcs, Nat.le_refl _, by omega, Kind.Lie.none_, fun k => by simpa using hX⟩
  · simp only [if_true] at hmm
    have hat : ∀ i, i < len → ∃ v : α, K.At W (a.add (i * K.k)) v ∧ K.wf v ∧ X v := by
      intro i hlt
      obtain ⟨cs', hc, ht⟩ := hi i (by omega)
      rw [hk] at hc
      obtain ⟨_, hcl, hget⟩ := World.cells?_some hc
      obtain ⟨v, rfl, hw, hxv⟩ := hone _ _ _ ht
      refine ⟨v, fun j u hu => ?_, hw, hxv⟩
      have hj : j < K.k := by
        rcases Nat.lt_or_ge j (K.cv v).length with h' | h'
        · rwa [K.len] at h'
        · rw [List.getElem?_eq_none h'] at hu; cases hu
      rw [hget j hj, hu]
    obtain ⟨F, hF⟩ : ∃ F : Nat → α, ∀ i, i < len → K.At W (a.add (i * K.k)) (F i) ∧ K.wf (F i) ∧ X (F i) := by
      refine ⟨fun i => if h : i < len then Classical.choose (hat i h) else K.dflt, fun i hlt => ?_⟩
      simp only [hlt, dif_pos]
      exact Classical.choose_spec (hat i hlt)
    have hg : ∀ k, k < len → ((List.range len).map F).getD k K.dflt = F k := fun k hk => by
      rw [List.getD_eq_getElem?_getD, List.getElem?_map, List.getElem?_range hk]; rfl
    have hg2 : ∀ k, ¬ k < len → ((List.range len).map F).getD k K.dflt = K.dflt := fun k hk => by
      rw [List.getD_eq_getElem?_getD, List.getElem?_eq_none (by simp; omega)]; rfl
    refine ⟨some a, len, cap, (List.range len).map F, hcs, hl, by unfold maxLen at hm; omega, ⟨by simp, fun k hk' => ⟨a, rfl, ?_, by rw [hg k hk']; exact (hF k hk').1⟩, fun k => ?_⟩, fun k => ?_⟩
    · obtain ⟨u, hu⟩ : ∃ u, (K.cv (F k))[0]? = some u := ⟨(K.cv (F k))[0]'(by rw [K.len]; exact K.pos), List.getElem?_eq_getElem _⟩
      have := World.block_lt_of_cell? W _ ((hF k hk').1 0 u hu)
      rwa [addr_block, addr_block] at this
    · by_cases hk' : k < len
      · rw [hg k hk']; exact (hF k hk').2.1
      · rw [hg2 k hk']; exact K.ok
    · by_cases hk' : k < len
      · rw [hg k hk']; exact (hF k hk').2.2
      · rw [hg2 k hk']; exact hX
end
end Go.Proofs.Ytfhfjfgajbgdcaa
