/- Arguments opened: slices of any kind of element. Conditions: how one element's cells read. -/
import Derived.Test.YtfidamiomnohcaaKinds
import Derived.Test.YtfidamiomnohcaaOpen
import Derived.Lib.SmallJoins
import Derived.Deep.Slices
import Derived.Deep.Fields
set_option linter.unusedVariables false
set_option linter.unusedSimpArgs false
set_option maxRecDepth 20000
namespace Go.Proofs.Ytfidamiomnohcaa
open Go.ChangeShapes Go.WideShapes Go.ChangeAt Go.RowKit Go.Lib Go.Deep

section
variable {H : Type} {enc : TypeId × Value → H} {W : World} {α : Type}
theorem open_kind (K : Kind α) (hk : Try.prog.cellsOf K.T = K.k) (hone : ∀ (n : Nat) (cs : List Value) (x : DataW H × List MemPlace), DataW.trod enc Try.prog W 0 (fun _ => true) true n K.T cs = some x → ∃ v, cs = K.cv v ∧ K.wf v)
    {v : Value} {d : DataW H} {p : List MemPlace} {b0 : Nat} (hval : Value.okWide Try.prog W .any b0 K.L v) (h : DataW.Trod enc Try.prog W 0 (fun _ => true) true K.L v d p) :
    ∃ A n c vs, v = .slice A n c ∧ n ≤ c ∧ n ≤ 9223372036854775807 ∧ K.Lie W W.heap.size A n vs := by
  obtain ⟨a0, len, cap, rfl⟩ := okWide_slice K.under hval
  obtain ⟨fuel, hf⟩ := h
  rcases open_slice K.under hf with ⟨hcs, hx⟩ | ⟨a, len', cap', m, n, D, Pl, hcs, _, hl, hm, hmm, _, hi⟩
  · simp [Value.cells] at hcs
    obtain ⟨rfl, rfl, rfl⟩ := hcs
    exact ⟨_, _, _, [], rfl, Nat.le_refl _, by omega, Kind.Lie.none_⟩
  · simp [Value.cells] at hcs
    obtain ⟨rfl, rfl, rfl⟩ := hcs
    simp only [if_true] at hmm
    have hat : ∀ i, i < len → ∃ v : α, K.At W (a.add (i * K.k)) v ∧ K.wf v := by
      intro i hlt
      obtain ⟨cs', hc, ht⟩ := hi i (by omega)
      rw [hk] at hc
      obtain ⟨_, hcl, hget⟩ := World.cells?_some hc
      obtain ⟨v, rfl, hw⟩ := hone _ _ _ ht
      refine ⟨v, fun j u hu => ?_, hw⟩
      have hj : j < K.k := by
        rcases Nat.lt_or_ge j (K.cv v).length with h' | h'
        · rwa [K.len] at h'
        · rw [List.getElem?_eq_none h'] at hu; cases hu
      rw [hget j hj, hu]
    obtain ⟨F, hF⟩ : ∃ F : Nat → α, ∀ i, i < len → K.At W (a.add (i * K.k)) (F i) ∧ K.wf (F i) := by
      refine ⟨fun i => if h : i < len then Classical.choose (hat i h) else K.dflt, fun i hlt => ?_⟩
      simp only [hlt, dif_pos]
      exact Classical.choose_spec (hat i hlt)
    have hg : ∀ k, k < len → ((List.range len).map F).getD k K.dflt = F k := fun k hk => by
      rw [List.getD_eq_getElem?_getD, List.getElem?_map, List.getElem?_range hk]; rfl
    refine ⟨_, _, _, (List.range len).map F, rfl, hl, by unfold maxLen at hm; omega, by simp, fun k hk' => ⟨a, rfl, ?_, by rw [hg k hk']; exact (hF k hk').1⟩, fun k => ?_⟩
    · obtain ⟨u, hu⟩ : ∃ u, (K.cv (F k))[0]? = some u := ⟨(K.cv (F k))[0]'(by rw [K.len]; exact K.pos), List.getElem?_eq_getElem _⟩
      have := World.block_lt_of_cell? W _ ((hF k hk').1 0 u hu)
      rwa [addr_block, addr_block] at this
    · by_cases hk' : k < len
      · rw [hg k hk']; exact (hF k hk').2
      · rw [List.getD_eq_getElem?_getD, List.getElem?_eq_none (by simp; omega)]; exact K.ok
end
end Go.Proofs.Ytfidamiomnohcaa
