/- Arguments opened: slices of notes. No conditions. -/
import Derived.Test.YtaocppgekinocaaNoteBase
import Derived.Test.YtaocppgekinocaaOpen
import Derived.Lib.SmallJoins
import Derived.Deep.Slices
import Derived.Deep.Fields
set_option linter.unusedVariables false
set_option linter.unusedSimpArgs false
namespace Go.Proofs.Ytaocppgekinocaa
open Go.ChangeShapes Go.WideShapes Go.ChangeAt Go.RowKit Go.Lib Go.Deep

theorem cellsNote : Try.prog.cellsOf 43 = 5 := by kernel_rfl
theorem cellsEntry : Try.prog.cellsOf 41 = 4 := by kernel_rfl
theorem cellsBool : Try.prog.cellsOf 4 = 1 := by kernel_rfl
theorem cellsI : Try.prog.cellsOf 3 = 1 := by kernel_rfl
theorem cellsU64 : Try.prog.cellsOf 39 = 1 := by kernel_rfl
section
variable {H : Type} {enc : TypeId × Value → H} {W : World}
/-- The five cells of a note that reads so. -/
theorem note_cells {n : Nat} {cs : List Value} {x : DataW H × List MemPlace} (h : DataW.trod enc Try.prog W 0 (fun _ => true) true n 43 cs = some x) :
    ∃ v : V, cs = [.bool v.gone, .int .u64 v.addr, .int .i64 v.page, .bool v.dirty, .int .i64 v.seq] ∧ Wf v := by
  obtain ⟨y0, y1, m, _, hl, h0, h1⟩ := trod_struct2 Try.underlying43 h
  rw [cellsNote] at hl
  match cs, hl with
  | [x0, x1, x2, x3, x4], _ =>
    have h0' : DataW.trod enc Try.prog W 0 (fun _ => true) true m 4 [x0] = some y0 := by
      have e := h0
      rw [show (Try.prog.cellsOf 4) = 1 from cellsBool] at e
      exact e
    have h1' : DataW.trod enc Try.prog W 0 (fun _ => true) true m 41 [x1, x2, x3, x4] = some y1 := by
      have e := h1
      rw [show (Try.prog.cellsOf 41) = 4 from cellsEntry] at e
      exact e
    obtain ⟨g, e0, _⟩ := DataW.trod_bool Try.underlying4 h0'
    obtain ⟨z0, z1, z2, z3, k, _, _, g0, g1, g2, g3⟩ := Joins.trod_struct4 Try.underlying41 h1'
    have g0' : DataW.trod enc Try.prog W 0 (fun _ => true) true k 39 [x1] = some z0 := by
      have e := g0
      rw [show (Try.prog.cellsOf 39) = 1 from cellsU64] at e
      exact e
    have g1' : DataW.trod enc Try.prog W 0 (fun _ => true) true k 3 [x2] = some z1 := by
      have e := g1
      rw [show (Try.prog.cellsOf 3) = 1 from cellsI] at e
      exact e
    have g2' : DataW.trod enc Try.prog W 0 (fun _ => true) true k 4 [x3] = some z2 := by
      have e := g2
      rw [show (Try.prog.cellsOf 4) = 1 from cellsBool] at e
      exact e
    have g3' : DataW.trod enc Try.prog W 0 (fun _ => true) true k 3 [x4] = some z3 := by
      have e := g3
      rw [show (Try.prog.cellsOf 3) = 1 from cellsI] at e
      exact e
    obtain ⟨a, e1, _, w1⟩ := DataW.trod_int Try.underlying39 g0'
    obtain ⟨p, e2, _, w2⟩ := DataW.trod_int Try.underlying3 g1'
    obtain ⟨d, e3, _⟩ := DataW.trod_bool Try.underlying4 g2'
    obtain ⟨s, e4, _, w4⟩ := DataW.trod_int Try.underlying3 g3'
    have b1 := bounds_u64 w1
    have b2 := bounds_i64 w2
    have b4 := bounds_i64 w4
    refine ⟨⟨g, a, p, d, s⟩, ?_, ⟨b1.1, b1.2, b2.1, b2.2, b4.1, b4.2⟩⟩
    rw [List.singleton_inj.1 e0, List.singleton_inj.1 e1, List.singleton_inj.1 e2, List.singleton_inj.1 e3, List.singleton_inj.1 e4]
theorem open_notes {v : Value} {d : DataW H} {p : List MemPlace} {b0 : Nat} (hval : Value.okWide Try.prog W .any b0 22 v) (h : DataW.Trod enc Try.prog W 0 (fun _ => true) true 22 v d p) :
    ∃ A n c vs, v = .slice A n c ∧ n ≤ c ∧ n ≤ 9223372036854775807 ∧ Notes W W.heap.size A n vs := by
  obtain ⟨a0, len, cap, rfl⟩ := okWide_slice Try.underlying22 hval
  obtain ⟨fuel, hf⟩ := h
  rcases open_slice Try.underlying22 hf with ⟨hcs, hx⟩ | ⟨a, len', cap', m, n, D, Pl, hcs, _, hl, hm, hmm, _, hi⟩
  · simp [Value.cells] at hcs
    obtain ⟨rfl, rfl, rfl⟩ := hcs
    exact ⟨_, _, _, [], rfl, Nat.le_refl _, by omega, Notes.none_⟩
  · simp [Value.cells] at hcs
    obtain ⟨rfl, rfl, rfl⟩ := hcs
    simp only [if_true] at hmm
    have hat : ∀ i, i < len → ∃ v : V, NoteAt W (a.add (i * 5)) v ∧ Wf v := by
      intro i hlt
      obtain ⟨cs', hc, ht⟩ := hi i (by omega)
      rw [cellsNote] at hc
      obtain ⟨_, _, hget⟩ := World.cells?_some hc
      obtain ⟨v, rfl, hw⟩ := note_cells ht
      have ha : ∀ j, (a.add (i * 5)).add (j + 1) = ⟨(a.add (i * 5)).block, (a.add (i * 5)).off + (j + 1), none⟩ := fun j => by simp [Addr.add]
      have g0 := hget 0 (by omega)
      have g1 := hget 1 (by omega)
      have g2 := hget 2 (by omega)
      have g3 := hget 3 (by omega)
      have g4 := hget 4 (by omega)
      rw [add_none] at g0
      rw [ha 0] at g1
      rw [ha 1] at g2
      rw [ha 2] at g3
      rw [ha 3] at g4
      exact ⟨v, ⟨g0, g1, g2, g3, g4⟩, hw⟩
    obtain ⟨F, hF⟩ : ∃ F : Nat → V, ∀ i, i < len → NoteAt W (a.add (i * 5)) (F i) ∧ Wf (F i) := by
      refine ⟨fun i => if h : i < len then Classical.choose (hat i h) else V.zero, fun i hlt => ?_⟩
      simp only [hlt, dif_pos]
      exact Classical.choose_spec (hat i hlt)
    have hg : ∀ k, k < len → ((List.range len).map F).getD k V.zero = F k := fun k hk => by
      rw [List.getD_eq_getElem?_getD, List.getElem?_map, List.getElem?_range hk]; rfl
    refine ⟨_, _, _, (List.range len).map F, rfl, hl, by unfold maxLen at hm; omega, by simp, fun k hk => ⟨a, rfl, ?_, by rw [hg k hk]; exact (hF k hk).1⟩, fun k => ?_⟩
    · have := (hF k hk).1.lt
      rwa [addr_block] at this
    · by_cases hk : k < len
      · rw [hg k hk]; exact (hF k hk).2
      · rw [List.getD_eq_getElem?_getD, List.getElem?_eq_none (by simp; omega)]; exact wf_zero
end
end Go.Proofs.Ytaocppgekinocaa
