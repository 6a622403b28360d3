/- An argument that is a geometry, opened. No conditions. -/
import Derived.Test.YtgdnpgijaijlhaaOpen
import Derived.Lib.SmallJoins
set_option linter.unusedVariables false
set_option linter.unusedSimpArgs false
namespace Go.Proofs.Ytgdnpgijaijlhaa
open Go.ChangeShapes Go.WideShapes Go.ChangeAt Go.RowKit Go.Lib

section
variable {H : Type} {enc : TypeId × Value → H} {W : World}
theorem cells3 : Try.prog.cellsOf 23 = 3 := by kernel_rfl
theorem open_geo {v : Value} {d : DataW H} {p : List MemPlace} {b0 : Nat} (hval : Value.okWide Try.prog W .any b0 23 v) (h : DataW.Trod enc Try.prog W 0 (fun _ => true) true 23 v d p) :
    ∃ K A S : Int, v = .agg #[.int .i64 K, .int .i64 A, .int .i64 S] := by
  obtain ⟨v0, v1, v2, y0, y1, y2, n, rfl, _, _, h0, h1, h2⟩ := Joins.open_agg3 Try.underlying23 (by kernel_rfl) cells3 hval h
  obtain ⟨K, e0, _, _⟩ := DataW.trod_int Try.underlying3 h0
  obtain ⟨A, e1, _, _⟩ := DataW.trod_int Try.underlying3 h1
  obtain ⟨S, e2, _, _⟩ := DataW.trod_int Try.underlying3 h2
  refine ⟨K, A, S, ?_⟩
  rw [List.singleton_inj.1 e0, List.singleton_inj.1 e1, List.singleton_inj.1 e2]
end
end Go.Proofs.Ytgdnpgijaijlhaa
