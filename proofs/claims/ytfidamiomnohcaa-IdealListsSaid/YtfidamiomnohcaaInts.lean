/- Lists of int as a kind of element. No conditions. -/
import Derived.Test.YtfidamiomnohcaaKindOpen
set_option linter.unusedVariables false
set_option linter.unusedSimpArgs false
set_option maxRecDepth 20000
namespace Go.Proofs.Ytfidamiomnohcaa
open Go.ChangeShapes Go.WideShapes Go.ChangeAt Go.RowKit Go.Lib Go.Deep

theorem infoI : (Try.prog.info? 3).map (fun i => (i.zero, i.size, i.bytes)) = some (some (.int .i64 0), 1, 8) := by kernel_rfl
def intK : Kind Int where
  T := 3
  L := 56
  k := 1
  cv := fun x => [.int .i64 x]
  wf := fun x => -9223372036854775808 ≤ x ∧ x ≤ 9223372036854775807
  dflt := 0
  len := fun v => rfl
  one := fun v u hu => by rw [List.mem_singleton.1 hu]; rfl
  pos := by decide
  ok := by decide
  under := Try.underlying56
  elem := by kernel_rfl
  info := by
    obtain ⟨i0, hi, hz0, hz1, hz2⟩ := info_parts infoI
    exact ⟨i0, _, hi, hz0, hz1, by rw [hz2]; omega, rfl⟩
theorem intAt_of {w : World} {p : Addr} {x : Int} (h : intK.At w p x) : w.cell? p = some (.int .i64 x) := by have := h 0 (.int .i64 x) rfl; rwa [add_none] at this
theorem cellsInt : Try.prog.cellsOf 3 = 1 := by kernel_rfl
section
variable {H : Type} {enc : TypeId × Value → H} {W : World}
theorem int_cells (n : Nat) (cs : List Value) (x : DataW H × List MemPlace) (h : DataW.trod enc Try.prog W 0 (fun _ => true) true n 3 cs = some x) : ∃ v : Int, cs = intK.cv v ∧ intK.wf v := by
  obtain ⟨s, e, _, w⟩ := DataW.trod_int Try.underlying3 h
  exact ⟨s, e, bounds_i64 w⟩
theorem open_ints {v : Value} {d : DataW H} {p : List MemPlace} {b0 : Nat} (hval : Value.okWide Try.prog W .any b0 56 v) (h : DataW.Trod enc Try.prog W 0 (fun _ => true) true 56 v d p) :
    ∃ A n c xs, v = .slice A n c ∧ n ≤ c ∧ n ≤ 9223372036854775807 ∧ intK.Lie W W.heap.size A n xs := open_kind intK cellsInt int_cells hval h
end
end Go.Proofs.Ytfidamiomnohcaa
