/- []bool as a kind; arguments of that type opened. No conditions. -/
import Derived.Test.YtiojnpoefbnjoaaKindOpen
set_option linter.unusedVariables false
set_option linter.unusedSimpArgs false
namespace Go.Proofs.Ytiojnpoefbnjoaa
open Go.ChangeShapes Go.WideShapes Go.ChangeAt Go.RowKit Go.Lib Go.Deep

theorem infoB : (Try.prog.info? 4).map (fun i => (i.zero, i.size, i.bytes)) = some (some (.bool false), 1, 1) := by kernel_rfl
def boolK : Kind Bool where
  T := 4
  L := 40
  k := 1
  cv := fun b => [.bool b]
  wf := fun _ => True
  dflt := false
  len := fun v => rfl
  one := fun v u hu => by rw [List.mem_singleton.1 hu]; rfl
  pos := by decide
  ok := trivial
  under := Try.underlying40
  elem := by kernel_rfl
  info := by
    obtain ⟨i0, hi, hz0, hz1, hz2⟩ := info_parts infoB
    exact ⟨i0, _, hi, hz0, hz1, by rw [hz2]; omega, rfl⟩
theorem boolK_at {w : World} {p : Addr} {b : Bool} (h : boolK.At w p b) : w.cell? p = some (.bool b) := by
  have := h 0 _ rfl
  rwa [add_none] at this
theorem cellsBool : Try.prog.cellsOf 4 = 1 := by kernel_rfl
section
variable {H : Type} {enc : TypeId × Value → H} {W : World}
theorem bool_cells (n : Nat) (cs : List Value) (x : DataW H × List MemPlace) (h : DataW.trod enc Try.prog W 0 (fun _ => true) true n 4 cs = some x) : ∃ v : Bool, cs = boolK.cv v ∧ boolK.wf v := by
  obtain ⟨s, e, _⟩ := DataW.trod_bool Try.underlying4 h
  exact ⟨s, e, trivial⟩
theorem open_bools {v : Value} {d : DataW H} {p : List MemPlace} {b0 : Nat} (hval : Value.okWide Try.prog W .any b0 40 v) (h : DataW.Trod enc Try.prog W 0 (fun _ => true) true 40 v d p) :
    ∃ A n c xs, v = .slice A n c ∧ n ≤ c ∧ n ≤ 9223372036854775807 ∧ boolK.Lie W W.heap.size A n xs := open_kind boolK cellsBool bool_cells hval h
end
end Go.Proofs.Ytiojnpoefbnjoaa
