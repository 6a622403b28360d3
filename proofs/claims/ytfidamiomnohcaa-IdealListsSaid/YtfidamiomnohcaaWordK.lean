/- Lists of uint64 as a kind of element; arguments of that type opened. No conditions. -/
import Derived.Test.YtfidamiomnohcaaKindOpen
set_option linter.unusedVariables false
set_option linter.unusedSimpArgs false
set_option maxRecDepth 20000
namespace Go.Proofs.Ytfidamiomnohcaa
open Go.ChangeShapes Go.WideShapes Go.ChangeAt Go.RowKit Go.Lib Go.Deep

theorem infoU64 : (Try.prog.info? 29).map (fun i => (i.zero, i.size, i.bytes)) = some (some (.int .u64 0), 1, 8) := by kernel_rfl
def wordK : Kind Int where
  T := 29
  L := 34
  k := 1
  cv := fun x => [.int .u64 x]
  wf := fun x => 0 ≤ x ∧ x ≤ 18446744073709551615
  dflt := 0
  len := fun v => rfl
  one := fun v u hu => by rw [List.mem_singleton.1 hu]; rfl
  pos := by decide
  ok := by decide
  under := Try.underlying34
  elem := by kernel_rfl
  info := by
    obtain ⟨i0, hi, hz0, hz1, hz2⟩ := info_parts infoU64
    exact ⟨i0, _, hi, hz0, hz1, by rw [hz2]; omega, rfl⟩
theorem wordAt_of {w : World} {p : Addr} {x : Int} (h : wordK.At w p x) : w.cell? p = some (.int .u64 x) := by have := h 0 (.int .u64 x) rfl; rwa [add_none] at this
theorem word_at {w : World} {B n : Nat} {A : Option Addr} {xs : List Int} (h : wordK.Lie w B A n xs) {k : Nat} (hk : k < n) : ∃ ad, A = some ad ∧ ad.block < B ∧ w.cell? (ad.add k) = some (.int .u64 (xs.getD k 0)) := by
  obtain ⟨ad, e1, e2, e3⟩ := h.each k hk
  have := wordAt_of (x := xs.getD k 0) e3
  rw [show k * wordK.k = k from Nat.mul_one k] at this
  exact ⟨ad, e1, e2, this⟩
theorem cellsU64K : Try.prog.cellsOf 29 = 1 := by kernel_rfl
section
variable {H : Type} {enc : TypeId × Value → H} {W : World}
theorem word_cells (n : Nat) (cs : List Value) (x : DataW H × List MemPlace) (h : DataW.trod enc Try.prog W 0 (fun _ => true) true n 29 cs = some x) : ∃ v : Int, cs = wordK.cv v ∧ wordK.wf v := by
  obtain ⟨s, e, _, w⟩ := DataW.trod_int Try.underlying29 h
  exact ⟨s, e, bounds_u64 w⟩
theorem open_wordsK {v : Value} {d : DataW H} {p : List MemPlace} {b0 : Nat} (hval : Value.okWide Try.prog W .any b0 34 v) (h : DataW.Trod enc Try.prog W 0 (fun _ => true) true 34 v d p) :
    ∃ A n c xs, v = .slice A n c ∧ n ≤ c ∧ n ≤ 9223372036854775807 ∧ wordK.Lie W W.heap.size A n xs := open_kind wordK cellsU64K word_cells hval h
end
/-- What a call that answers a new row of words leaves. -/
def GivesW (w : World) (xs : List Int) (e : Ending) (w' : World) : Prop := ∃ A n c, e = .returned (.slice A n c) ∧ Hid (wordK.Row w' w.heap.size A n c xs) ∧ Hid (Below w.heap.size w w')
end Go.Proofs.Ytfidamiomnohcaa
