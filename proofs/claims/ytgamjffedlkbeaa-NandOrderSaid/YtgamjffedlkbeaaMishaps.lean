/- Mishaps (api.Mishap) as a kind of element, in lists of the project's type. No conditions. -/
import Derived.Test.YtgamjffedlkbeaaKindOpen
import Derived.Test.YtgamjffedlkbeaaInts
set_option linter.unusedVariables false
set_option linter.unusedSimpArgs false
namespace Go.Proofs.Ytgamjffedlkbeaa
open Go.ChangeShapes Go.WideShapes Go.ChangeAt Go.RowKit Go.Lib Go.Deep

/-- A mishap, as its cells have it. -/
structure M where
  at_ : Int
  kind : Int
  bytes : Int
  fill : Int
deriving DecidableEq
def M.zero : M := ⟨0, 0, 0, 0⟩
structure MWf (m : M) : Prop where
  a0 : -9223372036854775808 ≤ m.at_
  a1 : m.at_ ≤ 9223372036854775807
  k0 : -9223372036854775808 ≤ m.kind
  k1 : m.kind ≤ 9223372036854775807
  b0 : -9223372036854775808 ≤ m.bytes
  b1 : m.bytes ≤ 9223372036854775807
  f0 : 0 ≤ m.fill
  f1 : m.fill ≤ 255
def mishCells (m : M) : List Value := [.int .i64 m.at_, .int .i64 m.kind, .int .i64 m.bytes, .int .u8 m.fill]
def mishV (m : M) : Value := .agg #[.int .i64 m.at_, .int .i64 m.kind, .int .i64 m.bytes, .int .u8 m.fill]
theorem infoM : (Try.prog.info? 45).map (fun i => (i.zero, i.size, i.bytes)) = some (some (.agg #[.int .i64 0, .int .i64 0, .int .i64 0, .int .u8 0]), 4, 32) := by kernel_rfl
def mishK : Kind M where
  T := 45
  L := 52
  k := 4
  cv := mishCells
  wf := MWf
  dflt := M.zero
  len := fun v => rfl
  one := fun v u hu => by
    simp only [mishCells, List.mem_cons, List.not_mem_nil, or_false] at hu
    rcases hu with rfl | rfl | rfl | rfl <;> rfl
  pos := by decide
  ok := ⟨by decide, by decide, by decide, by decide, by decide, by decide, by decide, by decide⟩
  under := Try.underlying52
  elem := by kernel_rfl
  info := by
    obtain ⟨i0, hi, hz0, hz1, hz2⟩ := info_parts infoM
    exact ⟨i0, _, hi, hz0, hz1, by rw [hz2]; omega, rfl⟩
/-- A mishap's four cells, as a walk wants them. -/
structure MishAt (w : World) (p : Addr) (m : M) : Prop where
  c0 : w.cell? p = some (.int .i64 m.at_)
  c1 : w.cell? ⟨p.block, p.off + 1, none⟩ = some (.int .i64 m.kind)
  c2 : w.cell? ⟨p.block, p.off + 2, none⟩ = some (.int .i64 m.bytes)
  c3 : w.cell? ⟨p.block, p.off + 3, none⟩ = some (.int .u8 m.fill)
theorem mishAt_of {w : World} {p : Addr} {m : M} (h : mishK.At w p m) : MishAt w p m :=
  ⟨by have := h 0 (.int .i64 m.at_) rfl; rwa [add_none] at this, by have := h 1 (.int .i64 m.kind) rfl; rwa [add_at p 0] at this, by have := h 2 (.int .i64 m.bytes) rfl; rwa [add_at p 1] at this, by have := h 3 (.int .u8 m.fill) rfl; rwa [add_at p 2] at this⟩
theorem cellsMish : Try.prog.cellsOf 45 = 4 := by kernel_rfl
section
variable {H : Type} {enc : TypeId × Value → H} {W : World}
theorem mish_cells (n : Nat) (cs : List Value) (x : DataW H × List MemPlace) (h : DataW.trod enc Try.prog W 0 (fun _ => true) true n 45 cs = some x) : ∃ m : M, cs = mishCells m ∧ MWf m := by
  have k2 : Try.prog.cellsOf 3 = 1 := by kernel_rfl
  have k3 : Try.prog.cellsOf 5 = 1 := by kernel_rfl
  obtain ⟨z0, z1, z2, z3, k, _, hl, g0, g1, g2, g3⟩ := Joins.trod_struct4 Try.underlying45 h
  rw [cellsMish] at hl
  match cs, hl with
  | [x1, x2, x3, x4], _ =>
    have g0' : DataW.trod enc Try.prog W 0 (fun _ => true) true k 3 [x1] = some z0 := by
      have e := g0
      rw [show (Try.prog.cellsOf 3) = 1 from k2] at e
      exact e
    have g1' : DataW.trod enc Try.prog W 0 (fun _ => true) true k 3 [x2] = some z1 := by
      have e := g1
      rw [show (Try.prog.cellsOf 3) = 1 from k2] at e
      exact e
    have g2' : DataW.trod enc Try.prog W 0 (fun _ => true) true k 3 [x3] = some z2 := by
      have e := g2
      rw [show (Try.prog.cellsOf 3) = 1 from k2] at e
      exact e
    have g3' : DataW.trod enc Try.prog W 0 (fun _ => true) true k 5 [x4] = some z3 := by
      have e := g3
      rw [show (Try.prog.cellsOf 5) = 1 from k3] at e
      exact e
    obtain ⟨a, e1, _, w1⟩ := DataW.trod_int Try.underlying3 g0'
    obtain ⟨p, e2, _, w2⟩ := DataW.trod_int Try.underlying3 g1'
    obtain ⟨d, e3, _, w3⟩ := DataW.trod_int Try.underlying3 g2'
    obtain ⟨s, e4, _, w4⟩ := DataW.trod_int Try.underlying5 g3'
    have b1 := bounds_i64 w1
    have b2 := bounds_i64 w2
    have b3 := bounds_i64 w3
    have b4 := bounds_u8 w4
    refine ⟨⟨a, p, d, s⟩, ?_, ⟨b1.1, b1.2, b2.1, b2.2, b3.1, b3.2, b4.1, b4.2⟩⟩
    rw [List.singleton_inj.1 e1, List.singleton_inj.1 e2, List.singleton_inj.1 e3, List.singleton_inj.1 e4]; rfl
theorem open_mishaps {v : Value} {d : DataW H} {p : List MemPlace} {b0 : Nat} (hval : Value.okWide Try.prog W .any b0 52 v) (h : DataW.Trod enc Try.prog W 0 (fun _ => true) true 52 v d p) :
    ∃ A n c ms, v = .slice A n c ∧ n ≤ c ∧ n ≤ 9223372036854775807 ∧ mishK.Lie W W.heap.size A n ms := open_kind mishK cellsMish mish_cells hval h
end
end Go.Proofs.Ytgamjffedlkbeaa
