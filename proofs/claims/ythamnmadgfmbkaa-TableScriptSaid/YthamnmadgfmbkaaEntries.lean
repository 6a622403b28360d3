/- Entries (api.Entry) as a kind of element, in lists of the project's type. No conditions. NOT YET BUILT: no seat had the list's type when it was written. -/
import Derived.Test.YthamnmadgfmbkaaKindOpen
set_option linter.unusedVariables false
set_option linter.unusedSimpArgs false
namespace Go.Proofs.Ythamnmadgfmbkaa
open Go.ChangeShapes Go.WideShapes Go.ChangeAt Go.RowKit Go.Lib Go.Deep

/-- An entry, as its cells have it. -/
structure E where
  addr : Int
  page : Int
  dirty : Bool
  seq : Int
def E.zero : E := ⟨0, 0, false, 0⟩
structure EWf (e : E) : Prop where
  a0 : 0 ≤ e.addr
  a1 : e.addr ≤ 18446744073709551615
  p0 : -9223372036854775808 ≤ e.page
  p1 : e.page ≤ 9223372036854775807
  s0 : -9223372036854775808 ≤ e.seq
  s1 : e.seq ≤ 9223372036854775807
def entCells (e : E) : List Value := [.int .u64 e.addr, .int .i64 e.page, .bool e.dirty, .int .i64 e.seq]
def entV (e : E) : Value := .agg #[.int .u64 e.addr, .int .i64 e.page, .bool e.dirty, .int .i64 e.seq]
theorem infoE : (Try.prog.info? 32).map (fun i => (i.zero, i.size, i.bytes)) = some (some (.agg #[.int .u64 0, .int .i64 0, .bool false, .int .i64 0]), 4, 32) := by kernel_rfl
def entK : Kind E where
  T := 32
  L := 27
  k := 4
  cv := entCells
  wf := EWf
  dflt := E.zero
  len := fun v => rfl
  one := fun v u hu => by
    simp only [entCells, List.mem_cons, List.not_mem_nil, or_false] at hu
    rcases hu with rfl | rfl | rfl | rfl <;> rfl
  pos := by decide
  ok := ⟨by decide, by decide, by decide, by decide, by decide, by decide⟩
  under := Try.underlying27
  elem := by kernel_rfl
  info := by
    obtain ⟨i0, hi, hz0, hz1, hz2⟩ := info_parts infoE
    exact ⟨i0, _, hi, hz0, hz1, by rw [hz2]; omega, rfl⟩
/-- An entry's four cells, as a walk wants them. -/
structure EntAt (w : World) (p : Addr) (e : E) : Prop where
  c0 : w.cell? p = some (.int .u64 e.addr)
  c1 : w.cell? ⟨p.block, p.off + 1, none⟩ = some (.int .i64 e.page)
  c2 : w.cell? ⟨p.block, p.off + 2, none⟩ = some (.bool e.dirty)
  c3 : w.cell? ⟨p.block, p.off + 3, none⟩ = some (.int .i64 e.seq)
theorem entAt_of {w : World} {p : Addr} {e : E} (h : entK.At w p e) : EntAt w p e :=
  ⟨by have := h 0 (.int .u64 e.addr) rfl; rwa [add_none] at this, by have := h 1 (.int .i64 e.page) rfl; rwa [add_at p 0] at this, by have := h 2 (.bool e.dirty) rfl; rwa [add_at p 1] at this, by have := h 3 (.int .i64 e.seq) rfl; rwa [add_at p 2] at this⟩
theorem cellsEnt : Try.prog.cellsOf 32 = 4 := by kernel_rfl
section
variable {H : Type} {enc : TypeId × Value → H} {W : World}
theorem ent_cells (n : Nat) (cs : List Value) (x : DataW H × List MemPlace) (h : DataW.trod enc Try.prog W 0 (fun _ => true) true n 32 cs = some x) : ∃ e : E, cs = entCells e ∧ EWf e := by
  have k1 : Try.prog.cellsOf 30 = 1 := by kernel_rfl
  have k2 : Try.prog.cellsOf 3 = 1 := by kernel_rfl
  have k3 : Try.prog.cellsOf 4 = 1 := by kernel_rfl
  obtain ⟨z0, z1, z2, z3, k, _, hl, g0, g1, g2, g3⟩ := Joins.trod_struct4 Try.underlying32 h
  rw [cellsEnt] at hl
  match cs, hl with
  | [x1, x2, x3, x4], _ =>
    have g0' : DataW.trod enc Try.prog W 0 (fun _ => true) true k 30 [x1] = some z0 := by
      have e := g0
      rw [show (Try.prog.cellsOf 30) = 1 from k1] at e
      exact e
    have g1' : DataW.trod enc Try.prog W 0 (fun _ => true) true k 3 [x2] = some z1 := by
      have e := g1
      rw [show (Try.prog.cellsOf 3) = 1 from k2] at e
      exact e
    have g2' : DataW.trod enc Try.prog W 0 (fun _ => true) true k 4 [x3] = some z2 := by
      have e := g2
      rw [show (Try.prog.cellsOf 4) = 1 from k3] at e
      exact e
    have g3' : DataW.trod enc Try.prog W 0 (fun _ => true) true k 3 [x4] = some z3 := by
      have e := g3
      rw [show (Try.prog.cellsOf 3) = 1 from k2] at e
      exact e
    obtain ⟨a, e1, _, w1⟩ := DataW.trod_int Try.underlying30 g0'
    obtain ⟨p, e2, _, w2⟩ := DataW.trod_int Try.underlying3 g1'
    obtain ⟨d, e3, _⟩ := DataW.trod_bool Try.underlying4 g2'
    obtain ⟨s, e4, _, w4⟩ := DataW.trod_int Try.underlying3 g3'
    have b1 := bounds_u64 w1
    have b2 := bounds_i64 w2
    have b4 := bounds_i64 w4
    refine ⟨⟨a, p, d, s⟩, ?_, ⟨b1.1, b1.2, b2.1, b2.2, b4.1, b4.2⟩⟩
    rw [List.singleton_inj.1 e1, List.singleton_inj.1 e2, List.singleton_inj.1 e3, List.singleton_inj.1 e4]; rfl
theorem open_entries {v : Value} {d : DataW H} {p : List MemPlace} {b0 : Nat} (hval : Value.okWide Try.prog W .any b0 27 v) (h : DataW.Trod enc Try.prog W 0 (fun _ => true) true 27 v d p) :
    ∃ A n c es, v = .slice A n c ∧ n ≤ c ∧ n ≤ 9223372036854775807 ∧ entK.Lie W W.heap.size A n es := open_kind entK cellsEnt ent_cells hval h
end
end Go.Proofs.Ythamnmadgfmbkaa
