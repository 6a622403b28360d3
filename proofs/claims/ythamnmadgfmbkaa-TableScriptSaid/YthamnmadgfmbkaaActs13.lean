/- scullerylaw13.Act as a kind of element, in lists of the project's type. No conditions. -/
import Derived.Test.YthamnmadgfmbkaaEntries
set_option linter.unusedVariables false
set_option linter.unusedSimpArgs false
namespace Go.Proofs.Ythamnmadgfmbkaa
open Go.ChangeShapes Go.WideShapes Go.ChangeAt Go.RowKit Go.Lib Go.Deep

structure A13 where
  do_ : Int
  n : Int
  e : E
  dirty : Bool
def A13.zero : A13 := ⟨0, 0, E.zero, false⟩
structure A13Wf (m : A13) : Prop where
  do__lo : -9223372036854775808 ≤ m.do_
  do__hi : m.do_ ≤ 9223372036854775807
  n_lo : -9223372036854775808 ≤ m.n
  n_hi : m.n ≤ 9223372036854775807
  e_wf : EWf m.e
def act13Cells (m : A13) : List Value := [.int .i64 m.do_, .int .i64 m.n, .int .u64 m.e.addr, .int .i64 m.e.page, .bool m.e.dirty, .int .i64 m.e.seq, .bool m.dirty]
theorem infoA13 : (Try.prog.info? 34).map (fun i => (i.zero, i.size, i.bytes)) = some (some (.agg #[.int .i64 0, .int .i64 0, .int .u64 0, .int .i64 0, .bool false, .int .i64 0, .bool false]), 7, 56) := by kernel_rfl
def act13K : Kind A13 where
  T := 34
  L := 22
  k := 7
  cv := act13Cells
  wf := A13Wf
  dflt := A13.zero
  len := fun v => rfl
  one := fun v u hu => by
    simp only [act13Cells, List.mem_cons, List.not_mem_nil, or_false] at hu
    rcases hu with rfl | rfl | rfl | rfl | rfl | rfl | rfl <;> rfl
  pos := by decide
  ok := ⟨by decide, by decide, by decide, by decide, entK.ok⟩
  under := Try.underlying22
  elem := by kernel_rfl
  info := by
    obtain ⟨i0, hi, hz0, hz1, hz2⟩ := info_parts infoA13
    exact ⟨i0, _, hi, hz0, hz1, by rw [hz2]; omega, rfl⟩
/-- The cells, as a walk wants them. -/
structure A13At (w : World) (p : Addr) (m : A13) : Prop where
  c0 : w.cell? p = some (.int .i64 m.do_)
  c1 : w.cell? ⟨p.block, p.off + 1, none⟩ = some (.int .i64 m.n)
  c2 : w.cell? ⟨p.block, p.off + 2, none⟩ = some (.int .u64 m.e.addr)
  c3 : w.cell? ⟨p.block, p.off + 3, none⟩ = some (.int .i64 m.e.page)
  c4 : w.cell? ⟨p.block, p.off + 4, none⟩ = some (.bool m.e.dirty)
  c5 : w.cell? ⟨p.block, p.off + 5, none⟩ = some (.int .i64 m.e.seq)
  c6 : w.cell? ⟨p.block, p.off + 6, none⟩ = some (.bool m.dirty)
theorem act13At_of {w : World} {p : Addr} {m : A13} (h : act13K.At w p m) : A13At w p m :=
  ⟨by have := h 0 (.int .i64 m.do_) rfl; rwa [add_none] at this, by have := h 1 (.int .i64 m.n) rfl; rwa [add_at p 0] at this, by have := h 2 (.int .u64 m.e.addr) rfl; rwa [add_at p 1] at this, by have := h 3 (.int .i64 m.e.page) rfl; rwa [add_at p 2] at this, by have := h 4 (.bool m.e.dirty) rfl; rwa [add_at p 3] at this, by have := h 5 (.int .i64 m.e.seq) rfl; rwa [add_at p 4] at this, by have := h 6 (.bool m.dirty) rfl; rwa [add_at p 5] at this⟩
theorem act13_at {w : World} {B n : Nat} {A : Option Addr} {xs : List A13} (h : act13K.Lie w B A n xs) {k : Nat} (hk : k < n) : ∃ ad, A = some ad ∧ ad.block < B ∧ A13At w (ad.add (k * 7)) (xs.getD k A13.zero) ∧ A13Wf (xs.getD k A13.zero) := by
  obtain ⟨ad, e1, e2, e3⟩ := h.each k hk
  exact ⟨ad, e1, e2, act13At_of (m := xs.getD k A13.zero) e3, h.wf k⟩
theorem cellsA13 : Try.prog.cellsOf 34 = 7 := by kernel_rfl
section
variable {H : Type} {enc : TypeId × Value → H} {W : World}
theorem act13_cells (n : Nat) (cs : List Value) (x : DataW H × List MemPlace) (h : DataW.trod enc Try.prog W 0 (fun _ => true) true n 34 cs = some x) : ∃ m : A13, cs = act13Cells m ∧ A13Wf m := by
  have k_i : Try.prog.cellsOf 3 = 1 := by kernel_rfl
  have k_b : Try.prog.cellsOf 4 = 1 := by kernel_rfl
  have k_e : Try.prog.cellsOf 32 = 4 := by kernel_rfl
  obtain ⟨z0, z1, z2, z3, k, _, hl, f0, f1, f2, f3⟩ := Joins.trod_struct4 Try.underlying34 h
  rw [cellsA13] at hl
  match cs, hl with
  | [x0, x1, x2, x3, x4, x5, x6], _ =>
    have g0 : DataW.trod enc Try.prog W 0 (fun _ => true) true k 3 [x0] = some z0 := by
      have e := f0
      rw [show (Try.prog.cellsOf 3) = 1 from k_i] at e
      exact e
    have g1 : DataW.trod enc Try.prog W 0 (fun _ => true) true k 3 [x1] = some z1 := by
      have e := f1
      rw [show (Try.prog.cellsOf 3) = 1 from k_i] at e
      exact e
    have g2 : DataW.trod enc Try.prog W 0 (fun _ => true) true k 32 [x2, x3, x4, x5] = some z2 := by
      have e := f2
      rw [show (Try.prog.cellsOf 32) = 4 from k_e] at e
      exact e
    have g3 : DataW.trod enc Try.prog W 0 (fun _ => true) true k 4 [x6] = some z3 := by
      have e := f3
      rw [show (Try.prog.cellsOf 4) = 1 from k_b] at e
      exact e
    obtain ⟨a0, e0, _, w0⟩ := DataW.trod_int Try.underlying3 g0
    obtain ⟨a1, e1, _, w1⟩ := DataW.trod_int Try.underlying3 g1
    obtain ⟨ee, e2, w2⟩ := ent_cells k _ _ g2
    obtain ⟨d, e3, _⟩ := DataW.trod_bool Try.underlying4 g3
    have b0 := bounds_i64 w0
    have b1 := bounds_i64 w1
    refine ⟨⟨a0, a1, ee, d⟩, ?_, ⟨b0.1, b0.2, b1.1, b1.2, w2⟩⟩
    unfold entCells at e2
    injection e2 with q0 e2
    injection e2 with q1 e2
    injection e2 with q2 e2
    injection e2 with q3 _
    rw [List.singleton_inj.1 e0, List.singleton_inj.1 e1, List.singleton_inj.1 e3, q0, q1, q2, q3]; rfl
theorem open_act13 {v : Value} {d : DataW H} {p : List MemPlace} {b0 : Nat} (hval : Value.okWide Try.prog W .any b0 22 v) (h : DataW.Trod enc Try.prog W 0 (fun _ => true) true 22 v d p) :
    ∃ A n c xs, v = .slice A n c ∧ n ≤ c ∧ n ≤ 9223372036854775807 ∧ act13K.Lie W W.heap.size A n xs := open_kind act13K cellsA13 act13_cells hval h
/-- An entry as an argument. -/
theorem open_entry {v : Value} {d : DataW H} {p : List MemPlace} {b0 : Nat} (hval : Value.okWide Try.prog W .any b0 32 v) (h : DataW.Trod enc Try.prog W 0 (fun _ => true) true 32 v d p) : ∃ e : E, v = entV e ∧ EWf e := by
  obtain ⟨v0, v1, v2, v3, y0, y1, y2, y3, n, rfl, _, _, h0, h1, h2, h3⟩ := Joins.open_agg4 Try.underlying32 (by kernel_rfl) cellsEnt hval h
  obtain ⟨a, e0, _, w0⟩ := DataW.trod_int Try.underlying30 h0
  obtain ⟨p, e1, _, w1⟩ := DataW.trod_int Try.underlying3 h1
  obtain ⟨d, e2, _⟩ := DataW.trod_bool Try.underlying4 h2
  obtain ⟨s, e3, _, w3⟩ := DataW.trod_int Try.underlying3 h3
  have b0 := bounds_u64 w0
  have b1 := bounds_i64 w1
  have b3 := bounds_i64 w3
  refine ⟨⟨a, p, d, s⟩, ?_, ⟨b0.1, b0.2, b1.1, b1.2, b3.1, b3.2⟩⟩
  rw [List.singleton_inj.1 e0, List.singleton_inj.1 e1, List.singleton_inj.1 e2, List.singleton_inj.1 e3]; rfl
end
end Go.Proofs.Ythamnmadgfmbkaa
