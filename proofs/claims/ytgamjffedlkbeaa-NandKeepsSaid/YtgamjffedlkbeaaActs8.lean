/- scullerylaw8.Act as a kind of element, in lists of the project's type. No conditions. -/
import Derived.Test.YtgamjffedlkbeaaKindOpen
set_option linter.unusedVariables false
set_option linter.unusedSimpArgs false
namespace Go.Proofs.Ytgamjffedlkbeaa
open Go.ChangeShapes Go.WideShapes Go.ChangeAt Go.RowKit Go.Lib Go.Deep

structure A8 where
  do_ : Int
  block : Int
  page : Int
  n : Int
  step : Bool
  short : Bool
deriving DecidableEq
def A8.zero : A8 := ⟨0, 0, 0, 0, false, false⟩
structure A8Wf (m : A8) : Prop where
  do__lo : -9223372036854775808 ≤ m.do_
  do__hi : m.do_ ≤ 9223372036854775807
  block_lo : -9223372036854775808 ≤ m.block
  block_hi : m.block ≤ 9223372036854775807
  page_lo : -9223372036854775808 ≤ m.page
  page_hi : m.page ≤ 9223372036854775807
  n_lo : -9223372036854775808 ≤ m.n
  n_hi : m.n ≤ 9223372036854775807
def act8Cells (m : A8) : List Value := [.int .i64 m.do_, .int .i64 m.block, .int .i64 m.page, .int .i64 m.n, .bool m.step, .bool m.short]
def act8V (m : A8) : Value := .agg #[.int .i64 m.do_, .int .i64 m.block, .int .i64 m.page, .int .i64 m.n, .bool m.step, .bool m.short]
theorem infoA8 : (Try.prog.info? 36).map (fun i => (i.zero, i.size, i.bytes)) = some (some (.agg #[.int .i64 0, .int .i64 0, .int .i64 0, .int .i64 0, .bool false, .bool false]), 6, 40) := by kernel_rfl
def act8K : Kind A8 where
  T := 36
  L := 22
  k := 6
  cv := act8Cells
  wf := A8Wf
  dflt := A8.zero
  len := fun v => rfl
  one := fun v u hu => by
    simp only [act8Cells, List.mem_cons, List.not_mem_nil, or_false] at hu
    rcases hu with rfl | rfl | rfl | rfl | rfl | rfl <;> rfl
  pos := by decide
  ok := ⟨by decide, by decide, by decide, by decide, by decide, by decide, by decide, by decide⟩
  under := Try.underlying22
  elem := by kernel_rfl
  info := by
    obtain ⟨i0, hi, hz0, hz1, hz2⟩ := info_parts infoA8
    exact ⟨i0, _, hi, hz0, hz1, by rw [hz2]; omega, rfl⟩
/-- The cells, as a walk wants them. -/
structure A8At (w : World) (p : Addr) (m : A8) : Prop where
  c0 : w.cell? p = some (.int .i64 m.do_)
  c1 : w.cell? ⟨p.block, p.off + 1, none⟩ = some (.int .i64 m.block)
  c2 : w.cell? ⟨p.block, p.off + 2, none⟩ = some (.int .i64 m.page)
  c3 : w.cell? ⟨p.block, p.off + 3, none⟩ = some (.int .i64 m.n)
  c4 : w.cell? ⟨p.block, p.off + 4, none⟩ = some (.bool m.step)
  c5 : w.cell? ⟨p.block, p.off + 5, none⟩ = some (.bool m.short)
theorem act8At_of {w : World} {p : Addr} {m : A8} (h : act8K.At w p m) : A8At w p m :=
  ⟨by have := h 0 (.int .i64 m.do_) rfl; rwa [add_none] at this, by have := h 1 (.int .i64 m.block) rfl; rwa [add_at p 0] at this, by have := h 2 (.int .i64 m.page) rfl; rwa [add_at p 1] at this, by have := h 3 (.int .i64 m.n) rfl; rwa [add_at p 2] at this, by have := h 4 (.bool m.step) rfl; rwa [add_at p 3] at this, by have := h 5 (.bool m.short) rfl; rwa [add_at p 4] at this⟩
theorem cellsA8 : Try.prog.cellsOf 36 = 6 := by kernel_rfl
section
variable {H : Type} {enc : TypeId × Value → H} {W : World}
theorem act8_cells (n : Nat) (cs : List Value) (x : DataW H × List MemPlace) (h : DataW.trod enc Try.prog W 0 (fun _ => true) true n 36 cs = some x) : ∃ m : A8, cs = act8Cells m ∧ A8Wf m := by
  have k_i : Try.prog.cellsOf 3 = 1 := by kernel_rfl
  have k_b : Try.prog.cellsOf 4 = 1 := by kernel_rfl
  obtain ⟨xs, k, _, _, hl, hxs, hf⟩ := DataW.trod_struct Try.underlying36 h
  rw [cellsA8] at hl
  replace hxs : xs.length = 6 := hxs
  match cs, hl with
  | [x0, x1, x2, x3, x4, x5], _ =>
    have g0 : DataW.trod enc Try.prog W 0 (fun _ => true) true k 3 [x0] = some (xs[0]'(by omega)) := by
      have e : DataW.trod enc Try.prog W 0 (fun _ => true) true k 3 ((([x0, x1, x2, x3, x4, x5] : List Value).drop 0).take (Try.prog.cellsOf 3)) = xs[0]? := hf 0 _ rfl
      rw [List.getElem?_eq_getElem (show 0 < xs.length by omega), k_i] at e
      exact e
    have g1 : DataW.trod enc Try.prog W 0 (fun _ => true) true k 3 [x1] = some (xs[1]'(by omega)) := by
      have e : DataW.trod enc Try.prog W 0 (fun _ => true) true k 3 ((([x0, x1, x2, x3, x4, x5] : List Value).drop 1).take (Try.prog.cellsOf 3)) = xs[1]? := hf 1 _ rfl
      rw [List.getElem?_eq_getElem (show 1 < xs.length by omega), k_i] at e
      exact e
    have g2 : DataW.trod enc Try.prog W 0 (fun _ => true) true k 3 [x2] = some (xs[2]'(by omega)) := by
      have e : DataW.trod enc Try.prog W 0 (fun _ => true) true k 3 ((([x0, x1, x2, x3, x4, x5] : List Value).drop 2).take (Try.prog.cellsOf 3)) = xs[2]? := hf 2 _ rfl
      rw [List.getElem?_eq_getElem (show 2 < xs.length by omega), k_i] at e
      exact e
    have g3 : DataW.trod enc Try.prog W 0 (fun _ => true) true k 3 [x3] = some (xs[3]'(by omega)) := by
      have e : DataW.trod enc Try.prog W 0 (fun _ => true) true k 3 ((([x0, x1, x2, x3, x4, x5] : List Value).drop 3).take (Try.prog.cellsOf 3)) = xs[3]? := hf 3 _ rfl
      rw [List.getElem?_eq_getElem (show 3 < xs.length by omega), k_i] at e
      exact e
    have g4 : DataW.trod enc Try.prog W 0 (fun _ => true) true k 4 [x4] = some (xs[4]'(by omega)) := by
      have e : DataW.trod enc Try.prog W 0 (fun _ => true) true k 4 ((([x0, x1, x2, x3, x4, x5] : List Value).drop 4).take (Try.prog.cellsOf 4)) = xs[4]? := hf 4 _ rfl
      rw [List.getElem?_eq_getElem (show 4 < xs.length by omega), k_b] at e
      exact e
    have g5 : DataW.trod enc Try.prog W 0 (fun _ => true) true k 4 [x5] = some (xs[5]'(by omega)) := by
      have e : DataW.trod enc Try.prog W 0 (fun _ => true) true k 4 ((([x0, x1, x2, x3, x4, x5] : List Value).drop 5).take (Try.prog.cellsOf 4)) = xs[5]? := hf 5 _ rfl
      rw [List.getElem?_eq_getElem (show 5 < xs.length by omega), k_b] at e
      exact e
    obtain ⟨a0, e0, _, w0⟩ := DataW.trod_int Try.underlying3 g0
    have b0 := bounds_i64 w0
    obtain ⟨a1, e1, _, w1⟩ := DataW.trod_int Try.underlying3 g1
    have b1 := bounds_i64 w1
    obtain ⟨a2, e2, _, w2⟩ := DataW.trod_int Try.underlying3 g2
    have b2 := bounds_i64 w2
    obtain ⟨a3, e3, _, w3⟩ := DataW.trod_int Try.underlying3 g3
    have b3 := bounds_i64 w3
    obtain ⟨a4, e4, _⟩ := DataW.trod_bool Try.underlying4 g4
    obtain ⟨a5, e5, _⟩ := DataW.trod_bool Try.underlying4 g5
    refine ⟨⟨a0, a1, a2, a3, a4, a5⟩, ?_, ⟨b0.1, b0.2, b1.1, b1.2, b2.1, b2.2, b3.1, b3.2⟩⟩
    rw [List.singleton_inj.1 e0, List.singleton_inj.1 e1, List.singleton_inj.1 e2, List.singleton_inj.1 e3, List.singleton_inj.1 e4, List.singleton_inj.1 e5]; rfl
theorem open_act8 {v : Value} {d : DataW H} {p : List MemPlace} {b0 : Nat} (hval : Value.okWide Try.prog W .any b0 22 v) (h : DataW.Trod enc Try.prog W 0 (fun _ => true) true 22 v d p) :
    ∃ A n c ms, v = .slice A n c ∧ n ≤ c ∧ n ≤ 9223372036854775807 ∧ act8K.Lie W W.heap.size A n ms := open_kind act8K cellsA8 act8_cells hval h
end
theorem act8_at {w : World} {B n : Nat} {A : Option Addr} {ms : List A8} (h : act8K.Lie w B A n ms) {k : Nat} (hk : k < n) : ∃ ad, A = some ad ∧ ad.block < B ∧ A8At w (ad.add (k * 6)) (ms.getD k A8.zero) := by
  obtain ⟨ad, e1, e2, e3⟩ := h.each k hk
  exact ⟨ad, e1, e2, act8At_of e3⟩
end Go.Proofs.Ytgamjffedlkbeaa
