/- scullerylaw11.Act as a kind of element, in lists of the project's type. No conditions. -/
import Derived.Test.YtmfpelgkjgpfmaaKindOpen
set_option linter.unusedVariables false
set_option linter.unusedSimpArgs false
namespace Go.Proofs.Ytmfpelgkjgpfmaa
open Go.ChangeShapes Go.WideShapes Go.ChangeAt Go.RowKit Go.Lib Go.Deep

structure A11 where
  do_ : Int
  b : Int
  p : Int
  dirty : Bool
deriving DecidableEq
def A11.zero : A11 := ⟨0, 0, 0, false⟩
structure A11Wf (m : A11) : Prop where
  do__lo : -9223372036854775808 ≤ m.do_
  do__hi : m.do_ ≤ 9223372036854775807
  b_lo : -9223372036854775808 ≤ m.b
  b_hi : m.b ≤ 9223372036854775807
  p_lo : -9223372036854775808 ≤ m.p
  p_hi : m.p ≤ 9223372036854775807
def act11Cells (m : A11) : List Value := [.int .i64 m.do_, .int .i64 m.b, .int .i64 m.p, .bool m.dirty]
def act11V (m : A11) : Value := .agg #[.int .i64 m.do_, .int .i64 m.b, .int .i64 m.p, .bool m.dirty]
theorem infoA11 : (Try.prog.info? 45).map (fun i => (i.zero, i.size, i.bytes)) = some (some (.agg #[.int .i64 0, .int .i64 0, .int .i64 0, .bool false]), 4, 32) := by kernel_rfl
def act11K : Kind A11 where
  T := 45
  L := 40
  k := 4
  cv := act11Cells
  wf := A11Wf
  dflt := A11.zero
  len := fun v => rfl
  one := fun v u hu => by
    simp only [act11Cells, List.mem_cons, List.not_mem_nil, or_false] at hu
    rcases hu with rfl | rfl | rfl | rfl <;> rfl
  pos := by decide
  ok := ⟨by decide, by decide, by decide, by decide, by decide, by decide⟩
  under := Try.underlying40
  elem := by kernel_rfl
  info := by
    obtain ⟨i0, hi, hz0, hz1, hz2⟩ := info_parts infoA11
    exact ⟨i0, _, hi, hz0, hz1, by rw [hz2]; omega, rfl⟩
/-- The cells, as a walk wants them. -/
structure A11At (w : World) (p : Addr) (m : A11) : Prop where
  c0 : w.cell? p = some (.int .i64 m.do_)
  c1 : w.cell? ⟨p.block, p.off + 1, none⟩ = some (.int .i64 m.b)
  c2 : w.cell? ⟨p.block, p.off + 2, none⟩ = some (.int .i64 m.p)
  c3 : w.cell? ⟨p.block, p.off + 3, none⟩ = some (.bool m.dirty)
theorem act11At_of {w : World} {p : Addr} {m : A11} (h : act11K.At w p m) : A11At w p m :=
  ⟨by have := h 0 (.int .i64 m.do_) rfl; rwa [add_none] at this, by have := h 1 (.int .i64 m.b) rfl; rwa [add_at p 0] at this, by have := h 2 (.int .i64 m.p) rfl; rwa [add_at p 1] at this, by have := h 3 (.bool m.dirty) rfl; rwa [add_at p 2] at this⟩
theorem cellsA11 : Try.prog.cellsOf 45 = 4 := by kernel_rfl
section
variable {H : Type} {enc : TypeId × Value → H} {W : World}
theorem act11_cells (n : Nat) (cs : List Value) (x : DataW H × List MemPlace) (h : DataW.trod enc Try.prog W 0 (fun _ => true) true n 45 cs = some x) : ∃ m : A11, cs = act11Cells m ∧ A11Wf m := by
  have k_i : Try.prog.cellsOf 3 = 1 := by kernel_rfl
  have k_b : Try.prog.cellsOf 4 = 1 := by kernel_rfl
  obtain ⟨xs, k, _, _, hl, hxs, hf⟩ := DataW.trod_struct Try.underlying45 h
  rw [cellsA11] at hl
  replace hxs : xs.length = 4 := hxs
  match cs, hl with
  | [x0, x1, x2, x3], _ =>
    have g0 : DataW.trod enc Try.prog W 0 (fun _ => true) true k 3 [x0] = some (xs[0]'(by omega)) := by
      have e : DataW.trod enc Try.prog W 0 (fun _ => true) true k 3 ((([x0, x1, x2, x3] : List Value).drop 0).take (Try.prog.cellsOf 3)) = xs[0]? := hf 0 _ rfl
      rw [List.getElem?_eq_getElem (show 0 < xs.length by omega), k_i] at e
      exact e
    have g1 : DataW.trod enc Try.prog W 0 (fun _ => true) true k 3 [x1] = some (xs[1]'(by omega)) := by
      have e : DataW.trod enc Try.prog W 0 (fun _ => true) true k 3 ((([x0, x1, x2, x3] : List Value).drop 1).take (Try.prog.cellsOf 3)) = xs[1]? := hf 1 _ rfl
      rw [List.getElem?_eq_getElem (show 1 < xs.length by omega), k_i] at e
      exact e
    have g2 : DataW.trod enc Try.prog W 0 (fun _ => true) true k 3 [x2] = some (xs[2]'(by omega)) := by
      have e : DataW.trod enc Try.prog W 0 (fun _ => true) true k 3 ((([x0, x1, x2, x3] : List Value).drop 2).take (Try.prog.cellsOf 3)) = xs[2]? := hf 2 _ rfl
      rw [List.getElem?_eq_getElem (show 2 < xs.length by omega), k_i] at e
      exact e
    have g3 : DataW.trod enc Try.prog W 0 (fun _ => true) true k 4 [x3] = some (xs[3]'(by omega)) := by
      have e : DataW.trod enc Try.prog W 0 (fun _ => true) true k 4 ((([x0, x1, x2, x3] : List Value).drop 3).take (Try.prog.cellsOf 4)) = xs[3]? := hf 3 _ rfl
      rw [List.getElem?_eq_getElem (show 3 < xs.length by omega), k_b] at e
      exact e
    obtain ⟨a0, e0, _, w0⟩ := DataW.trod_int Try.underlying3 g0
    have b0 := bounds_i64 w0
    obtain ⟨a1, e1, _, w1⟩ := DataW.trod_int Try.underlying3 g1
    have b1 := bounds_i64 w1
    obtain ⟨a2, e2, _, w2⟩ := DataW.trod_int Try.underlying3 g2
    have b2 := bounds_i64 w2
    obtain ⟨a3, e3, _⟩ := DataW.trod_bool Try.underlying4 g3
    refine ⟨⟨a0, a1, a2, a3⟩, ?_, ⟨b0.1, b0.2, b1.1, b1.2, b2.1, b2.2⟩⟩
    rw [List.singleton_inj.1 e0, List.singleton_inj.1 e1, List.singleton_inj.1 e2, List.singleton_inj.1 e3]; rfl
theorem open_act11 {v : Value} {d : DataW H} {p : List MemPlace} {b0 : Nat} (hval : Value.okWide Try.prog W .any b0 40 v) (h : DataW.Trod enc Try.prog W 0 (fun _ => true) true 40 v d p) :
    ∃ A n c ms, v = .slice A n c ∧ n ≤ c ∧ n ≤ 9223372036854775807 ∧ act11K.Lie W W.heap.size A n ms := open_kind act11K cellsA11 act11_cells hval h
end
theorem act11_at {w : World} {B n : Nat} {A : Option Addr} {ms : List A11} (h : act11K.Lie w B A n ms) {k : Nat} (hk : k < n) : ∃ ad, A = some ad ∧ ad.block < B ∧ A11At w (ad.add (k * 4)) (ms.getD k A11.zero) := by
  obtain ⟨ad, e1, e2, e3⟩ := h.each k hk
  exact ⟨ad, e1, e2, act11At_of e3⟩
end Go.Proofs.Ytmfpelgkjgpfmaa
