/- scullerylaw14.Act as a kind of element, in lists of the project's type. No conditions. -/
import Derived.Test.YtiojnpoefbnjoaaKindOpen
set_option linter.unusedVariables false
set_option linter.unusedSimpArgs false
namespace Go.Proofs.Ytiojnpoefbnjoaa
open Go.ChangeShapes Go.WideShapes Go.ChangeAt Go.RowKit Go.Lib Go.Deep

structure A14 where
  page : Int
  addr : Int
  clear : Bool
deriving DecidableEq
def A14.zero : A14 := ⟨0, 0, false⟩
structure A14Wf (m : A14) : Prop where
  page_lo : -9223372036854775808 ≤ m.page
  page_hi : m.page ≤ 9223372036854775807
  addr_lo : 0 ≤ m.addr
  addr_hi : m.addr ≤ 18446744073709551615
def act14Cells (m : A14) : List Value := [.int .i64 m.page, .int .u64 m.addr, .bool m.clear]
def act14V (m : A14) : Value := .agg #[.int .i64 m.page, .int .u64 m.addr, .bool m.clear]
theorem infoA14 : (Try.prog.info? 30).map (fun i => (i.zero, i.size, i.bytes)) = some (some (.agg #[.int .i64 0, .int .u64 0, .bool false]), 3, 24) := by kernel_rfl
def act14K : Kind A14 where
  T := 30
  L := 22
  k := 3
  cv := act14Cells
  wf := A14Wf
  dflt := A14.zero
  len := fun v => rfl
  one := fun v u hu => by
    simp only [act14Cells, List.mem_cons, List.not_mem_nil, or_false] at hu
    rcases hu with rfl | rfl | rfl <;> rfl
  pos := by decide
  ok := ⟨by decide, by decide, by decide, by decide⟩
  under := Try.underlying22
  elem := by kernel_rfl
  info := by
    obtain ⟨i0, hi, hz0, hz1, hz2⟩ := info_parts infoA14
    exact ⟨i0, _, hi, hz0, hz1, by rw [hz2]; omega, rfl⟩
/-- The cells, as a walk wants them. -/
structure A14At (w : World) (p : Addr) (m : A14) : Prop where
  c0 : w.cell? p = some (.int .i64 m.page)
  c1 : w.cell? ⟨p.block, p.off + 1, none⟩ = some (.int .u64 m.addr)
  c2 : w.cell? ⟨p.block, p.off + 2, none⟩ = some (.bool m.clear)
theorem act14At_of {w : World} {p : Addr} {m : A14} (h : act14K.At w p m) : A14At w p m :=
  ⟨by have := h 0 (.int .i64 m.page) rfl; rwa [add_none] at this, by have := h 1 (.int .u64 m.addr) rfl; rwa [add_at p 0] at this, by have := h 2 (.bool m.clear) rfl; rwa [add_at p 1] at this⟩
theorem cellsA14 : Try.prog.cellsOf 30 = 3 := by kernel_rfl
section
variable {H : Type} {enc : TypeId × Value → H} {W : World}
theorem act14_cells (n : Nat) (cs : List Value) (x : DataW H × List MemPlace) (h : DataW.trod enc Try.prog W 0 (fun _ => true) true n 30 cs = some x) : ∃ m : A14, cs = act14Cells m ∧ A14Wf m := by
  have k_i : Try.prog.cellsOf 3 = 1 := by kernel_rfl
  have k_w : Try.prog.cellsOf 28 = 1 := by kernel_rfl
  have k_b : Try.prog.cellsOf 4 = 1 := by kernel_rfl
  obtain ⟨xs, k, _, _, hl, hxs, hf⟩ := DataW.trod_struct Try.underlying30 h
  rw [cellsA14] at hl
  replace hxs : xs.length = 3 := hxs
  match cs, hl with
  | [x0, x1, x2], _ =>
    have g0 : DataW.trod enc Try.prog W 0 (fun _ => true) true k 3 [x0] = some (xs[0]'(by omega)) := by
      have e : DataW.trod enc Try.prog W 0 (fun _ => true) true k 3 ((([x0, x1, x2] : List Value).drop 0).take (Try.prog.cellsOf 3)) = xs[0]? := hf 0 _ rfl
      rw [List.getElem?_eq_getElem (show 0 < xs.length by omega), k_i] at e
      exact e
    have g1 : DataW.trod enc Try.prog W 0 (fun _ => true) true k 28 [x1] = some (xs[1]'(by omega)) := by
      have e : DataW.trod enc Try.prog W 0 (fun _ => true) true k 28 ((([x0, x1, x2] : List Value).drop 1).take (Try.prog.cellsOf 28)) = xs[1]? := hf 1 _ rfl
      rw [List.getElem?_eq_getElem (show 1 < xs.length by omega), k_w] at e
      exact e
    have g2 : DataW.trod enc Try.prog W 0 (fun _ => true) true k 4 [x2] = some (xs[2]'(by omega)) := by
      have e : DataW.trod enc Try.prog W 0 (fun _ => true) true k 4 ((([x0, x1, x2] : List Value).drop 2).take (Try.prog.cellsOf 4)) = xs[2]? := hf 2 _ rfl
      rw [List.getElem?_eq_getElem (show 2 < xs.length by omega), k_b] at e
      exact e
    obtain ⟨a0, e0, _, w0⟩ := DataW.trod_int Try.underlying3 g0
    have b0 := bounds_i64 w0
    obtain ⟨a1, e1, _, w1⟩ := DataW.trod_int Try.underlying28 g1
    have b1 := bounds_u64 w1
    obtain ⟨a2, e2, _⟩ := DataW.trod_bool Try.underlying4 g2
    refine ⟨⟨a0, a1, a2⟩, ?_, ⟨b0.1, b0.2, b1.1, b1.2⟩⟩
    rw [List.singleton_inj.1 e0, List.singleton_inj.1 e1, List.singleton_inj.1 e2]; rfl
theorem open_act14 {v : Value} {d : DataW H} {p : List MemPlace} {b0 : Nat} (hval : Value.okWide Try.prog W .any b0 22 v) (h : DataW.Trod enc Try.prog W 0 (fun _ => true) true 22 v d p) :
    ∃ A n c ms, v = .slice A n c ∧ n ≤ c ∧ n ≤ 9223372036854775807 ∧ act14K.Lie W W.heap.size A n ms := open_kind act14K cellsA14 act14_cells hval h
end
theorem act14_at {w : World} {B n : Nat} {A : Option Addr} {ms : List A14} (h : act14K.Lie w B A n ms) {k : Nat} (hk : k < n) : ∃ ad, A = some ad ∧ ad.block < B ∧ A14At w (ad.add (k * 3)) (ms.getD k A14.zero) := by
  obtain ⟨ad, e1, e2, e3⟩ := h.each k hk
  exact ⟨ad, e1, e2, act14At_of e3⟩
end Go.Proofs.Ytiojnpoefbnjoaa
