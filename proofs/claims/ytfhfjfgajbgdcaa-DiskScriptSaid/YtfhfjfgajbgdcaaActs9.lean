/- scullerylaw9.Act as a kind of element, in lists of the project's type. No conditions. -/
import Derived.Test.YtfhfjfgajbgdcaaKindWith
import Derived.Test.YtfhfjfgajbgdcaaRefDisk
set_option linter.unusedVariables false
set_option linter.unusedSimpArgs false
namespace Go.Proofs.Ytfhfjfgajbgdcaa
open Go.ChangeShapes Go.WideShapes Go.ChangeAt Go.RowKit Go.Lib Go.Deep

structure A9 where
  do_ : Int
  at_ : Int
  n : Int
  short : Bool
  keep_a : Option Addr
  keep_n : Nat
  keep_c : Nat

def A9.zero : A9 := ⟨0, 0, 0, false, none, 0, 0⟩
structure A9Wf (m : A9) : Prop where
  do__lo : -9223372036854775808 ≤ m.do_
  do__hi : m.do_ ≤ 9223372036854775807
  at__lo : -9223372036854775808 ≤ m.at_
  at__hi : m.at_ ≤ 9223372036854775807
  n_lo : -9223372036854775808 ≤ m.n
  n_hi : m.n ≤ 9223372036854775807
def act9Cells (m : A9) : List Value := [.int .i64 m.do_, .int .i64 m.at_, .int .i64 m.n, .bool m.short, .slice m.keep_a m.keep_n m.keep_c]
def act9V (m : A9) : Value := .agg #[.int .i64 m.do_, .int .i64 m.at_, .int .i64 m.n, .bool m.short, .slice m.keep_a m.keep_n m.keep_c]
theorem infoA9 : (Try.prog.info? 31).map (fun i => (i.zero, i.size, i.bytes)) = some (some (.agg #[.int .i64 0, .int .i64 0, .int .i64 0, .bool false, .slice none 0 0]), 5, 56) := by kernel_rfl
def act9K : Kind A9 where
  T := 31
  L := 23
  k := 5
  cv := act9Cells
  wf := A9Wf
  dflt := A9.zero
  len := fun v => rfl
  one := fun v u hu => by
    simp only [act9Cells, List.mem_cons, List.not_mem_nil, or_false] at hu
    rcases hu with rfl | rfl | rfl | rfl | rfl <;> rfl
  pos := by decide
  ok := ⟨by decide, by decide, by decide, by decide, by decide, by decide⟩
  under := Try.underlying23
  elem := by kernel_rfl
  info := by
    obtain ⟨i0, hi, hz0, hz1, hz2⟩ := info_parts infoA9
    exact ⟨i0, _, hi, hz0, hz1, by rw [hz2]; omega, rfl⟩
/-- The cells, as a walk wants them. -/
structure A9At (w : World) (p : Addr) (m : A9) : Prop where
  c0 : w.cell? p = some (.int .i64 m.do_)
  c1 : w.cell? ⟨p.block, p.off + 1, none⟩ = some (.int .i64 m.at_)
  c2 : w.cell? ⟨p.block, p.off + 2, none⟩ = some (.int .i64 m.n)
  c3 : w.cell? ⟨p.block, p.off + 3, none⟩ = some (.bool m.short)
  c4 : w.cell? ⟨p.block, p.off + 4, none⟩ = some (.slice m.keep_a m.keep_n m.keep_c)
theorem act9At_of {w : World} {p : Addr} {m : A9} (h : act9K.At w p m) : A9At w p m :=
  ⟨by have := h 0 (.int .i64 m.do_) rfl; rwa [add_none] at this, by have := h 1 (.int .i64 m.at_) rfl; rwa [add_at p 0] at this, by have := h 2 (.int .i64 m.n) rfl; rwa [add_at p 1] at this, by have := h 3 (.bool m.short) rfl; rwa [add_at p 2] at this, by have := h 4 (.slice m.keep_a m.keep_n m.keep_c) rfl; rwa [add_at p 3] at this⟩
theorem cellsA9 : Try.prog.cellsOf 31 = 5 := by kernel_rfl
/-- Each element's own lists lie in memory. -/
def A9Own (W : World) (m : A9) : Prop := m.keep_n ≤ m.keep_c ∧ m.keep_n ≤ 9223372036854775807 ∧ ∃ bs, boolK.Lie W W.heap.size m.keep_a m.keep_n bs
theorem ownA9_zero (W : World) : A9Own W A9.zero := ⟨Nat.le_refl _, by decide, [], Kind.Lie.none_⟩
section
variable {H : Type} {enc : TypeId × Value → H} {W : World}
theorem act9_cells (n : Nat) (cs : List Value) (x : DataW H × List MemPlace) (h : DataW.trod enc Try.prog W 0 (fun _ => true) true n 31 cs = some x) : ∃ m : A9, cs = act9Cells m ∧ A9Wf m ∧ A9Own W m := by
  have k_i : Try.prog.cellsOf 3 = 1 := by kernel_rfl
  have k_b : Try.prog.cellsOf 4 = 1 := by kernel_rfl
  have k_B : Try.prog.cellsOf 29 = 1 := by kernel_rfl
  obtain ⟨xs, k, _, _, hl, hxs, hf⟩ := DataW.trod_struct Try.underlying31 h
  rw [cellsA9] at hl
  replace hxs : xs.length = 5 := hxs
  match cs, hl with
  | [x0, x1, x2, x3, x4], _ =>
    have g0 : DataW.trod enc Try.prog W 0 (fun _ => true) true k 3 [x0] = some (xs[0]'(by omega)) := by
      have e : DataW.trod enc Try.prog W 0 (fun _ => true) true k 3 ((([x0, x1, x2, x3, x4] : List Value).drop 0).take (Try.prog.cellsOf 3)) = xs[0]? := hf 0 _ rfl
      rw [List.getElem?_eq_getElem (show 0 < xs.length by omega), k_i] at e
      exact e
    have g1 : DataW.trod enc Try.prog W 0 (fun _ => true) true k 3 [x1] = some (xs[1]'(by omega)) := by
      have e : DataW.trod enc Try.prog W 0 (fun _ => true) true k 3 ((([x0, x1, x2, x3, x4] : List Value).drop 1).take (Try.prog.cellsOf 3)) = xs[1]? := hf 1 _ rfl
      rw [List.getElem?_eq_getElem (show 1 < xs.length by omega), k_i] at e
      exact e
    have g2 : DataW.trod enc Try.prog W 0 (fun _ => true) true k 3 [x2] = some (xs[2]'(by omega)) := by
      have e : DataW.trod enc Try.prog W 0 (fun _ => true) true k 3 ((([x0, x1, x2, x3, x4] : List Value).drop 2).take (Try.prog.cellsOf 3)) = xs[2]? := hf 2 _ rfl
      rw [List.getElem?_eq_getElem (show 2 < xs.length by omega), k_i] at e
      exact e
    have g3 : DataW.trod enc Try.prog W 0 (fun _ => true) true k 4 [x3] = some (xs[3]'(by omega)) := by
      have e : DataW.trod enc Try.prog W 0 (fun _ => true) true k 4 ((([x0, x1, x2, x3, x4] : List Value).drop 3).take (Try.prog.cellsOf 4)) = xs[3]? := hf 3 _ rfl
      rw [List.getElem?_eq_getElem (show 3 < xs.length by omega), k_b] at e
      exact e
    have g4 : DataW.trod enc Try.prog W 0 (fun _ => true) true k 29 [x4] = some (xs[4]'(by omega)) := by
      have e : DataW.trod enc Try.prog W 0 (fun _ => true) true k 29 ((([x0, x1, x2, x3, x4] : List Value).drop 4).take (Try.prog.cellsOf 29)) = xs[4]? := hf 4 _ rfl
      rw [List.getElem?_eq_getElem (show 4 < xs.length by omega), k_B] at e
      exact e
    obtain ⟨a0, e0, _, w0⟩ := DataW.trod_int Try.underlying3 g0
    have b0 := bounds_i64 w0
    obtain ⟨a1, e1, _, w1⟩ := DataW.trod_int Try.underlying3 g1
    have b1 := bounds_i64 w1
    obtain ⟨a2, e2, _, w2⟩ := DataW.trod_int Try.underlying3 g2
    have b2 := bounds_i64 w2
    obtain ⟨a3, e3, _⟩ := DataW.trod_bool Try.underlying4 g3
    obtain ⟨sa4, sn4, sc4, bs4, e4, l4, z4, m4, _⟩ := kind_cells_with (W := W) boolK (fun _ => True) trivial (by kernel_rfl) (fun n cs x h => by
      obtain ⟨b, e, _⟩ := DataW.trod_bool Try.underlying4 h
      exact ⟨b, e, trivial, trivial⟩) g4
    refine ⟨⟨a0, a1, a2, a3, sa4, sn4, sc4⟩, ?_, ⟨b0.1, b0.2, b1.1, b1.2, b2.1, b2.2⟩, l4, z4, bs4, m4⟩
    rw [List.singleton_inj.1 e0, List.singleton_inj.1 e1, List.singleton_inj.1 e2, List.singleton_inj.1 e3, List.singleton_inj.1 e4]; rfl
theorem open_act9 {v : Value} {d : DataW H} {p : List MemPlace} {b0 : Nat} (hval : Value.okWide Try.prog W .any b0 23 v) (h : DataW.Trod enc Try.prog W 0 (fun _ => true) true 23 v d p) :
    ∃ A n c ms, v = .slice A n c ∧ n ≤ c ∧ n ≤ 9223372036854775807 ∧ act9K.Lie W W.heap.size A n ms ∧ ∀ k, A9Own W (ms.getD k A9.zero) := by
  obtain ⟨a0, len, cap, rfl⟩ := okWide_slice act9K.under hval
  obtain ⟨fuel, hf⟩ := h
  obtain ⟨A, n, c, vs, e, h1, h2, h3, h4⟩ := kind_cells_with act9K (A9Own W) (ownA9_zero W) cellsA9 act9_cells hf
  simp [Value.cells] at e
  obtain ⟨rfl, rfl, rfl⟩ := e
  exact ⟨_, _, _, vs, rfl, h1, h2, h3, h4⟩
end
theorem act9_at {w : World} {B n : Nat} {A : Option Addr} {ms : List A9} (h : act9K.Lie w B A n ms) {k : Nat} (hk : k < n) : ∃ ad, A = some ad ∧ ad.block < B ∧ A9At w (ad.add (k * 5)) (ms.getD k A9.zero) := by
  obtain ⟨ad, e1, e2, e3⟩ := h.each k hk
  exact ⟨ad, e1, e2, act9At_of e3⟩
end Go.Proofs.Ytfhfjfgajbgdcaa
