/- victim.Block as a kind of element, in lists of the project's type. No conditions. -/
import Derived.Test.YtafnnpebdcnadaaKindOpen
set_option linter.unusedVariables false
set_option linter.unusedSimpArgs false
namespace Go.Proofs.Ytafnnpebdcnadaa
open Go.ChangeShapes Go.WideShapes Go.ChangeAt Go.RowKit Go.Lib Go.Deep

structure VB where
  id : Int
  cl : Int
  di : Int
  ot : Int
  we : Int
deriving DecidableEq
def VB.zero : VB := ⟨0, 0, 0, 0, 0⟩
structure VBWf (m : VB) : Prop where
  id_lo : -9223372036854775808 ≤ m.id
  id_hi : m.id ≤ 9223372036854775807
  cl_lo : -9223372036854775808 ≤ m.cl
  cl_hi : m.cl ≤ 9223372036854775807
  di_lo : -9223372036854775808 ≤ m.di
  di_hi : m.di ≤ 9223372036854775807
  ot_lo : -9223372036854775808 ≤ m.ot
  ot_hi : m.ot ≤ 9223372036854775807
  we_lo : -9223372036854775808 ≤ m.we
  we_hi : m.we ≤ 9223372036854775807
def vblkCells (m : VB) : List Value := [.int .i64 m.id, .int .i64 m.cl, .int .i64 m.di, .int .i64 m.ot, .int .i64 m.we]
def vblkV (m : VB) : Value := .agg #[.int .i64 m.id, .int .i64 m.cl, .int .i64 m.di, .int .i64 m.ot, .int .i64 m.we]
theorem infoVB : (Try.prog.info? 34).map (fun i => (i.zero, i.size, i.bytes)) = some (some (.agg #[.int .i64 0, .int .i64 0, .int .i64 0, .int .i64 0, .int .i64 0]), 5, 40) := by kernel_rfl
def vblkK : Kind VB where
  T := 34
  L := 22
  k := 5
  cv := vblkCells
  wf := VBWf
  dflt := VB.zero
  len := fun v => rfl
  one := fun v u hu => by
    simp only [vblkCells, List.mem_cons, List.not_mem_nil, or_false] at hu
    rcases hu with rfl | rfl | rfl | rfl | rfl <;> rfl
  pos := by decide
  ok := ⟨by decide, by decide, by decide, by decide, by decide, by decide, by decide, by decide, by decide, by decide⟩
  under := Try.underlying22
  elem := by kernel_rfl
  info := by
    obtain ⟨i0, hi, hz0, hz1, hz2⟩ := info_parts infoVB
    exact ⟨i0, _, hi, hz0, hz1, by rw [hz2]; omega, rfl⟩
/-- The cells, as a walk wants them. -/
structure VBAt (w : World) (p : Addr) (m : VB) : Prop where
  c0 : w.cell? p = some (.int .i64 m.id)
  c1 : w.cell? ⟨p.block, p.off + 1, none⟩ = some (.int .i64 m.cl)
  c2 : w.cell? ⟨p.block, p.off + 2, none⟩ = some (.int .i64 m.di)
  c3 : w.cell? ⟨p.block, p.off + 3, none⟩ = some (.int .i64 m.ot)
  c4 : w.cell? ⟨p.block, p.off + 4, none⟩ = some (.int .i64 m.we)
theorem vblkAt_of {w : World} {p : Addr} {m : VB} (h : vblkK.At w p m) : VBAt w p m :=
  ⟨by have := h 0 (.int .i64 m.id) rfl; rwa [add_none] at this, by have := h 1 (.int .i64 m.cl) rfl; rwa [add_at p 0] at this, by have := h 2 (.int .i64 m.di) rfl; rwa [add_at p 1] at this, by have := h 3 (.int .i64 m.ot) rfl; rwa [add_at p 2] at this, by have := h 4 (.int .i64 m.we) rfl; rwa [add_at p 3] at this⟩
theorem cellsVB : Try.prog.cellsOf 34 = 5 := by kernel_rfl
section
variable {H : Type} {enc : TypeId × Value → H} {W : World}
theorem vblk_cells (n : Nat) (cs : List Value) (x : DataW H × List MemPlace) (h : DataW.trod enc Try.prog W 0 (fun _ => true) true n 34 cs = some x) : ∃ m : VB, cs = vblkCells m ∧ VBWf m := by
  have k_i : Try.prog.cellsOf 3 = 1 := by kernel_rfl
  obtain ⟨xs, k, _, _, hl, hxs, hf⟩ := DataW.trod_struct Try.underlying34 h
  rw [cellsVB] at hl
  replace hxs : xs.length = 5 := hxs
  match cs, hl with
  | [x0, x1, x2, x3, x4], _ =>
    have g0 : DataW.trod enc Try.prog W 0 (fun _ => true) true k 3 [x0] = some (xs[0]'(by omega)) := by
      have e : DataW.trod enc Try.prog W 0 (fun _ => true) true k 3 ((([x0, x1, x2, x3, x4] : List Value).drop 0).take (Try.prog.cellsOf 3)) = xs[0]? := hf 0 _ rfl
      rw [List.getElem?_eq_getElem (show 0 < xs.length by omega), k_i] at e
      exact e
    have g1 : DataW.trod enc Try.prog W 0 (fun _ => true) true k 3 [x1] = some (xs[1]'(by omega)) := by
      have e : DataW.trod enc Try.prog W 0 (fun _ => true) true k 3 ((([x0, x1, x2, x3, x4] : List Value).drop 1).take (Try.prog.cellsOf 3)) = xs[1]? := hf 1 _ rfl
      rw [List.getElem?_eq_getElem (show 1 < xs.length by omega), k_i] at e
      exact e
    have g2 : DataW.trod enc Try.prog W 0 (fun _ => true) true k 3 [x2] = some (xs[2]'(by omega)) := by
      have e : DataW.trod enc Try.prog W 0 (fun _ => true) true k 3 ((([x0, x1, x2, x3, x4] : List Value).drop 2).take (Try.prog.cellsOf 3)) = xs[2]? := hf 2 _ rfl
      rw [List.getElem?_eq_getElem (show 2 < xs.length by omega), k_i] at e
      exact e
    have g3 : DataW.trod enc Try.prog W 0 (fun _ => true) true k 3 [x3] = some (xs[3]'(by omega)) := by
      have e : DataW.trod enc Try.prog W 0 (fun _ => true) true k 3 ((([x0, x1, x2, x3, x4] : List Value).drop 3).take (Try.prog.cellsOf 3)) = xs[3]? := hf 3 _ rfl
      rw [List.getElem?_eq_getElem (show 3 < xs.length by omega), k_i] at e
      exact e
    have g4 : DataW.trod enc Try.prog W 0 (fun _ => true) true k 3 [x4] = some (xs[4]'(by omega)) := by
      have e : DataW.trod enc Try.prog W 0 (fun _ => true) true k 3 ((([x0, x1, x2, x3, x4] : List Value).drop 4).take (Try.prog.cellsOf 3)) = xs[4]? := hf 4 _ rfl
      rw [List.getElem?_eq_getElem (show 4 < xs.length by omega), k_i] at e
      exact e
    obtain ⟨a0, e0, _, w0⟩ := DataW.trod_int Try.underlying3 g0
    have b0 := bounds_i64 w0
    obtain ⟨a1, e1, _, w1⟩ := DataW.trod_int Try.underlying3 g1
    have b1 := bounds_i64 w1
    obtain ⟨a2, e2, _, w2⟩ := DataW.trod_int Try.underlying3 g2
    have b2 := bounds_i64 w2
    obtain ⟨a3, e3, _, w3⟩ := DataW.trod_int Try.underlying3 g3
    have b3 := bounds_i64 w3
    obtain ⟨a4, e4, _, w4⟩ := DataW.trod_int Try.underlying3 g4
    have b4 := bounds_i64 w4
    refine ⟨⟨a0, a1, a2, a3, a4⟩, ?_, ⟨b0.1, b0.2, b1.1, b1.2, b2.1, b2.2, b3.1, b3.2, b4.1, b4.2⟩⟩
    rw [List.singleton_inj.1 e0, List.singleton_inj.1 e1, List.singleton_inj.1 e2, List.singleton_inj.1 e3, List.singleton_inj.1 e4]; rfl
theorem open_vblk {v : Value} {d : DataW H} {p : List MemPlace} {b0 : Nat} (hval : Value.okWide Try.prog W .any b0 22 v) (h : DataW.Trod enc Try.prog W 0 (fun _ => true) true 22 v d p) :
    ∃ A n c ms, v = .slice A n c ∧ n ≤ c ∧ n ≤ 9223372036854775807 ∧ vblkK.Lie W W.heap.size A n ms := open_kind vblkK cellsVB vblk_cells hval h
end
theorem vblk_at {w : World} {B n : Nat} {A : Option Addr} {ms : List VB} (h : vblkK.Lie w B A n ms) {k : Nat} (hk : k < n) : ∃ ad, A = some ad ∧ ad.block < B ∧ VBAt w (ad.add (k * 5)) (ms.getD k VB.zero) := by
  obtain ⟨ad, e1, e2, e3⟩ := h.each k hk
  exact ⟨ad, e1, e2, vblkAt_of e3⟩
end Go.Proofs.Ytafnnpebdcnadaa
