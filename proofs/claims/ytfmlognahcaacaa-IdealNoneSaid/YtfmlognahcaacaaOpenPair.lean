/- An order and a reply as arguments: their shapes. No conditions. -/
import Derived.Test.YtfmlognahcaacaaKindOpen
import Derived.Lib.SmallJoins
set_option linter.unusedVariables false
set_option linter.unusedSimpArgs false
set_option maxRecDepth 20000
namespace Go.Proofs.Ytfmlognahcaacaa
open Go.ChangeShapes Go.WideShapes Go.ChangeAt Go.RowKit Go.Lib Go.Deep

section
variable {H : Type} {enc : TypeId × Value → H} {W : World}
theorem slice_shape {sh : TypeId} {e : TypeId} (hs : Try.prog.underlying sh = some (.slice e)) {n : Nat} {v : Value} {x : DataW H × List MemPlace} (h : DataW.trod enc Try.prog W 0 (fun _ => true) true n sh [v] = some x) : ∃ A k c, v = .slice A k c := by
  rcases DataW.trod_slice hs h with ⟨hc, _⟩ | ⟨a, len, cap, _, _, _, _, hc, _⟩
  · exact ⟨none, 0, 0, by simpa [Value.cells] using hc⟩
  · exact ⟨some a, len, cap, by simpa [Value.cells] using hc⟩
theorem cellsOrd : Try.prog.cellsOf 32 = 4 := by kernel_rfl
theorem cellsRep : Try.prog.cellsOf 36 = 5 := by kernel_rfl
theorem open_order {v : Value} {d : DataW H} {p : List MemPlace} {b0 : Nat} (hval : Value.okWide Try.prog W .any b0 32 v) (h : DataW.Trod enc Try.prog W 0 (fun _ => true) true 32 v d p) :
    ∃ (k a : Int) (A : Option Addr) (n c : Nat) (m : Int), v = .agg #[.int .i64 k, .int .u64 a, .slice A n c, .int .i64 m] := by
  obtain ⟨v0, v1, v2, v3, y0, y1, y2, y3, n, rfl, _, _, h0, h1, h2, h3⟩ := Joins.open_agg4 Try.underlying32 (by kernel_rfl) cellsOrd hval h
  obtain ⟨k, e0, _, _⟩ := DataW.trod_int Try.underlying3 h0
  obtain ⟨a, e1, _, _⟩ := DataW.trod_int Try.underlying29 h1
  obtain ⟨A, j, c, rfl⟩ := slice_shape Try.underlying30 h2
  obtain ⟨m, e3, _, _⟩ := DataW.trod_int Try.underlying3 h3
  refine ⟨k, a, A, j, c, m, ?_⟩
  rw [List.singleton_inj.1 e0, List.singleton_inj.1 e1, List.singleton_inj.1 e3]
theorem open_reply {v : Value} {d : DataW H} {p : List MemPlace} {b0 : Nat} (hval : Value.okWide Try.prog W .any b0 36 v) (h : DataW.Trod enc Try.prog W 0 (fun _ => true) true 36 v d p) :
    ∃ (k e : Int) (A : Option Addr) (n c : Nat) (d : Bool) (Z : Option Addr) (zn zc : Nat), v = .agg #[.int .i64 k, .int .i64 e, .slice A n c, .bool d, .slice Z zn zc] := by
  obtain ⟨cs, rfl, hsz⟩ := okWide_struct Try.underlying36 hval
  have hl : cs.toList.length = 5 := by rw [Array.length_toList]; exact hsz.trans cellsRep
  obtain ⟨fuel, hf⟩ := h
  have k_i : Try.prog.cellsOf 3 = 1 := by kernel_rfl
  have k_e : Try.prog.cellsOf 33 = 1 := by kernel_rfl
  have k_s : Try.prog.cellsOf 30 = 1 := by kernel_rfl
  have k_b : Try.prog.cellsOf 4 = 1 := by kernel_rfl
  have k_w : Try.prog.cellsOf 34 = 1 := by kernel_rfl
  obtain ⟨xs, k, _, _, hl2, hxs, hf2⟩ := DataW.trod_struct Try.underlying36 hf
  replace hxs : xs.length = 5 := hxs
  rcases cs with ⟨cs⟩
  match cs, hl with
  | [x0, x1, x2, x3, x4], _ =>
    replace hf2 := hf2
    have g : ∀ (i : Nat) (t : TypeId) (x : Value), i < 5 → Try.prog.cellsOf t = 1 → (([x0, x1, x2, x3, x4] : List Value).drop i).take 1 = [x] → (DataW.trod enc Try.prog W 0 (fun _ => true) true k t ((([x0, x1, x2, x3, x4] : List Value).drop i).take (Try.prog.cellsOf t)) = xs[i]?) → ∃ y, DataW.trod enc Try.prog W 0 (fun _ => true) true k t [x] = some y := fun i t x hi ht hx hq => by
      rw [ht, hx, List.getElem?_eq_getElem (show i < xs.length by omega)] at hq
      exact ⟨_, hq⟩
    obtain ⟨y0, g0⟩ := g 0 3 x0 (by decide) k_i rfl (hf2 0 _ rfl)
    obtain ⟨y1, g1⟩ := g 1 33 x1 (by decide) k_e rfl (hf2 1 _ rfl)
    obtain ⟨y2, g2⟩ := g 2 30 x2 (by decide) k_s rfl (hf2 2 _ rfl)
    obtain ⟨y3, g3⟩ := g 3 4 x3 (by decide) k_b rfl (hf2 3 _ rfl)
    obtain ⟨y4, g4⟩ := g 4 34 x4 (by decide) k_w rfl (hf2 4 _ rfl)
    obtain ⟨a0, e0, _, _⟩ := DataW.trod_int Try.underlying3 g0
    obtain ⟨a1, e1, _, _⟩ := DataW.trod_int Try.underlying33 g1
    obtain ⟨A, n, c, rfl⟩ := slice_shape Try.underlying30 g2
    obtain ⟨d, e3, _⟩ := DataW.trod_bool Try.underlying4 g3
    obtain ⟨Z, zn, zc, rfl⟩ := slice_shape Try.underlying34 g4
    refine ⟨a0, a1, A, n, c, d, Z, zn, zc, ?_⟩
    rw [List.singleton_inj.1 e0, List.singleton_inj.1 e1, List.singleton_inj.1 e3]
end
end Go.Proofs.Ytfmlognahcaacaa
