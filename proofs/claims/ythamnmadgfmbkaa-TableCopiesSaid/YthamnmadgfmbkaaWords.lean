/- Slices of numbers of 64 bits; the argument opened. No conditions. -/
import Derived.Test.YthamnmadgfmbkaaOwn
import Derived.Test.YthamnmadgfmbkaaOpen
set_option linter.unusedVariables false
set_option linter.unusedSimpArgs false
namespace Go.Proofs.Ythamnmadgfmbkaa
open Go.ChangeShapes Go.WideShapes Go.ChangeAt Go.RowKit Go.Lib

structure Words (w : World) (B : Nat) (A : Option Addr) (n : Nat) (ws : List Nat) : Prop where
  len : ws.length = n
  lies : Lies w B A n fun k => .int .u64 ((ws.getD k 0 : Nat) : Int)
  small : ∀ k, ws.getD k 0 < 18446744073709551616
section
variable {w w' : World} {B B' n : Nat} {A : Option Addr} {ws : List Nat}
theorem Words.at_ {k : Nat} (h : Words w B A n ws) (hk : k < n) : ∃ ad, A = some ad ∧ ad.block < B ∧ w.cell? (ad.add k) = some (.int .u64 ((ws.getD k 0 : Nat) : Int)) := h.lies k hk
theorem Words.below (h : Words w B A n ws) (hb : Below B w w') : Words w' B A n ws := ⟨h.len, h.lies.below hb, h.small⟩
theorem Words.wider (h : Words w B A n ws) (hB : B ≤ B') : Words w B' A n ws := ⟨h.len, h.lies.wider hB, h.small⟩
theorem Words.none_ : Words w B A 0 [] := ⟨rfl, Lies.zero, fun k => by simp⟩
end
theorem Words.since {w w' : World} {A : Option Addr} {n : Nat} {ws : List Nat} (h : Words w w.heap.size A n ws) (hb : Below w.heap.size w w') : Words w' w'.heap.size A n ws := (h.below hb).wider hb.size
theorem cellsW : Try.prog.cellsOf 30 = 1 := by kernel_rfl
theorem range_u64 {zs : List Int} (hwf : ∀ z ∈ zs, (Lit.int .u64 z).wf = true) (j : Nat) : 0 ≤ zs.getD j 0 ∧ zs.getD j 0 < 18446744073709551616 := by
  rw [List.getD_eq_getElem?_getD]
  cases h : zs[j]? with
  | none => simp
  | some z =>
    have := bounds_u64 (hwf z (List.mem_of_getElem? h))
    simp only [Option.getD_some]
    omega
theorem words_open {W : World} {A : Option Addr} {n : Nat} {zs : List Int} (hz : n ≤ zs.length) (hwf : ∀ z ∈ zs, (Lit.int .u64 z).wf = true) (hc : ∀ j, j < n → ∃ ad, A = some ad ∧ W.cell? (ad.add j) = some (.int .u64 (zs.getD j 0))) :
    Words W W.heap.size A n ((zs.take n).map Int.toNat) := by
  have hat : ∀ j, j < n → (((zs.take n).map Int.toNat).getD j 0 : Nat) = (zs.getD j 0).toNat := by
    intro j hj
    rw [List.getD_eq_getElem?_getD, List.getD_eq_getElem?_getD, List.getElem?_map, List.getElem?_take_of_lt hj, List.getElem?_eq_getElem (show j < zs.length by omega)]
    rfl
  refine ⟨by rw [List.length_map, List.length_take_of_le hz], fun j hj => ?_, fun j => ?_⟩
  · obtain ⟨ad, e, hcell⟩ := hc j hj
    refine ⟨ad, e, ?_, ?_⟩
    · have := World.block_lt_of_cell? W _ hcell
      rwa [addr_block] at this
    · rw [hcell]
      show _ = some (Value.int .u64 _)
      rw [hat j hj]
      have hb := range_u64 hwf j
      congr 2
      omega
  · by_cases hj : j < n
    · rw [hat j hj]
      have hb := range_u64 hwf j
      omega
    · rw [List.getD_eq_getElem?_getD, List.getElem?_eq_none (by rw [List.length_map, List.length_take]; omega)]
      simp
theorem open_words {H : Type} {enc : TypeId × Value → H} {W : World} {v : Value} {d : DataW H} {p : List MemPlace} {b0 : Nat} (hval : Value.okWide Try.prog W .any b0 48 v) (h : DataW.Trod enc Try.prog W 0 (fun _ => true) true 48 v d p) :
    ∃ A n c ws, v = .slice A n c ∧ n ≤ c ∧ n ≤ 9223372036854775807 ∧ Words W W.heap.size A n ws := by
  obtain ⟨a0, len, cap, rfl⟩ := okWide_slice Try.underlying48 hval
  obtain ⟨fuel, hf⟩ := h
  rcases open_ints Try.underlying48 Try.underlying30 cellsW hf with ⟨hcs, hx⟩ | ⟨a, len', cap', zs, hcs, _, hl, hm, hz, hx, hcell, hwz⟩
  · simp [Value.cells] at hcs
    obtain ⟨rfl, rfl, rfl⟩ := hcs
    exact ⟨_, _, _, [], rfl, Nat.le_refl _, by omega, Words.none_⟩
  · simp [Value.cells] at hcs
    obtain ⟨rfl, rfl, rfl⟩ := hcs
    simp only [if_true] at hz
    exact ⟨_, _, _, _, rfl, hl, by unfold maxLen at hm; omega, words_open (by omega) hwz fun j hj => ⟨a, rfl, hcell j (by omega)⟩⟩
end Go.Proofs.Ythamnmadgfmbkaa
