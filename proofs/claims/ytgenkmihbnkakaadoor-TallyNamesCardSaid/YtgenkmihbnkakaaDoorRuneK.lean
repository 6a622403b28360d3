/- Lists of runes as a kind of element; a row of them as text. No conditions. -/
import Derived.Test.YtgenkmihbnkakaaDoorKinds
import Derived.Test.YtgenkmihbnkakaaDoorLabelConv
set_option linter.unusedVariables false
set_option linter.unusedSimpArgs false
set_option maxRecDepth 20000
namespace Go.Proofs.YtgenkmihbnkakaaDoor
open Go.RowKit

theorem infoI32 : (Tryd.prog.info? 21).map (fun i => (i.zero, i.size, i.bytes)) = some (some (.int .i32 0), 1, 4) := by kernel_rfl
def runeK : Kind Int where
  T := 21
  L := 30
  k := 1
  cv := fun x => [.int .i32 x]
  wf := fun x => -2147483648 ≤ x ∧ x ≤ 2147483647
  dflt := 0
  len := fun v => rfl
  one := fun v u hu => by rw [List.mem_singleton.1 hu]; rfl
  pos := by decide
  ok := by decide
  under := Tryd.underlying30
  elem := by kernel_rfl
  info := by
    obtain ⟨i0, hi, hz0, hz1, hz2⟩ := info_parts infoI32
    exact ⟨i0, _, hi, hz0, hz1, by rw [hz2]; omega, rfl⟩
theorem rune_cells (vs : List Int) : runeK.cells vs = vs.map (Value.int .i32) := by
  induction vs with
  | nil => rfl
  | cons v r ih => rw [Kind.cells, ih]; rfl
theorem runeAt_of {w : World} {p : Addr} {x : Int} (h : runeK.At w p x) : w.cell? p = some (.int .i32 x) := by have := h 0 (.int .i32 x) rfl; rwa [add_none] at this
theorem rune_at {w : World} {B n : Nat} {A : Option Addr} {xs : List Int} (h : runeK.Lie w B A n xs) {k : Nat} (hk : k < n) : ∃ ad, A = some ad ∧ ad.block < B ∧ w.cell? (ad.add k) = some (.int .i32 (xs.getD k 0)) := by
  obtain ⟨ad, e1, e2, e3⟩ := h.each k hk
  have := runeAt_of (x := xs.getD k 0) e3
  rw [show k * runeK.k = k from Nat.mul_one k] at this
  exact ⟨ad, e1, e2, this⟩
/-- A row of the call's own that isn't empty: where it lies. -/
theorem rune_row {w : World} {base n c : Nat} {A : Option Addr} {vs : List Int} (h : runeK.Row w base A n c vs) (hn : 1 ≤ n) : ∃ g, A = some ⟨g, 0, none⟩ ∧ base ≤ g ∧ g < w.heap.size ∧ ∀ j, j < n → w.cell? ⟨g, j, none⟩ = some (.int .i32 (vs.getD j 0)) := by
  rcases h.row.2 with ⟨hv, h0⟩ | ⟨g, cap, cur, hv, hbg, hg, _⟩
  · omega
  · injection hv with e1 e2 e3
    refine ⟨g, e1, hbg, (Array.getElem?_eq_some_iff.1 hg).1, fun j hj => ?_⟩
    obtain ⟨ad, e4, _, e5⟩ := rune_at h.lie hj
    rw [e1] at e4
    obtain rfl := Option.some.inj e4
    rw [← e5]
    congr 1
    unfold Addr.add
    split
    · next h0 => simp_all
    · simp
theorem rune_mid (B n cap k : Nat) (hk : k < n) (hc : n ≤ cap) (W : World) : (Instr.slice 30 (.slice (some ⟨B, 0, none⟩) n cap) (some (.int .i64 (k : Int))) (some (.int .i64 ((k : Int) + 1))) none).run Tryd.prog W = .ok (.slice (some ⟨B, k, none⟩) 1 (cap - k)) W := by
  have h := runeK.slice_mid (some ⟨B, 0, none⟩) n cap k (k + 1) (Nat.le_succ k) (by omega) W
  rw [if_neg (by omega), show k + 1 - k = 1 by omega] at h
  rw [show ((k + 1 : Nat) : Int) = (k : Int) + 1 by omega] at h
  have e : (some (⟨B, 0, none⟩ : Addr)).map (·.add (k * runeK.k)) = some ⟨B, k, none⟩ := by
    rw [show k * runeK.k = k from Nat.mul_one k, Option.map_some]
    unfold Addr.add
    split
    · next h0 => simp_all
    · simp
  rw [e] at h
  exact h
end Go.Proofs.YtgenkmihbnkakaaDoor
