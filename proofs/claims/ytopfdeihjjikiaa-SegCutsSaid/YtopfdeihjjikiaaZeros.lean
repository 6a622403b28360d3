/- append(row, make([]byte, k)...). Conditions: the row is not empty; at most 8000 bytes. -/
import Derived.Lib.AppendZerosOnto
import Derived.Test.YtopfdeihjjikiaaOwn
set_option linter.unusedVariables false
set_option linter.unusedSimpArgs false
namespace Go.Proofs.Ytopfdeihjjikiaa
open Go.RowKit

theorem zeroCells_one (k : Nat) : (Builtin.zeroCells #[.int .u8 0] k).toList = cellsOf (List.replicate k 0) := by
  apply List.ext_getElem
  · simp [cellsOf, Builtin.zeroCells]
  · intro i h1 h2
    simp [cellsOf, Builtin.zeroCells, Nat.mod_one]
theorem cellsOf_one (bs : List Nat) : ∀ u ∈ cellsOf bs, u.oneCell' = true := by
  intro u hu
  obtain ⟨b, _, rfl⟩ := List.mem_map.1 hu
  rfl
theorem rep_small (k : Nat) : ∀ j, (List.replicate k 0).getD j 0 < 256 := fun j => by
  rw [List.getD_eq_getElem?_getD, List.getElem?_replicate]; split <;> simp
/-- append(row, make([]byte, k)...), the row not empty. -/
theorem own_append_zeros {w W : World} {A : Option Addr} {n c k : Nat} {bs : List Nat} (hS : Below w.heap.size w W) (h : Own W w.heap.size A n c bs) (x : Int) (hx : x = (k : Int)) (h0 : 0 < n) (hnk : n + k ≤ 8000) :
    ∃ A2 c2 W2, (Builtin.append_ #[38, 3] 38 #[.slice A n c, .int .i64 x]).run Try.prog W = .ok (.slice A2 (n + k) c2) W2 ∧ Own W2 w.heap.size A2 (n + k) c2 (bs ++ List.replicate k 0) ∧ Below w.heap.size w W2 := by
  subst hx
  obtain ⟨i0, hi, hz0, hz1, hz2⟩ := info_parts info5
  have hsm := getD_append bs (List.replicate k 0) h.small (rep_small k)
  rcases h.row.2 with ⟨hv, hn0⟩ | ⟨g, cap, cur, hv, hbg, hg, hnc, hcm, hsz, ht⟩
  · omega
  · injection hv with e1 e2 e3
    subst e1 e3
    have hl : (cellsOf (bs ++ List.replicate k 0)).length = (n + k) * 1 := by unfold cellsOf; rw [List.length_map, List.length_append, List.length_replicate, h.len]; omega
    have hcl : cellsOf (bs ++ List.replicate k 0) = cellsOf bs ++ cellsOf (List.replicate k 0) := by unfold cellsOf; rw [List.map_append]
    have hlen := h.row.1
    have hrl : (cellsOf (List.replicate k 0)).length = k := by simp [cellsOf]
    have hw : IntKind.i64.wrap (k : Int) = k := by rw [IntKind.wrap_i64]; omega
    by_cases hroom : n + k ≤ c
    · have hst := run_storeCells_at Try.prog g n 5 (cellsOf (List.replicate k 0)) 0 cur W hg (by rw [hrl]; omega) (cellsOf_one _)
      simp only [Nat.add_zero] at hst
      refine ⟨some ⟨g, 0, none⟩, c, W.setRow g (cur.toList.take n ++ cellsOf (List.replicate k 0) ++ cur.toList.drop (n + (cellsOf (List.replicate k 0)).length)).toArray, ?_, ⟨⟨hl, .inr ⟨g, c, _, rfl, hbg, setRow_heap W g cur _ _ _ hg, hroom, hcm, ?_, ?_⟩⟩, hsm⟩, ?_⟩
      · have h48i : ¬ (281474976710656 < (k : Int)) := by omega
        have hneg : ¬ ((k : Int) < 0) := by omega
        by_cases hk : k = 0
        · subst hk
          have hst' : (storeCells ⟨g, n, none⟩ []).run Try.prog W = .ok () (W.setRow g (cur.toList.take n ++ [] ++ cur.toList.drop n).toArray) := by
            have := hst
            simpa [cellsOf] using this
          simp [Builtin.append_, run_underlying Try.underlying38, run_underlying Try.underlying3, sizeOf, typeInfo, zeroValue, hi, hz0, hz1, hz2, asInt, asIntOf, hroom, Addr.add_lit, IntKind.wrap_i64, cellsOf] at hst' ⊢
          simp [hst', show n ≤ c by omega]
        · have ez := zeroCells_one k
          simp only [Builtin.append_, run_underlying Try.underlying38, run_underlying Try.underlying3]
          simp [Builtin.append_, run_underlying Try.underlying38, run_underlying Try.underlying3, sizeOf, typeInfo, zeroValue, hi, hz0, hz1, hz2, asInt, asIntOf, hw, hneg, h48i, hk, hroom, Addr.add_lit, ez, hst, Value.cells]
      · simp only [List.size_toArray, List.length_append, List.length_take, List.length_drop, Array.length_toList]
        omega
      · have e1 : cur.toList.take n = cellsOf bs := by rw [← ht, Nat.mul_one]
        rw [show (List.toArray (cur.toList.take n ++ cellsOf (List.replicate k 0) ++ cur.toList.drop (n + (cellsOf (List.replicate k 0)).length))).toList = (cur.toList.take n ++ cellsOf (List.replicate k 0)) ++ cur.toList.drop (n + (cellsOf (List.replicate k 0)).length) from rfl, e1, ← hcl, ← hl]
        exact List.take_left
      · exact below_setRow hS hbg _
    · have holds := h.row.cells (g := g) rfl
      have hfo := run_firstCells_some (P := Try.prog) W.drew i0.size n ⟨g, 0, none⟩ n c (cellsOf bs) (by rw [hz1]; exact hlen) (by simpa using holds)
      have hr := Lib.run_append_grow_zeros (P := Try.prog) W 38 3 38 5 i0 _ .i64 .i64 Try.underlying38 Try.underlying3 hi hz0 (some ⟨g, 0, none⟩) n c (cellsOf bs) hfo k (by omega) (by omega) (by omega) (by omega) (by rw [hz2]; omega)
        (growslice_fits (by omega) (by rw [hz2]; omega))
      refine ⟨_, _, _, hr, ⟨⟨hl, .inr ⟨W.heap.size, _, _, rfl, hS.size, heap_alloc_new W.drew _, grownCap_ge W (n + k) c 5, grownCap_le_maxLen W (n + k) c 5 (by unfold maxLen; omega), ?_, ?_⟩⟩, hsm⟩, ?_⟩
      · simp only [Array.size_append, List.size_toArray, size_zeroCells]
        have := grownCap_ge W (n + k) c 5
        have e : (Value.int IntKind.u8 0).cells.size = 1 := rfl
        rw [hlen, e]
        omega
      · simp only [Array.toList_append]
        have e : (Value.int IntKind.u8 0).cells = #[.int .u8 0] := rfl
        rw [e, zeroCells_one, ← hcl, ← hl]
        exact List.take_left
      · exact (hS.drew).alloc hS.size _
end Go.Proofs.Ytopfdeihjjikiaa
