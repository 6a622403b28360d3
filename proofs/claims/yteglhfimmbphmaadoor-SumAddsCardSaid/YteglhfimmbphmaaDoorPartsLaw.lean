/- SumParts answers true, for all bytes and numbers: what its walk asks is shown. Conditions: what the two tables hold; the slice's cells. -/
import Derived.Test.YteglhfimmbphmaaDoorLawParts
import Derived.Test.YteglhfimmbphmaaDoorLawMores
set_option linter.unusedVariables false
set_option linter.unusedSimpArgs false
namespace Go.Proofs.YteglhfimmbphmaaDoor
open Go.RowKit

theorem elem24 : Tryd.prog.elem 24 = 5 := by kernel_rfl
theorem under24 : Tryd.prog.underlying 24 = some (.slice (Tryd.prog.elem 24)) := by rw [elem24]; exact Tryd.underlying24
theorem add_none (a : Addr) : a.add 0 = a := by unfold Addr.add; simp
theorem slice_to (A : Option Addr) (n c k : Nat) (hk : k ≤ n) (hc : n ≤ c) (W : World) :
    (Instr.slice 24 (.slice A n c) none (some (.int .i64 (k : Int))) none).run Tryd.prog W = .ok (.slice A k c) W := by
  obtain ⟨i0, hi, hz0, hz1, hz2⟩ := info_parts info5
  have h := run_slice_h (P := Tryd.prog) (w := W) 24 A n c under24 .i64 (k : Int) (by omega) (by omega)
  rw [h, elem24]
  cases A <;> simp [sizeOf, typeInfo, hi, hz1, sliced, add_none]
theorem slice_from (A : Option Addr) (n c k : Nat) (hk : k ≤ n) (W : World) :
    (Instr.slice 24 (.slice A n c) (some (.int .i64 (k : Int))) none none).run Tryd.prog W = .ok (.slice (if c = k then A else A.map (·.add (k * 1))) (n - k) (c - k)) W := by
  obtain ⟨i0, hi, hz0, hz1, hz2⟩ := info_parts info5
  have h := run_slice_l (P := Tryd.prog) (w := W) 24 A n c under24 .i64 (k : Int) (by omega) (by omega)
  rw [h, elem24]
  simp [sizeOf, typeInfo, hi, hz1, sliced]

theorem getD_take (bs : List Nat) (k j : Nat) (h : j < k) : (bs.take k).getD j 0 = bs.getD j 0 := by
  rw [List.getD_eq_getElem?_getD, List.getD_eq_getElem?_getD, List.getElem?_take_of_lt h]
theorem Bytes.first {w : World} {B : Nat} {A : Option Addr} {n : Nat} {bs : List Nat} (h : Bytes w B A n bs) {k : Nat} (hk : k ≤ n) : Bytes w B A k (bs.take k) :=
  ⟨by rw [List.length_take, h.len]; omega, fun j hj => by
    obtain ⟨ad, e1, e2, e3⟩ := h.lies j (by omega)
    exact ⟨ad, e1, e2, by rw [e3]; unfold byteAt; rw [getD_take _ _ _ hj]⟩,
   fun j => by
    by_cases hj : j < k
    · rw [getD_take _ _ _ hj]; exact h.small j
    · rw [List.getD_eq_getElem?_getD, List.getElem?_eq_none (by rw [List.length_take]; omega)]; simp⟩
theorem getD_drop (bs : List Nat) (k j : Nat) : (bs.drop k).getD j 0 = bs.getD (k + j) 0 := by
  rw [List.getD_eq_getElem?_getD, List.getD_eq_getElem?_getD, List.getElem?_drop]
theorem Bytes.rest {w : World} {B : Nat} {A : Option Addr} {n : Nat} {bs : List Nat} (h : Bytes w B A n bs) {k c : Nat} (hk : k ≤ n) (hc : n ≤ c) : Bytes w B (if c = k then A else A.map (·.add (k * 1))) (n - k) (bs.drop k) :=
  ⟨by rw [List.length_drop, h.len], (h.lies.behind hk hc).same fun j hj => by unfold byteAt; rw [getD_drop], fun j => by rw [getD_drop]; exact h.small _⟩

theorem parts_long (A : Option Addr) (n c : Nat) (x : Int) (w : World) (hT : Tabs w) (hn : n ≤ 9223372036854775807) (hl : 400 < n) :
    Calls Tryd.prog 4 #[.slice A n c, .int .i64 x] w fun e w' => e = .returned (.bool true) ∧ Below w.heap.size w w' := by
  have HT := Lib.hid hT
  clear hT
  go_enter Tryd.func4, Tryd.ntmps4
  go_wp2_with fail
  refine (awake_any _ HT.out).mono ?_
  rintro e w' ⟨rfl, hb⟩
  go_wp2_with fail
  go_ret
  exact ⟨rfl, hb⟩

/- the sum of slices of bytes that lie in a row at block g -/
theorem of_at {w W : World} (hS : Below w.heap.size w W) (hT : Tabs w) (g n : Nat) (c : Nat) (ps : List (List Nat)) (hl : ps.length = n) (hn : n ≤ 9223372036854775807)
    (h : ∀ k, k < n → ∃ A' n' c', W.cell? ⟨g, k, none⟩ = some (.slice A' n' c') ∧ n' ≤ 9223372036854775807 ∧ Bytes w w.heap.size A' n' (ps.getD k [])) :
    Calls Tryd.prog 11 #[.slice (some ⟨g, 0, none⟩) n c] W (Leaves w W (.int .u32 ((Crc.more 0#32 ps.flatten).toNat : Int))) := by
  have hp : Parts W W.heap.size (some ⟨g, 0, none⟩) n ps := ⟨hl, fun k hk => by
    obtain ⟨A', n', c', e1, e2, e3⟩ := h k hk
    exact ⟨_, A', n', c', rfl, (World.block_lt_of_cell? W ⟨g, k, none⟩ e1 : g < W.heap.size), by rw [add_zero_addr]; exact e1, e2, e3.since hS⟩⟩
  exact (of_since (some ⟨g, 0, none⟩) n c ps W hn (hT.since hS) hp).mono fun e w' ⟨he, hb⟩ => leaves_of hS he hb

theorem parts_law (A : Option Addr) (n c : Nat) (bs : List Nat) (x : Int) (hc : n ≤ c) (hn : n ≤ 9223372036854775807) (w : World) (hT : Tabs w) (hB : Bytes w w.heap.size A n bs) :
    Calls Tryd.prog 4 #[.slice A n c, .int .i64 x] w fun e w' => e = .returned (.bool true) ∧ Below w.heap.size w w' := by
  by_cases hl : 400 < n
  · exact parts_long A n c x w hT hn hl
  have hbd := lowM_bd x ((n : Int) + 1) (by omega)
  obtain ⟨k, hk, ek⟩ : ∃ k : Nat, k ≤ n ∧ lowM x ((n : Int) + 1) = k := ⟨(lowM x ((n : Int) + 1)).toNat, by omega, by omega⟩
  have hF := hB.first hk
  have hR := hB.rest hk hc
  refine parts_core A n c x w (by omega) ((Crc.more 0#32 (bs.take k)).toNat : Int) ((Crc.more 0#32 bs).toNat : Int) A (if c = k then A else A.map (·.add (k * 1))) k hk (fun W => slice_to A n c k hk hc W) (fun W => slice_from A n c k hk W)
    ?_ ?_ ?_ ?_ ?_ ?_ ?_
  · intro W
    have := low_any x ((n : Int) + 1) (by omega) (by omega) W
    rwa [ek] at this
  · intro W g hS hcell
    have := of_at hS hT g 1 1 [bs] rfl (by omega) fun j hj => by
      obtain rfl : j = 0 := by omega
      exact ⟨A, n, c, hcell, hn, hB⟩
    rw [show ([bs] : List (List Nat)).flatten = bs by simp] at this
    exact this
  · intro W g hS hcell
    have := of_at hS hT g 1 1 [bs.take k] rfl (by omega) fun j hj => by
      obtain rfl : j = 0 := by omega
      exact ⟨A, k, c, hcell, by omega, hF⟩
    rw [show ([bs.take k] : List (List Nat)).flatten = bs.take k by simp] at this
    exact this
  · intro W hS
    have := more_since ((Crc.more 0#32 (bs.take k)).toNat : Int) (Crc.more 0#32 (bs.take k)) (if c = k then A else A.map (·.add (k * 1))) (n - k) (c - k) (bs.drop k) W (by omega) (bv_le _) rfl (by omega) (hT.since hS) (hR.since hS)
    rw [← Crc.more_append, List.take_append_drop] at this
    exact this.mono fun e w' ⟨he, hb⟩ => leaves_of hS he hb
  · intro W g hS h0 h1 h2
    have := of_at hS hT g 3 3 [bs.take k, [], bs.drop k] rfl (by omega) fun j hj => by
      rcases (by omega : j = 0 ∨ j = 1 ∨ j = 2) with rfl | rfl | rfl
      · exact ⟨A, k, c, h0, by omega, hF⟩
      · exact ⟨none, 0, 0, h1, by omega, Bytes.none_⟩
      · exact ⟨_, _, _, h2, by omega, hR⟩
    rw [show ([bs.take k, [], bs.drop k] : List (List Nat)).flatten = bs by simp] at this
    exact this
  · intro W hS
    have := more_since 0 0#32 A n c bs W (by omega) (by omega) rfl (by omega) (hT.since hS) (hB.since hS)
    exact this.mono fun e w' ⟨he, hb⟩ => leaves_of hS he hb
  · intro W hS
    exact (awake_any W (hT.since hS)).mono fun e w' ⟨he, hb⟩ => leaves_of hS he hb
end Go.Proofs.YteglhfimmbphmaaDoor
