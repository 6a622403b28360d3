/- The contract of label.Hex: 0x and the digits. -/
import Derived.Test.YtbeliifgflgboaaDoorShelf
import Derived.Test.YtbeliifgflgboaaDoorHexPlain
import Derived.Lib.ItoaWalk
import Derived.WalkKit
import Derived.BigCall
import Derived.Lib.Hide
import Derived.Lib.TrailingZeros
set_option linter.unusedVariables false
set_option linter.unusedSimpArgs false
namespace Go.Proofs.YtbeliifgflgboaaDoor
open Go.RowKit Go.Lib

set_option maxRecDepth 100000 in
theorem tz64_16 (w : World) (hc : w.cell? ⟨4, 15, none⟩ = some (.int .u8 4)) :
    Calls Tryd.prog 69 #[.int .u64 16] w fun e w' => e = .returned (.int .i64 4) ∧ w = w' := by
  have key : IntKind.u64.wrap (bits BinOp.and IntKind.u64 16 (IntKind.u64.wrap (-16)) * 285870213051353865) / 288230376151711744 = 15 := by decide +kernel
  go_enter Tryd.func69, Tryd.ntmps69
  go_wp2_with (simp only [key])
  go_ret
  exact ⟨rfl, rfl⟩

set_option maxRecDepth 100000 in
theorem tz_16 (w : World) (hc : w.cell? ⟨4, 15, none⟩ = some (.int .u8 4)) :
    Calls Tryd.prog 66 #[.int .u64 16] w fun e w' => e = .returned (.int .i64 4) ∧ w = w' := by
  go_enter Tryd.func66, Tryd.ntmps66
  go_wp2_with (go_at_call 69; refine (tz64_16 _ (by assumption)).mono ?_; rintro e w' ⟨rfl, rfl⟩)
  go_ret
  exact ⟨rfl, rfl⟩

set_option maxRecDepth 100000 in
theorem pow2_16 (w : World) : Calls Tryd.prog 65 #[.int .i64 16] w fun e w' => e = .returned (.bool true) ∧ w = w' := by
  have key : bits BinOp.and IntKind.i64 16 15 = 0 := by decide +kernel
  go_enter Tryd.func65, Tryd.ntmps65
  go_wp2
  go_ret
  exact ⟨rfl, rfl⟩

def CellsAt (C : Array Value) (k : Nat) (acc : List UInt8) : Prop := C.size = 65 ∧ k + acc.length = 65 ∧ ∀ j (h : j < acc.length), C[k + j]? = some (.int .u8 (acc[j].toNat : Int))
theorem CellsAt.start : CellsAt Tryd.zeroCells81 65 [] := ⟨by kernel_rfl, rfl, fun j h => by simp at h⟩
theorem CellsAt.step {C : Array Value} {m : Nat} {acc : List UInt8} (h : CellsAt C (m + 1) acc) (x : UInt8) : CellsAt (C.setIfInBounds m (.int .u8 (x.toNat : Int))) m (x :: acc) := by
  obtain ⟨h1, h2, h3⟩ := h
  refine ⟨by simpa using h1, by simp; omega, fun j hj => ?_⟩
  cases j with
  | zero =>
    have hm : m < C.size := by omega
    simp [hm]
  | succ j =>
    have hj' : j < acc.length := by simpa using hj
    have := h3 j hj'
    rw [Array.getElem?_setIfInBounds_ne (by omega)]
    rw [show m + (j + 1) = m + 1 + j by omega, this]
    simp
theorem idx_digs (t : TypeId) (ht : Tryd.prog.underlying t = some .string) (k : IntKind) (z : Int) (i : Nat) (hz : z = (i : Int)) (hi : i < 36) (w : World) :
    (Instr.index t (.string digs) (.int k z)).run Tryd.prog w = .ok (.int .u8 ((dig i).toNat : Int)) w := by
  subst hz
  have hs : digs.size = 36 := by decide +kernel
  rw [run_index_string w t digs k _ ht, dif_pos ⟨by omega, by rw [hs]; omega⟩]
  have e : ((i : Int)).toNat = i := by omega
  simp only [e]
  congr 1
  unfold dig
  have hl : i < digs.data.toList.length := by rw [← Lib.size_eq, hs]; exact hi
  simp only [List.getD, List.getElem?_eq_getElem hl, Option.getD_some]
  rfl

theorem arr81 : Tryd.prog.arrayLen 81 = 65 := by kernel_rfl
theorem elem81 : Tryd.prog.elem 81 = 5 := by kernel_rfl
theorem und81 : Tryd.prog.underlying 81 = some (.array (Tryd.prog.arrayLen 81) (Tryd.prog.elem 81)) := by kernel_rfl
theorem add_at (b m j : Nat) : (⟨b, m, none⟩ : Addr).add j = ⟨b, m + j, none⟩ := by
  by_cases h : j = 0
  · subst h
    simp [Addr.add]
  · simp [Addr.add, h]
theorem slice_arr (W : World) (b m : Nat) (hm : m < 65) : (Instr.sliceAt 81 (.pointer (some ⟨b, 0, none⟩)) (some (.int .i64 (m : Int))) none none).run Tryd.prog W = .ok (.slice (some ⟨b, m, none⟩) (65 - m) (65 - m)) W := by
  rw [run_sliceAt_array_l W 81 ⟨b, 0, none⟩ und81 .i64 (m : Int) (by omega) (by rw [arr81]; omega), elem81, Tryd.sizeOf5 W, arr81]
  simp only [Result.andThen, slicedAt, Int.toNat_natCast]
  rw [if_neg (by omega)]
  rw [add_at]
  simp

set_option maxHeartbeats 4000000 in
set_option maxRecDepth 1000000 in
theorem formatBits_16 (n : Nat) (hn : n < 18446744073709551616) (w : World) (hc : w.cell? ⟨4, 15, none⟩ = some (.int .u8 4)) (h4 : 4 < w.heap.size) :
    Calls Tryd.prog 59 #[.slice none 0 0, .int .u64 n, .int .i64 16, .bool false, .bool false] w fun e w' => e = .returned (.tuple #[.slice none 0 0, .string ⟨(hexL n).toArray⟩]) ∧ Below w.heap.size w w' := by
  have hc' : (w.alloc (.cells Tryd.zeroCells81 81)).cell? ⟨4, 15, none⟩ = some (.int .u8 4) := (((Below.refl _ w).alloc (Nat.le_refl _) _).cell (p := ⟨4, 15, none⟩) h4).trans hc
  go_enter Tryd.func59, Tryd.ntmps59
  go_wp2_with fail
  refine (pow2_16 _).mono ?_
  rintro e w' ⟨rfl, rfl⟩
  go_wp2_with fail
  refine (tz_16 _ hc').mono ?_
  rintro e w' ⟨rfl, rfl⟩
  clear hc' hc
  go_wp2_with fail
  go_name_bytes DG hDG
  have eDG : DG = digs := by rw [← hDG]; rfl
  subst eDG
  clear hDG
  go_loopw [1, 13] (fun vu vi wr => ∃ (f u k : Nat) (a : Int) (acc : List UInt8) (C : Array Value), vu = .int .u64 a ∧ vi = .int .i64 k ∧ 50 ≤ k ∧ k ≤ 65 ∧ wr = w.alloc (.cells C 81) ∧ Hid (a = (u : Int) ∧ HexInv n f u acc ∧ CellsAt C k acc)) (fun vu _ _ => (RowKit.intOf vu).toNat)
  case atStart => exact ⟨15, n, 65, n, [], _, rfl, rfl, by omega, by omega, rfl, rfl, HexInv.start n hn, CellsAt.start⟩
  case round =>
    obtain ⟨f, u, k, a, acc, C, rfl, rfl, hk, hk2, rfl, HI⟩ := hrel
    have ha := HI.out.1
    have hsm := HI.out.2.1.small
    have hsz := HI.out.2.2.1
    have hu64 : u < 18446744073709551616 := by
      have hf := HI.out.2.1.len
      have h1 : 16 ^ (f + 1) ≤ 16 ^ 16 := Nat.pow_le_pow_right (by omega) (by omega)
      omega
    have a0 : 0 ≤ a := by omega
    have a1 : a < 18446744073709551616 := by omega
    obtain ⟨m, rfl⟩ : ∃ m, k = m + 1 := ⟨k - 1, by omega⟩
    have hcell : ∃ v, (w.alloc (.cells C 81)).cell? ⟨w.heap.size, m, none⟩ = some v := by
      rw [World.cell?_alloc_mark]
      exact ⟨C[m]'(by omega), Array.getElem?_eq_getElem _⟩
    obtain ⟨v0, hcell⟩ := hcell
    have hfz : (w.alloc (.cells C 81)).frozen? ⟨w.heap.size, m, none⟩ = false := World.frozen?_alloc_new w C 81 m
    by_cases h16 : 16 ≤ u
    · obtain ⟨g, rfl, hinv⟩ := HI.out.2.1.step h16
      have hand : bits .and .u64 a 15 = ((u % 16 : Nat) : Int) := by
        rw [ha]
        have := bits_and_u64_nat u 15 hu64 (by omega)
        rw [show ((15 : Nat) : Int) = 15 from rfl] at this
        rw [this, show (15 : Nat) = 2 ^ 4 - 1 from rfl, Nat.and_two_pow_sub_one_eq_mod]
      have hidx := idx_digs 9 Tryd.underlying9 .u64 _ (u % 16) hand (by omega)
      have hlen := hinv.len
      have HN : Hid (a / 16 = ((u / 16 : Nat) : Int) ∧ HexInv n g (u / 16) (dig (u % 16) :: acc) ∧ CellsAt (C.setIfInBounds m (.int .u8 ((dig (u % 16)).toNat : Int))) m (dig (u % 16) :: acc)) := Lib.hid ⟨by omega, hinv, HI.out.2.2.step _⟩
      have h16a : 16 ≤ a := by omega
      have hk3 := HI.out.2.2.2.1
      simp only [List.length_cons] at hlen
      have hm50 : 50 ≤ m := by omega
      generalize hdg : ((dig (u % 16)).toNat : Int) = dg at *
      have HA := Lib.hid hand
      clear hand hinv ha hsm hsz hu64 h16 hlen hk3 hdg hk
      go_wp2_with fail
      go_roundw
      case rel =>
        exact ⟨g, u / 16, m, a / 16, dig (u % 16) :: acc, _, rfl, rfl, hm50, by omega, rfl, HN⟩
      case measure =>
        simp [RowKit.intOf]; omega
    · have hdone := HI.out.2.1.done (by omega)
      have hidx := idx_digs 9 Tryd.underlying9 .u64 a u ha (by omega)
      unfold digs at hidx
      have HC := HI.out.2.2.step (dig u)
      have HD := Lib.hid hdone
      have h16a : a < 16 := by omega
      have hm65 : m < 65 := by omega
      have hsl : ∀ W, (Instr.sliceAt 81 (.pointer (some ⟨w.heap.size, 0, none⟩)) (some (.int .i64 (m : Int))) none none).run Tryd.prog W = .ok (.slice (some ⟨w.heap.size, m, none⟩) (65 - m) (65 - m)) W := fun W => slice_arr W w.heap.size m hm65
      have hcv : (convert 43 9 (.slice (some ⟨w.heap.size, m, none⟩) (65 - m) (65 - m))).run Tryd.prog (w.alloc (.cells (C.setIfInBounds m (.int .u8 ((dig u).toNat : Int))) 81)) = .ok (.string ⟨(hexL n).toArray⟩) (w.alloc (.cells (C.setIfInBounds m (.int .u8 ((dig u).toNat : Int))) 81)) := by
        rw [HD.out]
        have hl : 65 - m = (dig u :: acc).length := by have := HC.2.1; omega
        have := run_convert_bytes_back (P := Tryd.prog) (w.alloc (.cells (C.setIfInBounds m (.int .u8 ((dig u).toNat : Int))) 81)) 43 9 5 ⟨w.heap.size, m, none⟩ (65 - m) (dig u :: acc) Tryd.underlying43 Tryd.underlying5 Tryd.underlying9 (fun j hj => by
          rw [← HC.2.2 j hj, add_at]
          exact World.cell?_alloc_mark w _ 81 (0, 0) (m + j))
        rw [← hl] at this
        exact this
      generalize hdg : ((dig u).toNat : Int) = dg at *
      clear hdone ha hsm hsz hu64 h16 hdg HC
      generalize hxl : hexL n = hx at *
      go_wp2_with fail
      go_ret2
      exact ⟨rfl, (Below.refl _ w).alloc (Nat.le_refl _) _⟩

set_option maxRecDepth 100000 in
theorem formatUintIn_16 (n : Nat) (hn : n < 18446744073709551616) (w : World) (hc : w.cell? ⟨4, 15, none⟩ = some (.int .u8 4)) (h4 : 4 < w.heap.size) :
    Calls Tryd.prog 46 #[.int .u64 n, .int .i64 16] w fun e w' => e = .returned (.string ⟨(hexL n).toArray⟩) ∧ Below w.heap.size w w' := by
  go_enter Tryd.func46, Tryd.ntmps46
  go_wp2_with fail
  refine (formatBits_16 n hn _ hc h4).mono ?_
  rintro e W1 ⟨rfl, hb1⟩
  go_wp2_with fail
  go_ret
  exact ⟨rfl, hb1⟩
set_option maxRecDepth 100000 in
theorem formatUint_16 (n : Nat) (hn : n < 18446744073709551616) (w : World) (hc : w.cell? ⟨4, 15, none⟩ = some (.int .u8 4)) (h4 : 4 < w.heap.size) :
    Calls Tryd.prog 39 #[.int .u64 n, .int .i64 16] w fun e w' => e = .returned (.string ⟨(hexL n).toArray⟩) ∧ Below w.heap.size w w' := by
  go_enter Tryd.func39, Tryd.ntmps39
  go_wp2_with fail
  refine (formatUintIn_16 n hn _ hc h4).mono ?_
  rintro e W1 ⟨rfl, hb1⟩
  go_wp2_with fail
  go_ret
  exact ⟨rfl, hb1⟩
theorem ret_str {a : ByteArray} {b : List UInt8} (h : a.data.toList = b) : Ending.returned (.string a) = .returned (.string ⟨b.toArray⟩) := by
  rw [← h]
set_option maxRecDepth 100000 in
theorem hex_any (n : Nat) (hn : n < 18446744073709551616) (w : World) (hc : w.cell? ⟨4, 15, none⟩ = some (.int .u8 4)) (h4 : 4 < w.heap.size) :
    Calls Tryd.prog 25 #[.int .u64 n] w fun e w' => e = .returned (.string ⟨(hexF n).toArray⟩) ∧ Below w.heap.size w w' := by
  have hl := hexL_len n
  go_enter Tryd.func25, Tryd.ntmps25
  go_wp2_with fail
  refine (formatUint_16 n hn _ hc h4).mono ?_
  rintro e W1 ⟨rfl, hb1⟩
  go_wp2_with fail
  go_ret
  exact ⟨ret_str (by rw [ByteArray.data_append, Array.toList_append]; rfl), hb1⟩
end Go.Proofs.YtbeliifgflgboaaDoor
