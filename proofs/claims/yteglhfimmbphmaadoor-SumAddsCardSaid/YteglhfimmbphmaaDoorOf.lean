/- The contract of sum.Of: the sum of bytes in parts. Conditions: what the two tables hold; the parts' bytes. -/
import Derived.Test.YteglhfimmbphmaaDoorMore
set_option linter.unusedVariables false
set_option linter.unusedSimpArgs false
namespace Go.Proofs.YteglhfimmbphmaaDoor
open Go.RowKit

/-- A slice of slices of bytes. -/
structure Parts (w : World) (B : Nat) (A : Option Addr) (n : Nat) (ps : List (List Nat)) : Prop where
  len : ps.length = n
  each : ∀ k, k < n → ∃ ad A' n' c', A = some ad ∧ ad.block < B ∧ w.cell? (ad.add k) = some (.slice A' n' c') ∧ n' ≤ 9223372036854775807 ∧ Bytes w B A' n' (ps.getD k [])
theorem Parts.none_ {w : World} {B : Nat} {A : Option Addr} : Parts w B A 0 [] := ⟨rfl, fun k hk => absurd hk (Nat.not_lt_zero k)⟩
theorem Parts.below {w w' : World} {B n : Nat} {A : Option Addr} {ps : List (List Nat)} (h : Parts w B A n ps) (hb : Below B w w') : Parts w' B A n ps :=
  ⟨h.len, fun k hk => by
    obtain ⟨ad, A', n', c', e1, e2, e3, e4, e5⟩ := h.each k hk
    exact ⟨ad, A', n', c', e1, e2, (hb.cell (p := ad.add k) (by rw [addr_block]; exact e2)).trans e3, e4, e5.below hb⟩⟩
theorem Parts.wider {w : World} {B B' n : Nat} {A : Option Addr} {ps : List (List Nat)} (h : Parts w B A n ps) (hB : B ≤ B') : Parts w B' A n ps :=
  ⟨h.len, fun k hk => by
    obtain ⟨ad, A', n', c', e1, e2, e3, e4, e5⟩ := h.each k hk
    exact ⟨ad, A', n', c', e1, Nat.lt_of_lt_of_le e2 hB, e3, e4, e5.wider hB⟩⟩
theorem Parts.drewN {w : World} {B n : Nat} {A : Option Addr} {ps : List (List Nat)} (h : Parts w B A n ps) (m : Nat) : Parts (w.drewN m) B A n ps :=
  ⟨h.len, fun k hk => by
    obtain ⟨ad, A', n', c', e1, e2, e3, e4, e5⟩ := h.each k hk
    exact ⟨ad, A', n', c', e1, e2, e3, e4, e5.drewN m⟩⟩

theorem bv_le (x : BitVec 32) : ((x.toNat : Nat) : Int) ≤ 4294967295 := by have := x.isLt; omega
theorem flat_snoc (ps : List (List Nat)) (k : Nat) (h : k < ps.length) : (ps.take (k + 1)).flatten = (ps.take k).flatten ++ ps.getD k [] := by
  rw [List.take_succ_eq_append_getElem h, List.flatten_append, List.getD_eq_getElem?_getD, List.getElem?_eq_getElem h]
  simp
theorem more_snoc (s : BitVec 32) (ps : List (List Nat)) (k : Nat) (h : k < ps.length) : Crc.more s (ps.take (k + 1)).flatten = Crc.more (Crc.more s (ps.take k).flatten) (ps.getD k []) := by
  rw [flat_snoc _ _ h, Crc.more_append]

set_option maxHeartbeats 1000000 in
theorem of_any (A : Option Addr) (n c : Nat) (ps : List (List Nat)) (w : World) (hn : n ≤ 9223372036854775807) (hT : Tabs w) (hA : Parts w w.heap.size A n ps) :
    Calls Tryd.prog 11 #[.slice A n c] w fun e w' => e = .returned (.int .u32 ((Crc.more 0#32 ps.flatten).toNat : Int)) ∧ ∃ m, w' = w.drewN m := by
  have HT := Lib.hid hT
  have HA := Lib.hid hA
  clear hT hA
  go_enter Tryd.func11, Tryd.ntmps11
  go_wp2
  go_loopw [3, 8] (fun t3 t8 wr => ∃ (k m : Nat) (r : Int), k ≤ n ∧ t8 = .int .i64 k ∧ wr = w.drewN m ∧ t3 = .int .u32 r ∧ 0 ≤ r ∧ r ≤ 4294967295 ∧ Hid (r = (((Crc.more 0#32 (ps.take k).flatten).toNat : Nat) : Int))) (fun _ t8 _ => n - (intOf t8).toNat)
  case atStart => exact ⟨0, 0, 0, Nat.zero_le _, rfl, rfl, rfl, by omega, by omega, by simp only [List.take_zero, List.flatten_nil, Crc.more_nil]; rfl⟩
  case round =>
    obtain ⟨k, m, r, hk, rfl, rfl, rfl, hr0, hr1, HR⟩ := hrel
    by_cases hlt : k < n
    · obtain ⟨ad, A', n', c', hA, hblk, hcell, hn', hB⟩ := HA.out.each k hlt
      have HB := Lib.hid hB
      clear hB
      subst hA
      have hlen := HA.out.len
      have HN : Hid (Crc.more 0#32 (ps.take (k + 1)).flatten = Crc.more (Crc.more 0#32 (ps.take k).flatten) (ps.getD k [])) := more_snoc _ _ _ (by omega)
      clear hlen
      go_wp2_with fail
      refine (more_int r (Crc.more 0#32 (ps.take k).flatten) A' n' c' (ps.getD k []) _ hr0 hr1 HR hn' (HT.out.drewN m) (HB.out.drewN m)).mono ?_
      rintro e w' ⟨rfl, m', hw⟩
      obtain rfl : w' = (w.drewN m).drewN m' := hw
      clear hcell
      go_wp2_with fail
      go_roundw
      case rel =>
        exact ⟨k + 1, m + m', _, by omega, by go_num, by go_simp, rfl, by omega, bv_le _, by rw [HN.out]; rfl⟩
      case measure => simp [intOf]; omega
    · have hlen := HA.out.len
      have ht : ps.take k = ps := List.take_of_length_le (by omega)
      rw [ht] at HR
      clear ht hlen
      go_wp2
      go_ret
      exact ⟨ret_int HR.out, _, rfl⟩
end Go.Proofs.YteglhfimmbphmaaDoor
