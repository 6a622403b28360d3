/- The contract of pack.Unfix. Conditions: the slice's cells; at most 900 bytes. -/
import Derived.Test.YtaocppgekinocaaPack
set_option linter.unusedVariables false
set_option linter.unusedSimpArgs false
namespace Go.Proofs.Ytaocppgekinocaa
open Go.RowKit

theorem or_byte {y z : Int} {u b j : Nat} (HY : y = (u : Int)) (HZ : (b : Int) = z) (hu : u < 256 ^ j) (hj : j ≤ 7) (hb : b < 256) :
    bits .or .u64 (IntKind.u64.wrap (y * 256)) z = ((u * 256 + b : Nat) : Int) ∧ u * 256 + b < 18446744073709551616 := by
  have h8 : u < 72057594037927936 := Nat.lt_of_lt_of_le hu (Nat.le_trans (Nat.pow_le_pow_right (by omega) hj) (by decide))
  refine ⟨?_, by omega⟩
  rw [wrap_lit (by omega) (by omega), HY, ← HZ, show ((u : Int) * 256) = ((u * 256 : Nat) : Int) by omega, u64_or_nat _ _ (by omega) (by omega)]
  congr 1
  exact nat_join 8 (u * 256) b (Nat.mul_mod_left _ _) hb
/-- What Unfix answers. -/
def unfixO (bs : List Nat) (n : Nat) (m : Int) : Option (Nat × List Nat) := if 0 ≤ m ∧ m ≤ 8 ∧ m ≤ n then some (Pk.unfix (bs.take m.toNat), bs.drop m.toNat) else none
theorem unfixO_yes {bs : List Nat} {n k : Nat} (hk : k ≤ 8) (hn : k ≤ n) : unfixO bs n (k : Int) = some (Pk.unfix (bs.take k), bs.drop k) := by
  unfold unfixO
  rw [if_pos (by omega), Int.toNat_natCast]
theorem unfixO_no {bs : List Nat} {n : Nat} {m : Int} (h : ¬(0 ≤ m ∧ m ≤ 8 ∧ m ≤ n)) : unfixO bs n m = none := if_neg h
theorem take_succ_getD {bs : List Nat} {k : Nat} (h : k < bs.length) : bs.take (k + 1) = bs.take k ++ [bs.getD k 0] := by
  rw [List.take_add_one, List.getD_eq_getElem?_getD, List.getElem?_eq_getElem h]; rfl
end Go.Proofs.Ytaocppgekinocaa
