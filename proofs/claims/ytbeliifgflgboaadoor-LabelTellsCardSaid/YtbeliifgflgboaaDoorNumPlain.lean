/- Plain facts on reading digits to base 16: no program stands in it but the model's word on bits. -/
import Derived.Test.YtbeliifgflgboaaDoorHexPlain
import Derived.Lib.Hide
import Derived.WalkKit
set_option linter.unusedVariables false
set_option linter.unusedSimpArgs false
namespace Go.Proofs.YtbeliifgflgboaaDoor
open Go.Lib

def hexV (c : UInt8) : Option Nat :=
  if 48 ≤ c.toNat ∧ c.toNat ≤ 57 then some (c.toNat - 48)
  else if 97 ≤ c.toNat ∧ c.toNat ≤ 102 then some (c.toNat - 87)
  else if 65 ≤ c.toNat ∧ c.toNat ≤ 70 then some (c.toNat - 55)
  else none
/- how a reading ends -/
inductive Rd where
  | ok (n : Nat)
  | bad
  | range
def rdTuple : Rd → Value
  | .ok n => .tuple #[.int .u64 n, .nilIface]
  | .bad => .tuple #[.int .u64 0, .iface 64 (.int .i64 2)]
  | .range => .tuple #[.int .u64 18446744073709551615, .iface 64 (.int .i64 1)]
def parse16 (acc : Nat) : List UInt8 → Rd
  | [] => .ok acc
  | c :: t => match hexV c with
    | none => .bad
    | some d => if 1152921504606846976 ≤ acc then .range else parse16 (acc * 16 + d) t

theorem low_fin : ∀ n : Fin 256, bits .or .u8 (n.val : Int) 32 = ((n.val ||| 32 : Nat) : Int) := by decide +kernel
theorem low_az : ∀ n : Fin 256, 97 ≤ n.val → n.val ≤ 102 → n.val ||| 32 = n.val := by decide +kernel
theorem low_AZ : ∀ n : Fin 256, 65 ≤ n.val → n.val ≤ 70 → n.val ||| 32 = n.val + 32 := by decide +kernel
theorem low_no : ∀ n : Fin 256, ¬ (97 ≤ n.val ∧ n.val ≤ 102) → ¬ (65 ≤ n.val ∧ n.val ≤ 70) → n.val ||| 32 < 97 ∨ 103 ≤ n.val ||| 32 := by decide +kernel
theorem low_lt : ∀ n : Fin 256, n.val ||| 32 < 256 := by decide +kernel
theorem lowV (c : UInt8) : bits .or .u8 (c.toNat : Int) 32 = ((c.toNat ||| 32 : Nat) : Int) := low_fin ⟨c.toNat, c.toNat_lt⟩
theorem lowV_az (c : UInt8) (h0 : 97 ≤ c.toNat) (h1 : c.toNat ≤ 102) : bits .or .u8 (c.toNat : Int) 32 = (c.toNat : Int) := by
  rw [lowV, low_az ⟨c.toNat, c.toNat_lt⟩ h0 h1]
theorem lowV_AZ (c : UInt8) (h0 : 65 ≤ c.toNat) (h1 : c.toNat ≤ 70) : bits .or .u8 (c.toNat : Int) 32 = (c.toNat : Int) + 32 := by
  rw [lowV, low_AZ ⟨c.toNat, c.toNat_lt⟩ h0 h1]
  rfl
theorem lowV_no (c : UInt8) (h0 : ¬ (97 ≤ c.toNat ∧ c.toNat ≤ 102)) (h1 : ¬ (65 ≤ c.toNat ∧ c.toNat ≤ 70)) : ∃ v : Int, bits .or .u8 (c.toNat : Int) 32 = v ∧ 0 ≤ v ∧ v < 256 ∧ (v < 97 ∨ 103 ≤ v) := by
  have h := low_no ⟨c.toNat, c.toNat_lt⟩ h0 h1
  have h2 := low_lt ⟨c.toNat, c.toNat_lt⟩
  simp only at h h2
  exact ⟨_, lowV c, by omega, by omega, by omega⟩
theorem hexV_lt {c : UInt8} {d : Nat} (h : hexV c = some d) : d < 16 := by
  unfold hexV at h
  split at h
  · injection h with h; omega
  · split at h
    · injection h with h; omega
    · split at h
      · injection h with h; omega
      · simp at h

theorem dig_fin : ∀ x : Fin 16, hexV (dig x.val) = some x.val := by decide +kernel
theorem hexV_dig (x : Nat) (h : x < 16) : hexV (dig x) = some x := dig_fin ⟨x, h⟩

/-- What is read of digits that stand behind others. -/
theorem parse16_hexD : ∀ (f u : Nat) (acc : List UInt8) (m : Nat), u < 16 ^ (f + 1) → u < 18446744073709551616 → parse16 0 (hexD f u acc) = parse16 u acc
  | 0, u, acc, m, h, h2 => by
    simp at h
    rw [hexD, parse16, hexV_dig u (by omega)]
    simp
  | f + 1, u, acc, m, h, h2 => by
    rw [hexD]
    split
    · rw [parse16, hexV_dig u (by omega)]
      simp
    · rw [Nat.pow_succ] at h
      rw [parse16_hexD f (u / 16) _ m (by omega) (by omega), parse16, hexV_dig (u % 16) (by omega)]
      simp only
      rw [if_neg (by omega)]
      congr 1
      omega
theorem parse16_hexL (n : Nat) (h : n < 18446744073709551616) : parse16 0 (hexL n) = .ok n := by
  unfold hexL
  rw [parse16_hexD 15 n [] 0 h h]
  rfl
theorem parse16_lt : ∀ (l : List UInt8) (acc u : Nat), acc < 18446744073709551616 → parse16 acc l = .ok u → u < 18446744073709551616
  | [], acc, u, h, e => by
    rw [parse16] at e
    injection e with e
    omega
  | c :: t, acc, u, h, e => by
    rw [parse16] at e
    cases hv : hexV c with
    | none => rw [hv] at e; simp at e
    | some d =>
      have hd := hexV_lt hv
      rw [hv] at e
      simp only at e
      split at e
      · simp at e
      · exact parse16_lt t _ u (by omega) e
end Go.Proofs.YtbeliifgflgboaaDoor
