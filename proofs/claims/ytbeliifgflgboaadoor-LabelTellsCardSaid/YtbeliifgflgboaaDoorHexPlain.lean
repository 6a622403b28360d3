/- Plain facts on the digits of a number to base 16: no program stands in it. -/
import Derived.Lib.MapLaws
set_option linter.unusedVariables false
set_option linter.unusedSimpArgs false
namespace Go.Proofs.YtbeliifgflgboaaDoor
open Go.Lib

def digs : ByteArray := ⟨#[48, 49, 50, 51, 52, 53, 54, 55, 56, 57, 97, 98, 99, 100, 101, 102, 103, 104, 105, 106, 107, 108, 109, 110, 111, 112, 113, 114, 115, 116, 117, 118, 119, 120, 121, 122]⟩
def dig (x : Nat) : UInt8 := digs.data.toList.getD x 0
def hexD : Nat → Nat → List UInt8 → List UInt8
  | 0, u, acc => dig u :: acc
  | f + 1, u, acc => if u < 16 then dig u :: acc else hexD f (u / 16) (dig (u % 16) :: acc)
def hexL (n : Nat) : List UInt8 := hexD 15 n []
def hexF (n : Nat) : List UInt8 := 48 :: 120 :: hexL n
structure HexInv (n f u : Nat) (acc : List UInt8) : Prop where
  same : hexD f u acc = hexL n
  small : u < 16 ^ (f + 1)
  len : f + acc.length = 15
theorem HexInv.start (n : Nat) (h : n < 18446744073709551616) : HexInv n 15 n [] := ⟨rfl, h, rfl⟩
theorem HexInv.step {n f u : Nat} {acc : List UInt8} (h : HexInv n f u acc) (h16 : 16 ≤ u) : ∃ g, f = g + 1 ∧ HexInv n g (u / 16) (dig (u % 16) :: acc) := by
  cases f with
  | zero =>
    have := h.small
    simp at this
    omega
  | succ g =>
    refine ⟨g, rfl, ?_, ?_, ?_⟩
    · have := h.same
      rw [hexD, if_neg (by omega)] at this
      exact this
    · have := h.small
      rw [Nat.pow_succ] at this
      omega
    · have := h.len
      simp
      omega
theorem HexInv.done {n f u : Nat} {acc : List UInt8} (h : HexInv n f u acc) (h16 : u < 16) : hexL n = dig u :: acc := by
  rw [← h.same]
  cases f with
  | zero => rfl
  | succ g => rw [hexD, if_pos h16]
theorem hexL_len (n : Nat) : (hexL n).length ≤ 16 := by
  have : ∀ f u acc, (hexD f u acc).length ≤ f + 1 + acc.length := by
    intro f
    induction f with
    | zero => intro u acc; simp [hexD]; omega
    | succ g ih =>
      intro u acc
      rw [hexD]
      split
      · simp
        omega
      · have := ih (u / 16) (dig (u % 16) :: acc)
        simp at this
        omega
  have := this 15 n []
  simpa [hexL] using this
end Go.Proofs.YtbeliifgflgboaaDoor
