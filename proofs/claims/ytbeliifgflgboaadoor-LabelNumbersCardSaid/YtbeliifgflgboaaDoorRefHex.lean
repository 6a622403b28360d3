/- The contract of the document's own Hex (package sculleryref1): the same text as label.Hex's. Condition: the number is a uint64. -/
import Derived.Test.YtbeliifgflgboaaDoorHexMath
import Derived.Test.YtbeliifgflgboaaDoorHex

set_option linter.unusedVariables false
set_option linter.unusedSimpArgs false
namespace Go.Proofs.YtbeliifgflgboaaDoor
open Go.RowKit

/- what the loop has gathered before it looks at digit k - 1 -/
def preH (n k : Nat) : List UInt8 := if k = 0 then hexL n else if n / 16 ^ k = 0 then [] else hexL (n / 16 ^ k)
def d16 : ByteArray := ⟨#[48, 49, 50, 51, 52, 53, 54, 55, 56, 57, 97, 98, 99, 100, 101, 102]⟩
theorem d16_fin : ∀ d : Fin 16, (d16.extract d.val (d.val + 1)).data.toList = [dig d.val] := by decide +kernel
theorem preH_start (n : Nat) (h : n < 18446744073709551616) : preH n 16 = [] := by
  unfold preH
  rw [if_neg (by omega), if_pos]
  rw [Nat.div_eq_of_lt h]
theorem div_step (n k : Nat) : n / 16 ^ (k + 1) = n / 16 ^ k / 16 := by rw [Nat.pow_succ, Nat.div_div_eq_div_mul]
/- a digit is laid behind -/
theorem preH_add (n k : Nat) (h : n < 18446744073709551616) (hc : n / 16 ^ (k + 1) ≠ 0 ∨ n / 16 ^ k % 16 ≠ 0 ∨ k = 0) : preH n k = preH n (k + 1) ++ [dig (n / 16 ^ k % 16)] := by
  have hm : n / 16 ^ k ≤ n := Nat.div_le_self _ _
  have e : preH n k = hexL (n / 16 ^ k) := by
    unfold preH
    by_cases k0 : k = 0
    · subst k0
      simp
    · rw [if_neg k0, if_neg]
      intro z
      rw [div_step] at hc
      rw [z] at hc
      simp [k0] at hc
  rw [e]
  unfold preH
  rw [if_neg (by omega), div_step]
  by_cases hq : n / 16 ^ k / 16 = 0
  · have h16 : n / 16 ^ k < 16 := by
      generalize n / 16 ^ k = q at *
      omega
    rw [if_pos hq, hexL_small _ h16, Nat.mod_eq_of_lt h16]
    rfl
  · have h16 : 16 ≤ n / 16 ^ k := by
      generalize n / 16 ^ k = q at *
      omega
    rw [if_neg hq, hexL_snoc (n / 16 ^ k) h16 (by omega)]
theorem preH_skip (n k : Nat) (h1 : n / 16 ^ (k + 1) = 0) (h2 : n / 16 ^ k % 16 = 0) (h3 : k ≠ 0) : preH n (k + 1) = [] ∧ preH n k = [] := by
  have h4 : n / 16 ^ k = 0 := by
    rw [div_step] at h1
    generalize n / 16 ^ k = q at *
    omega
  unfold preH
  rw [if_neg (by omega), if_pos h1, if_neg h3, if_pos h4]
  exact ⟨rfl, rfl⟩
theorem preH_empty (n k : Nat) (h1 : n / 16 ^ (k + 1) = 0) : preH n (k + 1) = [] := by
  unfold preH
  rw [if_neg (by omega), if_pos h1]
theorem preH_full (n k : Nat) (h1 : n / 16 ^ (k + 1) ≠ 0) : preH n (k + 1) ≠ [] := by
  unfold preH
  rw [if_neg (by omega), if_neg h1]
  have := hexL_pos (n / 16 ^ (k + 1))
  intro e
  rw [e] at this
  simp at this

theorem slice_d16 (W : World) (d : Int) (h0 : 0 ≤ d) (h1 : d ≤ 15) : (Instr.slice 9 (.string ⟨#[48, 49, 50, 51, 52, 53, 54, 55, 56, 57, 97, 98, 99, 100, 101, 102]⟩) (some (.int .i64 d)) (some (.int .i64 (d + 1))) none).run Tryd.prog W = .ok (.string ((⟨#[48, 49, 50, 51, 52, 53, 54, 55, 56, 57, 97, 98, 99, 100, 101, 102]⟩ : ByteArray).extract d.toNat (d + 1).toNat)) W := by
  have hs : (⟨#[48, 49, 50, 51, 52, 53, 54, 55, 56, 57, 97, 98, 99, 100, 101, 102]⟩ : ByteArray).size = 16 := by decide +kernel
  exact run_slice_string W 9 _ .i64 .i64 d (d + 1) Tryd.underlying9 h0 (by omega) (by rw [hs]; omega)
theorem pow4 (m : Nat) : (2 : Int) ^ (4 * m) = ((16 ^ m : Nat) : Int) := by
  rw [Int.pow_mul, show (2 : Int) ^ 4 = 16 from rfl]
  simp

set_option maxHeartbeats 4000000 in
set_option maxRecDepth 100000 in
theorem refHex_any (n : Nat) (x : Int) (hx : x = n) (hn : n < 18446744073709551616) (w : World) :
    Calls Tryd.prog 26 #[.int .u64 x] w fun e w' => e = .returned (.string ⟨(hexF n).toArray⟩) ∧ w = w' := by
  have hx0 : 0 ≤ x := by omega
  have hx1 : x < 18446744073709551616 := by omega
  have HX := Lib.hid (⟨hx, hn⟩ : x = (n : Int) ∧ n < 18446744073709551616)
  clear hx hn
  go_enter Tryd.func26, Tryd.ntmps26
  go_wp2
  go_loop [3, 4] (fun vs vi => ∃ (k : Nat) (i : Int) (S : ByteArray), vs = .string S ∧ vi = .int .i64 i ∧ -1 ≤ i ∧ i ≤ 15 ∧ S.size ≤ 20 ∧ Hid (i = (k : Int) - 1 ∧ S.data.toList = preH n k))
    (fun _ vi => (intOf vi + 1).toNat)
  case atStart => exact ⟨16, 15, ⟨#[]⟩, rfl, rfl, by omega, by omega, by decide, Lib.hid ⟨by omega, (preH_start n HX.out.2).symm⟩⟩
  case round =>
    obtain ⟨k, i, S, rfl, rfl, hi0, hi1, hS, hh⟩ := hrel
    by_cases hi : 0 ≤ i
    · obtain ⟨hik, hSd⟩ := hh.out
      clear hh
      obtain ⟨m, rfl⟩ : ∃ m : Nat, k = m + 1 := ⟨k - 1, by omega⟩
      have him : i = (m : Int) := by omega
      have hle : n / 16 ^ m ≤ n := Nat.div_le_self _ _
      obtain ⟨y, hy⟩ : ∃ y : Int, y = ((n / 16 ^ m : Nat) : Int) := ⟨_, rfl⟩
      obtain ⟨d, hd⟩ : ∃ d : Int, d = ((n / 16 ^ m % 16 : Nat) : Int) := ⟨_, rfl⟩
      have hshr : x / 2 ^ (4 * i).toNat = y := by
        have e : (4 * i).toNat = 4 * m := by omega
        rw [e, pow4, HX.out.1, hy]
        exact (Int.natCast_ediv n (16 ^ m)).symm
      have hand : bits .and .u64 y 15 = d := by
        have := bits_and_u64_nat (n / 16 ^ m) 15 (by have := HX.out.2; omega) (by omega)
        rw [show ((15 : Nat) : Int) = 15 from rfl] at this
        rw [hy, this, hd, show (15 : Nat) = 2 ^ 4 - 1 from rfl, Nat.and_two_pow_sub_one_eq_mod]
      have key : wrap64 (bits .and .u64 (x / 2 ^ (4 * i).toNat) 15) = d := by
        rw [hshr, hand]
        exact IntWalk.wrap64_in d ⟨by omega, by omega⟩
      have HK := Lib.hid key
      clear key
      have hd0 : 0 ≤ d := by omega
      have hd1 : d ≤ 15 := by omega
      have HH := Lib.hid (⟨him, hSd, hy, hd⟩ : i = (m : Int) ∧ S.data.toList = preH n (m + 1) ∧ y = ((n / 16 ^ m : Nat) : Int) ∧ d = ((n / 16 ^ m % 16 : Nat) : Int))
      clear him hSd hy hd hik hle hshr hand
      by_cases hadd : n / 16 ^ (m + 1) ≠ 0 ∨ n / 16 ^ m % 16 ≠ 0 ∨ m = 0
      · have happ := preH_add n m HX.out.2 hadd
        have hex : (S ++ d16.extract d.toNat (d + 1).toNat).data.toList = preH n m := by
          obtain ⟨_, a2, _, a4⟩ := HH.out
          rw [ByteArray.data_append, Array.toList_append, happ, a2]
          congr 1
          have := d16_fin ⟨n / 16 ^ m % 16, Nat.mod_lt _ (by omega)⟩
          simp only at this
          rw [← this, show d.toNat = n / 16 ^ m % 16 by omega, show (d + 1).toNat = n / 16 ^ m % 16 + 1 by omega]
        have hsz : (S ++ d16.extract d.toNat (d + 1).toNat).size ≤ 20 := by
          rw [Lib.size_eq, hex]
          unfold preH
          have := hexL_len n
          split
          · omega
          · split
            · simp
            · have := hexL_len (n / 16 ^ m)
              omega
        have HN := Lib.hid (⟨by have := HH.out.1; omega, hex⟩ : i - 1 = (m : Int) - 1 ∧ (S ++ d16.extract d.toNat (d + 1).toNat).data.toList = preH n m)
        have hcase : (S = ⟨#[]⟩ ∧ d ≠ 0) ∨ (S = ⟨#[]⟩ ∧ d = 0 ∧ i = 0) ∨ S.toList ≠ [] := by
          by_cases q : n / 16 ^ (m + 1) = 0
          · have hS0 : S = ⟨#[]⟩ := by
              apply ByteArray.ext
              apply Array.toList_inj.1
              rw [HH.out.2.1, preH_empty n m q]
            obtain ⟨a1, _, _, a4⟩ := HH.out
            by_cases hd0' : d = 0
            · refine Or.inr (Or.inl ⟨hS0, hd0', ?_⟩)
              rcases hadd with h | h | h
              · exact absurd q h
              · omega
              · omega
            · exact Or.inl ⟨hS0, hd0'⟩
          · refine Or.inr (Or.inr ?_)
            rw [Lib.toList_data, HH.out.2.1]
            exact preH_full n m q
        have hi1' : i - 1 ≤ 15 := by omega
        clear HH hadd happ hex
        unfold d16 at HN hsz
        have hsl : ∀ W, (Instr.slice 9 (.string ⟨#[48, 49, 50, 51, 52, 53, 54, 55, 56, 57, 97, 98, 99, 100, 101, 102]⟩) (some (.int .i64 d)) (some (.int .i64 (d + 1))) none).run Tryd.prog W = .ok (.string ((⟨#[48, 49, 50, 51, 52, 53, 54, 55, 56, 57, 97, 98, 99, 100, 101, 102]⟩ : ByteArray).extract d.toNat (d + 1).toNat)) W := fun W => slice_d16 W d hd0 hd1
        rcases hcase with ⟨rfl, hdd⟩ | ⟨rfl, rfl, rfl⟩ | s1
        · generalize hD : (⟨#[48, 49, 50, 51, 52, 53, 54, 55, 56, 57, 97, 98, 99, 100, 101, 102]⟩ : ByteArray).extract d.toNat (d + 1).toNat = D at *
          have hdn : (d != 0) = true := by rw [bne_iff_ne]; exact hdd
          have hdn2 : (d == 0) = false := by rw [beq_eq_false_iff_ne]; exact hdd
          have hDs : D.size ≤ 20 := by rw [ByteArray.size_append] at hsz; omega
          clear hD hdd
          go_wp2_with (simp only [HK.out])
          go_round
          case rel => exact ⟨m, i - 1, ⟨#[]⟩ ++ D, rfl, rfl, by omega, hi1', hsz, HN⟩
          case measure => simp [intOf]; omega
        · have HK2 : Hid (wrap64 (bits .and .u64 x 15) = 0) := Lib.hid (by have := HK.out; simpa using this)
          clear HK hsl
          go_wp2_with (simp only [HK2.out])
          go_round
          case rel => exact ⟨m, 0 - 1, _, rfl, rfl, by omega, by omega, hsz, HN⟩
          case measure => simp [intOf]
        · generalize hD : (⟨#[48, 49, 50, 51, 52, 53, 54, 55, 56, 57, 97, 98, 99, 100, 101, 102]⟩ : ByteArray).extract d.toNat (d + 1).toNat = D at *
          have hDs : D.size ≤ 20 := by rw [ByteArray.size_append] at hsz; omega
          have s2 : S.toList.isEmpty = false := by cases hq : S.toList with | nil => exact absurd hq s1 | cons a b => rfl
          clear hD
          go_wp2_with (simp only [HK.out])
          go_round
          case rel => exact ⟨m, i - 1, S ++ D, rfl, rfl, by omega, hi1', hsz, HN⟩
          case measure => simp [intOf]; omega
      · obtain ⟨p1, p2⟩ := preH_skip n m (by omega) (by omega) (by omega)
        have hS0 : S = ⟨#[]⟩ := by
          apply ByteArray.ext
          apply Array.toList_inj.1
          rw [HH.out.2.1, p1]
        have hdz : d = 0 := by have := HH.out.2.2.2; omega
        have him0 : 0 < i := by have := HH.out.1; omega
        have HN := Lib.hid (⟨by have := HH.out.1; omega, by rw [p2]⟩ : i - 1 = (m : Int) - 1 ∧ (⟨#[]⟩ : ByteArray).data.toList = preH n m)
        subst hS0
        rw [hdz] at HK
        clear hdz hd0 hd1
        clear HH p1 p2 hadd
        go_wp2_with (simp only [HK.out])
        go_round
        case rel => exact ⟨m, i - 1, ⟨#[]⟩, rfl, rfl, by omega, by omega, by decide, HN⟩
        case measure => simp [intOf]; omega
    · have hm1 : i = -1 := by omega
      have hk0 : k = 0 := by have := hh.out.1; omega
      subst hk0 hm1
      have HE := Lib.hid hh.out.2
      clear hh
      go_wp2
      go_ret
      exact ⟨ret_str (by rw [ByteArray.data_append, Array.toList_append, HE.out]; rfl), rfl⟩
end Go.Proofs.YtbeliifgflgboaaDoor
