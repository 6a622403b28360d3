/- LabelNumbers, walked: whatever the number and the text, it answers true. Condition: what the listed variables hold. -/
import Derived.Test.YtbeliifgflgboaaDoorRefNum
import Derived.Test.YtbeliifgflgboaaDoorLawHexes
set_option linter.unusedVariables false
set_option linter.unusedSimpArgs false
namespace Go.Proofs.YtbeliifgflgboaaDoor
open Go.RowKit

theorem or_nat (a d : Nat) (ha : a < 1152921504606846976) (hd : d < 16) : bits .or .u64 (IntKind.u64.wrap ((a : Int) * 16)) (d : Int) = ((a * 16 + d : Nat) : Int) := by
  have hw : IntKind.u64.wrap ((a : Int) * 16) = ((a * 16 : Nat) : Int) := by rw [IntKind.wrap_u64]; omega
  rw [hw]
  have e : (a * 16 ||| d) = a * 16 + d := by
    have := Nat.two_pow_add_eq_or_of_lt (i := 4) (b := d) (by simpa using hd) a
    rw [show (2 : Nat) ^ 4 = 16 from rfl] at this
    rw [Nat.mul_comm a 16]
    exact this.symm
  have h1 : (BitVec.ofInt 64 ((a * 16 : Nat) : Int)).toNat = a * 16 := by
    rw [BitVec.ofInt_natCast, BitVec.toNat_ofNat]; exact Nat.mod_eq_of_lt (by omega)
  have h2 : (BitVec.ofInt 64 (d : Int)).toNat = d := by
    rw [BitVec.ofInt_natCast, BitVec.toNat_ofNat]; exact Nat.mod_eq_of_lt (by omega)
  show IntKind.u64.wrap ((BitVec.ofInt 64 ((a * 16 : Nat) : Int) ||| BitVec.ofInt 64 (d : Int)).toNat : Int) = _
  rw [BitVec.toNat_or, h1, h2, e, IntKind.wrap_u64]
  omega
theorem dig_shape : ∀ d : Fin 16, (d.val < 10 ∧ (dig d.val).toNat = 48 + d.val) ∨ (10 ≤ d.val ∧ (dig d.val).toNat = 87 + d.val) := by decide +kernel
theorem stepV_dig (a d : Nat) (ha : a < 1152921504606846976) (hd : d < 16) : stepV (a : Int) (dig d) = ((a * 16 + d : Nat) : Int) := by
  rcases dig_shape ⟨d, hd⟩ with ⟨h, e⟩ | ⟨h, e⟩
  · simp only at h e
    unfold stepV
    rw [if_pos (by omega), ← or_nat a d ha hd]
    unfold shl4
    congr 1
    omega
  · simp only at h e
    unfold stepV
    rw [if_neg (by omega), if_pos (by omega), ← or_nat a d ha hd]
    unfold shl4
    congr 1
    omega
theorem fold_hexL : ∀ (k n : Nat), n ≤ k → n < 18446744073709551616 → (hexL n).foldl stepV 0 = (n : Int)
  | 0, n, hk, h => by
    obtain rfl : n = 0 := by omega
    decide +kernel
  | k + 1, n, hk, h => by
    by_cases h1 : n < 16
    · rw [hexL_small n h1]
      have := stepV_dig 0 n (by omega) h1
      simpa using this
    · rw [hexL_snoc n (by omega) h, List.foldl_append, fold_hexL k (n / 16) (by omega) (by omega)]
      show stepV _ _ = _
      rw [stepV_dig (n / 16) (n % 16) (by omega) (by omega)]
      congr 1
      omega
theorem refV_hexF (n : Nat) (h : n < 18446744073709551616) : refV (hexF n) = n := fold_hexL n n (Nat.le_refl _) h
theorem refV_bd (l : List UInt8) : 0 ≤ refV l ∧ refV l ≤ 18446744073709551615 := by
  unfold refV
  have : ∀ (m : List UInt8) (x : Int), (0 ≤ x ∧ x ≤ 18446744073709551615) → 0 ≤ m.foldl stepV x ∧ m.foldl stepV x ≤ 18446744073709551615 := by
    intro m
    induction m with
    | nil => intro x h; exact h
    | cons c m ih => intro x h; exact ih _ (stepV_bd x c h)
  exact this _ 0 (by omega)
theorem num_self (n : Nat) (h : n < 18446744073709551616) : numL (hexF n) = (n, true) := by
  have hp : parseL (Lib.trimPrefix (hexF n) [48, 120]) = .ok n := by
    unfold hexF
    rw [trim_hexF]
    unfold parseL
    have := hexL_pos n
    rw [if_neg (by intro e; rw [e] at this; simp at this)]
    exact parse16_hexL _ h
  rw [numL_ok (l := hexF n) (pre_hexF _) hp, if_pos rfl]
theorem num_none (l : List UInt8) (h : ∀ n, n < 18446744073709551616 → hexF n ≠ l) : numL l = (0, false) := by
  cases hp : Lib.hasPrefix l [48, 120] with
  | false => exact numL_no hp
  | true =>
    by_cases hok : ∃ u, parseL (Lib.trimPrefix l [48, 120]) = .ok u
    · obtain ⟨u, hu⟩ := hok
      rw [numL_ok hp hu, if_neg (h u (parseL_lt hu))]
    · exact numL_err hp (fun u hu => hok ⟨u, hu⟩)
theorem num_ref (l : List UInt8) : refNumL l = numL l := by
  by_cases h : ∃ n, n < 18446744073709551616 ∧ hexF n = l
  · obtain ⟨n, hn, rfl⟩ := h
    rw [num_self n hn]
    unfold refNumL
    have h1 := hexL_len n
    have h2 := hexL_pos n
    rw [if_pos (by simp [hexF]; omega), refV_hexF n hn, if_pos (by simp)]
    simp
  · have hno : ∀ n, n < 18446744073709551616 → hexF n ≠ l := fun n hn e => h ⟨n, hn, e⟩
    rw [num_none l hno]
    unfold refNumL
    split
    · have := refV_bd l
      rw [if_neg (hno _ (by omega))]
    · rfl

set_option maxHeartbeats 1000000 in
set_option maxRecDepth 100000 in
theorem numbers_long (x : Int) (s : ByteArray) (hs : 100 < s.size) (hs' : s.size ≤ 9223372036854775807) (w : World) (hL : Laid w) :
    Calls Tryd.prog 4 #[.int .u64 x, .string s] w fun e w' => e = .returned (.bool true) ∧ Below w.heap.size w w' := by
  have HL := Lib.hid hL
  clear hL
  go_enter Tryd.func4, Tryd.ntmps4
  go_wp2_with fail
  refine (awake_any _ HL.out).mono ?_
  rintro e W1 ⟨rfl, hb1⟩
  go_wp2_with fail
  go_ret
  exact ⟨rfl, hb1⟩
set_option maxHeartbeats 1000000 in
set_option maxRecDepth 100000 in
theorem numbers_core (x A : Int) (P : Bool) (s X : ByteArray) (hs : s.size ≤ 100)
    (n1 : ∀ w, Laid w → Calls Tryd.prog 23 #[.string s] w fun e w' => e = .returned (.tuple #[.int .u64 A, .bool P]) ∧ Below w.heap.size w w')
    (n2 : ∀ w, Calls Tryd.prog 24 #[.string s] w fun e w' => e = .returned (.tuple #[.int .u64 A, .bool P]) ∧ w = w')
    (h1 : ∀ w, Laid w → Calls Tryd.prog 25 #[.int .u64 x] w fun e w' => e = .returned (.string X) ∧ Below w.heap.size w w')
    (n3 : ∀ w, Laid w → Calls Tryd.prog 23 #[.string X] w fun e w' => e = .returned (.tuple #[.int .u64 x, .bool true]) ∧ Below w.heap.size w w')
    (h2 : ∀ w, Calls Tryd.prog 26 #[.int .u64 x] w fun e w' => e = .returned (.string X) ∧ w = w')
    (w : World) (hL : Laid w) :
    Calls Tryd.prog 4 #[.int .u64 x, .string s] w fun e w' => e = .returned (.bool true) ∧ Below w.heap.size w w' := by
  have HL := Lib.hid hL
  clear hL
  go_enter Tryd.func4, Tryd.ntmps4
  go_wp2_with fail
  refine (n1 _ HL.out).mono ?_
  rintro e W1 ⟨rfl, B⟩
  go_wp2_with fail
  refine (n2 _).mono ?_
  rintro e W2 ⟨rfl, rfl⟩
  go_wp2_with fail
  refine (h1 _ (HL.out.below B)).mono ?_
  rintro e W3 ⟨rfl, k⟩
  replace B := below_chain B k
  clear k
  go_wp2_with fail
  refine (n3 _ (HL.out.below B)).mono ?_
  rintro e W4 ⟨rfl, k⟩
  replace B := below_chain B k
  clear k
  go_wp2_with fail
  refine (h1 _ (HL.out.below B)).mono ?_
  rintro e W5 ⟨rfl, k⟩
  replace B := below_chain B k
  clear k
  go_wp2_with fail
  refine (h2 _).mono ?_
  rintro e W6 ⟨rfl, rfl⟩
  go_wp2_with fail
  refine (awake_any _ (HL.out.below B)).mono ?_
  rintro e W7 ⟨rfl, k⟩
  replace B := below_chain B k
  clear k
  go_wp2_with fail
  go_ret
  exact ⟨rfl, B⟩
theorem labelNumbers_any (n : Nat) (s : ByteArray) (hn : n < 18446744073709551616) (hs : s.size ≤ 9223372036854775807) (w : World) (hL : Laid w) :
    Calls Tryd.prog 4 #[.int .u64 n, .string s] w fun e w' => e = .returned (.bool true) ∧ Below w.heap.size w w' := by
  by_cases h : 100 < s.size
  · exact numbers_long _ s h hs w hL
  · obtain ⟨X, hX⟩ : ∃ X : ByteArray, X = ⟨(hexF n).toArray⟩ := ⟨_, rfl⟩
    have hXs : X.size ≤ 281474976710656 := by
      have h1 := hexL_len n
      rw [hX, Lib.size_eq]
      simp [hexF]
      omega
    have n1 := number_at s (by omega) (numL s.data.toList).1 (numL s.data.toList).2 rfl
    have n2 : ∀ w, Calls Tryd.prog 24 #[.string s] w fun e w' => e = .returned (.tuple #[.int .u64 ((numL s.data.toList).1 : Int), .bool (numL s.data.toList).2]) ∧ w = w' := by
      intro w
      have := refNum_ret s (by omega) w
      rw [num_ref] at this
      exact this
    have h2 : ∀ w, Calls Tryd.prog 26 #[.int .u64 n] w fun e w' => e = .returned (.string X) ∧ w = w' := by
      intro w
      rw [hX]
      exact refHex_any n n rfl hn w
    exact numbers_core n _ _ s X (by omega) n1 n2 (hex_named n hn X hX) (number_at X hXs n true (by rw [hX]; exact num_self n hn)) h2 w hL
end Go.Proofs.YtbeliifgflgboaaDoor
