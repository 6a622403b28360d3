/- Numbers as bytes, as plain mathematics: by seven bits each (put, get), by eight bits each (fix, unfix). No conditions; no program. -/
set_option linter.unusedVariables false
set_option linter.unusedSimpArgs false
namespace Go.Proofs.Ytopfdeihjjikiaa.Pk

/-- The bytes of a number by seven bits each. -/
def put (v : Nat) : List Nat := if v < 128 then [v] else (v % 128 + 128) :: put (v / 128)
termination_by v
theorem put_small {v : Nat} (h : v < 128) : put v = [v] := by rw [put, if_pos h]
theorem put_big {v : Nat} (h : 128 ≤ v) : put v = (v % 128 + 128) :: put (v / 128) := by rw [put, if_neg (by omega)]
theorem put_ne (v : Nat) : put v ≠ [] := by
  by_cases h : v < 128
  · rw [put_small h]; simp
  · rw [put_big (by omega)]; simp
theorem put_pos (v : Nat) : 1 ≤ (put v).length := by
  have := put_ne v
  cases h : put v with
  | nil => exact absurd h this
  | cons a l => simp
/-- Strong induction along the bytes. -/
theorem put_ind {P : Nat → Prop} (h0 : ∀ v, v < 128 → P v) (h1 : ∀ v, 128 ≤ v → P (v / 128) → P v) (v : Nat) : P v := by
  induction v using Nat.strongRecOn with
  | ind v ih =>
    by_cases h : v < 128
    · exact h0 v h
    · exact h1 v (by omega) (ih (v / 128) (by omega))
theorem put_byte (v : Nat) : ∀ b ∈ put v, b < 256 := by
  refine put_ind (P := fun v => ∀ b ∈ put v, b < 256) (fun v h b hb => ?_) (fun v h ih b hb => ?_) v
  · rw [put_small h] at hb; simp at hb; omega
  · rw [put_big h] at hb
    rcases List.mem_cons.1 hb with rfl | hb
    · omega
    · exact ih b hb
theorem put_len_le (v k : Nat) (h : v < 128 ^ (k + 1)) : (put v).length ≤ k + 1 := by
  induction k generalizing v with
  | zero => rw [put_small (by simpa using h)]; simp
  | succ k ih =>
    by_cases hv : v < 128
    · rw [put_small hv]; simp
    · rw [put_big (by omega), List.length_cons]
      have : v / 128 < 128 ^ (k + 1) := by
        rw [Nat.div_lt_iff_lt_mul (by omega)]
        rw [Nat.pow_succ] at h; exact h
      have := ih (v / 128) this
      omega
theorem put_len_ge (v k : Nat) (h : 128 ^ k ≤ v) : k + 1 ≤ (put v).length := by
  induction k generalizing v with
  | zero => exact put_pos v
  | succ k ih =>
    have hp : 1 ≤ 128 ^ k := Nat.one_le_pow _ _ (by omega)
    rw [Nat.pow_succ] at h
    have hv : 128 ≤ v := by
      have : 1 * 128 ≤ 128 ^ k * 128 := Nat.mul_le_mul_right _ hp
      omega
    rw [put_big hv, List.length_cons]
    have : 128 ^ k ≤ v / 128 := by rw [Nat.le_div_iff_mul_le (by omega)]; exact h
    have := ih _ this
    omega
theorem put_len10 {v : Nat} (h : v < 18446744073709551616) : (put v).length ≤ 10 := put_len_le v 9 (Nat.lt_of_lt_of_le h (by decide))
theorem put_mono {a b : Nat} (h : a ≤ b) : (put a).length ≤ (put b).length := by
  revert a
  refine put_ind (P := fun b => ∀ {a : Nat}, a ≤ b → (put a).length ≤ (put b).length) (fun b hb a h => ?_) (fun b hb ih a h => ?_) b
  · rw [put_small hb, put_small (by omega)]; simp
  · by_cases ha : a < 128
    · rw [put_small ha]; exact put_pos b
    · rw [put_big hb, put_big (v := a) (by omega)]
      have := ih (a := a / 128) (by omega)
      simp only [List.length_cons]; omega

/-- What stands first: from byte number i on, what came before it being acc. -/
def get : Nat → Nat → List Nat → Option (Nat × List Nat)
  | _, _, [] => none
  | i, acc, b :: r =>
    if i = 9 ∧ 1 < b then none
    else if 128 ≤ b then get (i + 1) (acc + b % 128 * 128 ^ i) r
    else if b = 0 ∧ 0 < i then none
    else some (acc + b * 128 ^ i, r)
theorem get_nil (i acc : Nat) : get i acc [] = none := rfl
theorem get_over {i acc b : Nat} {r : List Nat} (h : i = 9) (hb : 1 < b) : get i acc (b :: r) = none := by rw [get, if_pos ⟨h, hb⟩]
theorem get_on {i acc b : Nat} {r : List Nat} (h : ¬(i = 9 ∧ 1 < b)) (hb : 128 ≤ b) : get i acc (b :: r) = get (i + 1) (acc + b % 128 * 128 ^ i) r := by rw [get, if_neg h, if_pos hb]
theorem get_zero {i acc : Nat} {r : List Nat} (hi : 0 < i) : get i acc (0 :: r) = none := by rw [get, if_neg (by omega), if_neg (by omega), if_pos ⟨rfl, hi⟩]
theorem get_end {i acc b : Nat} {r : List Nat} (h : ¬(i = 9 ∧ 1 < b)) (hb : b < 128) (h0 : ¬(b = 0 ∧ 0 < i)) : get i acc (b :: r) = some (acc + b * 128 ^ i, r) := by
  rw [get, if_neg h, if_neg (by omega), if_neg h0]
theorem pow9 : (128 : Nat) ^ 9 = 9223372036854775808 := by decide
theorem get_put_at (v : Nat) : ∀ (i acc : Nat) (r : List Nat), v * 128 ^ i < 18446744073709551616 → (0 < v ∨ i = 0) → get i acc (put v ++ r) = some (acc + v * 128 ^ i, r) := by
  refine put_ind (P := fun v => ∀ (i acc : Nat) (r : List Nat), v * 128 ^ i < 18446744073709551616 → (0 < v ∨ i = 0) → get i acc (put v ++ r) = some (acc + v * 128 ^ i, r)) (fun v hv i acc r h h0 => ?_) (fun v hv ih i acc r h h0 => ?_) v
  · rw [put_small hv]
    refine get_end (fun ⟨hi, hb⟩ => ?_) hv (by omega)
    subst hi
    rw [pow9] at h
    omega
  · rw [put_big hv, List.cons_append, get_on (fun ⟨hi, hb⟩ => by subst hi; rw [pow9] at h; omega) (by omega)]
    have e : v * 128 ^ i = v / 128 * 128 ^ (i + 1) + v % 128 * 128 ^ i := by
      have hd : v = v / 128 * 128 + v % 128 := by omega
      conv => lhs; rw [hd]
      rw [Nat.add_mul, Nat.pow_succ, Nat.mul_assoc, Nat.mul_comm 128 (128 ^ i)]
    have em : (v % 128 + 128) % 128 = v % 128 := by omega
    rw [em, ih (i + 1) _ r (by omega) (Or.inl (by omega))]
    congr 2
    omega
theorem get_put {v : Nat} (r : List Nat) (h : v < 18446744073709551616) : get 0 0 (put v ++ r) = some (v, r) := by
  rw [get_put_at v 0 0 r (by simpa using h) (Or.inr rfl)]; simp
theorem get_on_all {l : List Nat} (h : ∀ b ∈ l, 128 ≤ b) (i acc : Nat) : get i acc l = none := by
  induction l generalizing i acc with
  | nil => rfl
  | cons b l ih =>
    by_cases hi : i = 9
    · exact get_over hi (by have := h b (by simp); omega)
    · rw [get_on (fun hh => hi hh.1) (h b (by simp))]
      exact ih (fun c hc => h c (by simp [hc])) _ _
theorem get_then_zero {l : List Nat} (h : ∀ b ∈ l, 128 ≤ b) (i acc : Nat) (hi : l ≠ [] ∨ 0 < i) (r : List Nat) : get i acc (l ++ 0 :: r) = none := by
  induction l generalizing i acc with
  | nil => exact get_zero (by rcases hi with h | h; exact absurd rfl h; exact h)
  | cons b l ih =>
    rw [List.cons_append]
    by_cases hi : i = 9
    · exact get_over hi (by have := h b (by simp); omega)
    · rw [get_on (fun hh => hi hh.1) (h b (by simp))]
      exact ih (fun c hc => h c (by simp [hc])) _ _ (Or.inr (by omega))
theorem put_init (v : Nat) : ∀ b ∈ (put v).dropLast, 128 ≤ b := by
  refine put_ind (P := fun v => ∀ b ∈ (put v).dropLast, 128 ≤ b) (fun v h b hb => ?_) (fun v h ih b hb => ?_) v
  · rw [put_small h] at hb; simp at hb
  · rw [put_big h, List.dropLast_cons_of_ne_nil (put_ne _)] at hb
    rcases List.mem_cons.1 hb with rfl | hb
    · omega
    · exact ih b hb
theorem get_less (v : Nat) : get 0 0 ((put v).take ((put v).length - 1)) = none := by
  rw [← List.dropLast_eq_take]
  exact get_on_all (put_init v) _ _
theorem get_more (v y : Nat) (hy : 128 ≤ y) : get 0 0 ((put v).take ((put v).length - 1) ++ [y, 0]) = none := by
  rw [← List.dropLast_eq_take, show ([y, 0] : List Nat) = [y] ++ 0 :: [] by rfl, ← List.append_assoc]
  exact get_then_zero (fun b hb => by
    rcases List.mem_append.1 hb with hb | hb
    · exact put_init v b hb
    · simp at hb; omega) _ _ (Or.inl (by simp)) []
/-- A number that is got is one that was put, and no greater than 64 bits. -/
theorem get_some {l : List Nat} (hb : ∀ b ∈ l, b < 256) : ∀ {i acc m : Nat} {r : List Nat}, i ≤ 9 → get i acc l = some (m, r) → ∃ v, l = put v ++ r ∧ m = acc + v * 128 ^ i ∧ (0 < v ∨ i = 0) := by
  induction l with
  | nil => intro i acc m r _ h; rw [get_nil] at h; cases h
  | cons b l ih =>
    intro i acc m r hi9 h
    by_cases hi : i = 9 ∧ 1 < b
    · rw [get_over hi.1 hi.2] at h; cases h
    · by_cases h8 : 128 ≤ b
      · rw [get_on hi h8] at h
        obtain ⟨v, e1, e2, e3⟩ := ih (fun c hc => hb c (by simp [hc])) (by omega) h
        have e3' : 0 < v := by omega
        have hbb := hb b (by simp)
        refine ⟨v * 128 + (b - 128), ?_, ?_, Or.inl (by omega)⟩
        · rw [put_big (by omega), show (v * 128 + (b - 128)) % 128 + 128 = b by omega, show (v * 128 + (b - 128)) / 128 = v by omega, e1]; rfl
        · rw [e2, Nat.add_mul, Nat.pow_succ, show b % 128 = b - 128 by omega, Nat.mul_assoc v 128, Nat.mul_comm 128 (128 ^ i)]; omega
      · by_cases h0 : b = 0 ∧ 0 < i
        · rw [h0.1, get_zero h0.2] at h; cases h
        · rw [get_end hi (by omega) h0] at h
          injection h with h; injection h with h1 h2
          exact ⟨b, by rw [put_small (by omega), ← h2]; rfl, h1.symm, by omega⟩
/-- So many bytes that go on, one behind the other. -/
def val : List Nat → Nat
  | [] => 0
  | b :: r => b % 128 + 128 * val r
theorem val_snoc (l : List Nat) (b : Nat) : val (l ++ [b]) = val l + b % 128 * 128 ^ l.length := by
  induction l with
  | nil => simp [val]
  | cons a l ih =>
    rw [List.cons_append, val, ih, val, List.length_cons, Nat.pow_succ, Nat.mul_add, ← Nat.mul_assoc, Nat.mul_comm 128 (b % 128), Nat.mul_assoc (b % 128), Nat.mul_comm 128 (128 ^ l.length)]; omega
theorem val_lt (l : List Nat) : val l < 128 ^ l.length := by
  induction l with
  | nil => simp [val]
  | cons a l ih =>
    rw [val, List.length_cons, Nat.pow_succ]
    have := Nat.mod_lt a (show 128 > 0 by omega)
    omega
theorem get_prefix {l : List Nat} (h : ∀ b ∈ l, 128 ≤ b) (hl : l.length ≤ 9) (r : List Nat) : get 0 0 (l ++ r) = get l.length (val l) r := by
  have gen : ∀ (p l : List Nat), (∀ b ∈ l, 128 ≤ b) → p.length + l.length ≤ 9 → get p.length (val p) (l ++ r) = get (p.length + l.length) (val (p ++ l)) r := by
    intro p l
    induction l generalizing p with
    | nil => intro _ _; simp
    | cons b l ih =>
      intro h hl
      rw [List.length_cons] at hl
      rw [List.cons_append, get_on (by omega) (h b (by simp))]
      have := ih (p ++ [b]) (fun c hc => h c (by simp [hc])) (by simp; omega)
      rw [List.length_append, List.length_singleton, val_snoc, List.append_assoc, List.singleton_append] at this
      rw [this, List.length_cons]
      congr 1
      omega
  have := gen [] l h (by simpa using hl)
  simpa [val] using this

/-- The k lowest bytes, the highest first. -/
def fix (v : Nat) : Nat → List Nat
  | 0 => []
  | k + 1 => (v / 256 ^ k % 256) :: fix v k
theorem fix_len (v k : Nat) : (fix v k).length = k := by induction k with
  | zero => rfl
  | succ k ih => simp [fix, ih]
theorem fix_byte (v k : Nat) : ∀ b ∈ fix v k, b < 256 := by
  induction k with
  | zero => intro b hb; simp [fix] at hb
  | succ k ih =>
    intro b hb
    rcases List.mem_cons.1 hb with rfl | hb
    · omega
    · exact ih b hb
def unfix (l : List Nat) : Nat := l.foldl (fun n b => n * 256 + b) 0
theorem unfix_snoc (l : List Nat) (b : Nat) : unfix (l ++ [b]) = unfix l * 256 + b := by unfold unfix; rw [List.foldl_append]; rfl
theorem unfix_lt {l : List Nat} (h : ∀ b ∈ l, b < 256) : unfix l < 256 ^ l.length := by
  have gen : ∀ (l : List Nat) (a k : Nat), (∀ b ∈ l, b < 256) → a < 256 ^ k → l.foldl (fun n b => n * 256 + b) a < 256 ^ (k + l.length) := by
    intro l
    induction l with
    | nil => intro a k _ ha; simpa using ha
    | cons b l ih =>
      intro a k h ha
      have hb := h b (by simp)
      have : a * 256 + b < 256 ^ (k + 1) := by rw [Nat.pow_succ]; omega
      have := ih (a * 256 + b) (k + 1) (fun c hc => h c (by simp [hc])) this
      rw [List.foldl_cons, List.length_cons, show k + (l.length + 1) = k + 1 + l.length by omega]
      exact this
  have := gen l 0 0 h (by simp)
  unfold unfix
  simpa using this
theorem unfix_fix (v k : Nat) : unfix (fix v k) = v % 256 ^ k := by
  have gen : ∀ (k a : Nat), (fix v k).foldl (fun n b => n * 256 + b) a = a * 256 ^ k + v % 256 ^ k := by
    intro k
    induction k with
    | zero => intro a; simp [fix, Nat.mod_one]
    | succ k ih =>
      intro a
      have e : v % (256 ^ k * 256) = v % 256 ^ k + 256 ^ k * (v / 256 ^ k % 256) := Nat.mod_mul
      rw [fix, List.foldl_cons, ih, Nat.pow_succ, e, Nat.add_mul, Nat.mul_assoc, Nat.mul_comm 256 (256 ^ k), Nat.mul_comm (v / 256 ^ k % 256)]
      omega
  have := gen k 0
  simpa [unfix] using this
theorem fix_getD (v : Nat) : ∀ (k j : Nat), j < k → (fix v k).getD j 0 = v / 256 ^ (k - 1 - j) % 256
  | k + 1, 0, _ => by simp [fix]
  | k + 1, j + 1, h => by
    have := fix_getD v k j (by omega)
    rw [show k + 1 - 1 - (j + 1) = k - 1 - j by omega, ← this]
    simp [fix]
/-- Bytes in their order are numbers in theirs: where the first n bytes are alike, and the next ones are not (or it is the last one). -/
theorem fix_order {a b k j : Nat} (ha : a < 256 ^ k) (hb : b < 256 ^ k) (hj : j < k) (he : ∀ i, i < j → (fix a k).getD i 0 = (fix b k).getD i 0) (hn : (fix a k).getD j 0 ≠ (fix b k).getD j 0 ∨ j + 1 = k) :
    ((fix a k).getD j 0 < (fix b k).getD j 0 ↔ a < b) := by
  have step : ∀ x i, x / 256 ^ i = x / 256 ^ (i + 1) * 256 + x / 256 ^ i % 256 := fun x i => by
    rw [Nat.pow_succ, ← Nat.div_div_eq_div_mul]; omega
  have top : ∀ i, i ≤ j → a / 256 ^ (k - i) = b / 256 ^ (k - i) := by
    intro i
    induction i with
    | zero => intro _; rw [Nat.sub_zero, Nat.div_eq_of_lt ha, Nat.div_eq_of_lt hb]
    | succ i ih =>
      intro hi
      have h1 := ih (by omega)
      have h2 := he i (by omega)
      rw [fix_getD _ _ _ (by omega), fix_getD _ _ _ (by omega)] at h2
      rw [show k - 1 - i = k - (i + 1) by omega] at h2
      have sa := step a (k - (i + 1))
      have sb := step b (k - (i + 1))
      rw [show k - (i + 1) + 1 = k - i by omega] at sa sb
      omega
  have h1 := top j (Nat.le_refl _)
  rw [fix_getD _ _ _ hj, fix_getD _ _ _ hj] at hn ⊢
  have sa := step a (k - 1 - j)
  have sb := step b (k - 1 - j)
  rw [show k - 1 - j + 1 = k - j by omega] at sa sb
  have hp : 0 < 256 ^ (k - 1 - j) := Nat.pow_pos (by omega)
  have key : a / 256 ^ (k - 1 - j) < b / 256 ^ (k - 1 - j) → a < b := fun h => by
    rcases Nat.lt_or_ge a b with h' | h'
    · exact h'
    · have := Nat.div_le_div_right (c := 256 ^ (k - 1 - j)) h'; omega
  have key' : b / 256 ^ (k - 1 - j) < a / 256 ^ (k - 1 - j) → ¬ a < b := fun h h' => by
    have := Nat.div_le_div_right (c := 256 ^ (k - 1 - j)) (Nat.le_of_lt h'); omega
  constructor
  · intro h; exact key (by omega)
  · intro h
    rcases hn with hn | hn
    · rcases Nat.lt_or_ge (a / 256 ^ (k - 1 - j) % 256) (b / 256 ^ (k - 1 - j) % 256) with h' | h'
      · exact h'
      · exact absurd h (key' (by omega))
    · rw [show k - 1 - j = 0 by omega] at sa sb ⊢
      simp only [Nat.pow_zero, Nat.div_one] at sa sb ⊢
      omega
/-- Seven bits more, a byte more. -/
theorem put_two_pow (k : Nat) : (put (2 ^ k)).length = k / 7 + 1 := by
  have e : ∀ n, (128 : Nat) ^ n = 2 ^ (7 * n) := fun n => by rw [Nat.pow_mul]
  have h1 := put_len_le (2 ^ k) (k / 7) (by rw [e]; exact Nat.pow_lt_pow_right (by omega) (by omega))
  have h2 := put_len_ge (2 ^ k) (k / 7) (by rw [e]; exact Nat.pow_le_pow_right (by omega) (by omega))
  omega
theorem put_below_pow (k : Nat) : (put (2 ^ k - 1)).length = (max k 1 + 6) / 7 := by
  have e : ∀ n, (128 : Nat) ^ n = 2 ^ (7 * n) := fun n => by rw [Nat.pow_mul]
  rcases Nat.eq_zero_or_pos k with rfl | hk
  · rw [put_small (by decide)]; decide
  · have hp : 1 ≤ 2 ^ k := Nat.one_le_pow _ _ (by omega)
    have hm : max k 1 = k := by omega
    rw [hm]
    have h1 := put_len_le (2 ^ k - 1) ((k - 1) / 7) (by
      rw [e]
      have : 2 ^ k ≤ 2 ^ (7 * ((k - 1) / 7 + 1)) := Nat.pow_le_pow_right (by omega) (by omega)
      omega)
    have h2 : (k - 1) / 7 + 1 ≤ (put (2 ^ k - 1)).length := by
      rcases Nat.eq_zero_or_pos ((k - 1) / 7) with h0 | h0
      · rw [h0]; exact put_pos _
      · refine put_len_ge _ _ ?_
        rw [e]
        have : 2 ^ (7 * ((k - 1) / 7)) < 2 ^ k := Nat.pow_lt_pow_right (by omega) (by omega)
        omega
    omega
end Go.Proofs.Ytopfdeihjjikiaa.Pk
