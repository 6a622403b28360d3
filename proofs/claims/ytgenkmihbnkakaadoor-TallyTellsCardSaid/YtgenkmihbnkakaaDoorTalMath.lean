/- Plain mathematics of a device in one line: percents, bars, decimal digits, lines, as runes. No conditions. -/
import Derived.Test.YtgenkmihbnkakaaDoorLabelRuneMath
set_option linter.unusedVariables false
set_option linter.unusedSimpArgs false
set_option maxRecDepth 20000
namespace Go.Proofs.YtgenkmihbnkakaaDoor
open Go Go.RowKit

def pctT (n o : Int) : Int := if o < 1 ∨ n < 0 then 0 else if o ≤ n then 100 else 100 * n / o
def fullT (n o c : Int) : Int := c * pctT n o / 100
def barR (n o c : Int) : List Int := if 0 ≤ c ∧ c ≤ 200 then List.replicate (fullT n o c).toNat 9608 ++ List.replicate (c - fullT n o c).toNat 183 else []
def digF : Nat → Nat → List Int
  | 0, _ => []
  | f + 1, n => if n < 10 then [48 + (n : Int)] else digF f (n / 10) ++ [48 + ((n % 10 : Nat) : Int)]
def digR (n : Int) : List Int := digF 20 n.toNat
def rightR (l : List Int) (k : Nat) : List Int := List.replicate (k - l.length) 32 ++ l
def nameR (rs : List Int) : List Int := clipR rs 12 ++ List.replicate (12 - colsR (clipR rs 12)).toNat 32
def lineR (rs : List Int) (d c m cols : Int) : List Int := nameR rs ++ ([32] ++ barR d m (cols - 30) ++ ([32] ++ rightR (digR (pctT d m)) 3 ++ ([37, 32] ++ rightR (digR c) 10 ++ [43])))
def fineT (n : Int) : Prop := 0 ≤ n ∧ n ≤ 1073741824
instance (n : Int) : Decidable (fineT n) := by unfold fineT; infer_instance
def okT (l : List UInt8) (d c m cols : Int) : Bool := mayL l && decide (fineT d ∧ fineT c ∧ fineT m ∧ 30 ≤ cols ∧ cols ≤ 200)
def lineL (l : List UInt8) (d c m cols : Int) : List UInt8 := if okT l d c m cols then enc (lineR (runes l) d c m cols) else []

theorem pct_bd (n o : Int) : 0 ≤ pctT n o ∧ pctT n o ≤ 100 := by
  unfold pctT
  split
  · omega
  · rename_i h
    split
    · omega
    · rename_i h2
      have h3 : 0 ≤ 100 * n / o := Int.ediv_nonneg (by omega) (by omega)
      have h4 : 100 * n / o ≤ 100 := by
        have : 100 * n / o ≤ 100 * o / o := Int.ediv_le_ediv (by omega) (by omega)
        rw [Int.mul_ediv_cancel _ (by omega)] at this
        exact this
      exact ⟨h3, h4⟩
theorem pct_some {n o : Int} (hn : 0 ≤ n) (ho : n < o) : pctT n o = 100 * n / o := by
  unfold pctT
  rw [if_neg (by omega), if_neg (by omega)]
theorem pct_all {n o : Int} (ho : 1 ≤ o) (hn : o ≤ n) : pctT n o = 100 := by
  unfold pctT
  rw [if_neg (by omega), if_pos hn]
theorem pct_lt {n o : Int} (hn : 0 ≤ n) (ho : n < o) : pctT n o < 100 := by
  rw [pct_some hn ho]
  exact Int.ediv_lt_of_lt_mul (by omega) (by omega)
theorem pct_zero {o : Int} (ho : 1 ≤ o) : pctT 0 o = 0 := by
  rw [pct_some (by omega) (by omega)]
  simp
theorem pct_mono {n m o : Int} (hn : 0 ≤ n) (hm : n ≤ m) (ho : 1 ≤ o) : pctT n o ≤ pctT m o := by
  by_cases h : o ≤ m
  · rw [pct_all ho h]; exact (pct_bd n o).2
  · rw [pct_some hn (by omega), pct_some (by omega) (by omega)]
    exact Int.ediv_le_ediv (by omega) (by omega)
theorem pct_hundred {n o : Int} (hn : 0 ≤ n) (ho : 1 ≤ o) : pctT (100 * n) (100 * o) = pctT n o := by
  by_cases h : o ≤ n
  · rw [pct_all ho h, pct_all (by omega) (by omega)]
  · rw [pct_some hn (by omega), pct_some (by omega) (by omega)]
    exact Int.mul_ediv_mul_of_pos _ _ (by decide)
/-- The document's own way: the greatest percent that is reached. -/
theorem pct_reach {n o p q r : Int} (hn : 0 ≤ n) (ho : n < o) (hq : o / 100 = q) (hr : o % 100 = r) : (p * q + (p * r + 99) / 100 ≤ n ↔ p ≤ pctT n o) := by
  rw [pct_some hn ho, Int.le_ediv_iff_mul_le (by omega)]
  have e : o = 100 * q + r := by omega
  have e2 : p * o = 100 * (p * q) + p * r := by rw [e, Int.mul_add, ← Int.mul_assoc, Int.mul_comm p 100, Int.mul_assoc]
  rw [e2]
  generalize p * q = a
  generalize p * r = b
  omega
theorem full_bd {n o c : Int} (hc : 0 ≤ c) : 0 ≤ fullT n o c ∧ fullT n o c ≤ c := by
  unfold fullT
  obtain ⟨h0, h1⟩ := pct_bd n o
  have h2 : 0 ≤ c * pctT n o := Int.mul_nonneg hc h0
  have h3 : c * pctT n o ≤ c * 100 := Int.mul_le_mul_of_nonneg_left h1 hc
  generalize c * pctT n o = z at *
  omega
theorem full_mono {n m o c : Int} (hc : 0 ≤ c) (h : pctT n o ≤ pctT m o) : fullT n o c ≤ fullT m o c := by
  unfold fullT
  have h3 : c * pctT n o ≤ c * pctT m o := Int.mul_le_mul_of_nonneg_left h hc
  exact Int.ediv_le_ediv (by decide) h3
theorem full_all {n o c : Int} (h : pctT n o = 100) : fullT n o c = c := by
  unfold fullT
  rw [h]
  exact Int.mul_ediv_cancel _ (by decide)
theorem full_none {n o c : Int} (h : pctT n o = 0) : fullT n o c = 0 := by
  unfold fullT
  rw [h]
  simp
theorem bar_in {n o c : Int} (h0 : 0 ≤ c) (h1 : c ≤ 200) : barR n o c = List.replicate (fullT n o c).toNat 9608 ++ List.replicate (c - fullT n o c).toNat 183 := by
  unfold barR
  rw [if_pos ⟨h0, h1⟩]
theorem bar_len {n o c : Int} (h0 : 0 ≤ c) (h1 : c ≤ 200) : (barR n o c).length = c.toNat := by
  have := full_bd (n := n) (o := o) h0
  rw [bar_in h0 h1, List.length_append, List.length_replicate, List.length_replicate]
  omega
theorem bar_mem {n o c r : Int} (h : r ∈ barR n o c) : r = 9608 ∨ r = 183 := by
  unfold barR at h
  split at h
  · rcases List.mem_append.1 h with h | h
    · exact Or.inl (List.eq_of_mem_replicate h)
    · exact Or.inr (List.eq_of_mem_replicate h)
  · cases h
theorem bar_low (n o c : Int) : Low (barR n o c) := fun r h => by
  rcases bar_mem h with rfl | rfl <;> decide
theorem bar_count {n o c : Int} (h0 : 0 ≤ c) (h1 : c ≤ 200) : ((barR n o c).count 9608 : Int) = fullT n o c := by
  have := full_bd (n := n) (o := o) h0
  rw [bar_in h0 h1, List.count_append, List.count_replicate, List.count_replicate]
  simp
  omega
theorem bar_at {n o c : Int} (h0 : 0 ≤ c) (h1 : c ≤ 200) {k : Nat} (hk : k < c.toNat) : (barR n o c).getD k 0 = if (k : Int) < fullT n o c then 9608 else 183 := by
  have := full_bd (n := n) (o := o) h0
  rw [bar_in h0 h1, List.getD_eq_getElem?_getD]
  split
  · rw [List.getElem?_append_left (by rw [List.length_replicate]; omega), List.getElem?_replicate, if_pos (by omega)]; rfl
  · rw [List.getElem?_append_right (by rw [List.length_replicate]; omega), List.length_replicate, List.getElem?_replicate, if_pos (by omega)]; rfl
theorem cols_narrow {rs : List Int} (h : ∀ r ∈ rs, wideB r = false) : colsR rs = rs.length := by
  induction rs with
  | nil => rfl
  | cons r rs ih =>
    rw [colsR_cons, ih fun q hq => h q (List.mem_cons_of_mem _ hq)]
    unfold colsI
    rw [h r List.mem_cons_self]
    simp
    omega
theorem bar_cols {n o c : Int} (h0 : 0 ≤ c) (h1 : c ≤ 200) : colsR (barR n o c) = c := by
  rw [cols_narrow fun r h => by rcases bar_mem h with rfl | rfl <;> decide, bar_len h0 h1]
  omega
/- decimal digits -/
theorem digF_fuel : ∀ (f g n : Nat), n < 10 ^ f → n < 10 ^ g → 1 ≤ f → 1 ≤ g → digF f n = digF g n
  | 0, _, _, _, _, h, _ => absurd h (by decide)
  | _, 0, _, _, _, _, h => absurd h (by decide)
  | f + 1, g + 1, n, hf, hg, _, _ => by
    unfold digF
    split
    · rfl
    · rename_i h
      have h1 : n / 10 < 10 ^ f := by rw [Nat.pow_succ] at hf; omega
      have h2 : n / 10 < 10 ^ g := by rw [Nat.pow_succ] at hg; omega
      have f1 : 1 ≤ f := by
        rcases Nat.eq_zero_or_pos f with e | e
        · rw [e] at h1; simp at h1; omega
        · exact e
      have g1 : 1 ≤ g := by
        rcases Nat.eq_zero_or_pos g with e | e
        · rw [e] at h2; simp at h2; omega
        · exact e
      rw [digF_fuel f g (n / 10) h1 h2 f1 g1]
theorem digF_mem : ∀ (f n : Nat) (r : Int), r ∈ digF f n → 48 ≤ r ∧ r ≤ 57
  | 0, _, _, h => by cases h
  | f + 1, n, r, h => by
    unfold digF at h
    split at h
    · rw [List.mem_singleton.1 h]; omega
    · rcases List.mem_append.1 h with h | h
      · exact digF_mem f _ r h
      · rw [List.mem_singleton.1 h]; omega
theorem digF_len : ∀ (f k n : Nat), n < 10 ^ k → 1 ≤ k → (digF f n).length ≤ k
  | 0, k, n, _, _ => Nat.zero_le _
  | f + 1, k, n, hk, h1 => by
    unfold digF
    split
    · exact h1
    · rename_i h
      obtain ⟨j, rfl⟩ : ∃ j, k = j + 1 := ⟨k - 1, by omega⟩
      have h2 : n / 10 < 10 ^ j := by rw [Nat.pow_succ] at hk; omega
      have j1 : 1 ≤ j := by
        rcases Nat.eq_zero_or_pos j with e | e
        · rw [e] at h2; simp at h2; omega
        · exact e
      have := digF_len f j (n / 10) h2 j1
      rw [List.length_append]
      simp
      exact this
theorem dig_ne (n : Int) : digR n ≠ [] := by
  unfold digR digF
  split
  · simp
  · simp
theorem dig_mem {n r : Int} (h : r ∈ digR n) : 48 ≤ r ∧ r ≤ 57 := digF_mem _ _ _ h
theorem dig_len {n : Int} (k : Nat) (h : n.toNat < 10 ^ k) (hk : 1 ≤ k) : (digR n).length ≤ k := digF_len _ _ _ h hk
theorem dig_small {n : Int} (h0 : 0 ≤ n) (h : n < 10) : digR n = [48 + n] := by
  unfold digR digF
  rw [if_pos (by omega)]
  congr 2
  omega
theorem dig_step {n : Int} (h0 : 10 ≤ n) (h : n ≤ 9223372036854775807) : digR n = digR (n / 10) ++ [48 + n % 10] := by
  have e : digR n = digF 19 (n.toNat / 10) ++ [48 + ((n.toNat % 10 : Nat) : Int)] := by
    unfold digR
    rw [digF, if_neg (by omega)]
  rw [e]
  have e2 : (n / 10).toNat = n.toNat / 10 := by omega
  have e3 : ((n.toNat % 10 : Nat) : Int) = n % 10 := by omega
  rw [e3]
  congr 1
  unfold digR
  rw [e2]
  exact digF_fuel _ _ _ (by omega) (by omega) (by decide) (by decide)
/- lines -/
theorem right_len {l : List Int} {k : Nat} (h : l.length ≤ k) : (rightR l k).length = k := by
  unfold rightR
  rw [List.length_append, List.length_replicate]
  omega
theorem right_mem {l : List Int} {k : Nat} {r : Int} (h : r ∈ rightR l k) : r = 32 ∨ r ∈ l := by
  unfold rightR at h
  rcases List.mem_append.1 h with h | h
  · exact Or.inl (List.eq_of_mem_replicate h)
  · exact Or.inr h
theorem low_append {a b : List Int} (ha : Low a) (hb : Low b) : Low (a ++ b) := fun r h => (List.mem_append.1 h).elim (ha r) (hb r)
theorem low_rep (k : Nat) (r : Int) (h : 0 ≤ r ∧ r < 55296) : Low (List.replicate k r) := fun q hq => by rw [List.eq_of_mem_replicate hq]; exact h
theorem low_dig (n : Int) (k : Nat) : Low (rightR (digR n) k) := fun r h => by
  rcases right_mem h with rfl | h
  · decide
  · have := dig_mem h; omega
theorem low_clip {rs : List Int} (h : Low rs) (c : Int) : Low (clipR rs c) := fun r hr => by
  obtain ⟨q, hq⟩ := clipR_is rs c
  exact h r (by rw [hq]; exact List.mem_append_left _ hr)
theorem name_low {rs : List Int} (h : Low rs) : Low (nameR rs) := low_append (low_clip h 12) (low_rep _ _ (by decide))
theorem name_cols (rs : List Int) : colsR (nameR rs) = 12 := by
  unfold nameR
  have h1 := clipR_fits rs 12 (by decide)
  rw [colsR_append, cols_narrow (rs := List.replicate _ 32) fun r h => by rw [List.eq_of_mem_replicate h]; decide, List.length_replicate]
  omega
def tailR (d c m cols : Int) : List Int := [32] ++ barR d m (cols - 30) ++ ([32] ++ rightR (digR (pctT d m)) 3 ++ ([37, 32] ++ rightR (digR c) 10 ++ [43]))
theorem line_tail (rs : List Int) (d c m cols : Int) : lineR rs d c m cols = nameR rs ++ tailR d c m cols := rfl
theorem tail_low (d c m cols : Int) : Low (tailR d c m cols) := by
  unfold tailR
  refine low_append (low_append (fun r h => ?_) (bar_low _ _ _)) (low_append (low_append (fun r h => ?_) (low_dig _ _)) (low_append (low_append (fun r h => ?_) (low_dig _ _)) fun r h => ?_))
  · rw [List.mem_singleton.1 h]; decide
  · rw [List.mem_singleton.1 h]; decide
  · simp at h; rcases h with rfl | rfl <;> decide
  · rw [List.mem_singleton.1 h]; decide
theorem tail_cols {d c m cols : Int} (hc : fineT c) (h0 : 30 ≤ cols) (h1 : cols ≤ 200) : colsR (tailR d c m cols) = cols - 12 := by
  unfold tailR fineT at *
  have hp := pct_bd d m
  have l1 : (rightR (digR (pctT d m)) 3).length = 3 := right_len (dig_len 3 (by omega) (by decide))
  have l2 : (rightR (digR c) 10).length = 10 := right_len (dig_len 10 (by omega) (by decide))
  have w1 : ∀ k (l : List Int), (∀ r ∈ l, 48 ≤ r ∧ r ≤ 57) → ∀ r ∈ rightR l k, wideB r = false := fun k l hl r h => by
    rcases right_mem h with rfl | h
    · decide
    · have := hl r h
      unfold wideB
      simp
      omega
  simp only [colsR_append]
  rw [bar_cols (by omega) (by omega), cols_narrow (w1 3 _ fun r h => dig_mem h), cols_narrow (w1 10 _ fun r h => dig_mem h), l1, l2, show colsR [32] = 1 from rfl, show colsR [37, 32] = 2 from rfl, show colsR [43] = 1 from rfl]
  omega
theorem line_low {rs : List Int} (h : Low rs) (d c m cols : Int) : Low (lineR rs d c m cols) := low_append (name_low h) (tail_low d c m cols)
theorem line_cols {rs : List Int} {d c m cols : Int} (hc : fineT c) (h0 : 30 ≤ cols) (h1 : cols ≤ 200) : colsR (lineR rs d c m cols) = cols := by
  rw [line_tail, colsR_append, name_cols, tail_cols hc h0 h1]
  omega
theorem runes_bar (n o c : Int) : runes (enc (barR n o c)) = barR n o c := runes_enc _ (bar_low n o c)
theorem runes_line {l : List UInt8} {d c m cols : Int} (h : okT l d c m cols = true) : runes (lineL l d c m cols) = lineR (runes l) d c m cols := by
  unfold lineL
  rw [if_pos h]
  have hm : mayL l = true := by unfold okT at h; exact (Bool.and_eq_true_iff.1 h).1
  exact runes_enc _ (line_low (may_good hm).low d c m cols)
end Go.Proofs.YtgenkmihbnkakaaDoor
