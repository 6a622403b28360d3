/- Plain facts for Columns, Clip and Fold: what they answer, in terms of the runes of a text. No conditions. -/
import Derived.Test.YtgenkmihbnkakaaDoorLabelMay
set_option linter.unusedVariables false
set_option linter.unusedSimpArgs false
set_option maxRecDepth 20000
namespace Go.Proofs.YtgenkmihbnkakaaDoor
open Go.RowKit Go.Lib

def colsR (rs : List Int) : Int := (rs.map colsI).sum
def clipR : List Int → Int → List Int
  | [], _ => []
  | r :: rs, c => if colsI r ≤ c then r :: clipR rs (c - colsI r) else []
def columnsL (l : List UInt8) : Int := if mayL l then colsR (runes l) else 0
def clipL (l : List UInt8) (c : Int) : List UInt8 := if mayL l then enc (clipR (runes l) c) else []
def foldL (l : List UInt8) : List UInt8 := if mayL l then enc ((runes l).map smallI) else []

theorem colsI_bd (r : Int) : 1 ≤ colsI r ∧ colsI r ≤ 2 := by unfold colsI; split <;> omega
theorem colsR_nil : colsR [] = 0 := rfl
theorem colsR_append (a b : List Int) : colsR (a ++ b) = colsR a + colsR b := by simp [colsR]
theorem colsR_cons (r : Int) (b : List Int) : colsR (r :: b) = colsI r + colsR b := by simp [colsR]
theorem colsR_bd : ∀ rs : List Int, (rs.length : Int) ≤ colsR rs ∧ colsR rs ≤ 2 * rs.length
  | [] => by simp [colsR_nil]
  | r :: rs => by
    have := colsR_bd rs
    have := colsI_bd r
    rw [colsR_cons]
    simp
    omega
theorem goodB_iff (r : Int) : goodB r = true ↔ goodP r := by simp [goodB]
theorem good_low {r : Int} (h : goodB r = true) : 45 ≤ r ∧ r ≤ 40959 := by
  rw [goodB_iff] at h
  unfold goodP at h
  omega
theorem small_low {r : Int} (h : goodB r = true) : 45 ≤ smallI r ∧ smallI r ≤ 40959 := by
  have := good_low h
  unfold smallI
  split
  · omega
  · split <;> omega
def Good (rs : List Int) : Prop := rs.all goodB = true
theorem Good.low {rs : List Int} (h : Good rs) : Low rs := by
  intro r hr
  have := good_low (List.all_eq_true.1 h r hr)
  omega
theorem Good.not {rs : List Int} (h : Good rs) : ∀ r ∈ rs, r ≠ 65533 := by
  intro r hr
  have := good_low (List.all_eq_true.1 h r hr)
  omega
theorem may_good {l : List UInt8} (h : mayL l = true) : Good (runes l) := by
  unfold mayL at h
  simp only [Bool.and_eq_true] at h
  exact h.1.2
theorem may_len {l : List UInt8} (h : mayL l = true) : 1 ≤ (runes l).length ∧ (runes l).length ≤ 12 := by
  unfold mayL at h
  simp only [Bool.and_eq_true, decide_eq_true_eq] at h
  exact h.1.1
theorem may_enc {l : List UInt8} (h : mayL l = true) : enc (runes l) = l := enc_runes l.length l (Nat.le_refl _) (may_good h).not

def At (l : List UInt8) (pos : Nat) (done : List Int) : Prop := runes l = done ++ runes (l.drop pos) ∧ pos ≤ l.length
theorem at_start (l : List UInt8) : At l 0 [] := ⟨by simp, by omega⟩
theorem at_step {l : List UInt8} {pos : Nat} {done : List Int} (h : pos < l.length) (m : At l pos done) : At l (pos + (decodeL (l.drop pos)).2) (done ++ [((decodeL (l.drop pos)).1 : Int)]) := by
  obtain ⟨h2, h3⟩ := m
  have h4 := decodeL_le (l.drop pos) (drop_ne h)
  rw [List.length_drop] at h4
  refine ⟨?_, by omega⟩
  rw [h2, runes_cons _ (drop_ne h), List.drop_drop]
  simp
theorem at_rest {l : List UInt8} {pos : Nat} {done : List Int} (h : pos < l.length) (m : At l pos done) : runes l = done ++ ((decodeL (l.drop pos)).1 : Int) :: runes (l.drop (pos + (decodeL (l.drop pos)).2)) := by
  rw [m.1, runes_cons _ (drop_ne h), List.drop_drop]
theorem at_end {l : List UInt8} {pos : Nat} {done : List Int} (h : ¬ pos < l.length) (m : At l pos done) : runes l = done := by
  have e : l.drop pos = [] := List.drop_eq_nil_of_le (by omega)
  rw [m.1, e, runes_nil, List.append_nil]
theorem at_take {l : List UInt8} {pos : Nat} {done : List Int} (hm : Good (runes l)) (m : At l pos done) : l.take pos = enc done := by
  have h1 := enc_runes l.length l (Nat.le_refl _) hm.not
  have hr : ∀ r ∈ runes (l.drop pos), r ≠ 65533 := fun r hr => hm.not r (by rw [m.1]; exact List.mem_append_right _ hr)
  have h2 := enc_runes (l.drop pos).length (l.drop pos) (Nat.le_refl _) hr
  rw [m.1, enc_append, h2] at h1
  have h3 : enc done ++ l.drop pos = l.take pos ++ l.drop pos := by rw [h1, List.take_append_drop]
  exact (List.append_cancel_right h3).symm
theorem at_bd {l : List UInt8} {pos : Nat} {done : List Int} (hm : mayL l = true) (m : At l pos done) : (done.length : Int) ≤ 12 := by
  have := (may_len hm).2
  rw [m.1, List.length_append] at this
  omega
theorem at_sum {l : List UInt8} {pos : Nat} {done : List Int} (hm : mayL l = true) (m : At l pos done) : 0 ≤ colsR done ∧ colsR done ≤ 24 := by
  have := at_bd hm m
  have := colsR_bd done
  omega

theorem clipR_append : ∀ (done rest : List Int) (c : Int), colsR done ≤ c → clipR (done ++ rest) c = done ++ clipR rest (c - colsR done)
  | [], rest, c, _ => by simp [colsR_nil]
  | r :: done, rest, c, h => by
    rw [colsR_cons] at h ⊢
    have := colsR_bd done
    simp only [List.cons_append, clipR]
    rw [if_pos (by omega), clipR_append done rest (c - colsI r) (by omega)]
    simp only [List.cons.injEq, true_and]
    congr 2
    omega
theorem clipR_all (rs : List Int) (c : Int) (h : colsR rs ≤ c) : clipR rs c = rs := by
  have := clipR_append rs [] c h
  simpa [clipR] using this
/-- where the next rune is too wide, what has been passed is all -/
theorem clipR_stop (done rest : List Int) (r c : Int) (h : done = [] ∨ colsR done ≤ c) (h2 : c < colsR done + colsI r) : clipR (done ++ r :: rest) c = done := by
  rcases h with rfl | h
  · rw [colsR_nil] at h2
    simp only [List.nil_append, clipR]
    rw [if_neg (by omega)]
  · rw [clipR_append done _ c h]
    simp only [clipR]
    rw [if_neg (by omega), List.append_nil]
end Go.Proofs.YtgenkmihbnkakaaDoor
