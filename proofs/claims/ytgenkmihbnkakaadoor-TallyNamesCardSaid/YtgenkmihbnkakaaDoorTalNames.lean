/- Names of good runes, and how a line begins with one: plain mathematics. No conditions. -/
import Derived.Test.YtgenkmihbnkakaaDoorRefTal
set_option linter.unusedVariables false
set_option linter.unusedSimpArgs false
set_option maxRecDepth 20000
namespace Go.Proofs.YtgenkmihbnkakaaDoor
open Go Go.RowKit

def rl7 : List Int := [97, 26085, 90, 233, 95, 26412, 55]
theorem rl7_good : ∀ r ∈ rl7, goodB r = true ∧ r ≠ 45 := by decide +kernel
theorem rl7_at {q : Nat} (h : q < 7) : rl7.getD q 0 ∈ rl7 := by
  have hl : q < rl7.length := h
  rw [List.getD_eq_getElem?_getD, List.getElem?_eq_getElem hl]
  exact List.getElem_mem hl
theorem rl7_ne : ∀ r ∈ rl7, r ≠ 32 := by decide +kernel
def All7 (rs : List Int) : Prop := ∀ r ∈ rs, r ∈ rl7
theorem all7_snoc {rs : List Int} {r : Int} (h : All7 rs) (hr : r ∈ rl7) : All7 (rs ++ [r]) := fun x hx => by
  rcases List.mem_append.1 hx with hx | hx
  · exact h x hx
  · rw [List.mem_singleton.1 hx]; exact hr
theorem all7_good {rs : List Int} (h : All7 rs) : Good rs := List.all_eq_true.2 fun r hr => (rl7_good r (h r hr)).1
theorem all7_may {rs : List Int} (h : All7 rs) (h0 : 1 ≤ rs.length) (h1 : rs.length ≤ 12) : mayL (enc rs) = true := by
  have hne : ∀ k, k < rs.length → rs.getD k 0 ≠ 45 := fun k hk => by
    rw [List.getD_eq_getElem?_getD, List.getElem?_eq_getElem hk]
    exact (rl7_good _ (h _ (List.getElem_mem hk))).2
  rw [mayL_enc rs (all7_good h)]
  exact mayR_all ⟨h0, h1⟩ (all7_good h) (hne 0 (by omega)) (hne _ (by omega))
theorem all7_runes {rs : List Int} (h : All7 rs) : runes (enc rs) = rs := runes_enc rs (all7_good h).low
theorem all7_scalar {rs : List Int} (h : All7 rs) : ∀ r ∈ rs, Scalar r := fun r hr => by have := (all7_good h).low r hr; unfold Scalar; omega
theorem low_scalar {rs : List Int} (h : Low rs) : ∀ r ∈ rs, Scalar r := fun r hr => by have := h r hr; unfold Scalar; omega
theorem all7_ne {rs : List Int} (h : All7 rs) {k : Nat} (hk : k < rs.length) : ((32 : Int) != rs.getD k 0) = true := by
  rw [List.getD_eq_getElem?_getD, List.getElem?_eq_getElem hk]
  have := rl7_ne _ (h _ (List.getElem_mem hk))
  rw [bne_iff_ne]
  exact fun e => this e.symm
theorem name_clip {rs : List Int} {k : Nat} (h : k < (clipR rs 12).length) : (nameR rs).getD k 0 = rs.getD k 0 ∧ k < rs.length := by
  obtain ⟨q, hq⟩ := clipR_is rs 12
  have e1 : (nameR rs).getD k 0 = (clipR rs 12).getD k 0 := by
    unfold nameR
    rw [List.getD_eq_getElem?_getD, List.getElem?_append_left h, ← List.getD_eq_getElem?_getD]
  have e2 : rs.getD k 0 = (clipR rs 12).getD k 0 := by
    have : rs.getD k 0 = (clipR rs 12 ++ q).getD k 0 := by rw [← hq]
    rw [this, List.getD_eq_getElem?_getD, List.getElem?_append_left h, ← List.getD_eq_getElem?_getD]
  have e3 := clip_len rs 12
  exact ⟨e1.trans e2.symm, by omega⟩
theorem name_blank {rs : List Int} {k : Nat} (h : ¬ k < (clipR rs 12).length) (hk : k < (nameR rs).length) : (nameR rs).getD k 0 = 32 := by
  unfold nameR at hk ⊢
  rw [List.length_append, List.length_replicate] at hk
  rw [List.getD_eq_getElem?_getD, List.getElem?_append_right (by omega), List.getElem?_replicate, if_pos (by omega)]
  rfl
theorem line_pre {rs : List Int} {d c m cols : Int} {k : Nat} (hk : k < (nameR rs).length) : (lineR rs d c m cols).getD k 0 = (nameR rs).getD k 0 := by
  rw [line_tail, List.getD_eq_getElem?_getD, List.getElem?_append_left hk, ← List.getD_eq_getElem?_getD]
theorem name_take {rs : List Int} {k : Nat} (hk : k ≤ (nameR rs).length) : 0 ≤ colsR ((nameR rs).take k) ∧ colsR ((nameR rs).take k) ≤ 12 := by
  have h1 := name_cols rs
  rw [← List.take_append_drop k (nameR rs), colsR_append] at h1
  have h2 := colsR_bd ((nameR rs).take k)
  have h3 := colsR_bd ((nameR rs).drop k)
  omega
theorem name_more {rs : List Int} {k : Nat} (hk : k ≤ (nameR rs).length) (h : colsR ((nameR rs).take k) < 12) : k < (nameR rs).length := by
  rcases Nat.lt_or_ge k (nameR rs).length with h1 | h1
  · exact h1
  · rw [List.take_of_length_le h1, name_cols] at h
    omega
theorem name_line (rs : List Int) (d c m cols : Int) : (nameR rs).length ≤ (lineR rs d c m cols).length := by
  rw [line_tail, List.length_append]
  omega
theorem line_len {rs : List Int} {d c m : Int} (hc : fineT c) : (lineR rs d c m 40).length ≤ 40 := by
  have h1 := line_cols (rs := rs) (d := d) (c := c) (m := m) (cols := 40) hc (by decide) (by decide)
  have h2 := (colsR_bd (lineR rs d c m 40)).1
  omega
theorem cols_single {r : Int} (h : 0 ≤ r ∧ r < 55296) : colsR (runes (enc [r])) = colsI r := by
  rw [runes_enc [r] (fun q hq => by rw [List.mem_singleton.1 hq]; exact h), colsR_cons, colsR_nil]
  omega
theorem name_r {rs : List Int} (h : All7 rs) {k : Nat} (hk : k < (nameR rs).length) : 0 ≤ (nameR rs).getD k 0 ∧ (nameR rs).getD k 0 < 55296 := by
  have hl := name_low (all7_good h).low
  rw [List.getD_eq_getElem?_getD, List.getElem?_eq_getElem hk]
  exact hl _ (List.getElem_mem hk)
end Go.Proofs.YtgenkmihbnkakaaDoor
