/- Pages that have owners from the first on, as mathematics: two ranges side by side. No conditions; no program. -/
import Derived.Test.YtiojnpoefbnjoaaBackMath
set_option linter.unusedVariables false
set_option linter.unusedSimpArgs false
namespace Go.Proofs.Ytiojnpoefbnjoaa

/-- So many pages have their owners. -/
def ptB (xs : List Int) (P : Nat) : Nat → Bk
  | 0 => freshBk P
  | i + 1 => (ptB xs P i).set i (some (xs.getD i 0))
section
variable {xs : List Int} {P i k c n : Nat} {s : Bk}
theorem ptB_len : (ptB xs P i).length = P := by
  induction i with
  | zero => simp [ptB, freshBk]
  | succ i ih => unfold ptB; rw [List.length_set]; exact ih
theorem ptB_at : (ptB xs P i).getD k none = if k < i ∧ k < P then some (xs.getD k 0) else none := by
  induction i with
  | zero =>
    rw [if_neg (by omega)]
    show (List.replicate P none).getD k none = none
    rw [List.getD_eq_getElem?_getD, List.getElem?_replicate]; split <;> rfl
  | succ i ih =>
    unfold ptB
    rw [getD_setBk, ptB_len, ih]
    by_cases e : k = i ∧ i < P
    · rw [if_pos e, if_pos (by omega), e.1]
    · rw [if_neg e]
      by_cases h : k < i ∧ k < P
      · rw [if_pos h, if_pos (by omega)]
      · rw [if_neg h, if_neg (by omega)]
theorem ptB_none : (ptB xs P i).getD i none = none := by rw [ptB_at, if_neg (by omega)]
theorem set_clear (h : s.getD k none = none) (x : Option Int) : (s.set k x).set k none = s := by
  rw [List.set_set]
  apply List.ext_getElem?
  intro j
  rw [List.getElem?_set]
  by_cases e : k = j
  · subst e
    by_cases hk : k < s.length
    · rw [if_pos rfl, if_pos hk, List.getElem?_eq_getElem hk]
      rw [List.getD_eq_getElem?_getD, List.getElem?_eq_getElem hk] at h
      have h2 : s[k] = none := h
      rw [h2]
    · rw [if_pos rfl, if_neg hk, List.getElem?_eq_none (by omega)]
  · rw [if_neg e]
theorem filterMap_same {A B : Type} {f g : A → Option B} {l : List A} (h : ∀ x ∈ l, f x = g x) : l.filterMap f = l.filterMap g := by
  induction l with
  | nil => rfl
  | cons x l ih =>
    rw [List.filterMap_cons, List.filterMap_cons, h x (List.mem_cons_self ..), ih fun y hy => h y (List.mem_cons_of_mem _ hy)]
theorem range_cut (hc : c ≤ s.length) : rangeBk s 0 (c : Int) ++ rangeBk s (c : Int) (s.length : Int) = (List.range s.length).filterMap fun k => s.getD k none := by
  unfold rangeBk
  have hl : List.range s.length = List.range c ++ (List.range (s.length - c)).map fun x => c + x := by
    rw [← List.range_add, Nat.add_sub_of_le hc]
  rw [hl, List.filterMap_append, List.filterMap_append, List.filterMap_append, List.filterMap_map, List.filterMap_map, List.filterMap_map]
  have e1 : (List.range c).filterMap (fun (k : Nat) => if (0 : Int) ≤ (k : Int) ∧ (k : Int) < (c : Int) then s.getD k none else none) = (List.range c).filterMap fun k => s.getD k none :=
    filterMap_same fun k hk => by rw [if_pos (by have := List.mem_range.1 hk; omega)]
  have e2 : (List.range (s.length - c)).filterMap ((fun (k : Nat) => if (0 : Int) ≤ (k : Int) ∧ (k : Int) < (c : Int) then s.getD k none else none) ∘ fun x => c + x) = [] :=
    List.filterMap_eq_nil_iff.2 fun k hk => by simp only [Function.comp]; rw [if_neg (by omega)]
  have e3 : (List.range c).filterMap (fun (k : Nat) => if (c : Int) ≤ (k : Int) ∧ (k : Int) < (s.length : Int) then s.getD k none else none) = [] :=
    List.filterMap_eq_nil_iff.2 fun k hk => by rw [if_neg (by have := List.mem_range.1 hk; omega)]
  have e4 : (List.range (s.length - c)).filterMap ((fun (k : Nat) => if (c : Int) ≤ (k : Int) ∧ (k : Int) < (s.length : Int) then s.getD k none else none) ∘ fun x => c + x) = (List.range (s.length - c)).filterMap ((fun k => s.getD k none) ∘ fun x => c + x) :=
    filterMap_same fun k hk => by simp only [Function.comp]; rw [if_pos (by have := List.mem_range.1 hk; omega)]
  rw [e1, e2, e3, e4, List.append_nil, List.nil_append]
theorem range_self : rangeBk s (c : Int) (c : Int) = [] := by
  unfold rangeBk
  exact List.filterMap_eq_nil_iff.2 fun k hk => by rw [if_neg (by omega)]
theorem range_len_le {lo hi : Int} : (rangeBk s lo hi).length ≤ s.length := by
  unfold rangeBk
  exact Nat.le_trans (List.length_filterMap_le _ _) (by rw [List.length_range]; exact Nat.le_refl _)
theorem pages_len_le : (pagesBk s).length ≤ s.length := by
  unfold pagesBk
  rw [List.length_map]
  exact Nat.le_trans (List.length_filter_le _ _) (by rw [List.length_range]; exact Nat.le_refl _)
/-- All of them. -/
theorem pt_range (hn : xs.length = n) (hP : n ≤ P) (hc : c ≤ P) : rangeBk (ptB xs P n) 0 (c : Int) ++ rangeBk (ptB xs P n) (c : Int) (P : Int) = xs := by
  have h := range_cut (s := ptB xs P n) (c := c) (by rw [ptB_len]; exact hc)
  rw [ptB_len] at h
  rw [h]
  have hl : List.range P = List.range n ++ (List.range (P - n)).map fun x => n + x := by rw [← List.range_add, Nat.add_sub_of_le hP]
  rw [hl, List.filterMap_append, List.filterMap_map]
  have e2 : (List.range (P - n)).filterMap ((fun k => (ptB xs P n).getD k none) ∘ fun x => n + x) = [] :=
    List.filterMap_eq_nil_iff.2 fun k hk => by simp only [Function.comp]; rw [ptB_at, if_neg (by omega)]
  have e1 : (List.range n).filterMap (fun k => (ptB xs P n).getD k none) = (List.range n).filterMap fun k => some (xs.getD k 0) :=
    filterMap_same fun k hk => by have := List.mem_range.1 hk; rw [ptB_at, if_pos (by omega)]
  rw [e1, e2, List.append_nil, show (fun k => some (xs.getD k 0)) = some ∘ (fun k => xs.getD k 0) from rfl, List.filterMap_eq_map]
  apply List.ext_getElem
  · simp [hn]
  · intro j h1 h2
    simp [List.getD_eq_getElem?_getD, h2]
theorem pt_pages (hP : n ≤ P) : (pagesBk (ptB xs P n)).length = n := by
  unfold pagesBk
  rw [List.length_map, ptB_len]
  have hl : List.range P = List.range n ++ (List.range (P - n)).map fun x => n + x := by rw [← List.range_add, Nat.add_sub_of_le hP]
  rw [hl, List.filter_append, List.filter_eq_self.2 fun k hk => by have := List.mem_range.1 hk; rw [ptB_at, if_pos (by omega)]; rfl, List.filter_eq_nil_iff.2 fun k hk => ?_, List.append_nil, List.length_range]
  obtain ⟨q, hq, rfl⟩ := List.mem_map.1 hk
  rw [ptB_at, if_neg (by omega)]; decide
end
end Go.Proofs.Ytiojnpoefbnjoaa
