/- Pages that are given to others, one behind the other, as mathematics. No conditions; no program. -/
import Derived.Test.YtiojnpoefbnjoaaPartsMath14
import Derived.Test.YtiojnpoefbnjoaaShared
set_option linter.unusedVariables false
set_option linter.unusedSimpArgs false
namespace Go.Proofs.Ytiojnpoefbnjoaa

def tnP (ps : List Int) (i : Nat) : Nat := (lowM (ps.getD i 0) 8).toNat
theorem tnP_cast (ps : List Int) (i : Nat) : lowM (ps.getD i 0) 8 = ((tnP ps i : Nat) : Int) := by
  unfold tnP
  have := lowM_bd (ps.getD i 0) 8 (by omega)
  omega
theorem tnP_lt (ps : List Int) (i : Nat) : tnP ps i < 8 := by
  have h := tnP_cast ps i
  have := lowM_bd (ps.getD i 0) 8 (by omega)
  omega
/-- After so many turns. -/
def tnB (ps xs : List Int) : Nat → Bk
  | 0 => freshBk 8
  | i + 1 => (tnB ps xs i).set (tnP ps i) (some (xs.getD i 0))
theorem tnB_len (ps xs : List Int) : ∀ i, (tnB ps xs i).length = 8
  | 0 => by simp [tnB, freshBk]
  | i + 1 => by unfold tnB; rw [List.length_set]; exact tnB_len ps xs i
/-- Which have owners; which numbers these are. -/
def hasBk (s : Bk) : List Bool := s.map Option.isSome
def numBk (s : Bk) : List Int := s.map fun o => o.getD 0
section
variable {s : Bk} {k p : Nat} {a : Int}
theorem hasBk_len : (hasBk s).length = s.length := List.length_map _
theorem numBk_len : (numBk s).length = s.length := List.length_map _
theorem hasBk_at : (hasBk s).getD k false = (s.getD k none).isSome := by
  unfold hasBk
  rw [List.getD_eq_getElem?_getD, List.getD_eq_getElem?_getD, List.getElem?_map]
  cases s[k]? <;> rfl
theorem numBk_at : (numBk s).getD k 0 = (s.getD k none).getD 0 := by
  unfold numBk
  rw [List.getD_eq_getElem?_getD, List.getD_eq_getElem?_getD, List.getElem?_map]
  cases s[k]? <;> rfl
theorem hasBk_set : (hasBk s).set p true = hasBk (s.set p (some a)) := by unfold hasBk; rw [List.map_set]; rfl
theorem numBk_set : (numBk s).set p a = numBk (s.set p (some a)) := by unfold numBk; rw [List.map_set]; rfl
theorem set_none (h : p < s.length) : (s.set p none).getD p none = none := by rw [getD_setBk, if_pos ⟨rfl, h⟩]
theorem set_again : (s.set p none).set p (some a) = s.set p (some a) := List.set_set ..
/-- The first k pages' owners; these pages. -/
def pagesN (s : Bk) (k : Nat) : List Int := ((List.range k).filter fun j => (s.getD j none).isSome).map fun (j : Nat) => (j : Int)
def ownsN (s : Bk) (k : Nat) : List Int := (List.range k).filterMap fun j => s.getD j none
theorem pagesN_none (h : s.getD k none = none) : pagesN s (k + 1) = pagesN s k := by
  unfold pagesN
  rw [List.range_succ, List.filter_append, List.filter_cons_of_neg (by rw [h]; decide), List.filter_nil, List.append_nil]
theorem pagesN_some (h : s.getD k none = some a) : pagesN s (k + 1) = pagesN s k ++ [(k : Int)] := by
  unfold pagesN
  rw [List.range_succ, List.filter_append, List.filter_cons_of_pos (by rw [h]; rfl), List.filter_nil, List.map_append]; rfl
theorem ownsN_none (h : s.getD k none = none) : ownsN s (k + 1) = ownsN s k := by
  unfold ownsN
  rw [List.range_succ, List.filterMap_append, List.filterMap_cons, h]
  simp
theorem ownsN_some (h : s.getD k none = some a) : ownsN s (k + 1) = ownsN s k ++ [a] := by
  unfold ownsN
  rw [List.range_succ, List.filterMap_append, List.filterMap_cons, h]
  simp
theorem pagesN_all (h : s.length = k) : pagesBk s = pagesN s k := by subst h; rfl
theorem ownsN_all (h : s.length = k) (hk : k ≤ 100) : rangeBk s (-5) 100 = ownsN s k := by
  subst h
  unfold rangeBk ownsN
  exact filterMap_same fun j hj => by rw [if_pos (by have := List.mem_range.1 hj; omega)]
end
end Go.Proofs.Ytiojnpoefbnjoaa
