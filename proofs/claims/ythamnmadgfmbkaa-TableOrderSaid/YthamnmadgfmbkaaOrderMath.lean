/- The last entry of each address; a list that is told part by part. No conditions; no program. -/
import Derived.Test.YthamnmadgfmbkaaTabMath
set_option linter.unusedVariables false
set_option linter.unusedSimpArgs false
namespace Go.Proofs.Ythamnmadgfmbkaa

def lastE (es : List E) (a : Int) : Option E := es.reverse.find? fun e => e.addr == a
section
variable {es l m : List E} {x : E} {a : Int} {i j k r : Nat}
theorem lastE_nil : lastE [] a = none := rfl
theorem lastE_snoc : lastE (es ++ [x]) a = if x.addr = a then some x else lastE es a := by
  unfold lastE
  rw [List.reverse_append, List.reverse_cons, List.reverse_nil, List.nil_append, List.singleton_append, List.find?_cons]
  by_cases h : x.addr = a
  · rw [if_pos h, show (x.addr == a) = true by simp [h]]
  · rw [if_neg h, show (x.addr == a) = false by simp [h]]
theorem lastE_cons : lastE (x :: es) a = (lastE es a).or (if x.addr = a then some x else none) := by
  unfold lastE
  rw [List.reverse_cons, List.find?_append, List.find?_cons]
  by_cases h : x.addr = a
  · rw [if_pos h, show (x.addr == a) = true by simp [h]]
  · rw [if_neg h, show (x.addr == a) = false by simp [h]]; rfl
theorem last_take (hi : i < es.length) : lastE (es.take (i + 1)) a = if (es.getD i E.zero).addr = a then some (es.getD i E.zero) else lastE (es.take i) a := by
  rw [List.take_succ_eq_append_getElem hi, lastE_snoc]
  have : es.getD i E.zero = es[i] := by rw [List.getD_eq_getElem?_getD, List.getElem?_eq_getElem hi]; rfl
  rw [this]
theorem last_drop (hi : i < es.length) : lastE (es.drop i) a = (lastE (es.drop (i + 1)) a).or (if (es.getD i E.zero).addr = a then some (es.getD i E.zero) else none) := by
  rw [List.drop_eq_getElem_cons hi, lastE_cons]
  have : es.getD i E.zero = es[i] := by rw [List.getD_eq_getElem?_getD, List.getElem?_eq_getElem hi]; rfl
  rw [this]
/-- The next one of the first loop. -/
theorem ord_put (hi : i < es.length) (h : ∀ a, getT l a = lastE (es.take i) a) : ∀ a, getT (putT l (es.getD i E.zero)) a = lastE (es.take (i + 1)) a := fun a => by
  rw [getT_put, last_take hi, h]
/-- The next one of the second loop: it was there already. -/
theorem ord_skip (hi : i < es.length) (h : ∀ a, getT m a = lastE (es.drop (i + 1)) a) (hx : (getT m (es.getD i E.zero).addr).isSome = true) : ∀ a, getT m a = lastE (es.drop i) a := fun a => by
  rw [last_drop hi, ← h]
  by_cases e : (es.getD i E.zero).addr = a
  · rw [← e]
    obtain ⟨y, hy⟩ := Option.isSome_iff_exists.1 hx
    rw [hy]; rfl
  · rw [if_neg e]
    cases getT m a <;> rfl
/-- It was not. -/
theorem ord_new (hi : i < es.length) (h : ∀ a, getT m a = lastE (es.drop (i + 1)) a) (hx : (getT m (es.getD i E.zero).addr).isSome = false) : ∀ a, getT (putT m (es.getD i E.zero)) a = lastE (es.drop i) a := fun a => by
  rw [getT_put, last_drop hi, ← h]
  by_cases e : (es.getD i E.zero).addr = a
  · rw [if_pos e, if_pos e, ← e]
    cases hy : getT m (es.getD i E.zero).addr with
    | none => rfl
    | some y => rw [hy] at hx; cases hx
  · rw [if_neg e, if_neg e]
    cases getT m a <;> rfl
theorem ord_end (hl : Srt l) (hm : Srt m) (h1 : ∀ a, getT l a = lastE (es.take es.length) a) (h2 : ∀ a, getT m a = lastE (es.drop 0) a) : m = l :=
  srt_ext hm hl fun a => by rw [h1, h2, List.take_length, List.drop_zero]
/- part by part -/
/-- What is told from f on is what is left. -/
def Left (l : List E) (f : Int) (i : Nat) : Prop := (l.filter fun e => decide (f ≤ e.addr) && (!false || e.dirty)) = l.drop i
theorem left_zero (h : ∀ e ∈ l, EWf e) : Left l 0 0 := by
  unfold Left
  rw [List.drop_zero]
  exact List.filter_eq_self.2 fun e he => by simp [(h e he).a0]
theorem left_from {f : Int} (h : Left l f i) (n : Int) : fromT l f n false = (l.drop i).take n.toNat := by
  unfold fromT
  rw [show (l.filter fun e => decide (f ≤ e.addr) && (!false || e.dirty)) = l.drop i from h]
theorem left_next (hs : Srt l) (hj : j < l.length) : Left l ((l.getD j E.zero).addr + 1) (j + 1) := by
  have e : l.getD j E.zero = l[j] := by rw [List.getD_eq_getElem?_getD, List.getElem?_eq_getElem hj]; rfl
  unfold Left
  rw [e]
  exact from_at hs j hj
theorem last_all (h : TW l) (hj : j < l.length) (hm : (l.getD j E.zero).addr = 18446744073709551615) : l.length = j + 1 := by
  refine Decidable.byContradiction fun hne => ?_
  have h2 : j + 1 < l.length := by omega
  have e : l.getD j E.zero = l[j] := by rw [List.getD_eq_getElem?_getD, List.getElem?_eq_getElem hj]; rfl
  have hs := h.srt
  unfold Srt at hs
  have h3 : l[j].addr < l[j + 1].addr := List.pairwise_iff_getElem.1 hs j (j + 1) hj h2 (by omega)
  have h4 := (h.wf l[j + 1] (List.getElem_mem _)).a1
  rw [e] at hm
  omega
theorem srt_step (hs : Srt l) (hj : j + 1 < l.length) : (l.getD j E.zero).addr < (l.getD (j + 1) E.zero).addr := by
  have e : ∀ k, k < l.length → ∀ h : k < l.length, l.getD k E.zero = l[k] := fun k _ h => by rw [List.getD_eq_getElem?_getD, List.getElem?_eq_getElem h]; rfl
  rw [e j (by omega) (by omega), e (j + 1) hj hj]
  unfold Srt at hs
  exact List.pairwise_iff_getElem.1 hs j (j + 1) (by omega) hj (by omega)
theorem take_more (i n : Nat) (l : List E) : l.take i ++ (l.drop i).take n = l.take (i + n) := by
  rw [List.take_add]
theorem part_at {n : Nat} (hj : j < n) (h : i + j < l.length) : ((l.drop i).take n).getD j E.zero = l.getD (i + j) E.zero := by
  rw [List.getD_eq_getElem?_getD, List.getD_eq_getElem?_getD, List.getElem?_take_of_lt hj, List.getElem?_drop]
theorem part_len (n : Nat) : ((l.drop i).take n).length = min n (l.length - i) := by simp
end
end Go.Proofs.Ythamnmadgfmbkaa
