/- A sparse map of entries as mathematics: a list by rising addresses; what each call answers, and leaves. No conditions; no program. -/
import Derived.Test.YthamnmadgfmbkaaEntries
set_option linter.unusedVariables false
set_option linter.unusedSimpArgs false
namespace Go.Proofs.Ythamnmadgfmbkaa

def Srt (l : List E) : Prop := l.Pairwise fun a b => a.addr < b.addr
structure TW (l : List E) : Prop where
  srt : Srt l
  wf : ∀ e ∈ l, EWf e
  few : l.length ≤ 120
def getT (l : List E) (a : Int) : Option E := l.find? fun e => e.addr == a
def putT (l : List E) (x : E) : List E := (l.filter fun e => decide (e.addr < x.addr)) ++ x :: l.filter fun e => decide (x.addr < e.addr)
def dropT (l : List E) (a : Int) : List E := l.filter fun e => !(e.addr == a)
def fromT (l : List E) (a many : Int) (d : Bool) : List E := (l.filter fun e => decide (a ≤ e.addr) && (!d || e.dirty)).take many.toNat
def dirtyT (l : List E) : Nat := l.countP (·.dirty)
section
variable {l m : List E} {x e : E} {a b : Int}
theorem srt_nil : Srt [] := List.Pairwise.nil
theorem tw_nil : TW [] := ⟨srt_nil, fun e h => (List.not_mem_nil h).elim, Nat.zero_le _⟩
theorem getT_nil (a : Int) : getT [] a = none := rfl
theorem getT_cons (y : E) (l : List E) (a : Int) : getT (y :: l) a = if y.addr = a then some y else getT l a := by
  unfold getT
  rw [List.find?_cons]
  by_cases h : y.addr = a
  · rw [if_pos h, show (y.addr == a) = true from beq_iff_eq.2 h]
  · rw [if_neg h, show (y.addr == a) = false from beq_eq_false_iff_ne.2 h]
theorem getT_some (h : getT l a = some e) : e ∈ l ∧ e.addr = a := ⟨List.mem_of_find?_eq_some h, by have := List.find?_some h; exact beq_iff_eq.1 this⟩
theorem getT_none : getT l a = none ↔ ∀ e ∈ l, e.addr ≠ a := by
  unfold getT
  rw [List.find?_eq_none]
  exact ⟨fun h e he h2 => h e he (beq_iff_eq.2 h2), fun h e he h2 => h e he (beq_iff_eq.1 h2)⟩
theorem getT_mem (hs : Srt l) (he : e ∈ l) : getT l e.addr = some e := by
  induction l with
  | nil => cases he
  | cons y l ih =>
    rw [getT_cons]
    rcases List.mem_cons.1 he with rfl | h
    · rw [if_pos rfl]
    · have := (List.pairwise_cons.1 hs).1 e h
      rw [if_neg (by omega)]
      exact ih (List.pairwise_cons.1 hs).2 h
theorem getT_append (l m : List E) (a : Int) : getT (l ++ m) a = (getT l a).or (getT m a) := by
  unfold getT; exact List.find?_append
theorem getT_filter (p : E → Bool) (l : List E) (a : Int) (h : ∀ e, e.addr = a → p e = true) : getT (l.filter p) a = getT l a := by
  induction l with
  | nil => rfl
  | cons y l ih =>
    rw [List.filter_cons]
    by_cases hy : y.addr = a
    · rw [if_pos (h y hy), getT_cons, getT_cons, if_pos hy, if_pos hy]
    · by_cases hp : p y = true
      · rw [if_pos hp, getT_cons, getT_cons, if_neg hy, if_neg hy, ih]
      · rw [if_neg hp, getT_cons, if_neg hy, ih]
theorem getT_filter_no (p : E → Bool) (l : List E) (a : Int) (h : ∀ e, e.addr = a → p e = false) : getT (l.filter p) a = none := by
  rw [getT_none]
  intro e he h2
  have := (List.mem_filter.1 he).2
  rw [h e h2] at this; cases this
theorem getT_put (l : List E) (x : E) (a : Int) : getT (putT l x) a = if x.addr = a then some x else getT l a := by
  unfold putT
  rw [getT_append, getT_cons]
  by_cases h : x.addr = a
  · rw [if_pos h, getT_filter_no _ _ _ (fun e he => decide_eq_false (by omega)), if_pos h]; rfl
  · rw [if_neg h, if_neg h]
    by_cases h2 : a < x.addr
    · rw [getT_filter _ _ _ (fun e he => decide_eq_true (by omega)), getT_filter_no _ _ _ (fun e he => decide_eq_false (by omega))]
      cases getT l a <;> rfl
    · rw [getT_filter_no _ _ _ (fun e he => decide_eq_false (by omega)), getT_filter _ _ _ (fun e he => decide_eq_true (by omega))]; rfl
theorem getT_drop (l : List E) (b a : Int) : getT (dropT l b) a = if a = b then none else getT l a := by
  unfold dropT
  by_cases h : a = b
  · rw [if_pos h, getT_filter_no _ _ _ (fun e he => by simp; omega)]
  · rw [if_neg h, getT_filter _ _ _ (fun e he => by simp; omega)]
theorem srt_filter (p : E → Bool) (h : Srt l) : Srt (l.filter p) := List.Pairwise.filter p h
theorem srt_put (h : Srt l) (x : E) : Srt (putT l x) := by
  unfold putT
  refine List.pairwise_append.2 ⟨srt_filter _ h, List.pairwise_cons.2 ⟨fun e he => ?_, srt_filter _ h⟩, fun e he f hf => ?_⟩
  · have := (List.mem_filter.1 he).2
    exact of_decide_eq_true this
  · have h1 := of_decide_eq_true (List.mem_filter.1 he).2
    rcases List.mem_cons.1 hf with rfl | hf
    · exact h1
    · have h2 := of_decide_eq_true (List.mem_filter.1 hf).2
      omega
theorem srt_drop (h : Srt l) (a : Int) : Srt (dropT l a) := srt_filter _ h
/-- Two that answer the same are the same. -/
theorem srt_ext (hl : Srt l) (hm : Srt m) (h : ∀ a, getT l a = getT m a) : l = m := by
  induction l generalizing m with
  | nil =>
    cases m with
    | nil => rfl
    | cons y m =>
      have := h y.addr
      rw [getT_cons, if_pos rfl] at this; cases this
  | cons x l ih =>
    cases m with
    | nil =>
      have := h x.addr
      rw [getT_cons, if_pos rfl] at this; cases this
    | cons y m =>
      have h1 : x ∈ y :: m := by
        have := h x.addr
        rw [getT_cons, if_pos rfl] at this
        exact (getT_some this.symm).1
      have h2 : y ∈ x :: l := by
        have := h y.addr
        rw [getT_cons (y := y), if_pos rfl] at this
        exact (getT_some this).1
      obtain ⟨l1, l2⟩ := List.pairwise_cons.1 hl
      obtain ⟨m1, m2⟩ := List.pairwise_cons.1 hm
      have e : x = y := by
        rcases List.mem_cons.1 h1 with e | h1
        · exact e
        · rcases List.mem_cons.1 h2 with e | h2
          · exact e.symm
          · have := m1 x h1; have := l1 y h2; omega
      subst e
      congr 1
      refine ih l2 m2 fun a => ?_
      by_cases ha : x.addr = a
      · rw [getT_none.2 fun e he => by have := l1 e he; omega, getT_none.2 fun e he => by have := m1 e he; omega]
      · have := h a
        rwa [getT_cons, if_neg ha, getT_cons, if_neg ha] at this
/- how many -/
theorem countP_three (P : E → Bool) (l : List E) (a : Int) : (l.filter fun e => decide (e.addr < a)).countP P + (l.filter fun e => decide (a < e.addr)).countP P + (l.countP fun e => P e && (e.addr == a)) = l.countP P := by
  induction l with
  | nil => rfl
  | cons y l ih =>
    rw [List.countP_cons, List.countP_cons, List.filter_cons, List.filter_cons]
    by_cases h1 : y.addr < a
    · rw [if_pos (decide_eq_true h1), if_neg (by simp; omega), List.countP_cons, show (y.addr == a) = false by simp; omega, Bool.and_false]
      simp only [Bool.false_eq_true, if_false, Nat.add_zero]; omega
    · by_cases h2 : a < y.addr
      · rw [if_neg (by simp; omega), if_pos (decide_eq_true h2), List.countP_cons, show (y.addr == a) = false by simp; omega, Bool.and_false]
        simp only [Bool.false_eq_true, if_false, Nat.add_zero]; omega
      · rw [if_neg (by simp; omega), if_neg (by simp; omega), show (y.addr == a) = true by simp; omega, Bool.and_true]
        omega
theorem countP_at (P : E → Bool) (hs : Srt l) (a : Int) : (l.countP fun e => P e && (e.addr == a)) = match getT l a with | none => 0 | some e => if P e = true then 1 else 0 := by
  induction l with
  | nil => rfl
  | cons y l ih =>
    obtain ⟨l1, l2⟩ := List.pairwise_cons.1 hs
    rw [List.countP_cons, ih l2, getT_cons]
    by_cases h : y.addr = a
    · rw [if_pos h, getT_none.2 fun e he => by have := l1 e he; omega, show (y.addr == a) = true by simp [h], Bool.and_true]
      dsimp only; omega
    · rw [if_neg h, show (y.addr == a) = false by simp [h], Bool.and_false]
      simp
theorem countP_put (P : E → Bool) (l : List E) (x : E) : (putT l x).countP P + (l.countP fun e => P e && (e.addr == x.addr)) = l.countP P + if P x = true then 1 else 0 := by
  unfold putT
  rw [List.countP_append, List.countP_cons]
  have := countP_three P l x.addr
  omega
theorem countP_drop (P : E → Bool) (l : List E) (a : Int) : (dropT l a).countP P + (l.countP fun e => P e && (e.addr == a)) = l.countP P := by
  unfold dropT
  induction l with
  | nil => rfl
  | cons y l ih =>
    rw [List.countP_cons, List.countP_cons, List.filter_cons]
    by_cases h : y.addr = a
    · rw [if_neg (by simp [h]), show (y.addr == a) = true by simp [h], Bool.and_true]; omega
    · rw [if_pos (by simp [h]), List.countP_cons, show (y.addr == a) = false by simp [h], Bool.and_false]
      simp only [Bool.false_eq_true, if_false, Nat.add_zero]; omega
theorem len_count (l : List E) : l.length = l.countP fun _ => true := by
  induction l with
  | nil => rfl
  | cons y l ih => rw [List.countP_cons, ← ih]; rfl
theorem len_put (hs : Srt l) (x : E) : (putT l x).length = match getT l x.addr with | none => l.length + 1 | some _ => l.length := by
  have h := countP_put (fun _ => true) l x
  rw [countP_at _ hs, ← len_count, ← len_count] at h
  cases e : getT l x.addr with
  | none => rw [e] at h; simpa using h
  | some y => rw [e] at h; simpa using h
theorem len_put_le (l : List E) (x : E) : (putT l x).length ≤ l.length + 1 := by
  have h := countP_put (fun _ => true) l x
  rw [← len_count, ← len_count] at h
  simp at h; omega
theorem len_put_ge (hs : Srt l) (x : E) : l.length ≤ (putT l x).length := by
  rw [len_put hs]
  cases getT l x.addr with
  | none => exact Nat.le_succ _
  | some y => exact Nat.le_refl _
theorem len_drop (hs : Srt l) (a : Int) : (dropT l a).length + (match getT l a with | none => 0 | some _ => 1) = l.length := by
  have h := countP_drop (fun _ => true) l a
  rw [countP_at _ hs, ← len_count, ← len_count] at h
  cases e : getT l a with
  | none => rw [e] at h; simpa using h
  | some y => rw [e] at h; simpa using h
theorem len_drop_le (l : List E) (a : Int) : (dropT l a).length ≤ l.length := List.length_filter_le _ _
theorem dirty_put_new (hs : Srt l) (x : E) (h : getT l x.addr = none) : dirtyT (putT l x) = dirtyT l + if x.dirty = true then 1 else 0 := by
  have h1 := countP_put (·.dirty) l x
  rw [countP_at _ hs, h] at h1
  exact h1
theorem dirty_drop (hs : Srt l) (h : getT l a = some e) : dirtyT (dropT l a) + (if e.dirty = true then 1 else 0) = dirtyT l := by
  have h1 := countP_drop (·.dirty) l a
  rw [countP_at _ hs, h] at h1
  exact h1
theorem tw_put (h : TW l) (hx : EWf x) (hl : l.length < 120) : TW (putT l x) :=
  ⟨srt_put h.srt x, fun e he => by
    unfold putT at he
    rcases List.mem_append.1 he with he | he
    · exact h.wf e (List.mem_filter.1 he).1
    · rcases List.mem_cons.1 he with rfl | he
      · exact hx
      · exact h.wf e (List.mem_filter.1 he).1, by have := len_put_le l x; omega⟩
theorem tw_drop (h : TW l) (a : Int) : TW (dropT l a) := ⟨srt_drop h.srt a, fun e he => h.wf e (List.mem_filter.1 he).1, Nat.le_trans (len_drop_le l a) h.few⟩
theorem drop_none (h : getT l a = none) : dropT l a = l := by
  unfold dropT
  refine List.filter_eq_self.2 fun e he => ?_
  have := getT_none.1 h e he
  simp [this]
/- lists from place to place -/
theorem from_all (h : ∀ e ∈ l, 0 ≤ e.addr) (n : Int) (hn : (l.length : Int) ≤ n) : fromT l 0 n false = l := by
  unfold fromT
  rw [List.filter_eq_self.2 fun e he => by simp [h e he]]
  exact List.take_of_length_le (by omega)
theorem from_at (hs : Srt l) (j : Nat) (hj : j < l.length) : (l.filter fun e => decide (l[j].addr + 1 ≤ e.addr) && (!false || e.dirty)) = l.drop (j + 1) := by
  have hs' := hs
  unfold Srt at hs'
  have h1 : ∀ p : E → Bool, l.filter p = (l.take (j + 1)).filter p ++ (l.drop (j + 1)).filter p := fun p => by rw [← List.filter_append, List.take_append_drop]
  rw [h1]
  have h2 : ((l.take (j + 1)).filter fun e => decide (l[j].addr + 1 ≤ e.addr) && (!false || e.dirty)) = [] := by
    rw [List.filter_eq_nil_iff]
    intro e he
    obtain ⟨i, hi, rfl⟩ := List.mem_take_iff_getElem.1 he
    have h4 : l[i].addr ≤ l[j].addr := by
      by_cases e : i = j
      · subst e; exact Int.le_refl _
      · exact Int.le_of_lt (List.pairwise_iff_getElem.1 hs' i j (by omega) hj (by omega))
    simp; omega
  have h3 : ((l.drop (j + 1)).filter fun e => decide (l[j].addr + 1 ≤ e.addr) && (!false || e.dirty)) = l.drop (j + 1) := by
    rw [List.filter_eq_self]
    intro e he
    obtain ⟨i, hi, rfl⟩ := List.mem_drop_iff_getElem.1 he
    have := List.pairwise_iff_getElem.1 hs' j (j + 1 + i) hj (by omega) (by omega)
    have h5 : l[j].addr < l[j + 1 + i].addr := this
    simp only [Bool.not_false, Bool.true_or, Bool.and_true, decide_eq_true_eq]
    omega
  rw [h2, h3, List.nil_append]
end
end Go.Proofs.Ythamnmadgfmbkaa
