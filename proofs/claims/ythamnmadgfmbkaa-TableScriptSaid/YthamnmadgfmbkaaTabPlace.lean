/- Where an address stands in a rising list of entries: how many are ahead of it; what putting and dropping make there. No conditions; no program. -/
import Derived.Test.YthamnmadgfmbkaaTabMath
set_option linter.unusedVariables false
set_option linter.unusedSimpArgs false
namespace Go.Proofs.Ythamnmadgfmbkaa

def aheadT (l : List E) (a : Int) : Nat := l.countP fun e => decide (e.addr < a)
section
variable {l p s : List E} {x e y : E} {a : Int}
theorem ahead_le (l : List E) (a : Int) : aheadT l a ≤ l.length := List.countP_le_length
/-- Parted where it stands. -/
theorem srt_cut (hs : Srt l) (a : Int) : ∃ p s, l = p ++ s ∧ (∀ e ∈ p, e.addr < a) ∧ (∀ e ∈ s, a ≤ e.addr) ∧ aheadT l a = p.length := by
  induction l with
  | nil => exact ⟨[], [], rfl, fun e h => (by cases h), fun e h => (by cases h), rfl⟩
  | cons y l ih =>
    obtain ⟨h1, h2⟩ := List.pairwise_cons.1 hs
    by_cases hy : y.addr < a
    · obtain ⟨p, s, e1, e2, e3, e4⟩ := ih h2
      refine ⟨y :: p, s, by rw [e1]; rfl, fun e he => ?_, e3, ?_⟩
      · rcases List.mem_cons.1 he with rfl | he
        · exact hy
        · exact e2 e he
      · unfold aheadT at e4 ⊢
        rw [List.countP_cons, e4, if_pos (decide_eq_true hy)]; rfl
    · have h3 : ∀ e ∈ y :: l, a ≤ e.addr := fun e he => by
        rcases List.mem_cons.1 he with rfl | he
        · omega
        · have := h1 e he; omega
      refine ⟨[], y :: l, rfl, fun e h => (by cases h), h3, ?_⟩
      unfold aheadT
      rw [List.length_nil, List.countP_eq_zero]
      intro e he
      have := h3 e he
      simp; omega
theorem filter_all {q : E → Bool} (h : ∀ e ∈ l, q e = true) : l.filter q = l := List.filter_eq_self.2 h
theorem filter_none {q : E → Bool} (h : ∀ e ∈ l, q e = false) : l.filter q = [] := List.filter_eq_nil_iff.2 fun e he => by rw [h e he]; exact Bool.false_ne_true
theorem getT_cut (hp : ∀ e ∈ p, e.addr < a) : getT (p ++ s) a = getT s a := by
  rw [getT_append, getT_none.2 fun e he => by have := hp e he; omega]; rfl
theorem getD_mid (p s : List E) (y d : E) : (p ++ y :: s).getD p.length d = y := by
  rw [List.getD_eq_getElem?_getD, List.getElem?_append_right (Nat.le_refl _), Nat.sub_self]; rfl
theorem ahead_lt (hs : Srt l) {i : Nat} (hi : i < l.length) : (l.getD i E.zero).addr < a ↔ i < aheadT l a := by
  obtain ⟨p, s, rfl, h1, h2, h3⟩ := srt_cut hs a
  rw [h3]
  constructor
  · intro h
    rcases Nat.lt_or_ge i p.length with h4 | h4
    · exact h4
    · exfalso
      rw [List.length_append] at hi
      have h5 : (p ++ s).getD i E.zero ∈ s := by
        rw [List.getD_eq_getElem?_getD, List.getElem?_append_right h4, List.getElem?_eq_getElem (by omega), Option.getD_some]
        exact List.getElem_mem _
      have := h2 _ h5; omega
  · intro h
    refine h1 _ ?_
    rw [List.getD_eq_getElem?_getD, List.getElem?_append_left h, List.getElem?_eq_getElem h, Option.getD_some]
    exact List.getElem_mem _
/-- None stands there. -/
theorem get_ahead_none (hs : Srt l) (h : aheadT l a < l.length → (l.getD (aheadT l a) E.zero).addr ≠ a) : getT l a = none := by
  obtain ⟨p, s, rfl, h1, h2, h3⟩ := srt_cut hs a
  rw [getT_cut h1]
  cases s with
  | nil => rfl
  | cons y s =>
    have h4 := h (by rw [h3, List.length_append, List.length_cons]; omega)
    rw [h3, getD_mid] at h4
    have h5 := List.pairwise_cons.1 (List.pairwise_append.1 hs).2.1
    have h6 := h2 y List.mem_cons_self
    refine getT_none.2 fun e he => ?_
    rcases List.mem_cons.1 he with rfl | he
    · exact h4
    · have := h5.1 e he; omega
theorem get_ahead_some (hs : Srt l) (hk : aheadT l a < l.length) (h : (l.getD (aheadT l a) E.zero).addr = a) : getT l a = some (l.getD (aheadT l a) E.zero) := by
  have h1 : l.getD (aheadT l a) E.zero ∈ l := by
    rw [List.getD_eq_getElem?_getD, List.getElem?_eq_getElem hk, Option.getD_some]
    exact List.getElem_mem _
  have := getT_mem hs h1
  rwa [h] at this
/-- One stands there: the list ahead, it, the list behind. -/
theorem some_cut (hs : Srt l) (h : getT l a = some y) : ∃ p s, l = p ++ y :: s ∧ y.addr = a ∧ (∀ e ∈ p, e.addr < a) ∧ (∀ e ∈ s, a < e.addr) ∧ aheadT l a = p.length := by
  obtain ⟨p, s, rfl, h1, h2, h3⟩ := srt_cut hs a
  rw [getT_cut h1] at h
  obtain ⟨h4, h5⟩ := getT_some h
  cases s with
  | nil => cases h4
  | cons z s =>
    have h6 := List.pairwise_cons.1 (List.pairwise_append.1 hs).2.1
    have h7 := h2 z List.mem_cons_self
    obtain rfl : z = y := by
      rcases List.mem_cons.1 h4 with e | h4
      · exact e.symm
      · have := h6.1 y h4; omega
    exact ⟨p, s, rfl, h5, h1, fun e he => by have := h6.1 e he; omega, h3⟩
theorem ahead_some (hs : Srt l) (h : getT l a = some y) : aheadT l a < l.length ∧ l.getD (aheadT l a) E.zero = y ∧ y.addr = a := by
  obtain ⟨p, s, rfl, h1, h2, h3, h4⟩ := some_cut hs h
  rw [h4]
  exact ⟨by rw [List.length_append, List.length_cons]; omega, getD_mid _ _ _ _, h1⟩
theorem ahead_none (hs : Srt l) (h : getT l a = none) (hk : aheadT l a < l.length) : (l.getD (aheadT l a) E.zero).addr ≠ a := fun e => by
  rw [get_ahead_some hs hk e] at h; cases h
/-- What putting makes where none stands. -/
theorem put_at (hs : Srt l) (h : getT l x.addr = none) : putT l x = l.take (aheadT l x.addr) ++ x :: l.drop (aheadT l x.addr) := by
  obtain ⟨p, s, rfl, h1, h2, h3⟩ := srt_cut hs x.addr
  have h4 : ∀ e ∈ s, x.addr < e.addr := fun e he => by
    have h5 := h2 e he
    have h6 := getT_none.1 h e (List.mem_append_right _ he)
    omega
  rw [h3, List.take_left, List.drop_left]
  unfold putT
  rw [List.filter_append, List.filter_append, filter_all (l := p) (fun e he => decide_eq_true (h1 e he)), filter_none (l := s) (fun e he => decide_eq_false (by have := h4 e he; omega)),
    filter_none (l := p) (fun e he => decide_eq_false (by have := h1 e he; omega)), filter_all (l := s) (fun e he => decide_eq_true (h4 e he)), List.append_nil, List.nil_append]
theorem put_over (hs : Srt l) (h : getT l x.addr = some y) : putT l x = l.set (aheadT l x.addr) x := by
  obtain ⟨p, s, rfl, h1, h2, h3, h4⟩ := some_cut hs h
  rw [h4, List.set_append_right _ _ (Nat.le_refl _), Nat.sub_self, List.set_cons_zero]
  unfold putT
  rw [List.filter_append, List.filter_append, filter_all (l := p) (fun e he => decide_eq_true (h2 e he)), List.filter_cons_of_neg (by simp; omega), filter_none (l := s) (fun e he => decide_eq_false (by have := h3 e he; omega)),
    filter_none (l := p) (fun e he => decide_eq_false (by have := h2 e he; omega)), List.filter_cons_of_neg (by simp; omega), filter_all (l := s) (fun e he => decide_eq_true (h3 e he)), List.append_nil, List.nil_append]
theorem drop_at (hs : Srt l) (h : getT l a = some y) : dropT l a = l.take (aheadT l a) ++ l.drop (aheadT l a + 1) := by
  obtain ⟨p, s, rfl, h1, h2, h3, h4⟩ := some_cut hs h
  rw [h4, List.take_left, show (p ++ y :: s).drop (p.length + 1) = s by
    rw [List.drop_append, List.drop_eq_nil_of_le (by omega), show p.length + 1 - p.length = 1 by omega]; rfl]
  unfold dropT
  rw [List.filter_append, filter_all (l := p) (fun e he => by have := h2 e he; simp; omega), List.filter_cons_of_neg (by simp [h1]), filter_all (l := s) (fun e he => by have := h3 e he; simp; omega)]
/-- What From picks. -/
def pickT (d : Bool) (s : List E) : List E := s.filter fun e => e.dirty || !d
theorem from_ahead (hs : Srt l) (a n : Int) (d : Bool) : fromT l a n d = (pickT d (l.drop (aheadT l a))).take n.toNat := by
  obtain ⟨p, s, rfl, h1, h2, h3⟩ := srt_cut hs a
  rw [h3, List.drop_left]
  unfold fromT pickT
  rw [List.filter_append, filter_none (l := p) (fun e he => by have := h1 e he; rw [decide_eq_false (by omega)]; rfl), List.nil_append]
  congr 1
  refine List.filter_congr fun e he => ?_
  rw [decide_eq_true (h2 e he), Bool.true_and, Bool.or_comm]
theorem ahead_nil (a : Int) : aheadT [] a = 0 := rfl
end
end Go.Proofs.Ythamnmadgfmbkaa
