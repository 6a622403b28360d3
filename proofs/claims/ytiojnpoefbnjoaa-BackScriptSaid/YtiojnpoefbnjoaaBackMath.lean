/- Whose pages are, as mathematics: a list of owners; what each call answers, and leaves. No conditions; no program. -/
namespace Go.Proofs.Ytiojnpoefbnjoaa

abbrev Bk := List (Option Int)
def mayBk (x : Int) : Bool := decide (1 ≤ x) && decide (x ≤ 256)
def freshBk (n : Nat) : Bk := List.replicate n none
def ofBk (s : Bk) (p : Int) : Option Int := if p < 0 ∨ (s.length : Int) ≤ p then none else s.getD p.toNat none
def setBk (s : Bk) (p a : Int) : Bk × Int := if p < 0 ∨ (s.length : Int) ≤ p then (s, 2) else if (s.getD p.toNat none).isSome = true then (s, 9) else (s.set p.toNat (some a), 0)
def clearBk (s : Bk) (p : Int) : Bk × Int := if p < 0 ∨ (s.length : Int) ≤ p then (s, 2) else if (s.getD p.toNat none).isSome = false then (s, 8) else (s.set p.toNat none, 0)
def pagesBk (s : Bk) : List Int := ((List.range s.length).filter fun k => (s.getD k none).isSome).map fun (k : Nat) => (k : Int)
def rangeBk (s : Bk) (lo hi : Int) : List Int := (List.range s.length).filterMap fun (k : Nat) => if lo ≤ (k : Int) ∧ (k : Int) < hi then s.getD k none else none
structure BkW (s : Bk) : Prop where
  n1 : 1 ≤ s.length
  n2 : s.length ≤ 256
  wf : ∀ k v, s.getD k none = some v → 0 ≤ v ∧ v ≤ 18446744073709551615
theorem getD_setBk {α : Type} (l : List α) (i j : Nat) (x d : α) : (l.set i x).getD j d = if j = i ∧ i < l.length then x else l.getD j d := by
  rw [List.getD_eq_getElem?_getD, List.getD_eq_getElem?_getD, List.getElem?_set]
  by_cases e : j = i
  · subst e
    by_cases h : j < l.length
    · simp [h]
    · simp [h]
  · simp [e, Ne.symm e]
section
variable {s : Bk} {p a : Int} {k : Nat}
theorem fresh_bkw {n : Nat} (h1 : 1 ≤ n) (h2 : n ≤ 256) : BkW (freshBk n) := by
  refine ⟨by simp [freshBk]; exact h1, by simp [freshBk]; exact h2, fun k v hv => ?_⟩
  unfold freshBk at hv
  rw [List.getD_eq_getElem?_getD, List.getElem?_replicate] at hv
  split at hv <;> cases hv
theorem bkw_set (h : BkW s) (k : Nat) (x : Option Int) (hx : ∀ v, x = some v → 0 ≤ v ∧ v ≤ 18446744073709551615) : BkW (s.set k x) := by
  refine ⟨by rw [List.length_set]; exact h.n1, by rw [List.length_set]; exact h.n2, fun j v hv => ?_⟩
  rw [getD_setBk] at hv
  by_cases e : j = k ∧ k < s.length
  · rw [if_pos e] at hv; exact hx v hv
  · rw [if_neg e] at hv; exact h.wf j v hv
theorem set_at (hk : k < s.length) (h : s.getD k none = none) : setBk s (k : Int) a = (s.set k (some a), 0) := by
  unfold setBk
  rw [if_neg (by omega), Int.toNat_natCast, h, if_neg (by decide)]
theorem clear_at (hk : k < s.length) (h : (s.getD k none).isSome = true) : clearBk s (k : Int) = (s.set k none, 0) := by
  unfold clearBk
  rw [if_neg (by omega), Int.toNat_natCast, h, if_neg (by decide)]
theorem of_at (hk : k < s.length) : ofBk s (k : Int) = s.getD k none := by
  unfold ofBk
  rw [if_neg (by omega), Int.toNat_natCast]
theorem bkw_setBk (h : BkW s) (h0 : 0 ≤ a) (h1 : a ≤ 18446744073709551615) : BkW (setBk s p a).1 := by
  unfold setBk
  split
  · exact h
  split
  · exact h
  · exact bkw_set h _ _ fun v hv => by rw [← Option.some.inj hv]; exact ⟨h0, h1⟩
theorem bkw_clearBk (h : BkW s) : BkW (clearBk s p).1 := by
  unfold clearBk
  split
  · exact h
  split
  · exact h
  · exact bkw_set h _ _ fun v hv => by cases hv
theorem len_setBk : (setBk s p a).1.length = s.length := by
  unfold setBk
  split
  · rfl
  split
  · rfl
  · exact List.length_set
theorem len_clearBk : (clearBk s p).1.length = s.length := by
  unfold clearBk
  split
  · rfl
  split
  · rfl
  · exact List.length_set
end
end Go.Proofs.Ytiojnpoefbnjoaa
