/- Which block is worn how much, as mathematics: the least, the most worn one, the spread, the order. No conditions; no program. -/
namespace Go.Proofs.Ytggijifealljiaa

def wornM (x : Int) : Int := if x < 0 ∨ 1073741824 < x then 0 else x
def keyW (ws : List Int) (i : Nat) : Int := wornM (ws.getD i 0)
def isC (cs : List Bool) (i : Nat) : Bool := cs.getD i false
/-- i stands ahead of j. -/
def lexW (ws : List Int) (i j : Nat) : Prop := keyW ws i < keyW ws j ∨ (keyW ws i = keyW ws j ∧ i < j)
/-- The order of those that count among the first n. -/
structure IsOrder (ws : List Int) (cs : List Bool) (n : Nat) (o : List Nat) : Prop where
  up : o.Pairwise (lexW ws)
  all : ∀ i, i ∈ o ↔ i < n ∧ isC cs i = true
/-- The first one that is worn least of those that count among the first n: -1 if there is none. -/
def leastN (ws : List Int) (cs : List Bool) : Nat → Int
  | 0 => -1
  | i + 1 => if isC cs i = true ∧ (leastN ws cs i < 0 ∨ keyW ws i < keyW ws (leastN ws cs i).toNat) then (i : Int) else leastN ws cs i
def greatN (ws : List Int) (cs : List Bool) : Nat → Int
  | 0 => -1
  | i + 1 => if isC cs i = true ∧ (greatN ws cs i < 0 ∨ keyW ws (greatN ws cs i).toNat < keyW ws i) then (i : Int) else greatN ws cs i
def insW (ws : List Int) (i : Nat) : List Nat → List Nat
  | [] => [i]
  | a :: l => if keyW ws i < keyW ws a then i :: a :: l else a :: insW ws i l
def orderN (ws : List Int) (cs : List Bool) : Nat → List Nat
  | 0 => []
  | i + 1 => if isC cs i = true then insW ws i (orderN ws cs i) else orderN ws cs i
def orderW (ws : List Int) (cs : List Bool) : List Nat := if ws.length = cs.length then orderN ws cs ws.length else []
def orderI (ws : List Int) (cs : List Bool) : List Int := (orderW ws cs).map fun (k : Nat) => (k : Int)
def leastW (ws : List Int) (cs : List Bool) : Int := if ws.length = cs.length then leastN ws cs ws.length else -1
def greatW (ws : List Int) (cs : List Bool) : Int := if ws.length = cs.length then greatN ws cs ws.length else -1
def spreadW (ws : List Int) (cs : List Bool) : Int := if leastW ws cs < 0 then 0 else keyW ws (greatW ws cs).toNat - keyW ws (leastW ws cs).toNat
section
variable {ws : List Int} {cs : List Bool} {n i j k : Nat} {o o' : List Nat}
theorem worn_bd (x : Int) : 0 ≤ wornM x ∧ wornM x ≤ 1073741824 := by unfold wornM; split <;> omega
theorem worn_id {x : Int} (h0 : 0 ≤ x) (h1 : x ≤ 1073741824) : wornM x = x := if_neg (by omega)
theorem lex_irr : ¬ lexW ws i i := fun h => by unfold lexW at h; omega
theorem lex_trans (h1 : lexW ws i j) (h2 : lexW ws j k) : lexW ws i k := by unfold lexW at *; omega
theorem lex_tri (h : i ≠ j) : lexW ws i j ∨ lexW ws j i := by unfold lexW; omega
/-- Two lists in order that have the same members are one. -/
theorem order_one : ∀ {o o' : List Nat}, o.Pairwise (lexW ws) → o'.Pairwise (lexW ws) → (∀ i, i ∈ o ↔ i ∈ o') → o = o'
  | [], [], _, _, _ => rfl
  | [], b :: l, _, _, h => by have := (h b).2 (by simp); cases this
  | a :: l, [], _, _, h => by have := (h a).1 (by simp); cases this
  | a :: l, b :: l', h1, h2, h => by
    obtain ⟨ha, hl⟩ := List.pairwise_cons.1 h1
    obtain ⟨hb, hl'⟩ := List.pairwise_cons.1 h2
    have e : a = b := by
      rcases List.mem_cons.1 ((h a).1 (by simp)) with e | e
      · exact e
      · rcases List.mem_cons.1 ((h b).2 (by simp)) with e2 | e2
        · exact e2.symm
        · exact absurd (lex_trans (ha b e2) (hb a e)) lex_irr
    subst e
    refine congrArg _ (order_one hl hl' fun i => ?_)
    have hi := h i
    rw [List.mem_cons, List.mem_cons] at hi
    constructor
    · intro hm
      rcases hi.1 (Or.inr hm) with e | e
      · subst e; exact absurd (ha _ hm) lex_irr
      · exact e
    · intro hm
      rcases hi.2 (Or.inr hm) with e | e
      · subst e; exact absurd (hb _ hm) lex_irr
      · exact e
theorem IsOrder.one (h : IsOrder ws cs n o) (h' : IsOrder ws cs n o') : o = o' := order_one h.up h'.up fun i => (h.all i).trans (h'.all i).symm
theorem ins_mem : ∀ {o : List Nat}, ∀ x, x ∈ insW ws i o ↔ x = i ∨ x ∈ o
  | [], x => by simp [insW]
  | a :: l, x => by
    unfold insW
    split
    · simp
    · rw [List.mem_cons, ins_mem (o := l) x, List.mem_cons]
      constructor
      · rintro (h | h | h)
        · exact Or.inr (Or.inl h)
        · exact Or.inl h
        · exact Or.inr (Or.inr h)
      · rintro (h | h | h)
        · exact Or.inr (Or.inl h)
        · exact Or.inl h
        · exact Or.inr (Or.inr h)
theorem ins_up : ∀ {o : List Nat}, o.Pairwise (lexW ws) → (∀ x ∈ o, x < i) → (insW ws i o).Pairwise (lexW ws)
  | [], _, _ => by simp [insW]
  | a :: l, h, hi => by
    obtain ⟨ha, hl⟩ := List.pairwise_cons.1 h
    unfold insW
    split
    · rename_i hk
      refine List.pairwise_cons.2 ⟨fun x hx => ?_, h⟩
      rcases List.mem_cons.1 hx with rfl | hx
      · exact Or.inl hk
      · exact lex_trans (Or.inl hk) (ha x hx)
    · rename_i hk
      refine List.pairwise_cons.2 ⟨fun x hx => ?_, ins_up hl fun x hx => hi x (by simp [hx])⟩
      rcases (ins_mem x).1 hx with rfl | hx
      · have := hi a (by simp)
        unfold lexW; omega
      · exact ha x hx
theorem order_is : ∀ n, IsOrder ws cs n (orderN ws cs n)
  | 0 => ⟨by simp [orderN], fun i => by simp [orderN]⟩
  | n + 1 => by
    have ih := order_is n
    unfold orderN
    by_cases hc : isC cs n = true
    · rw [if_pos hc]
      refine ⟨ins_up ih.up fun x hx => ((ih.all x).1 hx).1, fun x => ?_⟩
      rw [ins_mem, ih.all]
      constructor
      · rintro (rfl | ⟨h1, h2⟩)
        · exact ⟨by omega, hc⟩
        · exact ⟨by omega, h2⟩
      · rintro ⟨h1, h2⟩
        by_cases e : x = n
        · exact Or.inl e
        · exact Or.inr ⟨by omega, h2⟩
    · rw [if_neg hc]
      refine ⟨ih.up, fun x => ?_⟩
      rw [ih.all]
      constructor
      · rintro ⟨h1, h2⟩; exact ⟨by omega, h2⟩
      · rintro ⟨h1, h2⟩
        have : x ≠ n := fun e => hc (e ▸ h2)
        exact ⟨by omega, h2⟩
theorem order_lt {x : Nat} (h : x ∈ orderN ws cs n) : x < n := ((order_is n).all x).1 h |>.1
/-- Where the new one is put. -/
theorem ins_split : ∀ {o : List Nat} {k : Nat}, k ≤ o.length → (∀ j, j < k → keyW ws (o.getD j 0) ≤ keyW ws i) → (k < o.length → keyW ws i < keyW ws (o.getD k 0)) → insW ws i o = o.take k ++ i :: o.drop k
  | [], k, hk, _, _ => by
    obtain rfl : k = 0 := by simpa using hk
    rfl
  | a :: l, 0, _, _, h2 => by
    have := h2 (by simp)
    unfold insW
    rw [if_pos (by simpa using this)]; rfl
  | a :: l, k + 1, hk, h1, h2 => by
    have h0 := h1 0 (by omega)
    unfold insW
    rw [if_neg (by have : keyW ws a ≤ keyW ws i := by simpa using h0
                   omega), ins_split (o := l) (k := k) (by simpa using hk) (fun j hj => by simpa using h1 (j + 1) (by omega)) (fun hl => by simpa using h2 (by simpa using hl))]
    rfl
/-- In an order no later one is worn less. -/
theorem up_le (h : o.Pairwise (lexW ws)) {a b : Nat} (hab : a ≤ b) (hb : b < o.length) : keyW ws (o.getD a 0) ≤ keyW ws (o.getD b 0) := by
  by_cases e : a = b
  · subst e; exact Int.le_refl _
  · have := List.pairwise_iff_getElem.1 h a b (by omega) hb (by omega)
    rw [List.getD_eq_getElem?_getD, List.getD_eq_getElem?_getD, List.getElem?_eq_getElem hb, List.getElem?_eq_getElem (show a < o.length by omega)]
    unfold lexW at this
    simp only [Option.getD_some]
    omega
/- the least and the most worn -/
structure IsLeast (ws : List Int) (cs : List Bool) (n k : Nat) : Prop where
  lt : k < n
  is : isC cs k = true
  le : ∀ j, j < n → isC cs j = true → keyW ws k < keyW ws j ∨ (keyW ws k = keyW ws j ∧ k ≤ j)
structure IsGreat (ws : List Int) (cs : List Bool) (n k : Nat) : Prop where
  lt : k < n
  is : isC cs k = true
  le : ∀ j, j < n → isC cs j = true → keyW ws j < keyW ws k ∨ (keyW ws k = keyW ws j ∧ k ≤ j)
theorem IsLeast.one (h : IsLeast ws cs n i) (h' : IsLeast ws cs n j) : i = j := by
  have h1 := h.le j h'.lt h'.is
  have h2 := h'.le i h.lt h.is
  omega
theorem IsGreat.one (h : IsGreat ws cs n i) (h' : IsGreat ws cs n j) : i = j := by
  have h1 := h.le j h'.lt h'.is
  have h2 := h'.le i h.lt h.is
  omega
theorem least_is : ∀ n, (leastN ws cs n = -1 ∧ ∀ j, j < n → isC cs j = false) ∨ ∃ k : Nat, leastN ws cs n = (k : Int) ∧ IsLeast ws cs n k
  | 0 => Or.inl ⟨rfl, fun j hj => by omega⟩
  | n + 1 => by
    unfold leastN
    cases hc : isC cs n with
    | false =>
      rw [if_neg (by simp)]
      rcases least_is n with ⟨h1, h2⟩ | ⟨k, h1, h2⟩
      · refine Or.inl ⟨h1, fun j hj => ?_⟩
        by_cases e : j = n
        · rw [e]; exact hc
        · exact h2 j (by omega)
      · refine Or.inr ⟨k, h1, by have := h2.lt; omega, h2.is, fun j hj hcj => ?_⟩
        by_cases e : j = n
        · rw [e, hc] at hcj; cases hcj
        · exact h2.le j (by omega) hcj
    | true =>
      rcases least_is n with ⟨h1, h2⟩ | ⟨k, h1, h2⟩
      · rw [h1, if_pos ⟨rfl, Or.inl (by decide)⟩]
        refine Or.inr ⟨n, rfl, by omega, hc, fun j hj hcj => ?_⟩
        by_cases e : j = n
        · subst e; exact Or.inr ⟨rfl, Nat.le_refl _⟩
        · rw [h2 j (by omega)] at hcj; cases hcj
      · rw [h1]
        by_cases hk : keyW ws n < keyW ws k
        · rw [if_pos ⟨rfl, Or.inr (by rw [Int.toNat_natCast]; exact hk)⟩]
          refine Or.inr ⟨n, rfl, by omega, hc, fun j hj hcj => ?_⟩
          by_cases e : j = n
          · subst e; exact Or.inr ⟨rfl, Nat.le_refl _⟩
          · have := h2.le j (by omega) hcj; omega
        · rw [if_neg (by rw [Int.toNat_natCast]; rintro ⟨_, h | h⟩; omega; exact hk h)]
          refine Or.inr ⟨k, rfl, by have := h2.lt; omega, h2.is, fun j hj hcj => ?_⟩
          by_cases e : j = n
          · have := h2.lt
            rw [e]; omega
          · exact h2.le j (by omega) hcj
theorem great_is : ∀ n, (greatN ws cs n = -1 ∧ ∀ j, j < n → isC cs j = false) ∨ ∃ k : Nat, greatN ws cs n = (k : Int) ∧ IsGreat ws cs n k
  | 0 => Or.inl ⟨rfl, fun j hj => by omega⟩
  | n + 1 => by
    unfold greatN
    cases hc : isC cs n with
    | false =>
      rw [if_neg (by simp)]
      rcases great_is n with ⟨h1, h2⟩ | ⟨k, h1, h2⟩
      · refine Or.inl ⟨h1, fun j hj => ?_⟩
        by_cases e : j = n
        · rw [e]; exact hc
        · exact h2 j (by omega)
      · refine Or.inr ⟨k, h1, by have := h2.lt; omega, h2.is, fun j hj hcj => ?_⟩
        by_cases e : j = n
        · rw [e, hc] at hcj; cases hcj
        · exact h2.le j (by omega) hcj
    | true =>
      rcases great_is n with ⟨h1, h2⟩ | ⟨k, h1, h2⟩
      · rw [h1, if_pos ⟨rfl, Or.inl (by decide)⟩]
        refine Or.inr ⟨n, rfl, by omega, hc, fun j hj hcj => ?_⟩
        by_cases e : j = n
        · subst e; exact Or.inr ⟨rfl, Nat.le_refl _⟩
        · rw [h2 j (by omega)] at hcj; cases hcj
      · rw [h1]
        by_cases hk : keyW ws k < keyW ws n
        · rw [if_pos ⟨rfl, Or.inr (by rw [Int.toNat_natCast]; exact hk)⟩]
          refine Or.inr ⟨n, rfl, by omega, hc, fun j hj hcj => ?_⟩
          by_cases e : j = n
          · subst e; exact Or.inr ⟨rfl, Nat.le_refl _⟩
          · have := h2.le j (by omega) hcj; omega
        · rw [if_neg (by rw [Int.toNat_natCast]; rintro ⟨_, h | h⟩; omega; exact hk h)]
          refine Or.inr ⟨k, rfl, by have := h2.lt; omega, h2.is, fun j hj hcj => ?_⟩
          by_cases e : j = n
          · have := h2.lt
            rw [e]; omega
          · exact h2.le j (by omega) hcj
/-- The order's first is the least worn one. -/
theorem order_head {a : Nat} {l : List Nat} (h : orderN ws cs n = a :: l) : IsLeast ws cs n a := by
  have ho := order_is (ws := ws) (cs := cs) n
  rw [h] at ho
  obtain ⟨h1, h2⟩ := (ho.all a).1 (by simp)
  refine ⟨h1, h2, fun j hj hc => ?_⟩
  rcases List.mem_cons.1 ((ho.all j).2 ⟨hj, hc⟩) with e | e
  · subst e; exact Or.inr ⟨rfl, Nat.le_refl _⟩
  · have := (List.pairwise_cons.1 ho.up).1 j e
    unfold lexW at this
    omega
theorem order_none : orderN ws cs n = [] ↔ ∀ j, j < n → isC cs j = false := by
  have ho := order_is (ws := ws) (cs := cs) n
  constructor
  · intro h j hj
    cases hc : isC cs j with
    | false => rfl
    | true =>
      have := (ho.all j).2 ⟨hj, hc⟩
      rw [h] at this; cases this
  · intro h
    rw [List.eq_nil_iff_forall_not_mem]
    intro x hx
    obtain ⟨h1, h2⟩ := (ho.all x).1 hx
    rw [h x h1] at h2; cases h2
theorem least_head {a : Nat} {l : List Nat} (h : orderN ws cs n = a :: l) : leastN ws cs n = (a : Int) := by
  have h1 := order_head h
  rcases least_is (ws := ws) (cs := cs) n with ⟨_, h3⟩ | ⟨k, h2, h3⟩
  · exact absurd h1.is (by rw [h3 a h1.lt]; decide)
  · rw [h2, h1.one h3]
theorem least_none (h : orderN ws cs n = []) : leastN ws cs n = -1 := by
  rcases least_is (ws := ws) (cs := cs) n with ⟨h2, _⟩ | ⟨k, _, h3⟩
  · exact h2
  · have := order_none.1 h k h3.lt
    rw [h3.is] at this; cases this
theorem great_none (h : orderN ws cs n = []) : greatN ws cs n = -1 := by
  rcases great_is (ws := ws) (cs := cs) n with ⟨h2, _⟩ | ⟨k, _, h3⟩
  · exact h2
  · have := order_none.1 h k h3.lt
    rw [h3.is] at this; cases this
/-- The most worn one: where the order's last ones begin that are worn alike. -/
theorem great_at {p : Nat} (hp : p < (orderN ws cs n).length) (h1 : ∀ j, p ≤ j → j < (orderN ws cs n).length → keyW ws ((orderN ws cs n).getD j 0) = keyW ws ((orderN ws cs n).getD ((orderN ws cs n).length - 1) 0)) (h2 : p = 0 ∨ keyW ws ((orderN ws cs n).getD (p - 1) 0) ≠ keyW ws ((orderN ws cs n).getD p 0)) :
    greatN ws cs n = (((orderN ws cs n).getD p 0 : Nat) : Int) := by
  have ho := order_is (ws := ws) (cs := cs) n
  obtain ⟨o, ho2⟩ : ∃ o, orderN ws cs n = o := ⟨_, rfl⟩
  rw [ho2] at ho hp h1 h2 ⊢
  have hmem : o.getD p 0 ∈ o := by rw [List.getD_eq_getElem?_getD, List.getElem?_eq_getElem hp]; exact List.getElem_mem hp
  obtain ⟨h3, h4⟩ := (ho.all _).1 hmem
  have hg : IsGreat ws cs n (o.getD p 0) := by
    refine ⟨h3, h4, fun j hj hc => ?_⟩
    obtain ⟨q, hq, rfl⟩ := List.mem_iff_getElem.1 ((ho.all j).2 ⟨hj, hc⟩)
    have e : o[q] = o.getD q 0 := by rw [List.getD_eq_getElem?_getD, List.getElem?_eq_getElem hq]; rfl
    rw [e]
    by_cases hpq : p ≤ q
    · right
      refine ⟨(h1 p (Nat.le_refl _) hp).trans (h1 q hpq hq).symm, ?_⟩
      by_cases e2 : p = q
      · rw [e2]; exact Nat.le_refl _
      · have := List.pairwise_iff_getElem.1 ho.up p q hp hq (by omega)
        have e3 : o[p] = o.getD p 0 := by rw [List.getD_eq_getElem?_getD, List.getElem?_eq_getElem hp]; rfl
        rw [e, e3] at this
        have h5 := (h1 p (Nat.le_refl _) hp).trans (h1 q hpq hq).symm
        unfold lexW at this
        omega
    · left
      have h5 := up_le ho.up (show q ≤ p - 1 by omega) (show p - 1 < o.length by omega)
      have h6 := up_le ho.up (show p - 1 ≤ p by omega) hp
      rcases h2 with h2 | h2
      · omega
      · omega
  rcases great_is (ws := ws) (cs := cs) n with ⟨_, h5⟩ | ⟨k, h5, h6⟩
  · have := h5 _ h3
    rw [h4] at this; cases this
  · rw [h5, h6.one hg]
theorem spread_nonneg : 0 ≤ spreadW ws cs := by
  unfold spreadW
  split
  · exact Int.le_refl _
  · rename_i h
    unfold leastW greatW at *
    by_cases hl : ws.length = cs.length
    · rw [if_pos hl] at h ⊢
      rw [if_pos hl]
      rcases least_is (ws := ws) (cs := cs) ws.length with ⟨h1, _⟩ | ⟨k, h1, h2⟩
      · omega
      · rcases great_is (ws := ws) (cs := cs) ws.length with ⟨_, h4⟩ | ⟨g, h3, h4⟩
        · have := h4 k h2.lt
          rw [h2.is] at this; cases this
        · rw [h1, h3, Int.toNat_natCast, Int.toNat_natCast]
          have := h4.le k h2.lt h2.is
          omega
    · rw [if_neg hl] at h; omega
end
end Go.Proofs.Ytggijifealljiaa
