/- The plain mathematics of WearShifts: counts that are alike but for one number. No conditions; no program. -/
import Derived.Test.YtggijifealljiaaWearMath
namespace Go.Proofs.Ytggijifealljiaa

/-- Those that count are worn d more in the second list. -/
structure Alike (d : Int) (ws vs : List Int) (cs : List Bool) (n : Nat) : Prop where
  la : ws.length = n
  lb : vs.length = n
  lc : cs.length = n
  key : ∀ i, i < n → isC cs i = true → keyW vs i = keyW ws i + d
section
variable {d : Int} {ws vs : List Int} {cs : List Bool} {n : Nat}
theorem Alike.lex (h : Alike d ws vs cs n) {i j : Nat} (hi : i < n) (hj : j < n) (ci : isC cs i = true) (cj : isC cs j = true) (hl : lexW ws i j) : lexW vs i j := by
  have h1 := h.key i hi ci
  have h2 := h.key j hj cj
  unfold lexW at *
  omega
theorem Alike.order (h : Alike d ws vs cs n) : orderN vs cs n = orderN ws cs n := by
  have ho := order_is (ws := ws) (cs := cs) n
  refine (order_is (ws := vs) (cs := cs) n).one ⟨?_, ho.all⟩
  refine ho.up.imp_of_mem fun {i j} hi hj hl => ?_
  obtain ⟨h1, h2⟩ := (ho.all i).1 hi
  obtain ⟨h3, h4⟩ := (ho.all j).1 hj
  exact h.lex h1 h3 h2 h4 hl
theorem Alike.orderI (h : Alike d ws vs cs n) : orderI vs cs = orderI ws cs := by
  unfold Proofs.Ytggijifealljiaa.orderI orderW
  rw [if_pos (h.lb.trans h.lc.symm), if_pos (h.la.trans h.lc.symm), h.la, h.lb, h.order]
theorem Alike.isLeast (h : Alike d ws vs cs n) {k : Nat} (hk : IsLeast ws cs n k) : IsLeast vs cs n k := ⟨hk.lt, hk.is, fun j hj hc => by
  have h1 := h.key k hk.lt hk.is
  have h2 := h.key j hj hc
  have h3 := hk.le j hj hc
  omega⟩
theorem Alike.isGreat (h : Alike d ws vs cs n) {k : Nat} (hk : IsGreat ws cs n k) : IsGreat vs cs n k := ⟨hk.lt, hk.is, fun j hj hc => by
  have h1 := h.key k hk.lt hk.is
  have h2 := h.key j hj hc
  have h3 := hk.le j hj hc
  omega⟩
theorem Alike.least (h : Alike d ws vs cs n) : leastN vs cs n = leastN ws cs n := by
  rcases least_is (ws := ws) (cs := cs) n with ⟨h1, h2⟩ | ⟨k, h1, h2⟩
  · rcases least_is (ws := vs) (cs := cs) n with ⟨h3, _⟩ | ⟨g, h3, h4⟩
    · rw [h1, h3]
    · have := h2 g h4.lt
      rw [h4.is] at this; cases this
  · rcases least_is (ws := vs) (cs := cs) n with ⟨_, h4⟩ | ⟨g, h3, h4⟩
    · have := h4 k h2.lt
      rw [h2.is] at this; cases this
    · rw [h1, h3, h4.one (h.isLeast h2)]
theorem Alike.great (h : Alike d ws vs cs n) : greatN vs cs n = greatN ws cs n := by
  rcases great_is (ws := ws) (cs := cs) n with ⟨h1, h2⟩ | ⟨k, h1, h2⟩
  · rcases great_is (ws := vs) (cs := cs) n with ⟨h3, _⟩ | ⟨g, h3, h4⟩
    · rw [h1, h3]
    · have := h2 g h4.lt
      rw [h4.is] at this; cases this
  · rcases great_is (ws := vs) (cs := cs) n with ⟨_, h4⟩ | ⟨g, h3, h4⟩
    · have := h4 k h2.lt
      rw [h2.is] at this; cases this
    · rw [h1, h3, h4.one (h.isGreat h2)]
theorem Alike.leastW (h : Alike d ws vs cs n) : leastW vs cs = leastW ws cs := by
  unfold Proofs.Ytggijifealljiaa.leastW
  rw [if_pos (h.lb.trans h.lc.symm), if_pos (h.la.trans h.lc.symm), h.la, h.lb, h.least]
theorem Alike.greatW (h : Alike d ws vs cs n) : greatW vs cs = greatW ws cs := by
  unfold Proofs.Ytggijifealljiaa.greatW
  rw [if_pos (h.lb.trans h.lc.symm), if_pos (h.la.trans h.lc.symm), h.la, h.lb, h.great]
theorem Alike.spread (h : Alike d ws vs cs n) : spreadW vs cs = spreadW ws cs := by
  unfold spreadW
  rw [h.leastW, h.greatW]
  split
  · rfl
  · rename_i h0
    unfold Proofs.Ytggijifealljiaa.leastW Proofs.Ytggijifealljiaa.greatW at *
    rw [if_pos (h.la.trans h.lc.symm), h.la] at h0
    rw [if_pos (h.la.trans h.lc.symm), if_pos (h.la.trans h.lc.symm), h.la]
    rcases least_is (ws := ws) (cs := cs) n with ⟨h1, _⟩ | ⟨k, h1, h2⟩
    · omega
    · rcases great_is (ws := ws) (cs := cs) n with ⟨_, h4⟩ | ⟨g, h3, h4⟩
      · have := h4 k h2.lt
        rw [h2.is] at this; cases this
      · rw [h1, h3, Int.toNat_natCast, Int.toNat_natCast, h.key g h4.lt h4.is, h.key k h2.lt h2.is]
        omega
theorem ins_length (ws : List Int) (i : Nat) : ∀ o : List Nat, (insW ws i o).length = o.length + 1
  | [] => rfl
  | a :: l => by
    unfold insW
    split
    · rfl
    · rw [List.length_cons, ins_length ws i l, List.length_cons]
/-- One alone does not count. -/
theorem order_but (ws : List Int) (cs : List Bool) (q n : Nat) (h : ∀ i, i < n → isC cs i = decide (i ≠ q)) : (orderN ws cs n).length = if n ≤ q then n else n - 1 := by
  induction n with
  | zero => simp [orderN]
  | succ n ih =>
    have ih := ih fun i hi => h i (by omega)
    have hn := h n (by omega)
    unfold orderN
    by_cases e : n = q
    · rw [hn, if_neg (by simp [e]), ih]
      split <;> split <;> omega
    · rw [hn, if_pos (by simp [e]), ins_length, ih]
      split <;> split <;> omega
end
end Go.Proofs.Ytggijifealljiaa
