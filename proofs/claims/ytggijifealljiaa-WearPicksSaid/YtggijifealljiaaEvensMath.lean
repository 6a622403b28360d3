/- The plain mathematics of WearEvens: the least worn one is erased again and again. No conditions; no program. -/
import Derived.Test.YtggijifealljiaaWearMath
namespace Go.Proofs.Ytggijifealljiaa

/-- All counts are small. -/
def Small (ws : List Int) (B : Int) : Prop := ∀ j, 0 ≤ ws.getD j 0 ∧ ws.getD j 0 ≤ B
theorem key_small {ws : List Int} {B : Int} (h : Small ws B) (hB : B ≤ 1073741824) (j : Nat) : keyW ws j = ws.getD j 0 := worn_id (h j).1 (Int.le_trans (h j).2 hB)
/-- How much is lacking till all that count are worn as much as M. -/
def lackN (M : Int) (ws : List Int) (cs : List Bool) : Nat → Nat
  | 0 => 0
  | n + 1 => lackN M ws cs n + if isC cs n = true then (M - ws.getD n 0).toNat else 0
section
variable {M B : Int} {ws ws' w0 : List Int} {cs : List Bool} {n b i : Nat}
theorem lack_zero : ∀ n, (∀ j, j < n → isC cs j = true → M ≤ ws.getD j 0) → lackN M ws cs n = 0
  | 0, _ => rfl
  | n + 1, h => by
    unfold lackN
    rw [lack_zero n fun j hj => h j (by omega)]
    split
    · rename_i hc; have := h n (by omega) hc; omega
    · rfl
theorem lack_all : ∀ n, lackN M ws cs n = 0 → ∀ j, j < n → isC cs j = true → M ≤ ws.getD j 0
  | 0, _, j, hj, _ => by omega
  | n + 1, h, j, hj, hc => by
    unfold lackN at h
    by_cases e : j = n
    · subst e
      rw [if_pos hc] at h; omega
    · exact lack_all n (by omega) j (by omega) hc
theorem lack_le (h : ∀ j, M - ws.getD j 0 ≤ 20) : ∀ n, lackN M ws cs n ≤ 20 * n
  | 0 => Nat.le_refl _
  | n + 1 => by
    unfold lackN
    have := lack_le h n
    have := h n
    split <;> omega
theorem getD_set_self {l : List Int} {k : Nat} {x : Int} (h : k < l.length) : (l.set k x).getD k 0 = x := by
  rw [List.getD_eq_getElem?_getD, List.getElem?_set_self h]; rfl
theorem getD_set_other {l : List Int} {k j : Nat} {x : Int} (h : k ≠ j) : (l.set k x).getD j 0 = l.getD j 0 := by
  rw [List.getD_eq_getElem?_getD, List.getElem?_set_ne h, ← List.getD_eq_getElem?_getD]
theorem lack_same (x : Int) : ∀ n, n ≤ b → lackN M (ws.set b x) cs n = lackN M ws cs n
  | 0, _ => rfl
  | n + 1, h => by
    unfold lackN
    rw [lack_same x n (by omega), getD_set_other (by omega)]
/-- One more erase of one that is below M. -/
theorem lack_step (hb : b < ws.length) (hc : isC cs b = true) (hM : ws.getD b 0 < M) : ∀ n, b < n → lackN M (ws.set b (ws.getD b 0 + 1)) cs n + 1 = lackN M ws cs n
  | 0, h => by omega
  | n + 1, h => by
    unfold lackN
    by_cases e : b = n
    · subst e
      rw [lack_same _ _ (Nat.le_refl _), getD_set_self hb, if_pos hc, if_pos hc]; omega
    · have := lack_step hb hc hM n (by omega)
      rw [getD_set_other e]; omega
/-- What holds behind i erases: M: the most at first. -/
structure Evens (M : Int) (w0 ws : List Int) (cs : List Bool) (n i : Nat) : Prop where
  len : ws.length = n
  small : Small ws (20 + (i : Int))
  more : ∀ j, w0.getD j 0 ≤ ws.getD j 0
  near : ∀ j k, j < n → k < n → isC cs j = true → isC cs k = true → ws.getD j 0 ≤ M ∨ ws.getD j 0 ≤ ws.getD k 0 + 1
  lack : lackN M ws cs n + i ≤ 200 ∨ lackN M ws cs n = 0
theorem Evens.step (h : Evens M w0 ws cs n i) (hi : i < 250) (hb : IsLeast ws cs n b) : Evens M w0 (ws.set b (ws.getD b 0 + 1)) cs n (i + 1) := by
  have hk := fun j => key_small h.small (by omega) j
  have hbl : b < ws.length := by rw [h.len]; exact hb.lt
  have hle : ∀ j, j < n → isC cs j = true → ws.getD b 0 ≤ ws.getD j 0 := fun j hj hc => by
    have := hb.le j hj hc
    rw [hk, hk] at this; omega
  have hg : ∀ j, (ws.set b (ws.getD b 0 + 1)).getD j 0 = if j = b then ws.getD b 0 + 1 else ws.getD j 0 := fun j => by
    by_cases e : j = b
    · rw [if_pos e, e, getD_set_self hbl]
    · rw [if_neg e, getD_set_other (Ne.symm e)]
  refine ⟨by rw [List.length_set]; exact h.len, fun j => ?_, fun j => ?_, fun j k hj hk2 hcj hck => ?_, ?_⟩
  · rw [hg]
    have := h.small j
    have := h.small b
    split <;> omega
  · rw [hg]
    have := h.more j
    by_cases e : j = b
    · rw [if_pos e]; rw [e] at this ⊢; omega
    · rw [if_neg e]; exact this
  · rw [hg, hg]
    have h1 := h.near j k hj hk2 hcj hck
    have h2 := hle k hk2 hck
    have h3 := h.near j b hj hb.lt hcj hb.is
    by_cases e : j = b
    · rw [if_pos e]
      right
      split <;> omega
    · rw [if_neg e]
      split
      · omega
      · exact h1
  · by_cases hM : ws.getD b 0 < M
    · have := lack_step (M := M) hbl hb.is hM n hb.lt
      rcases h.lack with h1 | h1
      · left; omega
      · omega
    · right
      refine lack_zero n fun j hj hc => ?_
      rw [hg]
      have := hle j hj hc
      split <;> omega
/-- The spread is bounded by what it was, or by one. -/
theorem Evens.spread (h : Evens M w0 ws cs n i) (hi : i ≤ 250) (hl : n = cs.length) (m0 : Int) (hm : ∀ j, j < n → isC cs j = true → m0 ≤ w0.getD j 0) (hM : m0 ≤ M) : spreadW ws cs ≤ max (M - m0) 1 := by
  unfold spreadW leastW greatW
  rw [if_pos (h.len.trans hl), if_pos (h.len.trans hl), h.len]
  split
  · omega
  · rename_i h0
    rcases least_is (ws := ws) (cs := cs) n with ⟨h1, _⟩ | ⟨k, h1, h2⟩
    · omega
    · rcases great_is (ws := ws) (cs := cs) n with ⟨_, h4⟩ | ⟨g, h3, h4⟩
      · have := h4 k h2.lt
        rw [h2.is] at this; cases this
      · rw [h1, h3, Int.toNat_natCast, Int.toNat_natCast, key_small h.small (by omega), key_small h.small (by omega)]
        have h5 := h.near g k h4.lt h2.lt h4.is h2.is
        have h6 := hm k h2.lt h2.is
        have h7 := h.more k
        omega
/-- Behind all of them the spread is one at most. -/
theorem Evens.last (h : Evens M w0 ws cs n 250) (hl : n = cs.length) : spreadW ws cs ≤ 1 := by
  have hz : lackN M ws cs n = 0 := by rcases h.lack with h1 | h1 <;> omega
  have ha := lack_all n hz
  unfold spreadW leastW greatW
  rw [if_pos (h.len.trans hl), if_pos (h.len.trans hl), h.len]
  split
  · omega
  · rename_i h0
    rcases least_is (ws := ws) (cs := cs) n with ⟨h1, _⟩ | ⟨k, h1, h2⟩
    · omega
    · rcases great_is (ws := ws) (cs := cs) n with ⟨_, h4⟩ | ⟨g, h3, h4⟩
      · have := h4 k h2.lt
        rw [h2.is] at this; cases this
      · rw [h1, h3, Int.toNat_natCast, Int.toNat_natCast, key_small h.small (by omega), key_small h.small (by omega)]
        have h5 := h.near g k h4.lt h2.lt h4.is h2.is
        have h6 := ha k h2.lt h2.is
        omega
/-- The beginning: the most and the least of those that count. -/
theorem evens_start (hl : w0.length = n) (hc : n = cs.length) (hn : n ≤ 10) (hs : Small w0 20) : ∃ M m0, Evens M w0 w0 cs n 0 ∧ (∀ j, j < n → isC cs j = true → m0 ≤ w0.getD j 0) ∧ m0 ≤ M ∧ spreadW w0 cs = M - m0 := by
  have hk := fun j => key_small hs (by omega) j
  unfold spreadW leastW greatW
  rw [if_pos (hl.trans hc), if_pos (hl.trans hc), hl]
  rcases least_is (ws := w0) (cs := cs) n with ⟨h1, h2⟩ | ⟨k, h1, h2⟩
  · refine ⟨0, 0, ⟨hl, by simpa using hs, fun j => Int.le_refl _, fun j k hj _ hcj => ?_, Or.inr (lack_zero n fun j hj hcj => ?_)⟩, fun j hj hcj => ?_, Int.le_refl _, ?_⟩
    · rw [h2 j hj] at hcj; cases hcj
    · rw [h2 j hj] at hcj; cases hcj
    · rw [h2 j hj] at hcj; cases hcj
    · rw [h1, if_pos (by decide)]; rfl
  · rcases great_is (ws := w0) (cs := cs) n with ⟨_, h4⟩ | ⟨g, h3, h4⟩
    · have := h4 k h2.lt
      rw [h2.is] at this; cases this
    · have hg : ∀ j, j < n → isC cs j = true → w0.getD j 0 ≤ w0.getD g 0 := fun j hj hcj => by
        have := h4.le j hj hcj
        rw [hk, hk] at this; omega
      have hm : ∀ j, j < n → isC cs j = true → w0.getD k 0 ≤ w0.getD j 0 := fun j hj hcj => by
        have := h2.le j hj hcj
        rw [hk, hk] at this; omega
      refine ⟨w0.getD g 0, w0.getD k 0, ⟨hl, by simpa using hs, fun j => Int.le_refl _, fun j k hj _ hcj _ => Or.inl (hg j hj hcj), Or.inl ?_⟩, hm, hm g h4.lt h4.is, ?_⟩
      · have := lack_le (M := w0.getD g 0) (ws := w0) (cs := cs) (fun j => by have h5 := (hs g).2; have h6 := (hs j).1; omega) n
        omega
      · rw [h1, h3, if_neg (by omega), Int.toNat_natCast, Int.toNat_natCast, hk, hk]
end
end Go.Proofs.Ytggijifealljiaa
