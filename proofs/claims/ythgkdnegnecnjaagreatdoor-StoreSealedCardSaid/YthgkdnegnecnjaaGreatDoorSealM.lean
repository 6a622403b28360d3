/- StoreSealed as mathematics: which blocks are sealed, and what is needed of them. No conditions. -/
import Derived.Test.YthgkdnegnecnjaaGreatDoorSinv
set_option linter.unusedVariables false
set_option linter.unusedSimpArgs false
set_option maxRecDepth 20000
namespace Go.Proofs.YthgkdnegnecnjaaGreatDoor
open Go.RowKit

def hdS (j : Nat) : Hd.H := hN 1 (j : Int) (1 + (j : Int)) 0
theorem layS (j : Nat) (hj : j ≤ 1000) : layO (fillL (j : Int) 128) 1 (j : Int) (1 + (j : Int)) 0 = some (Hd.page (fillL (j : Int) 128) (hdS j)) :=
  layO_yes (by rw [fillL_len]; decide) (mayB_yes ⟨by omega, by omega, by omega, by omega, Or.inl (Or.inl rfl)⟩)
/-- A chip with marks, where pages are put and dropped. -/
structure SE (s : SS) (xs : List Int) (i : Nat) : Prop where
  si : SI s
  nm : NM s.c
  nb : s.c.nb = 16
  np : s.c.np = 4
  ns : s.c.ns = 128
  mrk : ∀ k, k < 16 → (s.c.nth k).marked = xs.contains (k : Int)
  m0 : ∀ k, k < 16 → (s.c.nth k).marked = true → (s.c.nth k).next = 0
  used : usedN s ≤ i
theorem countP_or {α : Type} (p q : α → Bool) (l : List α) : l.countP (fun a => p a || q a) ≤ l.countP p + l.countP q := by
  induction l with
  | nil => exact Nat.le_refl _
  | cons a l ih =>
    rw [List.countP_cons, List.countP_cons, List.countP_cons]
    cases p a <;> cases q a <;> simp <;> omega
theorem countP_one (x : Int) : ∀ n : Nat, (List.range n).countP (fun (k : Nat) => (k : Int) == x) ≤ 1
  | 0 => Nat.zero_le _
  | n + 1 => by
    rw [List.range_succ, List.countP_append]
    by_cases e : (n : Int) = x
    · have : (List.range n).countP (fun (k : Nat) => (k : Int) == x) = 0 := by
        rw [List.countP_eq_zero]
        intro k hk
        have := List.mem_range.1 hk
        simp
        omega
      rw [this]; simp [e]
    · have := countP_one x n
      simp [e]; exact this
theorem marks_count (n : Nat) : ∀ xs : List Int, (List.range n).countP (fun (k : Nat) => xs.contains (k : Int)) ≤ xs.length
  | [] => by simp
  | x :: xs => by
    have h1 := marks_count n xs
    have h2 := countP_or (fun k : Nat => (k : Int) == x) (fun k : Nat => xs.contains (k : Int)) (List.range n)
    have h3 := countP_one x n
    have h4 : (List.range n).countP (fun (k : Nat) => (x :: xs).contains (k : Int)) = (List.range n).countP (fun k : Nat => ((k : Int) == x) || xs.contains (k : Int)) := by
      refine List.countP_congr fun k _ => ?_
      simp
    rw [h4, List.length_cons]
    omega
theorem sum_one_le (m : Nat) (g : Nat → Nat) : ∀ n, (∀ j k, j < n → k < n → g j ≠ 0 → g k ≠ 0 → j = k) → (∀ k, k < n → g k ≤ m) → ((List.range n).map g).sum ≤ m
  | 0, _, _ => Nat.zero_le _
  | n + 1, h, hm => by
    rw [List.range_succ, List.map_append, List.sum_append]
    have ih := sum_one_le m g n (fun j k hj hk => h j k (by omega) (by omega)) fun k hk => hm k (by omega)
    have e : ([n].map g).sum = g n := by simp
    rw [e]
    by_cases h0 : g n = 0
    · omega
    · have : ((List.range n).map g).sum = 0 := by
        refine Nat.le_zero.1 (Nat.le_trans (sum_le g (fun _ => 0) n fun k hk => ?_) (by rw [sum_rep]; simp))
        by_cases hk0 : g k = 0
        · omega
        · have := h k n (by omega) (by omega) hk0 h0
          omega
      have := hm n (Nat.lt_succ_self n)
      omega
theorem sum_filter (f : Nat → Nat) (p : Nat → Bool) : ∀ n, ((List.range n).map f).sum = (((List.range n).filter p).map f).sum + ((List.range n).map fun k => if p k = true then 0 else f k).sum
  | 0 => rfl
  | n + 1 => by
    rw [List.range_succ, List.filter_append, List.map_append, List.map_append, List.map_append, List.sum_append, List.sum_append, List.sum_append, sum_filter f p n]
    cases h : p n <;> simp [h] <;> omega
section
variable {s s1 : SS} {xs : List Int} {i k q : Nat}
theorem SE.bad (h : SE s xs i) : (listY s.y 4).length ≤ xs.length := by
  unfold listY
  rw [List.length_map, ← List.countP_eq_length_filter, h.si.sw.nb, h.nb]
  refine Nat.le_trans (Nat.le_of_eq ?_) (marks_count 16 xs)
  refine List.countP_congr fun k hk => ?_
  have hk16 := List.mem_range.1 hk
  have h1 := (h.si.b k (by rw [h.nb]; exact hk16)).mar
  rw [h.mrk k hk16] at h1
  rw [beq_iff_eq]
  exact h1
theorem SE.goal (h : SE s xs i) (hx : xs.length ≤ 3) (hi : i ≤ 50) : ∃ b : Nat, goalS s = (b : Int) := by
  refine goal_ex h.si (m := 3) ?_ (by rw [h.np, h.nb]; have := h.used; omega)
  have h1 := h.bad
  unfold listY at h1
  rw [List.length_map, ← List.countP_eq_length_filter, h.si.sw.nb] at h1
  omega
theorem SE.put (h : SE s xs i) (hx : xs.length ≤ 3) (hi : i ≤ 50) : ∃ s1 k q, putS s 1 (i : Int) (1 + (i : Int)) 0 (fillL (i : Int) 128) = (s1, pno 4 k q, 0) ∧ k < 16 ∧ q < 4 ∧ s1.c.marked (k : Int) = false ∧ s1.c.misuse = s.c.misuse ∧ s1.c.ops ≤ s.c.ops + 2 ∧ (s1.y.N.getD k []).getD q false = true ∧ SE s1 xs (i + 1) := by
  obtain ⟨b, hb⟩ := h.goal hx hi
  obtain ⟨B0, s1, p1, p2, p3, p4⟩ := put_nm h.si h.nm hb (layS i (by omega)) (by omega) (by omega) (by rw [h.ns, fillL_len])
  rw [h.np] at p1
  have hb16 : b < 16 := by rw [← h.nb]; exact p2.lt
  have hq4 : B0.next < 4 := by rw [← h.np]; exact p2.q
  have hfc := p2.eff.fc
  have hnb1 : s1.c.nb = 16 := hfc.nb.trans h.nb
  have hmb : (s.c.nth b).marked = false := by
    have h1 := (h.si.b b p2.lt).mar
    rw [Bool.eq_false_iff]
    intro e
    have := h1.2 e
    rcases p2.st with e2 | e2 <;> rw [e2] at this <;> cases this
  have hnee : nee s1 b B0.next = true := by rw [p2.need h.si, if_pos ⟨rfl, rfl⟩]
  refine ⟨s1, b, B0.next, p1, hb16, hq4, ?_, p2.mis, p2.ops, hnee, p2.si, p2.nm, hnb1, hfc.np.trans h.np, hfc.ns.trans h.ns, fun k hk => by rw [p2.mark]; exact h.mrk k hk, fun k hk e => ?_, by rw [p2.used]; have := h.used; omega⟩
  · rw [marked_nat _ (by rw [hnb1]; exact hb16), p2.mark]; exact hmb
  · rw [p2.mark] at e
    have hne : k ≠ b := fun e2 => by rw [e2, hmb] at e; cases e
    rw [p2.eff.B, if_neg hne]
    exact h.m0 k hk e
theorem SE.drop (h : SE s xs i) (hk : k < 16) (hN : (s.y.N.getD k []).getD q false = true) : ∃ s1, dropS s (pno 4 k q) = (s1, 0) ∧ s1.c = s.c ∧ SE s1 xs i := by
  obtain ⟨s1, S1, T1, e1, e2, e3, e4, e5, e6, e7⟩ := drop_nm h.si (by rw [h.nb]; exact hk) hN
  rw [h.np] at e1
  refine ⟨s1, e1, e5, e6, by rw [e5]; exact h.nm, by rw [e5]; exact h.nb, by rw [e5]; exact h.np, by rw [e5]; exact h.ns, fun k hk => by rw [e5]; exact h.mrk k hk, fun k hk e => by rw [e5] at e ⊢; exact h.m0 k hk e, ?_⟩
  have hu := used_eff e3 (by rw [h.nb]; exact hk)
  have := h.used
  rcases e7 with e8 | ⟨e8, e9⟩
  · rw [e8] at hu; omega
  · rw [e8, e9] at hu
    have h1 : usedAt s.c.np 1 (s.c.nth k) = 0 := rfl
    omega
theorem block_len (h : SI s) (hk : k < s.c.nb) : (blockS s (k : Int)).length = (s.y.N.getD k []).count true := by
  have hkS : k < s.y.S.length := by rw [h.sw.nb]; exact hk
  unfold blockS neededY
  have h2 := (h.yw.st k hkS).1
  have h1 : stY s.y (k : Int) ≠ 0 := by
    unfold stY
    rw [if_neg (by omega), Int.toNat_natCast]
    omega
  rw [List.length_map, if_neg h1, Int.toNat_natCast, idxB_count]
/-- The sealed blocks, as numbers. -/
def sealN (s : SS) : List Nat := (List.range s.y.S.length).filter fun k => s.y.S.getD k 0 == 3
theorem seal_is : listY s.y 3 = (sealN s).map fun (k : Nat) => (k : Int) := rfl
theorem SE.sealed (h : SE s xs i) (hk : k ∈ sealN s) : k < 16 ∧ s.c.marked (k : Int) = false ∧ 0 < (blockS s (k : Int)).length ∧ (blockS s (k : Int)).length ≤ 4 := by
  unfold sealN at hk
  rw [List.mem_filter, List.mem_range, h.si.sw.nb, h.nb, beq_iff_eq] at hk
  obtain ⟨hk16, h3⟩ := hk
  have hkb : k < s.c.nb := by rw [h.nb]; exact hk16
  have hb := h.si.b k hkb
  refine ⟨hk16, ?_, ?_, ?_⟩
  · rw [marked_nat _ hkb, Bool.eq_false_iff]
    intro e
    have := hb.mar.2 e
    rw [h3] at this; cases this
  · rw [block_len h.si hkb]
    obtain ⟨q, hq⟩ := hb.se h3
    have := count_no hq
    omega
  · rw [block_len h.si hkb]
    have h1 := List.count_le_length (a := true) (l := s.y.N.getD k [])
    rw [h.si.yw.nl k (by rw [h.si.sw.nb]; exact hkb), h.si.sw.np, h.np] at h1
    exact h1
theorem sealN_up : (sealN s).Pairwise (· < ·) := List.Pairwise.filter _ List.pairwise_lt_range
/-- All that is needed, but for at most one block's pages, stands in sealed ones. -/
theorem SE.left (h : SE s xs i) : ∃ d, d ≤ 4 ∧ cntN s = ((sealN s).map fun (k : Nat) => (blockS s (k : Int)).length).sum + d := by
  refine ⟨((List.range 16).map fun k => if (s.y.S.getD k 0 == 3) = true then 0 else (s.y.N.getD k []).count true).sum, ?_, ?_⟩
  · have hz : ∀ k, k < 16 → (if (s.y.S.getD k 0 == 3) = true then 0 else (s.y.N.getD k []).count true) ≠ 0 → s.y.S.getD k 0 = 2 := fun k hk e => by
      have hkb : k < s.c.nb := by rw [h.nb]; exact hk
      have hkS : k < s.y.S.length := by rw [h.si.sw.nb]; exact hkb
      have hb := h.si.b k hkb
      by_cases e3 : s.y.S.getD k 0 = 3
      · rw [if_pos (by rw [e3]; rfl)] at e; exact absurd rfl e
      · rw [if_neg (by simpa using e3)] at e
        have hex : ∃ q, (s.y.N.getD k []).getD q false = true := by
          have h1 : 0 < (s.y.N.getD k []).count true := Nat.pos_of_ne_zero e
          obtain ⟨j, hj, he⟩ := List.mem_iff_getElem.1 (List.count_pos_iff.1 h1)
          exact ⟨j, by rw [List.getD_eq_getElem?_getD, List.getElem?_eq_getElem hj]; exact he⟩
        obtain ⟨q, hq⟩ := hex
        have h14 := h.si.yw.st k hkS
        have h1 : s.y.S.getD k 0 ≠ 1 := fun e1 => by
          have := (h.si.yw.fr k hkS e1).2 q
          rw [this] at hq; cases hq
        have h4 : s.y.S.getD k 0 ≠ 4 := fun e4 => by
          have h5 := h.m0 k hk (hb.mar.1 e4)
          have := (hb.nd q hq).1
          omega
        omega
    refine sum_one_le 4 _ 16 (fun j k hj hk e1 e2 => h.si.one j k (by rw [h.nb]; exact hj) (by rw [h.nb]; exact hk) (hz j hj e1) (hz k hk e2)) fun k hk => ?_
    split
    · exact Nat.zero_le _
    · have h1 := List.count_le_length (a := true) (l := s.y.N.getD k [])
      rw [h.si.yw.nl k (by rw [h.si.sw.nb, h.nb]; exact hk), h.si.sw.np, h.np] at h1
      exact h1
  · unfold cntN
    rw [h.nb, sum_filter (fun k => (s.y.N.getD k []).count true) (fun k => s.y.S.getD k 0 == 3) 16]
    congr 2
    unfold sealN
    rw [h.si.sw.nb, h.nb]
    refine List.map_congr_left fun k hk => ?_
    exact (block_len h.si (by rw [h.nb]; exact List.mem_range.1 (List.mem_filter.1 hk).1)).symm
end
/-- The store of a fresh chip with marks. -/
theorem start_se {xs : List Int} (hm : Chip.mayNew 16 4 128 xs [] = true) : ∃ s1, newS (Chip.fresh 16 4 128 xs []) = (s1, 0) ∧ SE s1 xs 0 ∧ s1.c.misuse = 0 ∧ s1.c.ops ≤ 128 := by
  have hn : ∀ k, k < 16 → (Chip.fresh 16 4 128 xs []).nth k = ⟨List.replicate 4 (List.replicate 156 255), 0, 0, xs.contains (k : Int), false⟩ := fun k hk => Chip.fresh_nth hk
  have hw : (Chip.fresh 16 4 128 xs []).Wf := Chip.fresh_wf hm xs
  have hcb : CBl (Chip.fresh 16 4 128 xs []) := fun k q hk h1 h2 => by
    rw [hn k hk]; exact getD_rep _ _ _ _ h2
  obtain ⟨s1, h1, h2⟩ := new_rd hw ⟨rfl, rfl⟩ (show mayG (geoOf (Chip.fresh 16 4 128 [] [])) = true by kernel_rfl)
  have hb : ∀ k, k < 16 → s1.c.nth k = ⟨List.replicate 4 (List.replicate 156 255), 0, 0, xs.contains (k : Int), false⟩ := fun k hk => by
    rw [← hn k hk]; unfold Chip.nth; rw [h2.bs]
  have hnb : s1.c.nb = 16 := h2.fc.nb
  have hnp : s1.c.np = 4 := h2.fc.np
  have hvN : ∀ k, k < 16 → anyV 4 ((Chip.fresh 16 4 128 xs []).nth k) = false := fun k hk => by
    rw [hn k hk]; rfl
  refine ⟨s1, h1, ⟨h2.si hw hcb, ⟨h2.rd.ms, h2.rd.on, fun k hk => by rw [hb k (by rw [← hnb]; exact hk)]⟩, hnb, hnp, h2.fc.ns, fun k hk => by rw [hb k hk], fun k hk _ => by rw [hb k hk], ?_⟩, h2.mis, by have := h2.ops; exact this⟩
  unfold usedN
  rw [hnb, hnp]
  refine Nat.le_trans (sum_le _ (fun _ => 0) 16 fun k hk => ?_) (by rw [sum_rep]; exact Nat.le_refl _)
  have h5 : s1.y.S.getD k 0 = newSt 4 ((Chip.fresh 16 4 128 xs []).nth k) := by
    have := h2.S k hk
    rw [if_pos (show k < (Chip.fresh 16 4 128 xs []).nb from hk)] at this
    exact this
  have h6 : newSt 4 ((Chip.fresh 16 4 128 xs []).nth k) ≠ 3 ∧ newSt 4 ((Chip.fresh 16 4 128 xs []).nth k) ≠ 2 := by
    refine ⟨?_, newSt_ne2 _ _⟩
    unfold newSt
    rw [hvN k hk]
    split
    · decide
    · decide
  unfold usedAt
  rw [h5]
  rw [if_neg h6.1, if_neg h6.2]
  exact Nat.le_refl _
end Go.Proofs.YthgkdnegnecnjaaGreatDoor
