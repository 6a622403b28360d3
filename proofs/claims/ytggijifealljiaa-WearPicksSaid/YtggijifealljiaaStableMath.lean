/- A stable sort as mathematics: an insertion, parts that change their places, two halves merged in their place. No conditions; no program. -/
import Derived.Test.YtggijifealljiaaBase
set_option linter.unusedVariables false
set_option linter.unusedSimpArgs false
namespace Go.Proofs.Ytggijifealljiaa

/-- A comparison parts an elder one and a younger one as the order does. -/
structure Ord3 {α : Type} (cf : α → α → Int) (tg : α → Int) (ll : α → α → Prop) : Prop where
  irr : ∀ x, ¬ ll x x
  trans : ∀ {x y z}, ll x y → ll y z → ll x z
  hi : ∀ {x y}, tg x < tg y → cf y x < 0 → ll y x
  lo : ∀ {x y}, tg x < tg y → ¬ cf y x < 0 → ll x y
section
variable {α : Type} {d : α}
theorem gd_at (X L Y : List α) (i : Nat) (h : i < L.length) : (X ++ (L ++ Y)).getD (X.length + i) d = L.getD i d := by
  simp only [List.getD_eq_getElem?_getD]
  rw [List.getElem?_append_right (by omega), show X.length + i - X.length = i by omega, List.getElem?_append_left h]
theorem gd_cons (X Y : List α) (x : α) (i : Nat) (h : i = X.length) : (X ++ x :: Y).getD i d = x := by
  subst h
  simp [List.getD_eq_getElem?_getD]
theorem gd_mem {L : List α} {i : Nat} (h : i < L.length) : L.getD i d ∈ L := by
  rw [List.getD_eq_getElem?_getD, List.getElem?_eq_getElem h]
  exact List.getElem_mem h
theorem gd_get {L : List α} {i : Nat} (h : i < L.length) : L.getD i d = L[i] := by
  rw [List.getD_eq_getElem?_getD, List.getElem?_eq_getElem h]; rfl
theorem set_cons (P S : List α) (x y : α) (i : Nat) (h : i = P.length) : (P ++ x :: S).set i y = P ++ y :: S := by
  subst h
  rw [List.set_append_right _ _ (Nat.le_refl _), Nat.sub_self]; rfl
/-- Two elements change their places. -/
theorem set_swap (P Q S : List α) (x y : α) (i j : Nat) (hi : i = P.length) (hj : j = P.length + 1 + Q.length) : ((P ++ x :: (Q ++ y :: S)).set i y).set j x = P ++ y :: (Q ++ x :: S) := by
  rw [set_cons _ _ _ _ _ hi]
  have e : P ++ y :: (Q ++ y :: S) = (P ++ y :: Q) ++ y :: S := by simp
  rw [e, set_cons _ _ _ _ _ (by simp; omega)]
  simp
theorem set_swap' (P Q S : List α) (x y : α) (i j : Nat) (hi : i = P.length) (hj : j = P.length + 1 + Q.length) : ((P ++ x :: (Q ++ y :: S)).set j x).set i y = P ++ y :: (Q ++ x :: S) := by
  have e : P ++ x :: (Q ++ y :: S) = (P ++ x :: Q) ++ y :: S := by simp
  rw [e, set_cons _ _ _ _ _ (by simp; omega)]
  have e2 : (P ++ x :: Q) ++ x :: S = P ++ x :: (Q ++ x :: S) := by simp
  rw [e2, set_cons _ _ _ _ _ hi]
theorem drop_cons {L : List α} {t : Nat} (h : t < L.length) : L.drop t = L.getD t d :: L.drop (t + 1) := by
  rw [List.drop_eq_getElem_cons h, gd_get h]
theorem take_snoc {L : List α} {t : Nat} (h : t < L.length) : L.take (t + 1) = L.take t ++ [L.getD t d] := by
  rw [List.take_succ_eq_append_getElem h, gd_get h]
variable {cf : α → α → Int} {tg : α → Int} {ll : α → α → Prop}
theorem pw_at {L : List α} (h : L.Pairwise ll) {i j : Nat} (hij : i < j) (hj : j < L.length) : ll (L.getD i d) (L.getD j d) := by
  rw [gd_get (by omega), gd_get hj]
  exact List.pairwise_iff_getElem.1 h i j (by omega) hj hij
/-- Two halves side by side, each in order, the first one the elder. -/
structure Halves (tg : α → Int) (ll : α → α → Prop) (V X L R Y : List α) (a m b : Nat) : Prop where
  eq : V = X ++ (L ++ (R ++ Y))
  la : X.length = a
  lm : a + L.length = m
  lb : m + R.length = b
  sL : L.Pairwise ll
  sR : R.Pairwise ll
  tag : ∀ x ∈ L, ∀ y ∈ R, tg x < tg y
section
variable {V X L R Y : List α} {a m b : Nat} (H : Halves tg ll V X L R Y a m b) (O : Ord3 cf tg ll)
include H
theorem Halves.first {i : Nat} (h0 : a ≤ i) (h1 : i < m) : V.getD i d = L.getD (i - a) d := by
  have := H.la; have := H.lm
  rw [H.eq, show i = X.length + (i - a) by omega, gd_at _ _ _ _ (by omega), show X.length + (i - a) - a = i - a by omega]
theorem Halves.second {i : Nat} (h0 : m ≤ i) (h1 : i < b) : V.getD i d = R.getD (i - m) d := by
  have := H.la; have := H.lm; have := H.lb
  rw [H.eq, ← List.append_assoc, show i = (X ++ L).length + (i - m) by simp; omega, gd_at _ _ _ _ (by omega), show (X ++ L).length + (i - m) - m = i - m by simp; omega]
theorem Halves.mem1 {i : Nat} (h0 : a ≤ i) (h1 : i < m) : V.getD i d ∈ L := by
  have := H.lm
  rw [H.first h0 h1]; exact gd_mem (by omega)
theorem Halves.mem2 {i : Nat} (h0 : m ≤ i) (h1 : i < b) : V.getD i d ∈ R := by
  have := H.lb
  rw [H.second h0 h1]; exact gd_mem (by omega)
theorem Halves.up1 {i j : Nat} (h0 : a ≤ i) (h1 : i < j) (h2 : j < m) : ll (V.getD i d) (V.getD j d) := by
  have := H.lm
  rw [H.first h0 (by omega), H.first (by omega) h2]; exact pw_at H.sL (by omega) (by omega)
theorem Halves.up2 {i j : Nat} (h0 : m ≤ i) (h1 : i < j) (h2 : j < b) : ll (V.getD i d) (V.getD j d) := by
  have := H.lb
  rw [H.second h0 (by omega), H.second (by omega) h2]; exact pw_at H.sR (by omega) (by omega)
theorem Halves.old {i j : Nat} (h0 : a ≤ i) (h1 : i < m) (h2 : m ≤ j) (h3 : j < b) : tg (V.getD i d) < tg (V.getD j d) := H.tag _ (H.mem1 h0 h1) _ (H.mem2 h2 h3)
include O
/-- What is less stays so. -/
theorem Halves.mono {c c' q q' : Nat} (h0 : a ≤ c) (h1 : c ≤ c') (h2 : c' < m) (h3 : m ≤ q') (h4 : q' ≤ q) (h5 : q < b) (h : cf (V.getD q d) (V.getD c d) < 0) : cf (V.getD q' d) (V.getD c' d) < 0 := by
  refine Decidable.byContradiction fun hn => ?_
  have k1 := O.lo (H.old (d := d) (i := c') (j := q') (by omega) h2 h3 (by omega)) hn
  have k2 := O.hi (H.old (d := d) (i := c) (j := q) h0 (by omega) (by omega) h5) h
  have k3 : ll (V.getD c' d) (V.getD q d) := by
    by_cases e : q' = q
    · rw [← e]; exact k1
    · exact O.trans k1 (H.up2 h3 (by omega) h5)
  have k4 := O.trans k3 k2
  by_cases e : c = c'
  · rw [e] at k4; exact O.irr _ k4
  · exact O.irr _ (O.trans k4 (H.up1 h0 (by omega) h2))
/-- One alone ahead of the second half: where it goes. -/
theorem Halves.one1 (hm : m = a + 1) {i : Nat} (h0 : m ≤ i) (h1 : i ≤ b) (hlt : ∀ k, m ≤ k → k < i → cf (V.getD k d) (V.getD a d) < 0) (hge : ∀ k, i ≤ k → k < b → ¬ cf (V.getD k d) (V.getD a d) < 0) :
    ∃ x R1 R2, L = [x] ∧ R = R1 ++ R2 ∧ m + R1.length = i ∧ (R1 ++ x :: R2).Pairwise ll := by
  have e1 := H.lm; have e2 := H.lb
  obtain ⟨x, hx⟩ : ∃ x, L = [x] := List.length_eq_one_iff.1 (by omega)
  have hxa : V.getD a d = x := by rw [H.first (Nat.le_refl _) (by omega), hx]; simp
  have f2 : ∀ {k : Nat}, (hk : k < R.length) → V.getD (m + k) d = R[k] := fun {k} hk => by rw [H.second (by omega) (by omega), show m + k - m = k by omega, gd_get hk]
  refine ⟨x, R.take (i - m), R.drop (i - m), hx, (List.take_append_drop _ _).symm, by rw [List.length_take]; omega, ?_⟩
  have hR := H.sR
  rw [← List.take_append_drop (i - m) R] at hR
  rw [List.pairwise_append] at hR
  refine List.pairwise_append.2 ⟨hR.1, List.pairwise_cons.2 ⟨fun y hy => ?_, hR.2.1⟩, fun y hy z hz => ?_⟩
  · obtain ⟨k, hk, rfl⟩ := List.mem_iff_getElem.1 hy
    rw [List.length_drop] at hk
    rw [List.getElem_drop]
    have h := hge (m + (i - m + k)) (by omega) (by omega)
    have t := H.old (d := d) (i := a) (j := m + (i - m + k)) (Nat.le_refl _) (by omega) (by omega) (by omega)
    rw [f2 (by omega), hxa] at h t
    exact O.lo t h
  · rcases List.mem_cons.1 hz with rfl | hz
    · obtain ⟨k, hk, rfl⟩ := List.mem_iff_getElem.1 hy
      rw [List.length_take] at hk
      rw [List.getElem_take]
      have h := hlt (m + k) (by omega) (by omega)
      have t := H.old (d := d) (i := a) (j := m + k) (Nat.le_refl _) (by omega) (by omega) (by omega)
      rw [f2 (by omega), hxa] at h t
      exact O.hi t h
    · exact hR.2.2 y hy z hz
/-- One alone behind the first half: where it goes. -/
theorem Halves.one2 (hm : b = m + 1) {i : Nat} (h0 : a ≤ i) (h1 : i ≤ m) (hlt : ∀ k, a ≤ k → k < i → ¬ cf (V.getD m d) (V.getD k d) < 0) (hge : ∀ k, i ≤ k → k < m → cf (V.getD m d) (V.getD k d) < 0) :
    ∃ x L1 L2, R = [x] ∧ L = L1 ++ L2 ∧ a + L1.length = i ∧ (L1 ++ x :: L2).Pairwise ll := by
  have e1 := H.lm; have e2 := H.lb
  obtain ⟨x, hx⟩ : ∃ x, R = [x] := List.length_eq_one_iff.1 (by omega)
  have hxa : V.getD m d = x := by rw [H.second (Nat.le_refl _) (by omega), hx]; simp
  have f1 : ∀ {k : Nat}, (hk : k < L.length) → V.getD (a + k) d = L[k] := fun {k} hk => by rw [H.first (by omega) (by omega), show a + k - a = k by omega, gd_get hk]
  refine ⟨x, L.take (i - a), L.drop (i - a), hx, (List.take_append_drop _ _).symm, by rw [List.length_take]; omega, ?_⟩
  have hR := H.sL
  rw [← List.take_append_drop (i - a) L] at hR
  rw [List.pairwise_append] at hR
  refine List.pairwise_append.2 ⟨hR.1, List.pairwise_cons.2 ⟨fun y hy => ?_, hR.2.1⟩, fun y hy z hz => ?_⟩
  · obtain ⟨k, hk, rfl⟩ := List.mem_iff_getElem.1 hy
    rw [List.length_drop] at hk
    rw [List.getElem_drop]
    have h := hge (a + (i - a + k)) (by omega) (by omega)
    have t := H.old (d := d) (i := a + (i - a + k)) (j := m) (by omega) (by omega) (by omega) (by omega)
    rw [f1 (by omega), hxa] at h t
    exact O.hi t h
  · rcases List.mem_cons.1 hz with rfl | hz
    · obtain ⟨k, hk, rfl⟩ := List.mem_iff_getElem.1 hy
      rw [List.length_take] at hk
      rw [List.getElem_take]
      have h := hlt (a + k) (by omega) (by omega)
      have t := H.old (d := d) (i := a + k) (j := m) (by omega) (by omega) (by omega) (by omega)
      rw [f1 (by omega), hxa] at h t
      exact O.lo t h
    · exact hR.2.2 y hy z hz
/-- Where both halves are parted: all of the first parts comes ahead of all of the second ones. -/
theorem Halves.parted {s e : Nat} (h0 : a ≤ s) (h1 : s ≤ m) (h2 : m ≤ e) (h3 : e ≤ b) (hA : s = a ∨ e = b ∨ ¬ cf (V.getD e d) (V.getD (s - 1) d) < 0) (hB : s = m ∨ e = m ∨ cf (V.getD (e - 1) d) (V.getD s d) < 0) :
    ∃ L1 L2 R1 R2, L = L1 ++ L2 ∧ R = R1 ++ R2 ∧ a + L1.length = s ∧ m + R1.length = e ∧ ∀ x ∈ L1 ++ R1, ∀ y ∈ L2 ++ R2, ll x y := by
  have e1 := H.lm; have e2 := H.lb
  refine ⟨L.take (s - a), L.drop (s - a), R.take (e - m), R.drop (e - m), (List.take_append_drop _ _).symm, (List.take_append_drop _ _).symm, by rw [List.length_take]; omega, by rw [List.length_take]; omega, ?_⟩
  have hL := H.sL
  rw [← List.take_append_drop (s - a) L] at hL
  rw [List.pairwise_append] at hL
  have hR := H.sR
  rw [← List.take_append_drop (e - m) R] at hR
  rw [List.pairwise_append] at hR
  have f1 : ∀ {k : Nat}, (hk : k < L.length) → V.getD (a + k) d = L[k] := fun {k} hk => by rw [H.first (by omega) (by omega), show a + k - a = k by omega, gd_get hk]
  have f2 : ∀ {k : Nat}, (hk : k < R.length) → V.getD (m + k) d = R[k] := fun {k} hk => by rw [H.second (by omega) (by omega), show m + k - m = k by omega, gd_get hk]
  intro x hx y hy
  rcases List.mem_append.1 hx with hx | hx <;> rcases List.mem_append.1 hy with hy | hy
  · exact hL.2.2 x hx y hy
  · obtain ⟨j, hj, rfl⟩ := List.mem_iff_getElem.1 hx
    obtain ⟨k, hk, rfl⟩ := List.mem_iff_getElem.1 hy
    rw [List.length_take] at hj
    rw [List.length_drop] at hk
    rw [List.getElem_take, List.getElem_drop, ← f1 (by omega), ← f2 (by omega)]
    rcases hA with h | h | h
    · omega
    · omega
    · have t := O.lo (H.old (d := d) (i := s - 1) (j := e) (by omega) (by omega) (by omega) (by omega)) h
      have k1 : ll (V.getD (a + j) d) (V.getD e d) := by
        by_cases e' : a + j = s - 1
        · rw [e']; exact t
        · exact O.trans (H.up1 (by omega) (by omega) (by omega)) t
      by_cases e' : e = m + (e - m + k)
      · rw [← e']; exact k1
      · exact O.trans k1 (H.up2 (by omega) (by omega) (by omega))
  · obtain ⟨j, hj, rfl⟩ := List.mem_iff_getElem.1 hx
    obtain ⟨k, hk, rfl⟩ := List.mem_iff_getElem.1 hy
    rw [List.length_take] at hj
    rw [List.length_drop] at hk
    rw [List.getElem_take, List.getElem_drop, ← f2 (by omega), ← f1 (by omega)]
    rcases hB with h | h | h
    · omega
    · omega
    · have t := O.hi (H.old (d := d) (i := s) (j := e - 1) (by omega) (by omega) (by omega) (by omega)) h
      have k1 : ll (V.getD (m + j) d) (V.getD s d) := by
        by_cases e' : m + j = e - 1
        · rw [e']; exact t
        · exact O.trans (H.up2 (by omega) (by omega) (by omega)) t
      by_cases e' : s = a + (s - a + k)
      · rw [← e']; exact k1
      · exact O.trans k1 (H.up1 (by omega) (by omega) (by omega))
  · exact hR.2.2 x hx y hy
end
/- the insertion -/
/-- The new one x stands behind M1, ahead of M2. -/
theorem ins_done (O : Ord3 cf tg ll) {M1 M2 : List α} {x : α} (hM : (M1 ++ M2).Pairwise ll) (h2 : ∀ y ∈ M2, ll x y) (ht : ∀ y ∈ M1, tg y < tg x) (h1 : M1 = [] ∨ ∃ M z, M1 = M ++ [z] ∧ ¬ cf x z < 0) : (M1 ++ x :: M2).Pairwise ll := by
  rw [List.pairwise_append] at hM
  refine List.pairwise_append.2 ⟨hM.1, List.pairwise_cons.2 ⟨h2, hM.2.1⟩, fun y hy z hz => ?_⟩
  have hyx : ll y x := by
    rcases h1 with rfl | ⟨M, z', rfl, hn⟩
    · cases hy
    · have k := O.lo (ht z' (by simp)) hn
      rcases List.mem_append.1 hy with hy' | hy'
      · exact O.trans ((List.pairwise_append.1 hM.1).2.2 y hy' z' (by simp)) k
      · rw [List.mem_singleton.1 hy']; exact k
  rcases List.mem_cons.1 hz with rfl | hz
  · exact hyx
  · exact O.trans hyx (h2 z hz)
/-- Two lists in order that have the same members are one. -/
theorem ord_one (O : Ord3 cf tg ll) : ∀ {o o' : List α}, o.Pairwise ll → o'.Pairwise ll → (∀ i, i ∈ o ↔ i ∈ o') → o = o'
  | [], [], _, _, _ => rfl
  | [], b :: l, _, _, h => by have := (h b).2 (by simp); cases this
  | a :: l, [], _, _, h => by have := (h a).1 (by simp); cases this
  | a :: l, b :: l', h1, h2, h => by
    obtain ⟨ha, hl⟩ := List.pairwise_cons.1 h1
    obtain ⟨hb, hl'⟩ := List.pairwise_cons.1 h2
    have e : a = b := by
      rcases List.mem_cons.1 ((h a).1 (by simp)) with e | e
      · exact e
      · rcases List.mem_cons.1 ((h b).2 (by simp)) with e2 | e2
        · exact e2.symm
        · exact absurd (O.trans (ha b e2) (hb a e)) (O.irr _)
    subst e
    refine congrArg _ (ord_one O hl hl' fun i => ?_)
    have hi := h i
    rw [List.mem_cons, List.mem_cons] at hi
    constructor
    · intro hm
      rcases hi.1 (Or.inr hm) with e | e
      · subst e; exact absurd (ha _ hm) (O.irr _)
      · exact e
    · intro hm
      rcases hi.2 (Or.inr hm) with e | e
      · subst e; exact absurd (hb _ hm) (O.irr _)
      · exact e
end
end Go.Proofs.Ytggijifealljiaa
