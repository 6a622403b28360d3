/- States of blocks as mathematics: what each call of a yard answers, and leaves. No conditions; no program. -/
namespace Go.Proofs.Ytmfpelgkjgpfmaa

/-- What a yard is: states, how many pages are taken, which are needed, which dirty; how many pages a block has. -/
structure Yd where
  S : List Int
  T : List Int
  N : List (List Bool)
  D : List (List Bool)
  P : Nat
/-- Those places that are true, rising. -/
def idxB (l : List Bool) : List Int := ((List.range l.length).filter fun k => l.getD k false).map fun (k : Nat) => (k : Int)
def mayY (b p : Int) : Bool := decide (1 ≤ b) && decide (b ≤ 32) && decide (1 ≤ p) && decide (p ≤ 8)
def freshY (n p : Nat) : Yd := ⟨List.replicate n 1, List.replicate n 0, List.replicate n (List.replicate p false), List.replicate n (List.replicate p false), p⟩
def stY (s : Yd) (b : Int) : Int := if b < 0 ∨ (s.S.length : Int) ≤ b then 0 else s.S.getD b.toNat 0
def neededY (s : Yd) (b : Int) : List Int := if stY s b = 0 then [] else idxB (s.N.getD b.toNat [])
def dirtyY (s : Yd) (b : Int) : Nat := if stY s b = 0 then 0 else (s.D.getD b.toNat []).count true
def listY (s : Yd) (x : Int) : List Int := ((List.range s.S.length).filter fun k => s.S.getD k 0 == x).map fun (k : Nat) => (k : Int)
def Yd.setS (s : Yd) (k : Nat) (x : Int) : Yd := { s with S := s.S.set k x }
def Yd.setT (s : Yd) (k : Nat) (x : Int) : Yd := { s with T := s.T.set k x }
def Yd.setN (s : Yd) (k q : Nat) (x : Bool) : Yd := { s with N := s.N.set k ((s.N.getD k []).set q x) }
def Yd.setD (s : Yd) (k q : Nat) (x : Bool) : Yd := { s with D := s.D.set k ((s.D.getD k []).set q x) }
def openY (s : Yd) (b : Int) : Yd × Int :=
  if stY s b = 0 then (s, 2) else if stY s b = 1 then ((s.setS b.toNat 2).setT b.toNat 0, 0) else (s, 9)
/-- What Next answers: a page, and a number of an error. -/
def nextY (s : Yd) (b : Int) : Yd × Int × Int :=
  if stY s b = 0 then (s, 0, 2) else if stY s b ≠ 2 then (s, 0, 9) else if (s.P : Int) ≤ s.T.getD b.toNat 0 then (s, 0, 7)
  else (s.setT b.toNat (s.T.getD b.toNat 0 + 1), s.T.getD b.toNat 0, 0)
def sealY (s : Yd) (b : Int) : Yd × Int :=
  if stY s b = 0 then (s, 2) else if stY s b ≠ 2 then (s, 9) else (s.setS b.toNat 3, 0)
def freeY (s : Yd) (b : Int) : Yd × Int :=
  if stY s b = 0 then (s, 2) else if (stY s b ≠ 2 ∧ stY s b ≠ 3) ∨ neededY s b ≠ [] then (s, 9) else ((s.setS b.toNat 1).setT b.toNat 0, 0)
def retireY (s : Yd) (b : Int) : Yd × Int :=
  if stY s b = 0 then (s, 2) else if stY s b = 4 then (s, 9) else (s.setS b.toNat 4, 0)
/-- There is such a page. -/
def pageY (s : Yd) (b p : Int) : Prop := stY s b ≠ 0 ∧ 0 ≤ p ∧ p < (s.P : Int)
instance (s : Yd) (b p : Int) : Decidable (pageY s b p) := by unfold pageY; exact inferInstance
def isN (s : Yd) (b p : Int) : Bool := (s.N.getD b.toNat []).getD p.toNat false
def wantY (s : Yd) (b p : Int) (d : Bool) : Yd × Int :=
  if ¬ pageY s b p then (s, 2) else if s.T.getD b.toNat 0 ≤ p ∨ isN s b p = true then (s, 9) else ((s.setN b.toNat p.toNat true).setD b.toNat p.toNat d, 0)
def dropY (s : Yd) (b p : Int) : Yd × Int :=
  if ¬ pageY s b p then (s, 2) else if isN s b p = false then (s, 8) else ((s.setN b.toNat p.toNat false).setD b.toNat p.toNat false, 0)
def washY (s : Yd) (b p : Int) : Yd × Int :=
  if ¬ pageY s b p then (s, 2) else if isN s b p = false then (s, 8) else (s.setD b.toNat p.toNat false, 0)
/-- What is known of each yard. -/
structure YW (s : Yd) : Prop where
  n1 : 1 ≤ s.S.length
  n32 : s.S.length ≤ 32
  p1 : 1 ≤ s.P
  p8 : s.P ≤ 8
  lt : s.T.length = s.S.length
  ln : s.N.length = s.S.length
  ld : s.D.length = s.S.length
  st : ∀ k, k < s.S.length → 1 ≤ s.S.getD k 0 ∧ s.S.getD k 0 ≤ 4
  tk : ∀ k, k < s.S.length → 0 ≤ s.T.getD k 0 ∧ s.T.getD k 0 ≤ (s.P : Int)
  nl : ∀ k, k < s.S.length → (s.N.getD k []).length = s.P
  dl : ∀ k, k < s.S.length → (s.D.getD k []).length = s.P
  dn : ∀ k, k < s.S.length → ∀ q, (s.D.getD k []).getD q false = true → (s.N.getD k []).getD q false = true
  fr : ∀ k, k < s.S.length → s.S.getD k 0 = 1 → s.T.getD k 0 = 0 ∧ ∀ q, (s.N.getD k []).getD q false = false

theorem getD_setY {α : Type} (l : List α) (i j : Nat) (x d : α) : (l.set i x).getD j d = if j = i ∧ i < l.length then x else l.getD j d := by
  rw [List.getD_eq_getElem?_getD, List.getD_eq_getElem?_getD, List.getElem?_set]
  by_cases e : j = i
  · subst e
    by_cases h : j < l.length
    · simp [h]
    · simp [h]
  · simp [e, Ne.symm e]
theorem getD_rep {α : Type} (n k : Nat) (x d : α) (h : k < n) : (List.replicate n x).getD k d = x := by
  rw [List.getD_eq_getElem?_getD, List.getElem?_replicate, if_pos h]; rfl
section
variable {s : Yd} {b p x : Int}
theorem fresh_yw {n p : Nat} (h1 : 1 ≤ n) (h2 : n ≤ 32) (h3 : 1 ≤ p) (h4 : p ≤ 8) : YW (freshY n p) := by
  refine ⟨?_, ?_, h3, h4, ?_, ?_, ?_, fun k hk => ?_, fun k hk => ?_, fun k hk => ?_, fun k hk => ?_, fun k hk q hq => ?_, fun k hk _ => ?_⟩
  all_goals simp only [freshY, List.length_replicate] at *
  · exact h1
  · exact h2
  · rw [getD_rep _ _ _ _ hk]; omega
  · rw [getD_rep _ _ _ _ hk]; omega
  · rw [getD_rep _ _ _ _ hk, List.length_replicate]
  · rw [getD_rep _ _ _ _ hk, List.length_replicate]
  · rw [getD_rep _ _ _ _ hk] at hq ⊢; exact hq
  · rw [getD_rep _ _ _ _ hk, getD_rep _ _ _ _ hk]
    refine ⟨rfl, fun q => ?_⟩
    rw [List.getD_eq_getElem?_getD, List.getElem?_replicate]
    split <;> rfl
/-- A block that is one. -/
theorem stY_ne (hw : YW s) : stY s b ≠ 0 ↔ ∃ k : Nat, b = (k : Int) ∧ k < s.S.length := by
  unfold stY
  by_cases h : b < 0 ∨ (s.S.length : Int) ≤ b
  · rw [if_pos h]
    exact ⟨fun e => absurd rfl e, fun ⟨k, e, hk⟩ => by omega⟩
  · rw [if_neg h]
    refine ⟨fun _ => ⟨b.toNat, by omega, by omega⟩, fun ⟨k, e, hk⟩ => ?_⟩
    have := (hw.st k hk).1
    subst e
    rw [Int.toNat_natCast]; omega
theorem stY_at {k : Nat} (hk : k < s.S.length) : stY s (k : Int) = s.S.getD k 0 := by
  unfold stY
  rw [if_neg (by omega), Int.toNat_natCast]
theorem stY_bd (hw : YW s) : 0 ≤ stY s b ∧ stY s b ≤ 4 := by
  unfold stY
  by_cases h : b < 0 ∨ (s.S.length : Int) ≤ b
  · rw [if_pos h]; omega
  · rw [if_neg h]
    have := hw.st b.toNat (by omega)
    omega
theorem idx_nil {l : List Bool} : idxB l = [] ↔ ∀ q, l.getD q false = false := by
  unfold idxB
  rw [List.map_eq_nil_iff, List.filter_eq_nil_iff]
  refine ⟨fun h q => ?_, fun h q _ => by rw [h q]; decide⟩
  by_cases hq : q < l.length
  · have := h q (List.mem_range.2 hq)
    cases e : l.getD q false with
    | false => rfl
    | true => exact absurd e this
  · rw [List.getD_eq_getElem?_getD, List.getElem?_eq_none (by omega)]; rfl
theorem yw_setST {k : Nat} (hw : YW s) (y t : Int) (hy : 1 ≤ y ∧ y ≤ 4) (ht : 0 ≤ t ∧ t ≤ (s.P : Int)) (hf : k < s.S.length → y = 1 → t = 0 ∧ ∀ q, (s.N.getD k []).getD q false = false) : YW ((s.setS k y).setT k t) := by
  refine ⟨?_, ?_, hw.p1, hw.p8, ?_, ?_, ?_, fun j hj => ?_, fun j hj => ?_, fun j hj => ?_, fun j hj => ?_, fun j hj => ?_, fun j hj => ?_⟩
  all_goals simp only [Yd.setS, Yd.setT, List.length_set] at *
  · exact hw.n1
  · exact hw.n32
  · exact hw.lt
  · exact hw.ln
  · exact hw.ld
  · rw [getD_setY]; split
    · exact hy
    · exact hw.st j hj
  · rw [getD_setY]; split
    · exact ht
    · exact hw.tk j hj
  · exact hw.nl j hj
  · exact hw.dl j hj
  · exact hw.dn j hj
  · rw [getD_setY, getD_setY, hw.lt]
    by_cases e : j = k ∧ k < s.S.length
    · rw [if_pos e, if_pos e, e.1]; exact hf e.2
    · rw [if_neg e, if_neg e]; exact hw.fr j hj
theorem set_same {α : Type} (l : List α) (k : Nat) (d : α) : l.set k (l.getD k d) = l := by
  apply List.ext_getElem?
  intro i
  rw [List.getElem?_set]
  by_cases e : k = i
  · subst e
    by_cases h : k < l.length
    · rw [if_pos rfl, if_pos h, List.getD_eq_getElem?_getD, List.getElem?_eq_getElem h]; rfl
    · rw [if_pos rfl, if_neg h, List.getElem?_eq_none (by omega)]
  · rw [if_neg e]
theorem setT_same (k : Nat) : s.setT k (s.T.getD k 0) = s := by unfold Yd.setT; rw [set_same]
theorem setS_same (k : Nat) : s.setS k (s.S.getD k 0) = s := by unfold Yd.setS; rw [set_same]
theorem setST_T {k : Nat} (y : Int) : (s.setS k y).setT k (s.T.getD k 0) = s.setS k y := setT_same (s := s.setS k y) k
theorem setST_S {k : Nat} (t : Int) : (s.setS k (s.S.getD k 0)).setT k t = s.setT k t := by rw [setS_same]
theorem yw_setND {k q : Nat} (hw : YW s) (x y : Bool) (hxy : y = true → x = true) (hf : k < s.S.length → s.S.getD k 0 = 1 → q < s.P → x = false) : YW ((s.setN k q x).setD k q y) := by
  refine ⟨hw.n1, hw.n32, hw.p1, hw.p8, hw.lt, ?_, ?_, hw.st, hw.tk, fun j hj => ?_, fun j hj => ?_, fun j hj r => ?_, fun j hj h1 => ⟨(hw.fr j hj h1).1, fun r => ?_⟩⟩
  all_goals simp only [Yd.setN, Yd.setD, List.length_set] at *
  · exact hw.ln
  · exact hw.ld
  · rw [getD_setY]; split
    · rw [List.length_set]; rename_i h; exact hw.nl k (by rw [← hw.ln]; exact h.2)
    · exact hw.nl j hj
  · rw [getD_setY]; split
    · rw [List.length_set]; rename_i h; exact hw.dl k (by rw [← hw.ld]; exact h.2)
    · exact hw.dl j hj
  · rw [getD_setY, getD_setY, hw.ln, hw.ld]
    by_cases e : j = k ∧ k < s.S.length
    · rw [if_pos e, if_pos e, getD_setY, getD_setY, hw.nl k e.2, hw.dl k e.2]
      by_cases h : r = q ∧ q < s.P
      · rw [if_pos h, if_pos h]; exact hxy
      · rw [if_neg h, if_neg h]; exact hw.dn k e.2 r
    · rw [if_neg e, if_neg e]; exact hw.dn j hj r
  · rw [getD_setY, hw.ln]
    by_cases e : j = k ∧ k < s.S.length
    · rw [if_pos e, getD_setY, hw.nl k e.2]
      by_cases h : r = q ∧ q < s.P
      · rw [if_pos h]; exact hf e.2 (e.1 ▸ h1) h.2
      · rw [if_neg h]; exact (hw.fr k e.2 (e.1 ▸ h1)).2 r
    · rw [if_neg e]; exact (hw.fr j hj h1).2 r
theorem setND_N {k q : Nat} (y : Bool) (x : Bool) (h : (s.N.getD k []).getD q false = x) : (s.setN k q x).setD k q y = s.setD k q y := by
  subst h
  unfold Yd.setN Yd.setD
  rw [set_same, set_same]
/- each call leaves a yard -/
theorem yw_open (hw : YW s) : YW (openY s b).1 := by
  unfold openY
  split
  · exact hw
  split
  · rename_i h _
    exact yw_setST hw 2 0 (by omega) (by omega) (fun _ e => absurd e (by decide))
  · exact hw
theorem yw_next (hw : YW s) : YW (nextY s b).1 := by
  unfold nextY
  split
  · exact hw
  split
  · exact hw
  split
  · exact hw
  · rename_i h0 h1 h2
    obtain ⟨k, rfl, hk⟩ := (stY_ne hw).1 h0
    rw [stY_at hk] at h1
    rw [Int.toNat_natCast] at h2 ⊢
    have := hw.tk k hk
    dsimp only
    rw [← setST_S]
    exact yw_setST hw _ _ (hw.st k hk) (by omega) (fun _ e => by omega)
theorem yw_seal (hw : YW s) : YW (sealY s b).1 := by
  unfold sealY
  split
  · exact hw
  split
  · exact hw
  · rename_i h0 h1
    obtain ⟨k, rfl, hk⟩ := (stY_ne hw).1 h0
    rw [Int.toNat_natCast, ← setST_T]
    exact yw_setST hw 3 _ (by omega) (hw.tk k hk) (fun _ e => absurd e (by decide))
theorem yw_free (hw : YW s) : YW (freeY s b).1 := by
  unfold freeY
  split
  · exact hw
  split
  · exact hw
  · rename_i h0 h1
    refine yw_setST hw 1 0 (by omega) (by omega) fun hk _ => ⟨rfl, ?_⟩
    have h2 : neededY s b = [] := Decidable.byContradiction fun h => h1 (Or.inr h)
    unfold neededY at h2
    rw [if_neg h0] at h2
    exact idx_nil.1 h2
theorem yw_retire (hw : YW s) : YW (retireY s b).1 := by
  unfold retireY
  split
  · exact hw
  split
  · exact hw
  · rename_i h0 h1
    obtain ⟨k, rfl, hk⟩ := (stY_ne hw).1 h0
    rw [Int.toNat_natCast, ← setST_T]
    exact yw_setST hw 4 _ (by omega) (hw.tk k hk) (fun _ e => absurd e (by decide))
theorem page_at (hw : YW s) (h : pageY s b p) : ∃ k q : Nat, b = (k : Int) ∧ k < s.S.length ∧ p = (q : Int) ∧ q < s.P := by
  obtain ⟨k, hb, hk⟩ := (stY_ne hw).1 h.1
  exact ⟨k, p.toNat, hb, hk, by have := h.2.1; omega, by have := h.2; omega⟩
theorem yw_want (hw : YW s) (d : Bool) : YW (wantY s b p d).1 := by
  unfold wantY
  split
  · exact hw
  split
  · exact hw
  · rename_i h0 h1
    obtain ⟨k, q, rfl, hk, rfl, hq⟩ := page_at hw (Decidable.of_not_not h0)
    rw [Int.toNat_natCast, Int.toNat_natCast]
    refine yw_setND hw true d (fun _ => rfl) fun _ e _ => ?_
    have := (hw.fr k hk e).1
    rw [Int.toNat_natCast, this] at h1
    omega
theorem yw_drop (hw : YW s) : YW (dropY s b p).1 := by
  unfold dropY
  split
  · exact hw
  split
  · exact hw
  · exact yw_setND hw false false (fun h => h) (fun _ _ _ => rfl)
theorem yw_wash (hw : YW s) : YW (washY s b p).1 := by
  unfold washY
  split
  · exact hw
  split
  · exact hw
  · rename_i h0 h1
    obtain ⟨k, q, rfl, hk, rfl, hq⟩ := page_at hw (Decidable.of_not_not h0)
    unfold isN at h1
    rw [Int.toNat_natCast, Int.toNat_natCast] at h1 ⊢
    have hn : (s.N.getD k []).getD q false = true := by
      cases e : (s.N.getD k []).getD q false with
      | true => rfl
      | false => exact absurd e h1
    dsimp only
    rw [← setND_N false true hn]
    refine yw_setND hw true false (fun _ => rfl) fun _ e _ => ?_
    rw [(hw.fr k hk e).2 q] at hn; cases hn
end
end Go.Proofs.Ytmfpelgkjgpfmaa
