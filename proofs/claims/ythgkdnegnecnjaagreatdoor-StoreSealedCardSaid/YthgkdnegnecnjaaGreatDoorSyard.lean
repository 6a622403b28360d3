/- Texts of one layer, laid together. Conditions: as each one says. -/
import Derived.Test.YthgkdnegnecnjaaGreatDoorSbase
/- States of blocks as mathematics: what each call of a yard answers, and leaves. No conditions; no program. -/
set_option maxRecDepth 20000
namespace Go.Proofs.YthgkdnegnecnjaaGreatDoor

/-- What a yard is: states, how many pages are taken, which are needed, which dirty; how many pages a block has. -/
structure Yd where
  S : List Int
  T : List Int
  N : List (List Bool)
  D : List (List Bool)
  P : Nat
/-- Those places that are true, rising. -/
def idxB (l : List Bool) : List Int := ((List.range l.length).filter fun k => l.getD k false).map fun (k : Nat) => (k : Int)
def mayY (b p : Int) : Bool := decide (1 ≤ b) && decide (b ≤ 32) && decide (1 ≤ p) && decide (p ≤ 8)
def freshY (n p : Nat) : Yd := ⟨List.replicate n 1, List.replicate n 0, List.replicate n (List.replicate p false), List.replicate n (List.replicate p false), p⟩
def stY (s : Yd) (b : Int) : Int := if b < 0 ∨ (s.S.length : Int) ≤ b then 0 else s.S.getD b.toNat 0
def neededY (s : Yd) (b : Int) : List Int := if stY s b = 0 then [] else idxB (s.N.getD b.toNat [])
def dirtyY (s : Yd) (b : Int) : Nat := if stY s b = 0 then 0 else (s.D.getD b.toNat []).count true
def listY (s : Yd) (x : Int) : List Int := ((List.range s.S.length).filter fun k => s.S.getD k 0 == x).map fun (k : Nat) => (k : Int)
def Yd.setS (s : Yd) (k : Nat) (x : Int) : Yd := { s with S := s.S.set k x }
def Yd.setT (s : Yd) (k : Nat) (x : Int) : Yd := { s with T := s.T.set k x }
def Yd.setN (s : Yd) (k q : Nat) (x : Bool) : Yd := { s with N := s.N.set k ((s.N.getD k []).set q x) }
def Yd.setD (s : Yd) (k q : Nat) (x : Bool) : Yd := { s with D := s.D.set k ((s.D.getD k []).set q x) }
def openY (s : Yd) (b : Int) : Yd × Int :=
  if stY s b = 0 then (s, 2) else if stY s b = 1 then ((s.setS b.toNat 2).setT b.toNat 0, 0) else (s, 9)
/-- What Next answers: a page, and a number of an error. -/
def nextY (s : Yd) (b : Int) : Yd × Int × Int :=
  if stY s b = 0 then (s, 0, 2) else if stY s b ≠ 2 then (s, 0, 9) else if (s.P : Int) ≤ s.T.getD b.toNat 0 then (s, 0, 7)
  else (s.setT b.toNat (s.T.getD b.toNat 0 + 1), s.T.getD b.toNat 0, 0)
def sealY (s : Yd) (b : Int) : Yd × Int :=
  if stY s b = 0 then (s, 2) else if stY s b ≠ 2 then (s, 9) else (s.setS b.toNat 3, 0)
def freeY (s : Yd) (b : Int) : Yd × Int :=
  if stY s b = 0 then (s, 2) else if (stY s b ≠ 2 ∧ stY s b ≠ 3) ∨ neededY s b ≠ [] then (s, 9) else ((s.setS b.toNat 1).setT b.toNat 0, 0)
def retireY (s : Yd) (b : Int) : Yd × Int :=
  if stY s b = 0 then (s, 2) else if stY s b = 4 then (s, 9) else (s.setS b.toNat 4, 0)
/-- There is such a page. -/
def pageY (s : Yd) (b p : Int) : Prop := stY s b ≠ 0 ∧ 0 ≤ p ∧ p < (s.P : Int)
instance (s : Yd) (b p : Int) : Decidable (pageY s b p) := by unfold pageY; exact inferInstance
def isN (s : Yd) (b p : Int) : Bool := (s.N.getD b.toNat []).getD p.toNat false
def wantY (s : Yd) (b p : Int) (d : Bool) : Yd × Int :=
  if ¬ pageY s b p then (s, 2) else if s.T.getD b.toNat 0 ≤ p ∨ isN s b p = true then (s, 9) else ((s.setN b.toNat p.toNat true).setD b.toNat p.toNat d, 0)
def dropY (s : Yd) (b p : Int) : Yd × Int :=
  if ¬ pageY s b p then (s, 2) else if isN s b p = false then (s, 8) else ((s.setN b.toNat p.toNat false).setD b.toNat p.toNat false, 0)
def washY (s : Yd) (b p : Int) : Yd × Int :=
  if ¬ pageY s b p then (s, 2) else if isN s b p = false then (s, 8) else (s.setD b.toNat p.toNat false, 0)
/-- What is known of each yard. -/
structure YW (s : Yd) : Prop where
  n1 : 1 ≤ s.S.length
  n32 : s.S.length ≤ 32
  p1 : 1 ≤ s.P
  p8 : s.P ≤ 8
  lt : s.T.length = s.S.length
  ln : s.N.length = s.S.length
  ld : s.D.length = s.S.length
  st : ∀ k, k < s.S.length → 1 ≤ s.S.getD k 0 ∧ s.S.getD k 0 ≤ 4
  tk : ∀ k, k < s.S.length → 0 ≤ s.T.getD k 0 ∧ s.T.getD k 0 ≤ (s.P : Int)
  nl : ∀ k, k < s.S.length → (s.N.getD k []).length = s.P
  dl : ∀ k, k < s.S.length → (s.D.getD k []).length = s.P
  dn : ∀ k, k < s.S.length → ∀ q, (s.D.getD k []).getD q false = true → (s.N.getD k []).getD q false = true
  fr : ∀ k, k < s.S.length → s.S.getD k 0 = 1 → s.T.getD k 0 = 0 ∧ ∀ q, (s.N.getD k []).getD q false = false

theorem getD_setY {α : Type} (l : List α) (i j : Nat) (x d : α) : (l.set i x).getD j d = if j = i ∧ i < l.length then x else l.getD j d := by
  rw [List.getD_eq_getElem?_getD, List.getD_eq_getElem?_getD, List.getElem?_set]
  by_cases e : j = i
  · subst e
    by_cases h : j < l.length
    · simp [h]
    · simp [h]
  · simp [e, Ne.symm e]
theorem getD_rep {α : Type} (n k : Nat) (x d : α) (h : k < n) : (List.replicate n x).getD k d = x := by
  rw [List.getD_eq_getElem?_getD, List.getElem?_replicate, if_pos h]; rfl
section
variable {s : Yd} {b p x : Int}
theorem fresh_yw {n p : Nat} (h1 : 1 ≤ n) (h2 : n ≤ 32) (h3 : 1 ≤ p) (h4 : p ≤ 8) : YW (freshY n p) := by
  refine ⟨?_, ?_, h3, h4, ?_, ?_, ?_, fun k hk => ?_, fun k hk => ?_, fun k hk => ?_, fun k hk => ?_, fun k hk q hq => ?_, fun k hk _ => ?_⟩
  all_goals simp only [freshY, List.length_replicate] at *
  · exact h1
  · exact h2
  · rw [getD_rep _ _ _ _ hk]; omega
  · rw [getD_rep _ _ _ _ hk]; omega
  · rw [getD_rep _ _ _ _ hk, List.length_replicate]
  · rw [getD_rep _ _ _ _ hk, List.length_replicate]
  · rw [getD_rep _ _ _ _ hk] at hq ⊢; exact hq
  · rw [getD_rep _ _ _ _ hk, getD_rep _ _ _ _ hk]
    refine ⟨rfl, fun q => ?_⟩
    rw [List.getD_eq_getElem?_getD, List.getElem?_replicate]
    split <;> rfl
/-- A block that is one. -/
theorem stY_ne (hw : YW s) : stY s b ≠ 0 ↔ ∃ k : Nat, b = (k : Int) ∧ k < s.S.length := by
  unfold stY
  by_cases h : b < 0 ∨ (s.S.length : Int) ≤ b
  · rw [if_pos h]
    exact ⟨fun e => absurd rfl e, fun ⟨k, e, hk⟩ => by omega⟩
  · rw [if_neg h]
    refine ⟨fun _ => ⟨b.toNat, by omega, by omega⟩, fun ⟨k, e, hk⟩ => ?_⟩
    have := (hw.st k hk).1
    subst e
    rw [Int.toNat_natCast]; omega
theorem stY_at {k : Nat} (hk : k < s.S.length) : stY s (k : Int) = s.S.getD k 0 := by
  unfold stY
  rw [if_neg (by omega), Int.toNat_natCast]
theorem stY_bd (hw : YW s) : 0 ≤ stY s b ∧ stY s b ≤ 4 := by
  unfold stY
  by_cases h : b < 0 ∨ (s.S.length : Int) ≤ b
  · rw [if_pos h]; omega
  · rw [if_neg h]
    have := hw.st b.toNat (by omega)
    omega
theorem idx_nil {l : List Bool} : idxB l = [] ↔ ∀ q, l.getD q false = false := by
  unfold idxB
  rw [List.map_eq_nil_iff, List.filter_eq_nil_iff]
  refine ⟨fun h q => ?_, fun h q _ => by rw [h q]; decide⟩
  by_cases hq : q < l.length
  · have := h q (List.mem_range.2 hq)
    cases e : l.getD q false with
    | false => rfl
    | true => exact absurd e this
  · rw [List.getD_eq_getElem?_getD, List.getElem?_eq_none (by omega)]; rfl
theorem yw_setST {k : Nat} (hw : YW s) (y t : Int) (hy : 1 ≤ y ∧ y ≤ 4) (ht : 0 ≤ t ∧ t ≤ (s.P : Int)) (hf : k < s.S.length → y = 1 → t = 0 ∧ ∀ q, (s.N.getD k []).getD q false = false) : YW ((s.setS k y).setT k t) := by
  refine ⟨?_, ?_, hw.p1, hw.p8, ?_, ?_, ?_, fun j hj => ?_, fun j hj => ?_, fun j hj => ?_, fun j hj => ?_, fun j hj => ?_, fun j hj => ?_⟩
  all_goals simp only [Yd.setS, Yd.setT, List.length_set] at *
  · exact hw.n1
  · exact hw.n32
  · exact hw.lt
  · exact hw.ln
  · exact hw.ld
  · rw [getD_setY]; split
    · exact hy
    · exact hw.st j hj
  · rw [getD_setY]; split
    · exact ht
    · exact hw.tk j hj
  · exact hw.nl j hj
  · exact hw.dl j hj
  · exact hw.dn j hj
  · rw [getD_setY, getD_setY, hw.lt]
    by_cases e : j = k ∧ k < s.S.length
    · rw [if_pos e, if_pos e, e.1]; exact hf e.2
    · rw [if_neg e, if_neg e]; exact hw.fr j hj
theorem set_same {α : Type} (l : List α) (k : Nat) (d : α) : l.set k (l.getD k d) = l := by
  apply List.ext_getElem?
  intro i
  rw [List.getElem?_set]
  by_cases e : k = i
  · subst e
    by_cases h : k < l.length
    · rw [if_pos rfl, if_pos h, List.getD_eq_getElem?_getD, List.getElem?_eq_getElem h]; rfl
    · rw [if_pos rfl, if_neg h, List.getElem?_eq_none (by omega)]
  · rw [if_neg e]
theorem setT_same (k : Nat) : s.setT k (s.T.getD k 0) = s := by unfold Yd.setT; rw [set_same]
theorem setS_same (k : Nat) : s.setS k (s.S.getD k 0) = s := by unfold Yd.setS; rw [set_same]
theorem setST_T {k : Nat} (y : Int) : (s.setS k y).setT k (s.T.getD k 0) = s.setS k y := setT_same (s := s.setS k y) k
theorem setST_S {k : Nat} (t : Int) : (s.setS k (s.S.getD k 0)).setT k t = s.setT k t := by rw [setS_same]
theorem yw_setND {k q : Nat} (hw : YW s) (x y : Bool) (hxy : y = true → x = true) (hf : k < s.S.length → s.S.getD k 0 = 1 → q < s.P → x = false) : YW ((s.setN k q x).setD k q y) := by
  refine ⟨hw.n1, hw.n32, hw.p1, hw.p8, hw.lt, ?_, ?_, hw.st, hw.tk, fun j hj => ?_, fun j hj => ?_, fun j hj r => ?_, fun j hj h1 => ⟨(hw.fr j hj h1).1, fun r => ?_⟩⟩
  all_goals simp only [Yd.setN, Yd.setD, List.length_set] at *
  · exact hw.ln
  · exact hw.ld
  · rw [getD_setY]; split
    · rw [List.length_set]; rename_i h; exact hw.nl k (by rw [← hw.ln]; exact h.2)
    · exact hw.nl j hj
  · rw [getD_setY]; split
    · rw [List.length_set]; rename_i h; exact hw.dl k (by rw [← hw.ld]; exact h.2)
    · exact hw.dl j hj
  · rw [getD_setY, getD_setY, hw.ln, hw.ld]
    by_cases e : j = k ∧ k < s.S.length
    · rw [if_pos e, if_pos e, getD_setY, getD_setY, hw.nl k e.2, hw.dl k e.2]
      by_cases h : r = q ∧ q < s.P
      · rw [if_pos h, if_pos h]; exact hxy
      · rw [if_neg h, if_neg h]; exact hw.dn k e.2 r
    · rw [if_neg e, if_neg e]; exact hw.dn j hj r
  · rw [getD_setY, hw.ln]
    by_cases e : j = k ∧ k < s.S.length
    · rw [if_pos e, getD_setY, hw.nl k e.2]
      by_cases h : r = q ∧ q < s.P
      · rw [if_pos h]; exact hf e.2 (e.1 ▸ h1) h.2
      · rw [if_neg h]; exact (hw.fr k e.2 (e.1 ▸ h1)).2 r
    · rw [if_neg e]; exact (hw.fr j hj h1).2 r
theorem setND_N {k q : Nat} (y : Bool) (x : Bool) (h : (s.N.getD k []).getD q false = x) : (s.setN k q x).setD k q y = s.setD k q y := by
  subst h
  unfold Yd.setN Yd.setD
  rw [set_same, set_same]
/- each call leaves a yard -/
theorem yw_open (hw : YW s) : YW (openY s b).1 := by
  unfold openY
  split
  · exact hw
  split
  · rename_i h _
    exact yw_setST hw 2 0 (by omega) (by omega) (fun _ e => absurd e (by decide))
  · exact hw
theorem yw_next (hw : YW s) : YW (nextY s b).1 := by
  unfold nextY
  split
  · exact hw
  split
  · exact hw
  split
  · exact hw
  · rename_i h0 h1 h2
    obtain ⟨k, rfl, hk⟩ := (stY_ne hw).1 h0
    rw [stY_at hk] at h1
    rw [Int.toNat_natCast] at h2 ⊢
    have := hw.tk k hk
    dsimp only
    rw [← setST_S]
    exact yw_setST hw _ _ (hw.st k hk) (by omega) (fun _ e => by omega)
theorem yw_seal (hw : YW s) : YW (sealY s b).1 := by
  unfold sealY
  split
  · exact hw
  split
  · exact hw
  · rename_i h0 h1
    obtain ⟨k, rfl, hk⟩ := (stY_ne hw).1 h0
    rw [Int.toNat_natCast, ← setST_T]
    exact yw_setST hw 3 _ (by omega) (hw.tk k hk) (fun _ e => absurd e (by decide))
theorem yw_free (hw : YW s) : YW (freeY s b).1 := by
  unfold freeY
  split
  · exact hw
  split
  · exact hw
  · rename_i h0 h1
    refine yw_setST hw 1 0 (by omega) (by omega) fun hk _ => ⟨rfl, ?_⟩
    have h2 : neededY s b = [] := Decidable.byContradiction fun h => h1 (Or.inr h)
    unfold neededY at h2
    rw [if_neg h0] at h2
    exact idx_nil.1 h2
theorem yw_retire (hw : YW s) : YW (retireY s b).1 := by
  unfold retireY
  split
  · exact hw
  split
  · exact hw
  · rename_i h0 h1
    obtain ⟨k, rfl, hk⟩ := (stY_ne hw).1 h0
    rw [Int.toNat_natCast, ← setST_T]
    exact yw_setST hw 4 _ (by omega) (hw.tk k hk) (fun _ e => absurd e (by decide))
theorem page_at (hw : YW s) (h : pageY s b p) : ∃ k q : Nat, b = (k : Int) ∧ k < s.S.length ∧ p = (q : Int) ∧ q < s.P := by
  obtain ⟨k, hb, hk⟩ := (stY_ne hw).1 h.1
  exact ⟨k, p.toNat, hb, hk, by have := h.2.1; omega, by have := h.2; omega⟩
theorem yw_want (hw : YW s) (d : Bool) : YW (wantY s b p d).1 := by
  unfold wantY
  split
  · exact hw
  split
  · exact hw
  · rename_i h0 h1
    obtain ⟨k, q, rfl, hk, rfl, hq⟩ := page_at hw (Decidable.of_not_not h0)
    rw [Int.toNat_natCast, Int.toNat_natCast]
    refine yw_setND hw true d (fun _ => rfl) fun _ e _ => ?_
    have := (hw.fr k hk e).1
    rw [Int.toNat_natCast, this] at h1
    omega
theorem yw_drop (hw : YW s) : YW (dropY s b p).1 := by
  unfold dropY
  split
  · exact hw
  split
  · exact hw
  · exact yw_setND hw false false (fun h => h) (fun _ _ _ => rfl)
theorem yw_wash (hw : YW s) : YW (washY s b p).1 := by
  unfold washY
  split
  · exact hw
  split
  · exact hw
  · rename_i h0 h1
    obtain ⟨k, q, rfl, hk, rfl, hq⟩ := page_at hw (Decidable.of_not_not h0)
    unfold isN at h1
    rw [Int.toNat_natCast, Int.toNat_natCast] at h1 ⊢
    have hn : (s.N.getD k []).getD q false = true := by
      cases e : (s.N.getD k []).getD q false with
      | true => rfl
      | false => exact absurd e h1
    dsimp only
    rw [← setND_N false true hn]
    refine yw_setND hw true false (fun _ => rfl) fun _ e _ => ?_
    rw [(hw.fr k hk e).2 q] at hn; cases hn
end
end Go.Proofs.YthgkdnegnecnjaaGreatDoor

/- The landed yard in memory: its row of blocks, a row of pages for each; what each store leaves. No conditions. -/
set_option linter.unusedVariables false
set_option linter.unusedSimpArgs false
set_option maxRecDepth 20000
namespace Go.Proofs.YthgkdnegnecnjaaGreatDoor
open Go.RowKit

/-- A block, as its cells have it. -/
structure BkV where
  st : Int
  tk : Int
  a : BV
def BkV.zero : BkV := ⟨0, 0, BV.zero⟩
theorem infoBk : (Tryz.prog.info? 122).map (fun i => (i.zero, i.size, i.bytes)) = some (some (.agg #[.int .i64 0, .int .i64 0, .slice none 0 0]), 3, 40) := by kernel_rfl
def blkK : Kind BkV where
  T := 122
  L := 117
  k := 3
  cv := fun v => [.int .i64 v.st, .int .i64 v.tk, .slice v.a.a v.a.n v.a.c]
  wf := fun _ => True
  dflt := BkV.zero
  len := fun v => rfl
  one := fun v u hu => by
    simp only [List.mem_cons, List.not_mem_nil, or_false] at hu
    rcases hu with rfl | rfl | rfl <;> rfl
  pos := by decide
  ok := trivial
  under := Tryz.underlying117
  elem := by kernel_rfl
  info := by
    obtain ⟨i0, hi, hz0, hz1, hz2⟩ := info_parts infoBk
    exact ⟨i0, _, hi, hz0, hz1, by rw [hz2]; omega, rfl⟩
theorem infoUs : (Tryz.prog.info? 131).map (fun i => (i.zero, i.size, i.bytes)) = some (some (.agg #[.bool false, .bool false]), 2, 2) := by kernel_rfl
def useK : Kind (Bool × Bool) where
  T := 131
  L := 120
  k := 2
  cv := fun v => [.bool v.1, .bool v.2]
  wf := fun _ => True
  dflt := (false, false)
  len := fun v => rfl
  one := fun v u hu => by
    simp only [List.mem_cons, List.not_mem_nil, or_false] at hu
    rcases hu with rfl | rfl <;> rfl
  pos := by decide
  ok := trivial
  under := Tryz.underlying120
  elem := by kernel_rfl
  info := by
    obtain ⟨i0, hi, hz0, hz1, hz2⟩ := info_parts infoUs
    exact ⟨i0, _, hi, hz0, hz1, by rw [hz2]; omega, rfl⟩
theorem blkK_T : blkK.T = 122 := rfl
theorem useK_T : useK.T = 131 := rfl
/-- Where it stands: the row of blocks, each block's pages. -/
structure YLo where
  ab : Addr
  au : Nat → Addr
def bksV (s : Yd) (L : YLo) : List BkV := (List.range s.S.length).map fun k => ⟨s.S.getD k 0, s.T.getD k 0, ⟨some (L.au k), s.P, s.P⟩⟩
def usesV (N D : List Bool) (P : Nat) : List (Bool × Bool) := (List.range P).map fun q => (N.getD q false, D.getD q false)
theorem getD_map_range {α : Type} (f : Nat → α) (n k : Nat) (d : α) (h : k < n) : ((List.range n).map f).getD k d = f k := by
  rw [List.getD_eq_getElem?_getD, List.getElem?_map, List.getElem?_range h]; rfl
theorem map_range_set {α : Type} (f f' : Nat → α) (n k : Nat) (x : α) (h : k < n) (hx : f' k = x) (ho : ∀ j, j < n → j ≠ k → f' j = f j) : (List.range n).map f' = ((List.range n).map f).set k x := by
  apply List.ext_getElem
  · simp
  · intro j h1 h2
    simp only [List.length_map, List.length_range] at h1
    rw [List.getElem_set]
    by_cases e : k = j
    · subst e; simp [hx]
    · rw [if_neg e]; simp [ho j h1 (Ne.symm e)]
structure YRep (w : World) (base g : Nat) (s : Yd) (L : YLo) : Prop where
  base_le : base ≤ g
  row : w.heap[g]? = some (.cells #[.slice (some L.ab) s.S.length s.S.length] 119 (0, 0))
  br : blkK.Row w base (some L.ab) s.S.length s.S.length (bksV s L)
  ur : ∀ k, k < s.S.length → useK.Row w base (some (L.au k)) s.P s.P (usesV (s.N.getD k []) (s.D.getD k []) s.P)
  inj : ∀ j k, j < s.S.length → k < s.S.length → (L.au j).block = (L.au k).block → j = k
structure CellsK (w : World) (p : Addr) (st tk : Int) (a : Addr) (P : Nat) : Prop where
  c0 : w.cell? p = some (.int .i64 st)
  c1 : w.cell? ⟨p.block, p.off + 1, none⟩ = some (.int .i64 tk)
  c2 : w.cell? ⟨p.block, p.off + 2, none⟩ = some (.slice (some a) P P)
  f0 : w.frozen? p = false
  f1 : w.frozen? ⟨p.block, p.off + 1, none⟩ = false
structure CellsU (w : World) (p : Addr) (n d : Bool) : Prop where
  c0 : w.cell? p = some (.bool n)
  c1 : w.cell? ⟨p.block, p.off + 1, none⟩ = some (.bool d)
  f0 : w.frozen? p = false
  f1 : w.frozen? ⟨p.block, p.off + 1, none⟩ = false
structure YLo.In (L : YLo) (n : Nat) (fp : Nat → Prop) : Prop where
  ab : fp L.ab.block
  au : ∀ k, k < n → fp (L.au k).block
theorem row_zero {α : Type} {K : Kind α} {w : World} {base n c : Nat} {a : Addr} {vs : List α} (h : K.Row w base (some a) n c vs) : a = ⟨a.block, 0, none⟩ := by
  rcases h.row.2 with ⟨hv, _⟩ | ⟨b, cap, cur, hv, _⟩
  · injection hv with h1; cases h1
  · injection hv with h1
    rw [Option.some.inj h1]
theorem placeZ {a : Addr} (h : a = ⟨a.block, 0, none⟩) (j : Nat) : a.add j = ⟨a.block, j, none⟩ := by
  rw [h]
  unfold Addr.add
  split
  · next h0 => rw [h0]
  · simp
section
variable {w w' : World} {base g k q : Nat} {s : Yd} {L : YLo} {fp fq : Nat → Prop}
theorem YRep.lt (h : YRep w base g s L) : g < w.heap.size := (Array.getElem?_eq_some_iff.1 h.row).1
theorem YRep.c0 (h : YRep w base g s L) : w.cell? ⟨g, 0, none⟩ = some (.slice (some L.ab) s.S.length s.S.length) := by rw [cell_of_row _ _ _ _ _ _ h.row]; rfl
theorem YRep.abz (h : YRep w base g s L) : L.ab = ⟨L.ab.block, 0, none⟩ := row_zero h.br
theorem YRep.auz (h : YRep w base g s L) (hk : k < s.S.length) : L.au k = ⟨(L.au k).block, 0, none⟩ := row_zero (h.ur k hk)
theorem YRep.block (h : YRep w base g s L) (hk : k < s.S.length) : CellsK w (L.ab.add (k * 3)) (s.S.getD k 0) (s.T.getD k 0) (L.au k) s.P := by
  obtain ⟨ad, e1, e2, e3⟩ := h.br.lie.each k hk
  obtain rfl := Option.some.inj e1
  rw [show (bksV s L).getD k blkK.dflt = (⟨s.S.getD k 0, s.T.getD k 0, ⟨some (L.au k), s.P, s.P⟩⟩ : BkV) from getD_map_range _ _ _ _ hk] at e3
  have hb := h.br.row
  have hz := h.abz
  rw [hz] at hb
  have hpl : L.ab.add (k * 3) = ⟨L.ab.block, k * 3, none⟩ := placeZ hz _
  refine ⟨by have := e3 0 (.int .i64 (s.S.getD k 0)) rfl; rwa [add_none] at this, by have := e3 1 (.int .i64 (s.T.getD k 0)) rfl; rwa [add_at _ 0] at this, by have := e3 2 (.slice (some (L.au k)) s.P s.P) rfl; rwa [add_at _ 1] at this, ?_, ?_⟩
  · rw [hpl]; exact hb.frozenAt _
  · rw [hpl]; exact hb.frozenAt _
theorem YRep.use (h : YRep w base g s L) (hk : k < s.S.length) (hq : q < s.P) : CellsU w ((L.au k).add (q * 2)) ((s.N.getD k []).getD q false) ((s.D.getD k []).getD q false) := by
  obtain ⟨ad, e1, e2, e3⟩ := (h.ur k hk).lie.each q hq
  obtain rfl := Option.some.inj e1
  rw [show (usesV (s.N.getD k []) (s.D.getD k []) s.P).getD q useK.dflt = (((s.N.getD k []).getD q false, (s.D.getD k []).getD q false) : Bool × Bool) from getD_map_range _ _ _ _ hq] at e3
  have hb := (h.ur k hk).row
  have hz := h.auz hk
  rw [hz] at hb
  have hpl : (L.au k).add (q * 2) = ⟨(L.au k).block, q * 2, none⟩ := placeZ hz _
  refine ⟨by have := e3 0 _ rfl; rwa [add_none] at this, by have := e3 1 _ rfl; rwa [add_at _ 0] at this, ?_, ?_⟩
  · rw [hpl]; exact hb.frozenAt _
  · rw [hpl]; exact hb.frozenAt _
theorem YRep.typedB (h : YRep w base g s L) : ∃ cur, w.heap[L.ab.block]? = some (.cells cur 122 (0, 0)) := Row.typed h.br _ (by simp [blk])
theorem YRep.typedU (h : YRep w base g s L) (hk : k < s.S.length) : ∃ cur, w.heap[(L.au k).block]? = some (.cells cur 131 (0, 0)) := Row.typed (h.ur k hk) _ (by simp [blk])
theorem YRep.stays (h : YRep w base g s L) (h0 : w'.heap[g]? = w.heap[g]?) (hi : L.In s.S.length fp) (hb : ∀ b, fp b → w'.heap[b]? = w.heap[b]?) : YRep w' base g s L :=
  ⟨h.base_le, h0.trans h.row, Row.at_block h.br fun b hm => by
    have : b = L.ab.block := by simpa [blk] using hm
    rw [this]; exact hb _ hi.ab, fun k hk => Row.at_block (h.ur k hk) fun b hm => by
    have : b = (L.au k).block := by simpa [blk] using hm
    rw [this]; exact hb _ (hi.au k hk), h.inj⟩
theorem YRep.since (h : YRep w base g s L) (hb : Below w.heap.size w w') : YRep w' base g s L :=
  ⟨h.base_le, (hb.block g h.lt).trans h.row, h.br.since hb, fun k hk => (h.ur k hk).since hb, h.inj⟩
theorem YRep.elder (h : YRep w base g s L) {base' : Nat} (hb : base' ≤ base) : YRep w base' g s L :=
  ⟨Nat.le_trans hb h.base_le, h.row, h.br.elder hb, fun k hk => (h.ur k hk).elder hb, h.inj⟩
/- what a store leaves -/
theorem YRep.putSt (h : YRep w base g s L) (hk : k < s.S.length) (x : Int) : YRep (w.setCell (L.ab.add (k * 3)) (.int .i64 x)) base g (s.setS k x) L := by
  obtain ⟨cur, hc⟩ := h.typedB
  rw [placeZ h.abz]
  have hl : (s.setS k x).S.length = s.S.length := by simp [Yd.setS]
  refine ⟨h.base_le, ?_, ?_, ?_, ?_⟩
  all_goals simp only [hl]
  · exact (setCell_heap w _ _ _ _ fun e => absurd (other_type (w := w) h.row (e ▸ hc)) (by decide)).trans h.row
  · have hr := h.br
    rw [h.abz] at hr ⊢
    have := hr.put (i := k) (r := 0) hk (by decide) (.int .i64 x) ⟨x, s.T.getD k 0, ⟨some (L.au k), s.P, s.P⟩⟩ (by rw [show (bksV s L).getD k blkK.dflt = (⟨s.S.getD k 0, s.T.getD k 0, ⟨some (L.au k), s.P, s.P⟩⟩ : BkV) from getD_map_range _ _ _ _ hk]; rfl) trivial
    refine Kind.Row.same this ?_
    unfold bksV
    rw [hl]
    refine (map_range_set _ _ _ _ _ hk ?_ fun j hj e => ?_).symm
    · simp only [Yd.setS, getD_setY, hk, and_self, if_true]
    · simp only [Yd.setS, getD_setY, e, false_and, if_false]
  · exact fun j hj => Row.at_block (h.ur j hj) fun b hm => by
      obtain ⟨c2, hc2⟩ := Row.typed (h.ur j hj) b hm
      exact setCell_heap w _ _ _ _ fun e => absurd (other_type (w := w) (e ▸ hc2) hc) (by decide)
  · exact h.inj
theorem YRep.putTk (h : YRep w base g s L) (hk : k < s.S.length) (hT : s.T.length = s.S.length) (x : Int) : YRep (w.setCell ⟨(L.ab.add (k * 3)).block, (L.ab.add (k * 3)).off + 1, none⟩ (.int .i64 x)) base g (s.setT k x) L := by
  obtain ⟨cur, hc⟩ := h.typedB
  rw [placeZ h.abz]
  refine ⟨h.base_le, (setCell_heap w _ _ _ _ fun e => absurd (other_type (w := w) h.row (e ▸ hc)) (by decide)).trans h.row, ?_, fun j hj => Row.at_block (h.ur j hj) fun b hm => ?_, h.inj⟩
  · have hr := h.br
    rw [h.abz] at hr ⊢
    have := hr.put (i := k) (r := 1) hk (by decide) (.int .i64 x) ⟨s.S.getD k 0, x, ⟨some (L.au k), s.P, s.P⟩⟩ (by rw [show (bksV s L).getD k blkK.dflt = (⟨s.S.getD k 0, s.T.getD k 0, ⟨some (L.au k), s.P, s.P⟩⟩ : BkV) from getD_map_range _ _ _ _ hk]; rfl) trivial
    refine Kind.Row.same this (map_range_set _ _ _ _ _ hk ?_ fun j hj e => ?_).symm
    · simp only [Yd.setT, getD_setY, hT, hk, and_self, if_true]
    · simp only [Yd.setT, getD_setY, e, false_and, if_false]
  · obtain ⟨c2, hc2⟩ := Row.typed (h.ur j hj) b hm
    exact setCell_heap w _ _ _ _ fun e => absurd (other_type (w := w) (e ▸ hc2) hc) (by decide)
theorem use_other (h : YRep w base g s L) {j : Nat} (hk : k < s.S.length) (hj : j < s.S.length) (e : j ≠ k) (o : Nat) (v : Value) : useK.Row (w.setCell ⟨(L.au k).block, o, none⟩ v) base (some (L.au j)) s.P s.P (usesV (s.N.getD j []) (s.D.getD j []) s.P) := Row.at_block (h.ur j hj) fun b hm => by
  have : b = (L.au j).block := by simpa [blk] using hm
  rw [this]
  exact setCell_heap w _ _ _ _ fun e2 => e (h.inj j k hj hk e2)
theorem use_keeps (h : YRep w base g s L) (hk : k < s.S.length) (o : Nat) (v : Value) : (w.setCell ⟨(L.au k).block, o, none⟩ v).heap[g]? = some (.cells #[.slice (some L.ab) s.S.length s.S.length] 119 (0, 0)) ∧ blkK.Row (w.setCell ⟨(L.au k).block, o, none⟩ v) base (some L.ab) s.S.length s.S.length (bksV s L) := by
  obtain ⟨cur, hc⟩ := h.typedU hk
  refine ⟨(setCell_heap w _ _ _ _ fun e => absurd (other_type (w := w) h.row (e ▸ hc)) (by decide)).trans h.row, Row.at_block h.br fun b hm => ?_⟩
  obtain ⟨c2, hc2⟩ := Row.typed h.br b hm
  exact setCell_heap w _ _ _ _ fun e => absurd (other_type (w := w) (e ▸ hc2) hc) (by decide)
theorem YRep.putN (h : YRep w base g s L) (hk : k < s.S.length) (hN : s.N.length = s.S.length) (hq : q < s.P) (hP : (s.N.getD k []).length = s.P) (x : Bool) : YRep (w.setCell ((L.au k).add (q * 2)) (.bool x)) base g (s.setN k q x) L := by
  rw [placeZ (h.auz hk)]
  obtain ⟨h1, h2⟩ := use_keeps h hk (q * 2) (.bool x)
  refine ⟨h.base_le, h1, h2, fun j hj => ?_, h.inj⟩
  show useK.Row _ base (some (L.au j)) s.P s.P (usesV ((s.N.set k ((s.N.getD k []).set q x)).getD j []) (s.D.getD j []) s.P)
  by_cases e : j = k
  · subst e
    rw [getD_setY, if_pos ⟨rfl, by rw [hN]; exact hj⟩]
    have hr := h.ur j hj
    rw [h.auz hj] at hr ⊢
    have := hr.put (i := q) (r := 0) hq (by decide) (.bool x) (x, (s.D.getD j []).getD q false) (by rw [show (usesV (s.N.getD j []) (s.D.getD j []) s.P).getD q useK.dflt = (((s.N.getD j []).getD q false, (s.D.getD j []).getD q false) : Bool × Bool) from getD_map_range _ _ _ _ hq]; rfl) trivial
    refine Kind.Row.same this (map_range_set _ _ _ _ _ hq ?_ fun i hi e => ?_).symm
    · simp only [getD_setY, hP, hq, and_self, if_true]
    · simp only [getD_setY, e, false_and, if_false]
  · rw [getD_setY, if_neg (fun x => e x.1)]
    exact use_other h hk hj e _ _
theorem YRep.putD (h : YRep w base g s L) (hk : k < s.S.length) (hD : s.D.length = s.S.length) (hq : q < s.P) (hP : (s.D.getD k []).length = s.P) (x : Bool) : YRep (w.setCell ⟨((L.au k).add (q * 2)).block, ((L.au k).add (q * 2)).off + 1, none⟩ (.bool x)) base g (s.setD k q x) L := by
  rw [placeZ (h.auz hk)]
  obtain ⟨h1, h2⟩ := use_keeps h hk (q * 2 + 1) (.bool x)
  refine ⟨h.base_le, h1, h2, fun j hj => ?_, h.inj⟩
  show useK.Row _ base (some (L.au j)) s.P s.P (usesV (s.N.getD j []) ((s.D.set k ((s.D.getD k []).set q x)).getD j []) s.P)
  by_cases e : j = k
  · subst e
    rw [getD_setY, if_pos ⟨rfl, by rw [hD]; exact hj⟩]
    have hr := h.ur j hj
    rw [h.auz hj] at hr ⊢
    have := hr.put (i := q) (r := 1) hq (by decide) (.bool x) ((s.N.getD j []).getD q false, x) (by rw [show (usesV (s.N.getD j []) (s.D.getD j []) s.P).getD q useK.dflt = (((s.N.getD j []).getD q false, (s.D.getD j []).getD q false) : Bool × Bool) from getD_map_range _ _ _ _ hq]; rfl) trivial
    refine Kind.Row.same this (map_range_set _ _ _ _ _ hq ?_ fun i hi e => ?_).symm
    · simp only [getD_setY, hP, hq, and_self, if_true]
    · simp only [getD_setY, e, false_and, if_false]
  · rw [getD_setY, if_neg (fun x => e x.1)]
    exact use_other h hk hj e _ _
end
/-- A yard at block g, all its blocks in fp. -/
structure YardAt (w : World) (base : Nat) (fp : Nat → Prop) (g : Nat) (s : Yd) : Prop where
  wf : YW s
  own : fp g
  ge : ∀ b, fp b → base ≤ b
  lt : ∀ b, fp b → b < w.heap.size
  ex : ∃ L, YRep w base g s L ∧ L.In s.S.length fp
section
variable {w w' : World} {base g : Nat} {s : Yd} {L : YLo} {fp fq : Nat → Prop}
theorem YardAt.keep (h : YardAt w base fp g s) (ht : Turn fq w w') (hd : Two fq fp) : YardAt w' base fp g s := by
  obtain ⟨L, h1, h2⟩ := h.ex
  have hb : ∀ b, fp b → w'.heap[b]? = w.heap[b]? := fun b hb => ht.block b (h.lt b hb) fun hq => hd b hq hb
  exact ⟨h.wf, h.own, h.ge, fun b hb => Nat.lt_of_lt_of_le (h.lt b hb) ht.size, ⟨L, h1.stays (hb g h.own) h2 hb, h2⟩⟩
theorem YardAt.since (h : YardAt w base fp g s) (hb : Below w.heap.size w w') : YardAt w' base fp g s := h.keep (fq := fun _ => False) (Turn.of_below hb) fun b hb => hb.elim
theorem YardAt.elder (h : YardAt w base fp g s) {base' : Nat} (hb : base' ≤ base) : YardAt w base' fp g s := by
  obtain ⟨L, h1, h2⟩ := h.ex
  exact ⟨h.wf, h.own, fun b hf => Nat.le_trans hb (h.ge b hf), h.lt, ⟨L, h1.elder hb, h2⟩⟩
theorem YardAt.same (h : YardAt w base fp g s) {s' : Yd} (e : s = s') : YardAt w base fp g s' := e ▸ h
theorem YardAt.base_le (h : YardAt w base fp g s) : base ≤ w.heap.size := Nat.le_of_lt (Nat.lt_of_le_of_lt (h.ge g h.own) (h.lt g h.own))
/-- Where it was turned: it stands again, in the same blocks. -/
theorem yard_turned {s' : Yd} (hR : YardAt w base fp g s) (hi : L.In s.S.length fp) (h1 : YRep w' base g s' L) (hl : s'.S.length = s.S.length) (hw : YW s') (ht : Turn fp w w') : YardAt w' base fp g s' ∧ Moves w fp w' fp :=
  ⟨⟨hw, hR.own, hR.ge, fun b hb => Nat.lt_of_lt_of_le (hR.lt b hb) ht.size, ⟨L, h1, by rw [hl]; exact hi⟩⟩, ht, fun b hb => Or.inl hb⟩
end
end Go.Proofs.YthgkdnegnecnjaaGreatDoor

/- What calls of a yard leave. No conditions. -/
set_option linter.unusedVariables false
set_option linter.unusedSimpArgs false
set_option maxRecDepth 20000
namespace Go.Proofs.YthgkdnegnecnjaaGreatDoor
open Go.RowKit

/-- What a call leaves that turns the yard, and answers an error. -/
def YLeads (w : World) (base : Nat) (fp : Nat → Prop) (g : Nat) (r : Yd × Int) (e : Ending) (w' : World) : Prop :=
  ∃ v fp', e = .returned v ∧ ErrNew w fp' w' r.2 v ∧ YardAt w' base fp' g r.1 ∧ Moves w fp w' fp'
/-- The same, with a number ahead of the error. -/
def YNext (w : World) (base : Nat) (fp : Nat → Prop) (g : Nat) (r : Yd × Int × Int) (e : Ending) (w' : World) : Prop :=
  ∃ v fp', e = .returned (.tuple #[.int .i64 r.2.1, v]) ∧ ErrNew w fp' w' r.2.2 v ∧ YardAt w' base fp' g r.1 ∧ Moves w fp w' fp'
def NewY (w : World) (o : Option Yd) (e : Ending) (w' : World) : Prop :=
  match o with
  | none => e = .returned (.pointer none) ∧ Below w.heap.size w w'
  | some s => ∃ g fp, e = .returned (.pointer (some ⟨g, 0, none⟩)) ∧ YardAt w' w.heap.size fp g s ∧ Below w.heap.size w w'
end Go.Proofs.YthgkdnegnecnjaaGreatDoor

/- The landed yard's small helpers: wrong, has, slices.Contains of numbers, which pages are needed or dirty. Conditions: the yard's cells. -/
set_option linter.unusedVariables false
set_option linter.unusedSimpArgs false
set_option maxRecDepth 20000
namespace Go.Proofs.YthgkdnegnecnjaaGreatDoor
open Go.RowKit

theorem ywrong_new (st : ByteArray) (k : Int) (hk : 1 ≤ k) (w : World) (fp : Nat → Prop) (hf : ∀ b, fp b → b < w.heap.size) :
    Calls Tryz.prog 96 #[.string st, .int .i64 k] w fun e w' => ∃ v, e = .returned v ∧ ErrNew w fp w' k v ∧ Below w.heap.size w w' := by
  have h0 : (w.alloc (.cells #[.int .i64 k, .string st] 113)).cell? ⟨w.heap.size, 0, none⟩ = some (.int .i64 k) := by rw [cell_new]; rfl
  have h1 : (w.alloc (.cells #[.int .i64 k, .string st] 113)).cell? ⟨w.heap.size, 1, none⟩ = some (.string st) := by rw [cell_new]; rfl
  have HE : Hid (ErrNew w fp (w.alloc (.cells #[.int .i64 k, .string st] 113)) k (.iface 111 (.pointer (some ⟨w.heap.size, 0, none⟩)))) :=
    Or.inr ⟨hk, _, _, rfl, h0, h1, Nat.le_refl _, fun h => by have := hf _ h; omega⟩
  have HB : Hid (Below w.heap.size w (w.alloc (.cells #[.int .i64 k, .string st] 113))) := (Below.refl _ _).alloc (Nat.le_refl _) _
  clear h0 h1 hf
  go_enter Tryz.func96, Tryz.ntmps96
  go_wp2_with fail
  go_ret
  exact ⟨_, rfl, HE.out, HB.out⟩
section
variable {w : World} {base g : Nat} {fp : Nat → Prop} {s : Yd} {L : YLo}
def hasY (s : Yd) (b : Int) : Bool := decide (0 ≤ b ∧ b < (s.S.length : Int))
theorem yhas_any (b : Int) (h : YRep w base g s L) (hs : s.S.length ≤ 32) : Calls Tryz.prog 78 #[.pointer (some ⟨g, 0, none⟩), .int .i64 b] w fun e w' => e = .returned (.bool (hasY s b)) ∧ w = w' := by
  have c0 := h.c0
  have HH : Hid (hasY s b = decide (0 ≤ b ∧ b < (s.S.length : Int))) := rfl
  obtain ⟨z, HZ⟩ : ∃ z : Nat, Hid (s.S.length = z) := ⟨_, rfl⟩
  rw [HZ.out] at c0 hs HH
  clear h HZ
  by_cases h0 : 0 ≤ b
  · by_cases h1 : b < (z : Int)
    · rw [show hasY s b = true by rw [HH.out]; exact decide_eq_true ⟨h0, h1⟩]
      clear HH
      go_enter Tryz.func78, Tryz.ntmps78
      go_wp2_with fail
      go_ret
      exact ⟨rfl, rfl⟩
    · rw [show hasY s b = false by rw [HH.out]; exact decide_eq_false fun h => h1 h.2]
      clear HH
      go_enter Tryz.func78, Tryz.ntmps78
      go_wp2_with fail
      go_ret
      exact ⟨rfl, rfl⟩
  · rw [show hasY s b = false by rw [HH.out]; exact decide_eq_false fun h => h0 h.1]
    clear HH
    go_enter Tryz.func78, Tryz.ntmps78
    go_wp2_with fail
    go_ret
    exact ⟨rfl, rfl⟩
end
theorem yhas_nil (b : Int) (w : World) : Calls Tryz.prog 78 #[.pointer none, .int .i64 b] w fun e w' => e = .returned (.bool false) ∧ w = w' := by
  go_enter Tryz.func78, Tryz.ntmps78
  go_wp2_with fail
  go_ret
  exact ⟨rfl, rfl⟩
/- slices.Index, slices.Contains of numbers -/
set_option maxHeartbeats 1000000 in
theorem yindex_any (A : Option Addr) (n c : Nat) (xs : List Int) (x : Int) (w : World) (hn : n ≤ 1000) (hA : intK.Lie w w.heap.size A n xs) :
    Calls Tryz.prog 125 #[.slice A n c, .int .i64 x] w fun e w' => ∃ r : Int, e = .returned (.int .i64 r) ∧ decide (0 ≤ r) = xs.contains x ∧ w = w' := by
  have HA := Lib.hid hA
  have HL : Hid (xs.length = n) := hA.len
  clear hA
  go_enter Tryz.func125, Tryz.ntmps125
  go_wp2_with fail
  go_loopw [8] (fun t8 wr => ∃ (k : Nat), k ≤ n ∧ t8 = .int .i64 k ∧ Hid (∀ j, j < k → xs.getD j 0 ≠ x) ∧ w = wr) (fun t8 _ => n - (intOf t8).toNat)
  case atStart => exact ⟨0, Nat.zero_le _, rfl, fun j hj => absurd hj (Nat.not_lt_zero j), rfl⟩
  case round =>
    obtain ⟨k, hk, rfl, HK, rfl⟩ := hrel
    by_cases hlt : k < n
    · obtain ⟨ad, hA, hblk, hcell⟩ := int_at HA.out hlt
      obtain ⟨y, HY⟩ : ∃ y : Int, Hid (xs.getD k 0 = y) := ⟨_, rfl⟩
      rw [HY.out] at hcell
      subst hA
      have i0 : (0 : Int) ≤ (k : Int) := by omega
      have i1 : (k : Int) < (n : Int) := by omega
      by_cases hyx : x = y
      · have HC : Hid (xs.contains x = true) := by
          refine List.elem_iff.2 ?_
          rw [hyx, ← HY.out, List.getD_eq_getElem?_getD, List.getElem?_eq_getElem (by rw [HL.out]; exact hlt)]
          exact List.getElem_mem _
        go_wp2_with fail
        go_ret
        exact ⟨_, rfl, by rw [HC.out]; exact decide_eq_true i0, rfl⟩
      · go_wp2_with fail
        go_roundw
        case rel => exact ⟨k + 1, by omega, by go_num, fun j hj => by
          by_cases e : j = k
          · subst e; rw [HY.out]; exact Ne.symm hyx
          · exact HK.out j (by omega), by first | rfl | trivial⟩
        case measure => simp [intOf]; omega
    · have HC : Hid (xs.contains x = false) := by
        refine Bool.eq_false_iff.2 fun h => ?_
        obtain ⟨j, hj, e⟩ := List.mem_iff_getElem.1 (List.elem_iff.1 h)
        refine HK.out j (by rw [HL.out] at hj; omega) ?_
        rw [List.getD_eq_getElem?_getD, List.getElem?_eq_getElem hj]
        exact e
      go_wp2_with fail
      go_ret
      exact ⟨_, rfl, by rw [HC.out]; decide, rfl⟩
theorem ycontains_any (A : Option Addr) (n c : Nat) (xs : List Int) (x : Int) (w : World) (hn : n ≤ 1000) (hA : intK.Lie w w.heap.size A n xs) :
    Calls Tryz.prog 119 #[.slice A n c, .int .i64 x] w fun e w' => e = .returned (.bool (xs.contains x)) ∧ w = w' := by
  have C := Lib.hid (yindex_any A n c xs x w hn hA)
  clear hA
  obtain ⟨q, HQ⟩ : ∃ q, Hid (xs.contains x = q) := ⟨_, rfl⟩
  rw [HQ.out] at C ⊢
  clear HQ
  go_enter Tryz.func119, Tryz.ntmps119
  go_wp2_with fail
  refine C.out.mono ?_
  rintro e w' ⟨r, rfl, HR, rfl⟩
  have HR := Lib.hid HR
  by_cases h0 : 0 ≤ r
  · obtain rfl : q = true := by rw [← HR.out]; exact decide_eq_true h0
    go_wp2_with fail
    go_ret
    exact ⟨rfl, rfl⟩
  · obtain rfl : q = false := by rw [← HR.out]; exact decide_eq_false h0
    go_wp2_with fail
    go_ret
    exact ⟨rfl, rfl⟩
/- one page -/
theorem yisneeded_any (n d : Bool) (w : World) : Calls Tryz.prog 80 #[.agg #[.bool n, .bool d]] w fun e w' => e = .returned (.bool n) ∧ Below w.heap.size w w' := by
  have h0 : (w.alloc (.cells #[.bool n, .bool d] 131)).cell? ⟨w.heap.size, 0, none⟩ = some (.bool n) := by rw [cell_new]; rfl
  have h1 : (w.alloc (.cells #[.bool n, .bool d] 131)).cell? ⟨w.heap.size, 1, none⟩ = some (.bool d) := by rw [cell_new]; rfl
  have HB : Hid (Below w.heap.size w (w.alloc (.cells #[.bool n, .bool d] 131))) := (Below.refl _ _).alloc (Nat.le_refl _) _
  go_enter Tryz.func80, Tryz.ntmps80
  go_wp2_with fail
  go_ret
  exact ⟨rfl, HB.out⟩
end Go.Proofs.YthgkdnegnecnjaaGreatDoor

/- The landed yard: slices.ContainsFunc of pages, which pages, which blocks. Conditions: the slices' cells. -/
set_option linter.unusedVariables false
set_option linter.unusedSimpArgs false
set_option maxRecDepth 20000
namespace Go.Proofs.YthgkdnegnecnjaaGreatDoor
open Go.RowKit

theorem use_at {w : World} {B n : Nat} {A : Option Addr} {us : List (Bool × Bool)} (h : useK.Lie w B A n us) {k : Nat} (hk : k < n) : ∃ ad, A = some ad ∧ ad.block < B ∧ w.cell? (ad.add (k * 2)) = some (.bool (us.getD k (false, false)).1) ∧ w.cell? ⟨(ad.add (k * 2)).block, (ad.add (k * 2)).off + 1, none⟩ = some (.bool (us.getD k (false, false)).2) := by
  obtain ⟨ad, e1, e2, e3⟩ := h.each k hk
  have c0 := e3 0 (.bool (us.getD k (false, false)).1) rfl
  have c1 := e3 1 (.bool (us.getD k (false, false)).2) rfl
  rw [add_none] at c0
  rw [add_at _ 0] at c1
  exact ⟨ad, e1, e2, c0, c1⟩
theorem bk_at {w : World} {B n : Nat} {A : Option Addr} {vs : List BkV} (h : blkK.Lie w B A n vs) {k : Nat} (hk : k < n) : ∃ ad, A = some ad ∧ ad.block < B ∧ w.cell? (ad.add (k * 3)) = some (.int .i64 (vs.getD k BkV.zero).st) ∧ w.cell? ⟨(ad.add (k * 3)).block, (ad.add (k * 3)).off + 1, none⟩ = some (.int .i64 (vs.getD k BkV.zero).tk) ∧ w.cell? ⟨(ad.add (k * 3)).block, (ad.add (k * 3)).off + 2, none⟩ = some (.slice (vs.getD k BkV.zero).a.a (vs.getD k BkV.zero).a.n (vs.getD k BkV.zero).a.c) := by
  obtain ⟨ad, e1, e2, e3⟩ := h.each k hk
  have c0 := e3 0 (.int .i64 (vs.getD k BkV.zero).st) rfl
  have c1 := e3 1 (.int .i64 (vs.getD k BkV.zero).tk) rfl
  have c2 := e3 2 (.slice (vs.getD k BkV.zero).a.a (vs.getD k BkV.zero).a.n (vs.getD k BkV.zero).a.c) rfl
  rw [add_none] at c0
  rw [add_at _ 0] at c1
  rw [add_at _ 1] at c2
  exact ⟨ad, e1, e2, c0, c1, c2⟩
/- which of the first so many are so -/
def idxF {α : Type} (f : α → Bool) (d : α) (l : List α) (n : Nat) : List Int := ((List.range n).filter fun k => f (l.getD k d)).map fun (k : Nat) => (k : Int)
theorem idxF_zero {α : Type} (f : α → Bool) (d : α) (l : List α) : idxF f d l 0 = [] := rfl
theorem idxF_yes {α : Type} {f : α → Bool} {d : α} {l : List α} {n : Nat} (h : f (l.getD n d) = true) : idxF f d l (n + 1) = idxF f d l n ++ [(n : Int)] := by
  unfold idxF
  rw [List.range_succ, List.filter_append, List.map_append]
  simp only [List.filter_cons, List.filter_nil, h, if_true, List.map_cons, List.map_nil]
theorem idxF_no {α : Type} {f : α → Bool} {d : α} {l : List α} {n : Nat} (h : f (l.getD n d) = false) : idxF f d l (n + 1) = idxF f d l n := by
  unfold idxF
  rw [List.range_succ, List.filter_append, List.map_append]
  simp only [List.filter_cons, List.filter_nil, h, List.map_nil, List.append_nil]
  simp
theorem idxF_len {α : Type} (f : α → Bool) (d : α) (l : List α) (n : Nat) : (idxF f d l n).length ≤ n := by
  unfold idxF
  rw [List.length_map]
  exact Nat.le_trans (List.length_filter_le _ _) (by rw [List.length_range]; exact Nat.le_refl _)
set_option maxHeartbeats 1000000 in
theorem yindexf_any (A : Option Addr) (n c : Nat) (us : List (Bool × Bool)) (w : World) (hn : n ≤ 1000) (hA : useK.Lie w w.heap.size A n us) :
    Calls Tryz.prog 120 #[.slice A n c, .func (.func 80) #[] #[]] w fun e w' => ∃ r : Int, e = .returned (.int .i64 r) ∧ decide (0 ≤ r) = us.any (·.1) ∧ Below w.heap.size w w' := by
  have HA := Lib.hid hA
  have HL : Hid (us.length = n) := hA.len
  have S0 := Lib.hid (Below.refl w.heap.size w)
  clear hA
  go_enter Tryz.func120, Tryz.ntmps120
  go_wp2_with fail
  go_loopw [8] (fun t8 wr => ∃ (k : Nat), k ≤ n ∧ t8 = .int .i64 k ∧ Hid (∀ j, j < k → (us.getD j (false, false)).1 = false) ∧ Hid (Below w.heap.size w wr)) (fun t8 _ => n - (intOf t8).toNat)
  case atStart => exact ⟨0, Nat.zero_le _, rfl, fun j hj => absurd hj (Nat.not_lt_zero j), S0⟩
  case round =>
    obtain ⟨k, hk, rfl, HK, HB⟩ := hrel
    by_cases hlt : k < n
    · obtain ⟨ad, hA, hblk, hc0, hc1⟩ := use_at (HA.out.below HB.out) hlt
      obtain ⟨nn, HN⟩ : ∃ nn, Hid ((us.getD k (false, false)).1 = nn) := ⟨_, rfl⟩
      obtain ⟨dd, HD⟩ : ∃ dd, Hid ((us.getD k (false, false)).2 = dd) := ⟨_, rfl⟩
      rw [HN.out] at hc0
      rw [HD.out] at hc1
      subst hA
      have i0 : (0 : Int) ≤ (k : Int) := by omega
      have i1 : (k : Int) < (n : Int) := by omega
      have C := Lib.hid (yisneeded_any nn dd wr)
      go_wp2_with fail
      refine C.out.mono ?_
      rintro e W1 ⟨rfl, hB1⟩
      have B1 := Lib.hid (below_chain HB.out hB1)
      clear hB1
      cases nn with
      | true =>
        have HC : Hid (us.any (·.1) = true) := by
          show _ = _
          have hm : us.getD k (false, false) ∈ us := by
            rw [List.getD_eq_getElem?_getD, List.getElem?_eq_getElem (by rw [HL.out]; exact hlt)]
            exact List.getElem_mem _
          exact List.any_eq_true.2 ⟨_, hm, HN.out⟩
        go_wp2_with fail
        go_ret
        exact ⟨_, rfl, by rw [HC.out]; exact decide_eq_true i0, B1.out⟩
      | false =>
        go_wp2_with fail
        go_roundw
        case rel => exact ⟨k + 1, by omega, by go_num, fun j hj => by
          by_cases e : j = k
          · subst e; exact HN.out
          · exact HK.out j (by omega), B1⟩
        case measure => simp [intOf]; omega
    · have HC : Hid (us.any (·.1) = false) := by
        refine Bool.eq_false_iff.2 fun h => ?_
        obtain ⟨u, hu, e⟩ := List.any_eq_true.1 h
        obtain ⟨j, hj, e2⟩ := List.mem_iff_getElem.1 hu
        have := HK.out j (by rw [HL.out] at hj; omega)
        rw [List.getD_eq_getElem?_getD, List.getElem?_eq_getElem hj] at this
        rw [← e2] at e
        exact Bool.false_ne_true (this.symm.trans e)
      go_wp2_with fail
      go_ret
      exact ⟨_, rfl, by rw [HC.out]; decide, HB.out⟩
theorem ycontainsf_any (A : Option Addr) (n c : Nat) (us : List (Bool × Bool)) (w : World) (hn : n ≤ 1000) (hA : useK.Lie w w.heap.size A n us) :
    Calls Tryz.prog 95 #[.slice A n c, .func (.func 80) #[] #[]] w fun e w' => e = .returned (.bool (us.any (·.1))) ∧ Below w.heap.size w w' := by
  have C := Lib.hid (yindexf_any A n c us w hn hA)
  clear hA
  obtain ⟨q, HQ⟩ : ∃ q, Hid (us.any (·.1) = q) := ⟨_, rfl⟩
  rw [HQ.out] at C ⊢
  clear HQ
  go_enter Tryz.func95, Tryz.ntmps95
  go_wp2_with fail
  refine C.out.mono ?_
  rintro e W1 ⟨r, rfl, HR, hB⟩
  have HR := Lib.hid HR
  have HB := Lib.hid hB
  clear hB
  by_cases h0 : 0 ≤ r
  · obtain rfl : q = true := by rw [← HR.out]; exact decide_eq_true h0
    go_wp2_with fail
    go_ret
    exact ⟨rfl, HB.out⟩
  · obtain rfl : q = false := by rw [← HR.out]; exact decide_eq_false h0
    go_wp2_with fail
    go_ret
    exact ⟨rfl, HB.out⟩
/- which -/
set_option maxHeartbeats 2000000 in
theorem ywhichn_any (A : Option Addr) (n c : Nat) (us : List (Bool × Bool)) (w : World) (hn : n ≤ 1000) (hA : useK.Lie w w.heap.size A n us) :
    Calls Tryz.prog 79 #[.slice A n c, .func (.func 80) #[] #[]] w (GivesI w (idxF (·.1) (false, false) us n)) := by
  have HA := Lib.hid hA
  have S0 := Lib.hid (Below.refl w.heap.size w)
  clear hA
  go_enter Tryz.func79, Tryz.ntmps79
  go_wp2_with fail
  go_loopw [5, 10] (fun t5 t10 wr => ∃ (k m : Nat) (A3 : Option Addr) (c3 : Nat), t10 = .int .i64 k ∧ k ≤ n ∧ t5 = .slice A3 m c3 ∧ Hid (intK.Row wr w.heap.size A3 m c3 (idxF (·.1) (false, false) us k)) ∧ Hid (Below w.heap.size w wr)) (fun _ t10 _ => n - (intOf t10).toNat)
  case atStart => exact ⟨0, 0, none, 0, rfl, Nat.zero_le _, rfl, Kind.Row.none_, S0⟩
  case round =>
    obtain ⟨k, m, A3, c3, rfl, hk, rfl, HR, HB⟩ := hrel
    by_cases hlt : k < n
    · obtain ⟨ad, hA, hblk, hc0, hc1⟩ := use_at (HA.out.below HB.out) hlt
      obtain ⟨nn, HN⟩ : ∃ nn, Hid ((us.getD k (false, false)).1 = nn) := ⟨_, rfl⟩
      obtain ⟨dd, HD⟩ : ∃ dd, Hid ((us.getD k (false, false)).2 = dd) := ⟨_, rfl⟩
      rw [HN.out] at hc0
      rw [HD.out] at hc1
      subst hA
      have i0 : (0 : Int) ≤ (k : Int) := by omega
      have i1 : (k : Int) < (n : Int) := by omega
      have hm : m ≤ k := by rw [← HR.out.len]; exact idxF_len _ _ _ _
      obtain ⟨W1, HW1⟩ : ∃ W1, Hid (W1 = wr.alloc (.cells #[.bool nn, .bool dd] 131)) := ⟨_, rfl⟩
      have L1 : Hid (Below wr.heap.size wr W1) := by rw [HW1.out]; exact (Below.refl _ _).alloc (Nat.le_refl _) _
      have d0 : W1.cell? ⟨wr.heap.size, 0, none⟩ = some (.bool nn) := by rw [HW1.out, cell_new]; rfl
      have d1 : W1.cell? ⟨wr.heap.size, 1, none⟩ = some (.bool dd) := by rw [HW1.out, cell_new]; rfl
      have C := Lib.hid (yisneeded_any nn dd W1)
      go_wp2_with fail
      rw [← HW1.out]
      go_wp2_with fail
      refine C.out.mono ?_
      rintro e W2 ⟨rfl, hB2⟩
      have B2 := Lib.hid (below_chain HB.out (below_chain L1.out hB2))
      have R2 := Lib.hid ((HR.out.since L1.out).since hB2)
      clear hB2 d0 d1 hc0 hc1
      by_cases hf : (us.getD k (false, false)).1 = true
      · have HF : Hid (idxF (·.1) (false, false) us (k + 1) = idxF (·.1) (false, false) us k ++ [(k : Int)]) := idxF_yes hf
        rw [HN.out] at hf
        subst hf
        obtain ⟨A4, c4, W4, hr4, ho4, hb4, _⟩ := Kind.append_one (K := intK) B2.out R2.out (k : Int) ⟨by omega, by omega⟩ #[.int .i64 (k : Int)] rfl (by omega)
        have R4 := Lib.hid (ho4.same HF.out.symm)
        have B4 := Lib.hid hb4
        have HR4 := Lib.hid hr4
        clear ho4 hb4 hr4
        go_wp2_with (at_builtin; refine wpList_append_run rfl (.tmp 18) (.tmp 20) 22 rfl rfl rfl HR4.out ?_)
        go_roundw
        case rel => exact ⟨k + 1, m + 1, A4, c4, by go_num, by omega, rfl, R4, B4⟩
        case measure => simp [intOf]; omega
      · have hf := Bool.eq_false_iff.2 hf
        have HF : Hid (idxF (·.1) (false, false) us (k + 1) = idxF (·.1) (false, false) us k) := idxF_no hf
        have R3 := Lib.hid (R2.out.same HF.out.symm)
        rw [HN.out] at hf
        subst hf
        go_wp2_with fail
        go_roundw
        case rel => exact ⟨k + 1, m, A3, c3, by go_num, by omega, rfl, R3, B2⟩
        case measure => simp [intOf]; omega
    · obtain rfl : k = n := by omega
      go_wp2_with fail
      go_ret
      exact ⟨A3, m, c3, rfl, HR, HB⟩
end Go.Proofs.YthgkdnegnecnjaaGreatDoor

/- The landed yard: which blocks are of a state. Conditions: the slice's cells. -/
set_option linter.unusedVariables false
set_option linter.unusedSimpArgs false
set_option maxRecDepth 20000
namespace Go.Proofs.YthgkdnegnecnjaaGreatDoor
open Go.RowKit

theorem ylistone_any (st tk x : Int) (a : Option Addr) (n c : Nat) (p : Addr) (w : World) (hp : w.cell? p = some (.int .i64 x)) (hl : p.block < w.heap.size) : Calls Tryz.prog 83 #[.agg #[.int .i64 st, .int .i64 tk, .slice a n c], .pointer (some p)] w fun e w' => e = .returned (.bool (st == x)) ∧ Below w.heap.size w w' := by
  have HB : Hid (Below w.heap.size w (w.alloc (.cells #[.int .i64 st, .int .i64 tk, .slice a n c] 122))) := (Below.refl _ _).alloc (Nat.le_refl _) _
  have d0 : (w.alloc (.cells #[.int .i64 st, .int .i64 tk, .slice a n c] 122)).cell? ⟨w.heap.size, 0, none⟩ = some (.int .i64 st) := by rw [cell_new]; rfl
  have d1 : (w.alloc (.cells #[.int .i64 st, .int .i64 tk, .slice a n c] 122)).cell? p = some (.int .i64 x) := (HB.out.cell hl).trans hp
  obtain ⟨q, HQ⟩ : ∃ q, Hid ((st == x) = q) := ⟨_, rfl⟩
  rw [HQ.out]
  clear hp
  cases q with
  | true =>
    obtain rfl : st = x := by simpa using HQ.out
    clear HQ
    go_enter Tryz.func83, Tryz.ntmps83
    go_wp2_with fail
    go_ret
    exact ⟨rfl, HB.out⟩
  | false =>
    go_enter Tryz.func83, Tryz.ntmps83
    go_wp2_with fail
    go_ret
    exact ⟨by rw [← HQ.out]; rfl, HB.out⟩
set_option maxHeartbeats 2000000 in
theorem ywhichb_any (A : Option Addr) (n c : Nat) (vs : List BkV) (x : Int) (p : Addr) (w : World) (hn : n ≤ 1000) (hA : blkK.Lie w w.heap.size A n vs) (hp : w.cell? p = some (.int .i64 x)) (hl : p.block < w.heap.size) :
    Calls Tryz.prog 82 #[.slice A n c, .func (.func 83) #[] #[.pointer (some p)]] w (GivesI w (idxF (fun v => v.st == x) BkV.zero vs n)) := by
  have HA := Lib.hid hA
  have HP := Lib.hid hp
  have HPL := Lib.hid hl
  have S0 := Lib.hid (Below.refl w.heap.size w)
  clear hA hp hl
  go_enter Tryz.func82, Tryz.ntmps82
  go_wp2_with fail
  go_loopw [5, 10] (fun t5 t10 wr => ∃ (k m : Nat) (A3 : Option Addr) (c3 : Nat), t10 = .int .i64 k ∧ k ≤ n ∧ t5 = .slice A3 m c3 ∧ Hid (intK.Row wr w.heap.size A3 m c3 (idxF (fun v => v.st == x) BkV.zero vs k)) ∧ Hid (Below w.heap.size w wr)) (fun _ t10 _ => n - (intOf t10).toNat)
  case atStart => exact ⟨0, 0, none, 0, rfl, Nat.zero_le _, rfl, Kind.Row.none_, S0⟩
  case round =>
    obtain ⟨k, m, A3, c3, rfl, hk, rfl, HR, HB⟩ := hrel
    by_cases hlt : k < n
    · obtain ⟨ad, hA, hblk, hc0, hc1, hc2⟩ := bk_at (HA.out.below HB.out) hlt
      obtain ⟨st, HST⟩ : ∃ st, Hid ((vs.getD k BkV.zero).st = st) := ⟨_, rfl⟩
      obtain ⟨tk, HTK⟩ : ∃ tk, Hid ((vs.getD k BkV.zero).tk = tk) := ⟨_, rfl⟩
      obtain ⟨a5, n5, c5, HAA⟩ : ∃ a5 n5 c5, Hid ((vs.getD k BkV.zero).a = (⟨a5, n5, c5⟩ : BV)) := ⟨_, _, _, rfl⟩
      rw [HST.out] at hc0
      rw [HTK.out] at hc1
      rw [HAA.out] at hc2
      dsimp only at hc2
      subst hA
      have i0 : (0 : Int) ≤ (k : Int) := by omega
      have i1 : (k : Int) < (n : Int) := by omega
      have hm : m ≤ k := by rw [← HR.out.len]; exact idxF_len _ _ _ _
      obtain ⟨W1, HW1⟩ : ∃ W1, Hid (W1 = wr.alloc (.cells #[.int .i64 st, .int .i64 tk, .slice a5 n5 c5] 122)) := ⟨_, rfl⟩
      have L1 : Hid (Below wr.heap.size wr W1) := by rw [HW1.out]; exact (Below.refl _ _).alloc (Nat.le_refl _) _
      have d0 : W1.cell? ⟨wr.heap.size, 0, none⟩ = some (.int .i64 st) := by rw [HW1.out, cell_new]; rfl
      have d1 : W1.cell? ⟨wr.heap.size, 1, none⟩ = some (.int .i64 tk) := by rw [HW1.out, cell_new]; rfl
      have d2 : W1.cell? ⟨wr.heap.size, 2, none⟩ = some (.slice a5 n5 c5) := by rw [HW1.out, cell_new]; rfl
      have C := Lib.hid (ylistone_any st tk x a5 n5 c5 p W1 ((L1.out.cell (Nat.lt_of_lt_of_le HPL.out HB.out.size)).trans ((HB.out.cell HPL.out).trans HP.out)) (Nat.lt_of_lt_of_le (Nat.lt_of_lt_of_le HPL.out HB.out.size) L1.out.size))
      go_wp2_with fail
      rw [← HW1.out]
      go_wp2_with fail
      refine C.out.mono ?_
      rintro e W2 ⟨rfl, hB2⟩
      have B2 := Lib.hid (below_chain HB.out (below_chain L1.out hB2))
      have R2 := Lib.hid ((HR.out.since L1.out).since hB2)
      clear hB2 d0 d1 d2 hc0 hc1 hc2
      by_cases hf : ((vs.getD k BkV.zero).st == x) = true
      · have HF : Hid (idxF (fun v => v.st == x) BkV.zero vs (k + 1) = idxF (fun v => v.st == x) BkV.zero vs k ++ [(k : Int)]) := idxF_yes hf
        rw [HST.out] at hf
        rw [hf]
        obtain ⟨A4, c4, W4, hr4, ho4, hb4, _⟩ := Kind.append_one (K := intK) B2.out R2.out (k : Int) ⟨by omega, by omega⟩ #[.int .i64 (k : Int)] rfl (by omega)
        have R4 := Lib.hid (ho4.same HF.out.symm)
        have B4 := Lib.hid hb4
        have HR4 := Lib.hid hr4
        clear ho4 hb4 hr4 hf
        go_wp2_with (at_builtin; refine wpList_append_run rfl (.tmp 18) (.tmp 20) 22 rfl rfl rfl HR4.out ?_)
        go_roundw
        case rel => exact ⟨k + 1, m + 1, A4, c4, by go_num, by omega, rfl, R4, B4⟩
        case measure => simp [intOf]; omega
      · have hf := Bool.eq_false_iff.2 hf
        have HF : Hid (idxF (fun v => v.st == x) BkV.zero vs (k + 1) = idxF (fun v => v.st == x) BkV.zero vs k) := idxF_no hf
        have R3 := Lib.hid (R2.out.same HF.out.symm)
        rw [HST.out] at hf
        rw [hf]
        clear hf
        go_wp2_with fail
        go_roundw
        case rel => exact ⟨k + 1, m, A3, c3, by go_num, by omega, rfl, R3, B2⟩
        case measure => simp [intOf]; omega
    · obtain rfl : k = n := by omega
      go_wp2_with fail
      go_ret
      exact ⟨A3, m, c3, rfl, HR, HB⟩
end Go.Proofs.YthgkdnegnecnjaaGreatDoor

/- The landed yard: find, findPage, findNeeded: a block, a page, or an error. Conditions: the yard's cells. -/
set_option linter.unusedVariables false
set_option linter.unusedSimpArgs false
set_option maxRecDepth 20000
namespace Go.Proofs.YthgkdnegnecnjaaGreatDoor
open Go.RowKit

section
variable {w : World} {base g : Nat} {fp : Nat → Prop} {s : Yd} {L : YLo}
theorem hasY_at {k : Nat} (hk : k < s.S.length) : hasY s (k : Int) = true := decide_eq_true ⟨by omega, by omega⟩
theorem hasY_no {b : Int} (hw : YW s) (h : stY s b = 0) : hasY s b = false := decide_eq_false fun h2 => (stY_ne hw).2 ⟨b.toNat, by omega, by omega⟩ h
def findN (s : Yd) (b : Int) (xs : List Int) : Int := if stY s b = 0 then 2 else if xs.contains (stY s b) = true then 0 else 9
set_option maxHeartbeats 2000000 in
theorem yfind_ok (st : ByteArray) (k : Nat) (A : Option Addr) (n c : Nat) (xs : List Int) (h : YRep w base g s L) (hw : YW s) (hk : k < s.S.length) (hn : n ≤ 1000) (hA : intK.Lie w w.heap.size A n xs) (hx : xs.contains (s.S.getD k 0) = true) :
    Calls Tryz.prog 94 #[.pointer (some ⟨g, 0, none⟩), .string st, .int .i64 (k : Int), .slice A n c] w fun e w' => e = .returned (.tuple #[.pointer (some (L.ab.add (k * 3))), .nilIface]) ∧ w = w' := by
  have hs := hw.n32
  have c0 := h.c0
  have d0 := (h.block hk).c0
  have C1 := Lib.hid (yhas_any (k : Int) h hs)
  rw [hasY_at hk] at C1
  obtain ⟨y, HY⟩ : ∃ y, Hid (s.S.getD k 0 = y) := ⟨_, rfl⟩
  rw [HY.out] at d0 hx
  have C2 := Lib.hid (ycontains_any A n c xs y w hn hA)
  rw [hx] at C2
  obtain ⟨z, HZ⟩ : ∃ z : Nat, Hid (s.S.length = z) := ⟨_, rfl⟩
  rw [HZ.out] at c0 hs hk
  obtain ⟨ad, HAD⟩ : ∃ ad, Hid (L.ab = ad) := ⟨_, rfl⟩
  rw [HAD.out] at c0 d0 ⊢
  have i0 : (0 : Int) ≤ (k : Int) := by omega
  have i1 : (k : Int) < (z : Int) := by omega
  clear h hw HZ HAD HY hA hx hn
  go_enter Tryz.func94, Tryz.ntmps94
  go_wp2_with fail
  refine C1.out.mono ?_
  rintro e w' ⟨rfl, rfl⟩
  go_wp2_with fail
  refine C2.out.mono ?_
  rintro e w' ⟨rfl, rfl⟩
  go_wp2_with fail
  go_ret2
  exact ⟨rfl, rfl⟩
set_option maxHeartbeats 2000000 in
theorem yfind_bad (st : ByteArray) (b : Int) (A : Option Addr) (n c : Nat) (xs : List Int) (h : YRep w base g s L) (hw : YW s) (hf : ∀ b, fp b → b < w.heap.size) (hn : n ≤ 1000) (hA : intK.Lie w w.heap.size A n xs) (hx : findN s b xs ≠ 0) :
    Calls Tryz.prog 94 #[.pointer (some ⟨g, 0, none⟩), .string st, .int .i64 b, .slice A n c] w fun e w' => ∃ v, e = .returned (.tuple #[.pointer none, v]) ∧ ErrNew w fp w' (findN s b xs) v ∧ Below w.heap.size w w' := by
  have hs := hw.n32
  have C1 := Lib.hid (yhas_any b h hs)
  have CE := fun k hk => Lib.hid (ywrong_new st k hk w fp hf)
  have C2 := CE 2 (by omega)
  have C9 := CE 9 (by omega)
  clear CE
  by_cases h0 : stY s b = 0
  · rw [hasY_no hw h0] at C1
    rw [show findN s b xs = 2 from if_pos h0]
    clear h hw h0 hf hx hA C9
    go_enter Tryz.func94, Tryz.ntmps94
    go_wp2_with fail
    refine C1.out.mono ?_
    rintro e w' ⟨rfl, rfl⟩
    go_wp2_with fail
    refine C2.out.mono ?_
    rintro e W2 ⟨v, rfl, HE, HB⟩
    go_wp2_with fail
    go_ret2
    exact ⟨_, rfl, HE, HB⟩
  · have hxc : xs.contains (stY s b) = false := by
      refine Bool.eq_false_iff.2 fun h2 => hx ?_
      unfold findN
      rw [if_neg h0, if_pos h2]
    rw [show findN s b xs = 9 by unfold findN; rw [if_neg h0, hxc]; rfl]
    obtain ⟨k, rfl, hk⟩ := (stY_ne hw).1 h0
    rw [stY_at hk] at hxc
    have c0 := h.c0
    have d0 := (h.block hk).c0
    rw [hasY_at hk] at C1
    obtain ⟨y, HY⟩ : ∃ y, Hid (s.S.getD k 0 = y) := ⟨_, rfl⟩
    rw [HY.out] at d0 hxc
    have C3 := Lib.hid (ycontains_any A n c xs y w hn hA)
    rw [hxc] at C3
    obtain ⟨z, HZ⟩ : ∃ z : Nat, Hid (s.S.length = z) := ⟨_, rfl⟩
    rw [HZ.out] at c0 hs hk
    obtain ⟨ad, HAD⟩ : ∃ ad, Hid (L.ab = ad) := ⟨_, rfl⟩
    rw [HAD.out] at c0 d0
    have i0 : (0 : Int) ≤ (k : Int) := by omega
    have i1 : (k : Int) < (z : Int) := by omega
    clear h hw h0 hf hx hA C2 HZ HAD HY hxc
    go_enter Tryz.func94, Tryz.ntmps94
    go_wp2_with fail
    refine C1.out.mono ?_
    rintro e w' ⟨rfl, rfl⟩
    go_wp2_with fail
    refine C3.out.mono ?_
    rintro e w' ⟨rfl, rfl⟩
    go_wp2_with fail
    refine C9.out.mono ?_
    rintro e W2 ⟨v, rfl, HE, HB⟩
    go_wp2_with fail
    go_ret2
    exact ⟨_, rfl, HE, HB⟩
theorem yfind_nil (st : ByteArray) (b : Int) (A : Option Addr) (n c : Nat) (w : World) : Calls Tryz.prog 94 #[.pointer none, .string st, .int .i64 b, .slice A n c] w fun e w' => ∃ v, e = .returned (.tuple #[.pointer none, v]) ∧ ErrNew w (fun b => b < w.heap.size) w' 1 v ∧ Below w.heap.size w w' := by
  have C1 := Lib.hid (ywrong_new st 1 (by omega) w (fun b => b < w.heap.size) fun b h => h)
  go_enter Tryz.func94, Tryz.ntmps94
  go_wp2_with fail
  refine C1.out.mono ?_
  rintro e W2 ⟨v, rfl, HE, HB⟩
  go_wp2_with fail
  go_ret2
  exact ⟨_, rfl, HE, HB⟩
set_option maxHeartbeats 2000000 in
theorem yfindpage_ok (st : ByteArray) (k q : Nat) (h : YRep w base g s L) (hw : YW s) (hk : k < s.S.length) (hq : q < s.P) :
    Calls Tryz.prog 118 #[.pointer (some ⟨g, 0, none⟩), .string st, .int .i64 (k : Int), .int .i64 (q : Int)] w fun e w' => e = .returned (.tuple #[.pointer (some ((L.au k).add (q * 2))), .nilIface]) ∧ w = w' := by
  have hs := hw.n32
  have hp := hw.p8
  have c0 := h.c0
  have d2 := (h.block hk).c2
  have C1 := Lib.hid (yhas_any (k : Int) h hs)
  rw [hasY_at hk] at C1
  obtain ⟨z, HZ⟩ : ∃ z : Nat, Hid (s.S.length = z) := ⟨_, rfl⟩
  rw [HZ.out] at c0 hs hk
  obtain ⟨P, HP⟩ : ∃ P : Nat, Hid (s.P = P) := ⟨_, rfl⟩
  rw [HP.out] at d2 hp hq
  obtain ⟨ad, HAD⟩ : ∃ ad, Hid (L.ab = ad) := ⟨_, rfl⟩
  rw [HAD.out] at c0 d2
  obtain ⟨au, HAU⟩ : ∃ au, Hid (L.au k = au) := ⟨_, rfl⟩
  rw [HAU.out] at d2 ⊢
  have i0 : (0 : Int) ≤ (k : Int) := by omega
  have i1 : (k : Int) < (z : Int) := by omega
  have j0 : (0 : Int) ≤ (q : Int) := by omega
  have j1 : (q : Int) < (P : Int) := by omega
  clear h hw HZ HAD HP HAU
  go_enter Tryz.func118, Tryz.ntmps118
  go_wp2_with fail
  refine C1.out.mono ?_
  rintro e w' ⟨rfl, rfl⟩
  go_wp2_with fail
  go_ret2
  exact ⟨rfl, rfl⟩
set_option maxHeartbeats 2000000 in
theorem yfindpage_bad (st : ByteArray) (b p : Int) (h : YRep w base g s L) (hw : YW s) (hf : ∀ b, fp b → b < w.heap.size) (hx : ¬ pageY s b p) :
    Calls Tryz.prog 118 #[.pointer (some ⟨g, 0, none⟩), .string st, .int .i64 b, .int .i64 p] w fun e w' => ∃ v, e = .returned (.tuple #[.pointer none, v]) ∧ ErrNew w fp w' 2 v ∧ Below w.heap.size w w' := by
  have hs := hw.n32
  have hp := hw.p8
  have C1 := Lib.hid (yhas_any b h hs)
  have C2 := Lib.hid (ywrong_new st 2 (by omega) w fp hf)
  by_cases h0 : stY s b = 0
  · rw [hasY_no hw h0] at C1
    clear h hw h0 hf hx
    go_enter Tryz.func118, Tryz.ntmps118
    go_wp2_with fail
    refine C1.out.mono ?_
    rintro e w' ⟨rfl, rfl⟩
    go_wp2_with fail
    refine C2.out.mono ?_
    rintro e W2 ⟨v, rfl, HE, HB⟩
    go_wp2_with fail
    go_ret2
    exact ⟨_, rfl, HE, HB⟩
  · obtain ⟨k, rfl, hk⟩ := (stY_ne hw).1 h0
    have c0 := h.c0
    have d2 := (h.block hk).c2
    rw [hasY_at hk] at C1
    have hx2 : p < 0 ∨ (s.P : Int) ≤ p := by
      by_cases h1 : p < 0
      · exact Or.inl h1
      · exact Or.inr (Decidable.byContradiction fun h2 => hx ⟨h0, by omega, by omega⟩)
    obtain ⟨z, HZ⟩ : ∃ z : Nat, Hid (s.S.length = z) := ⟨_, rfl⟩
    rw [HZ.out] at c0 hs hk
    obtain ⟨P, HP⟩ : ∃ P : Nat, Hid (s.P = P) := ⟨_, rfl⟩
    rw [HP.out] at d2 hp hx2
    obtain ⟨ad, HAD⟩ : ∃ ad, Hid (L.ab = ad) := ⟨_, rfl⟩
    rw [HAD.out] at c0 d2
    have i0 : (0 : Int) ≤ (k : Int) := by omega
    have i1 : (k : Int) < (z : Int) := by omega
    clear h hw h0 hf hx HZ HAD HP
    by_cases h1 : p < 0
    · clear hx2
      go_enter Tryz.func118, Tryz.ntmps118
      go_wp2_with fail
      refine C1.out.mono ?_
      rintro e w' ⟨rfl, rfl⟩
      go_wp2_with fail
      refine C2.out.mono ?_
      rintro e W2 ⟨v, rfl, HE, HB⟩
      go_wp2_with fail
      go_ret2
      exact ⟨_, rfl, HE, HB⟩
    · have h2 : (P : Int) ≤ p := by omega
      clear hx2
      go_enter Tryz.func118, Tryz.ntmps118
      go_wp2_with fail
      refine C1.out.mono ?_
      rintro e w' ⟨rfl, rfl⟩
      go_wp2_with fail
      refine C2.out.mono ?_
      rintro e W2 ⟨v, rfl, HE, HB⟩
      go_wp2_with fail
      go_ret2
      exact ⟨_, rfl, HE, HB⟩
set_option maxHeartbeats 2000000 in
theorem yfindneeded_ok (st : ByteArray) (k q : Nat) (h : YRep w base g s L) (hw : YW s) (hk : k < s.S.length) (hq : q < s.P) (hN : (s.N.getD k []).getD q false = true) :
    Calls Tryz.prog 93 #[.pointer (some ⟨g, 0, none⟩), .string st, .int .i64 (k : Int), .int .i64 (q : Int)] w fun e w' => e = .returned (.tuple #[.pointer (some ((L.au k).add (q * 2))), .nilIface]) ∧ w = w' := by
  have C1 := Lib.hid (yfindpage_ok st k q h hw hk hq)
  have d0 := (h.use hk hq).c0
  rw [hN] at d0
  obtain ⟨pp, HPP⟩ : ∃ pp, Hid ((L.au k).add (q * 2) = pp) := ⟨_, rfl⟩
  rw [HPP.out] at C1 d0 ⊢
  clear h hw HPP hN
  go_enter Tryz.func93, Tryz.ntmps93
  go_wp2_with fail
  refine C1.out.mono ?_
  rintro e w' ⟨rfl, rfl⟩
  go_wp2_with fail
  go_ret2
  exact ⟨rfl, rfl⟩
def neededN (s : Yd) (b p : Int) : Int := if ¬ pageY s b p then 2 else if isN s b p = false then 8 else 0
set_option maxHeartbeats 2000000 in
theorem yfindneeded_bad (st : ByteArray) (b p : Int) (h : YRep w base g s L) (hw : YW s) (hf : ∀ b, fp b → b < w.heap.size) (hx : neededN s b p ≠ 0) :
    Calls Tryz.prog 93 #[.pointer (some ⟨g, 0, none⟩), .string st, .int .i64 b, .int .i64 p] w fun e w' => ∃ v, e = .returned (.tuple #[.pointer none, v]) ∧ ErrNew w fp w' (neededN s b p) v ∧ Below w.heap.size w w' := by
  by_cases hp : pageY s b p
  · have hN : isN s b p = false := by
      cases e : isN s b p with
      | false => rfl
      | true => exact absurd (by unfold neededN; rw [if_neg (not_not_intro hp), e]; rfl) hx
    rw [show neededN s b p = 8 by unfold neededN; rw [if_neg (not_not_intro hp), if_pos hN]]
    obtain ⟨k, q, rfl, hk, rfl, hq⟩ := page_at hw hp
    unfold isN at hN
    rw [Int.toNat_natCast, Int.toNat_natCast] at hN
    have C1 := Lib.hid (yfindpage_ok st k q h hw hk hq)
    have C8 := Lib.hid (ywrong_new st 8 (by omega) w fp hf)
    have d0 := (h.use hk hq).c0
    rw [hN] at d0
    obtain ⟨pp, HPP⟩ : ∃ pp, Hid ((L.au k).add (q * 2) = pp) := ⟨_, rfl⟩
    rw [HPP.out] at C1 d0
    clear h hw HPP hN hx hf hp
    go_enter Tryz.func93, Tryz.ntmps93
    go_wp2_with fail
    refine C1.out.mono ?_
    rintro e w' ⟨rfl, rfl⟩
    go_wp2_with fail
    refine C8.out.mono ?_
    rintro e W2 ⟨v, rfl, HE, HB⟩
    go_wp2_with fail
    go_ret2
    exact ⟨_, rfl, HE, HB⟩
  · rw [show neededN s b p = 2 from if_pos hp]
    have C1 := Lib.hid (yfindpage_bad (fp := fp) st b p h hw hf hp)
    clear h hw hf hx hp
    go_enter Tryz.func93, Tryz.ntmps93
    go_wp2_with fail
    refine C1.out.mono ?_
    rintro e W2 ⟨v, rfl, HE, HB⟩
    obtain ⟨xv, rfl⟩ := (HE.wrong (by decide)).ne
    have HE := Lib.hid HE
    have HB := Lib.hid HB
    go_wp2_with fail
    go_ret2
    exact ⟨_, rfl, HE.out, HB.out⟩
end
end Go.Proofs.YthgkdnegnecnjaaGreatDoor

/- The landed yard: what its calls answer, and leave. Conditions: the yard's cells. -/
set_option linter.unusedVariables false
set_option linter.unusedSimpArgs false
set_option maxRecDepth 20000
namespace Go.Proofs.YthgkdnegnecnjaaGreatDoor
open Go.RowKit

theorem lits {w : World} (xs : List Int) (cs : Array Value) (hcs : cs = (intK.cells xs).toArray) (hx : ∀ x ∈ xs, intK.wf x) : intK.Lie (w.alloc (.cells cs 3)) (w.alloc (.cells cs 3)).heap.size (some ⟨w.heap.size, 0, none⟩) xs.length xs := by
  subst hcs
  refine Kind.lie_of rfl hx (by simp) fun j u hu => ?_
  rw [cell_new]
  simpa using hu
theorem ErrNew.elder {w W1 W2 : World} {fp : Nat → Prop} {k : Int} {v : Value} (h : ErrNew W1 fp W2 k v) (hb : w.heap.size ≤ W1.heap.size) : ErrNew w fp W2 k v := by
  rcases h with h | ⟨h0, g, s, e, h1, h2, h3, h4⟩
  · exact Or.inl h
  · exact Or.inr ⟨h0, g, s, e, h1, h2, Nat.le_trans hb h3, h4⟩
section
variable {w W1 W2 : World} {base g : Nat} {fp : Nat → Prop} {s : Yd} {L : YLo} {b : Int} {k : Nat}
theorem lead_err {r : Yd × Int} {q : Int} {v : Value} (hR : YardAt w base fp g s) (hr : r = (s, q)) (HE : ErrNew W1 fp W2 q v) (hB : Below w.heap.size w W1) (hB2 : Below W1.heap.size W1 W2) : YLeads w base fp g r (.returned v) W2 := by
  subst hr
  exact ⟨v, fp, rfl, HE.elder hB.size, hR.since (below_chain hB hB2), Moves.of_below (below_chain hB hB2)⟩
theorem lead_ok {r : Yd × Int} {s' : Yd} (hR : YardAt w base fp g s) (hi : L.In s.S.length fp) (hr : r = (s', 0)) (h1 : YRep W2 base g s' L) (hl : s'.S.length = s.S.length) (hw : YW s') (ht : Turn fp w W2) : YLeads w base fp g r (.returned .nilIface) W2 := by
  subst hr
  obtain ⟨h2, h3⟩ := yard_turned hR hi h1 hl hw ht
  exact ⟨_, fp, rfl, ErrNew.none_, h2, h3⟩
theorem findN_zero {xs : List Int} (hw : YW s) (h : findN s b xs = 0) : ∃ k : Nat, b = (k : Int) ∧ k < s.S.length ∧ xs.contains (s.S.getD k 0) = true := by
  unfold findN at h
  by_cases h0 : stY s b = 0
  · rw [if_pos h0] at h; cases h
  · rw [if_neg h0] at h
    obtain ⟨k, rfl, hk⟩ := (stY_ne hw).1 h0
    rw [stY_at hk] at h
    refine ⟨k, rfl, hk, ?_⟩
    by_cases h2 : xs.contains (s.S.getD k 0) = true
    · exact h2
    · rw [if_neg h2] at h; cases h
theorem contains1 {x a : Int} (h : [a].contains x = true) : x = a := by simpa using h
theorem contains2 {x a c : Int} (h : [a, c].contains x = true) : x = a ∨ x = c := by simpa using h
theorem contains3 {x a c d : Int} (h : [a, c, d].contains x = true) : x = a ∨ x = c ∨ x = d := by simpa using h
theorem open_bad (h : findN s b [1] ≠ 0) : openY s b = (s, findN s b [1]) := by
  unfold findN at h ⊢
  unfold openY
  by_cases h0 : stY s b = 0
  · rw [if_pos h0, if_pos h0]
  · rw [if_neg h0] at h ⊢
    rw [if_neg h0]
    by_cases h1 : stY s b = 1
    · rw [h1] at h; exact absurd rfl h
    · rw [if_neg h1, if_neg (fun e => h1 (contains1 e))]
theorem open_ok (hw : YW s) (hk : k < s.S.length) (h1 : s.S.getD k 0 = 1) : openY s (k : Int) = (s.setS k 2, 0) := by
  unfold openY
  have h2 := (hw.fr k hk h1).1
  rw [stY_at hk, h1, if_neg (by decide), if_pos rfl, Int.toNat_natCast]
  have h3 := setST_T (s := s) (k := k) 2
  rw [h2] at h3
  rw [h3]
theorem seal_bad (h : findN s b [2] ≠ 0) : sealY s b = (s, findN s b [2]) := by
  unfold findN at h ⊢
  unfold sealY
  by_cases h0 : stY s b = 0
  · rw [if_pos h0, if_pos h0]
  · rw [if_neg h0] at h ⊢
    rw [if_neg h0]
    by_cases h1 : stY s b = 2
    · rw [h1] at h; exact absurd rfl h
    · rw [if_pos h1, if_neg (fun e => h1 (contains1 e))]
theorem seal_ok (hk : k < s.S.length) (h1 : s.S.getD k 0 = 2) : sealY s (k : Int) = (s.setS k 3, 0) := by
  unfold sealY
  rw [stY_at hk, h1, if_neg (by decide), if_neg (by decide), Int.toNat_natCast]
theorem retire_bad (hw : YW s) (h : findN s b [1, 2, 3] ≠ 0) : retireY s b = (s, findN s b [1, 2, 3]) := by
  unfold findN at h ⊢
  unfold retireY
  by_cases h0 : stY s b = 0
  · rw [if_pos h0, if_pos h0]
  · rw [if_neg h0] at h ⊢
    rw [if_neg h0]
    by_cases h1 : stY s b = 4
    · rw [if_pos h1, h1]; rfl
    · have h2 := stY_bd (b := b) hw
      have h3 : [(1 : Int), 2, 3].contains (stY s b) = true := by simp; omega
      rw [if_pos h3] at h; exact absurd rfl h
theorem retire_ok (hk : k < s.S.length) (h1 : [(1 : Int), 2, 3].contains (s.S.getD k 0) = true) : retireY s (k : Int) = (s.setS k 4, 0) := by
  have h2 := contains3 h1
  unfold retireY
  rw [stY_at hk, if_neg (by omega), if_neg (by omega), Int.toNat_natCast]
set_option maxHeartbeats 2000000 in
theorem yopen_any (b : Int) (hD : YardAt w base fp g s) : Calls Tryz.prog 70 #[.pointer (some ⟨g, 0, none⟩), .int .i64 b] w (YLeads w base fp g (openY s b)) := by
  obtain ⟨L, hR, hI⟩ := hD.ex
  have hw := hD.wf
  have HD := Lib.hid hD
  have HI := Lib.hid hI
  obtain ⟨W1, HW1⟩ : ∃ W1, Hid (W1 = w.alloc (.cells #[.int .i64 1] 3)) := ⟨_, rfl⟩
  have B1 : Hid (Below w.heap.size w W1) := by rw [HW1.out]; exact (Below.refl _ _).alloc (Nat.le_refl _) _
  have hA : intK.Lie W1 W1.heap.size (some ⟨w.heap.size, 0, none⟩) 1 [1] := by rw [HW1.out]; exact lits [1] #[.int .i64 1] rfl (by intro x hx; simp at hx; show _ ∧ _; omega)
  have hR1 := hR.since B1.out
  by_cases hq : findN s b [1] = 0
  · obtain ⟨k, rfl, hk, hx⟩ := findN_zero hw hq
    have C1 := fun st => Lib.hid (yfind_ok st k _ 1 1 [1] hR1 hw hk (by omega) hA hx)
    have CK := hR1.block hk
    have d0 := CK.c0
    have f0 := CK.f0
    have HR := Lib.hid (open_ok hw hk (contains1 hx))
    have HP := Lib.hid (hR1.putSt hk 2)
    have hfp := hI.ab
    have HT : Hid (Turn fp w (W1.setCell (L.ab.add (k * 3)) (.int .i64 2))) := (Turn.of_below B1.out).trans (Turn.of_setCell (fp := fp) (L.ab.add (k * 3)) _ (by rw [addr_block]; exact hfp)) (fun b hb => Or.inl hb)
    have HY : Hid (YW (s.setS k 2)) := by
      have := yw_open (b := (k : Int)) hw
      rw [HR.out] at this
      exact this
    have HLN : Hid ((s.setS k 2).S.length = s.S.length) := by show _ = _; simp [Yd.setS]
    obtain ⟨p, HPP⟩ : ∃ p, Hid (L.ab.add (k * 3) = p) := ⟨_, rfl⟩
    rw [HPP.out] at C1 d0 f0 HP HT
    clear hD hR hI hw hA hR1 hq hx CK hfp HPP
    go_enter Tryz.func70, Tryz.ntmps70
    go_wp2_with fail
    rw [← HW1.out]
    refine (C1 _).out.mono ?_
    rintro e w' ⟨rfl, rfl⟩
    go_wp2_with fail
    go_ret
    exact lead_ok HD.out HI.out HR.out HP.out HLN.out HY.out HT.out
  · have C1 := fun st => Lib.hid (yfind_bad (fp := fp) st b _ 1 1 [1] hR1 hw (fun b hb => Nat.lt_of_lt_of_le (hD.lt b hb) B1.out.size) (by omega) hA hq)
    have HR := Lib.hid (open_bad hq)
    obtain ⟨q, HQ⟩ : ∃ q, Hid (findN s b [1] = q) := ⟨_, rfl⟩
    rw [HQ.out] at C1 HR hq
    have HNZ := Lib.hid hq
    clear hD hR hI hw hA hR1 hq
    go_enter Tryz.func70, Tryz.ntmps70
    go_wp2_with fail
    rw [← HW1.out]
    refine (C1 _).out.mono ?_
    rintro e W2 ⟨v, rfl, HE, HB⟩
    obtain ⟨xv, rfl⟩ := (HE.wrong HNZ.out).ne
    have HE := Lib.hid HE
    have HB := Lib.hid HB
    go_wp2_with fail
    go_ret
    exact lead_err HD.out HR.out HE.out B1.out HB.out
set_option maxHeartbeats 2000000 in
theorem yseal_any (b : Int) (hD : YardAt w base fp g s) : Calls Tryz.prog 110 #[.pointer (some ⟨g, 0, none⟩), .int .i64 b] w (YLeads w base fp g (sealY s b)) := by
  obtain ⟨L, hR, hI⟩ := hD.ex
  have hw := hD.wf
  have HD := Lib.hid hD
  have HI := Lib.hid hI
  obtain ⟨W1, HW1⟩ : ∃ W1, Hid (W1 = w.alloc (.cells #[.int .i64 2] 3)) := ⟨_, rfl⟩
  have B1 : Hid (Below w.heap.size w W1) := by rw [HW1.out]; exact (Below.refl _ _).alloc (Nat.le_refl _) _
  have hA : intK.Lie W1 W1.heap.size (some ⟨w.heap.size, 0, none⟩) 1 [2] := by rw [HW1.out]; exact lits [2] #[.int .i64 2] rfl (by intro x hx; simp at hx; show _ ∧ _; omega)
  have hR1 := hR.since B1.out
  by_cases hq : findN s b [2] = 0
  · obtain ⟨k, rfl, hk, hx⟩ := findN_zero hw hq
    have C1 := fun st => Lib.hid (yfind_ok st k _ 1 1 [2] hR1 hw hk (by omega) hA hx)
    have CK := hR1.block hk
    have d0 := CK.c0
    have f0 := CK.f0
    have HR := Lib.hid (seal_ok hk (contains1 hx))
    have HP := Lib.hid (hR1.putSt hk 3)
    have hfp := hI.ab
    have HT : Hid (Turn fp w (W1.setCell (L.ab.add (k * 3)) (.int .i64 3))) := (Turn.of_below B1.out).trans (Turn.of_setCell (fp := fp) (L.ab.add (k * 3)) _ (by rw [addr_block]; exact hfp)) (fun b hb => Or.inl hb)
    have HY : Hid (YW (s.setS k 3)) := by
      have := yw_seal (b := (k : Int)) hw
      rw [HR.out] at this
      exact this
    have HLN : Hid ((s.setS k 3).S.length = s.S.length) := by show _ = _; simp [Yd.setS]
    obtain ⟨p, HPP⟩ : ∃ p, Hid (L.ab.add (k * 3) = p) := ⟨_, rfl⟩
    rw [HPP.out] at C1 d0 f0 HP HT
    clear hD hR hI hw hA hR1 hq hx CK hfp HPP
    go_enter Tryz.func110, Tryz.ntmps110
    go_wp2_with fail
    rw [← HW1.out]
    refine (C1 _).out.mono ?_
    rintro e w' ⟨rfl, rfl⟩
    go_wp2_with fail
    go_ret
    exact lead_ok HD.out HI.out HR.out HP.out HLN.out HY.out HT.out
  · have C1 := fun st => Lib.hid (yfind_bad (fp := fp) st b _ 1 1 [2] hR1 hw (fun b hb => Nat.lt_of_lt_of_le (hD.lt b hb) B1.out.size) (by omega) hA hq)
    have HR := Lib.hid (seal_bad hq)
    obtain ⟨q, HQ⟩ : ∃ q, Hid (findN s b [2] = q) := ⟨_, rfl⟩
    rw [HQ.out] at C1 HR hq
    have HNZ := Lib.hid hq
    clear hD hR hI hw hA hR1 hq
    go_enter Tryz.func110, Tryz.ntmps110
    go_wp2_with fail
    rw [← HW1.out]
    refine (C1 _).out.mono ?_
    rintro e W2 ⟨v, rfl, HE, HB⟩
    obtain ⟨xv, rfl⟩ := (HE.wrong HNZ.out).ne
    have HE := Lib.hid HE
    have HB := Lib.hid HB
    go_wp2_with fail
    go_ret
    exact lead_err HD.out HR.out HE.out B1.out HB.out
set_option maxHeartbeats 2000000 in
theorem yretire_any (b : Int) (hD : YardAt w base fp g s) : Calls Tryz.prog 75 #[.pointer (some ⟨g, 0, none⟩), .int .i64 b] w (YLeads w base fp g (retireY s b)) := by
  obtain ⟨L, hR, hI⟩ := hD.ex
  have hw := hD.wf
  have HD := Lib.hid hD
  have HI := Lib.hid hI
  obtain ⟨W1, HW1⟩ : ∃ W1, Hid (W1 = w.alloc (.cells #[.int .i64 1, .int .i64 2, .int .i64 3] 3)) := ⟨_, rfl⟩
  have B1 : Hid (Below w.heap.size w W1) := by rw [HW1.out]; exact (Below.refl _ _).alloc (Nat.le_refl _) _
  have hA : intK.Lie W1 W1.heap.size (some ⟨w.heap.size, 0, none⟩) 3 [1, 2, 3] := by rw [HW1.out]; exact lits [1, 2, 3] #[.int .i64 1, .int .i64 2, .int .i64 3] rfl (by intro x hx; simp at hx; show _ ∧ _; omega)
  have hR1 := hR.since B1.out
  by_cases hq : findN s b [1, 2, 3] = 0
  · obtain ⟨k, rfl, hk, hx⟩ := findN_zero hw hq
    have C1 := fun st => Lib.hid (yfind_ok st k _ 3 3 [1, 2, 3] hR1 hw hk (by omega) hA hx)
    have CK := hR1.block hk
    have d0 := CK.c0
    have f0 := CK.f0
    have HR := Lib.hid (retire_ok hk hx)
    have HP := Lib.hid (hR1.putSt hk 4)
    have hfp := hI.ab
    have HT : Hid (Turn fp w (W1.setCell (L.ab.add (k * 3)) (.int .i64 4))) := (Turn.of_below B1.out).trans (Turn.of_setCell (fp := fp) (L.ab.add (k * 3)) _ (by rw [addr_block]; exact hfp)) (fun b hb => Or.inl hb)
    have HY : Hid (YW (s.setS k 4)) := by
      have := yw_retire (b := (k : Int)) hw
      rw [HR.out] at this
      exact this
    have HLN : Hid ((s.setS k 4).S.length = s.S.length) := by show _ = _; simp [Yd.setS]
    obtain ⟨p, HPP⟩ : ∃ p, Hid (L.ab.add (k * 3) = p) := ⟨_, rfl⟩
    rw [HPP.out] at C1 d0 f0 HP HT
    clear hD hR hI hw hA hR1 hq hx CK hfp HPP
    go_enter Tryz.func75, Tryz.ntmps75
    go_wp2_with fail
    rw [← HW1.out]
    refine (C1 _).out.mono ?_
    rintro e w' ⟨rfl, rfl⟩
    go_wp2_with fail
    go_ret
    exact lead_ok HD.out HI.out HR.out HP.out HLN.out HY.out HT.out
  · have C1 := fun st => Lib.hid (yfind_bad (fp := fp) st b _ 3 3 [1, 2, 3] hR1 hw (fun b hb => Nat.lt_of_lt_of_le (hD.lt b hb) B1.out.size) (by omega) hA hq)
    have HR := Lib.hid (retire_bad hw hq)
    obtain ⟨q, HQ⟩ : ∃ q, Hid (findN s b [1, 2, 3] = q) := ⟨_, rfl⟩
    rw [HQ.out] at C1 HR hq
    have HNZ := Lib.hid hq
    clear hD hR hI hw hA hR1 hq
    go_enter Tryz.func75, Tryz.ntmps75
    go_wp2_with fail
    rw [← HW1.out]
    refine (C1 _).out.mono ?_
    rintro e W2 ⟨v, rfl, HE, HB⟩
    obtain ⟨xv, rfl⟩ := (HE.wrong HNZ.out).ne
    have HE := Lib.hid HE
    have HB := Lib.hid HB
    go_wp2_with fail
    go_ret
    exact lead_err HD.out HR.out HE.out B1.out HB.out
theorem next_bad (h : findN s b [2] ≠ 0) : nextY s b = (s, 0, findN s b [2]) := by
  unfold findN at h ⊢
  unfold nextY
  by_cases h0 : stY s b = 0
  · rw [if_pos h0, if_pos h0]
  · rw [if_neg h0] at h ⊢
    rw [if_neg h0]
    by_cases h1 : stY s b = 2
    · rw [h1] at h; exact absurd rfl h
    · rw [if_pos h1, if_neg (fun e => h1 (contains1 e))]
theorem next_full (hw : YW s) (hk : k < s.S.length) (h1 : s.S.getD k 0 = 2) (h2 : s.T.getD k 0 = (s.P : Int)) : nextY s (k : Int) = (s, 0, 7) := by
  unfold nextY
  rw [stY_at hk, h1, if_neg (by decide), if_neg (by decide), Int.toNat_natCast, if_pos (by omega)]
theorem next_ok (hw : YW s) (hk : k < s.S.length) (h1 : s.S.getD k 0 = 2) (h2 : s.T.getD k 0 ≠ (s.P : Int)) : nextY s (k : Int) = (s.setT k (s.T.getD k 0 + 1), s.T.getD k 0, 0) := by
  have := hw.tk k hk
  unfold nextY
  rw [stY_at hk, h1, if_neg (by decide), if_neg (by decide), Int.toNat_natCast, if_neg (by omega)]
theorem next_err {r : Yd × Int × Int} {q : Int} {v : Value} (hR : YardAt w base fp g s) (hr : r = (s, 0, q)) (HE : ErrNew W1 fp W2 q v) (hB : Below w.heap.size w W1) (hB2 : Below W1.heap.size W1 W2) : YNext w base fp g r (.returned (.tuple #[.int .i64 0, v])) W2 := by
  subst hr
  exact ⟨v, fp, rfl, HE.elder hB.size, hR.since (below_chain hB hB2), Moves.of_below (below_chain hB hB2)⟩
theorem next_lead {r : Yd × Int × Int} {s' : Yd} {x : Int} (hR : YardAt w base fp g s) (hi : L.In s.S.length fp) (hr : r = (s', x, 0)) (h1 : YRep W2 base g s' L) (hl : s'.S.length = s.S.length) (hw : YW s') (ht : Turn fp w W2) : YNext w base fp g r (.returned (.tuple #[.int .i64 x, .nilIface])) W2 := by
  subst hr
  obtain ⟨h2, h3⟩ := yard_turned hR hi h1 hl hw ht
  exact ⟨_, fp, rfl, ErrNew.none_, h2, h3⟩
set_option maxHeartbeats 2000000 in
theorem ynext_any (b : Int) (hD : YardAt w base fp g s) : Calls Tryz.prog 72 #[.pointer (some ⟨g, 0, none⟩), .int .i64 b] w (YNext w base fp g (nextY s b)) := by
  obtain ⟨L, hR, hI⟩ := hD.ex
  have hw := hD.wf
  have HD := Lib.hid hD
  have HI := Lib.hid hI
  obtain ⟨W1, HW1⟩ : ∃ W1, Hid (W1 = w.alloc (.cells #[.int .i64 2] 3)) := ⟨_, rfl⟩
  have B1 : Hid (Below w.heap.size w W1) := by rw [HW1.out]; exact (Below.refl _ _).alloc (Nat.le_refl _) _
  have hA : intK.Lie W1 W1.heap.size (some ⟨w.heap.size, 0, none⟩) 1 [2] := by rw [HW1.out]; exact lits [2] #[.int .i64 2] rfl (by intro x hx; simp at hx; show _ ∧ _; omega)
  have hR1 := hR.since B1.out
  by_cases hq : findN s b [2] = 0
  · obtain ⟨k, rfl, hk, hx⟩ := findN_zero hw hq
    have C1 := fun st => Lib.hid (yfind_ok st k _ 1 1 [2] hR1 hw hk (by omega) hA hx)
    have hx := contains1 hx
    have CK := hR1.block hk
    have d1 := CK.c1
    have d2 := CK.c2
    have f1 := CK.f1
    have ht := hw.tk k hk
    have hp8 := hw.p8
    have e1 : ∀ (j : Nat) (u : Int), (W1.setCell ⟨(L.ab.add (k * 3)).block, (L.ab.add (k * 3)).off + 1, none⟩ (.int .i64 u)).cell? ⟨(L.ab.add (k * 3)).block, (L.ab.add (k * 3)).off + 1, none⟩ = some (.int .i64 u) := fun j u => by apply World.cell?_setCell_same; exact d1
    by_cases h2 : s.T.getD k 0 = (s.P : Int)
    · have HR := Lib.hid (next_full hw hk hx h2)
      have C7 := fun st m => Lib.hid (ywrong_new st 7 (by omega) (W1.drewN m) fp (fun b hb => Nat.lt_of_lt_of_le (hD.lt b hb) (below_drewN B1.out m).size))
      rw [h2] at d1
      obtain ⟨p, HPP⟩ : ∃ p, Hid (L.ab.add (k * 3) = p) := ⟨_, rfl⟩
      rw [HPP.out] at C1 d1 d2 f1
      obtain ⟨P, HPZ⟩ : ∃ P : Nat, Hid (s.P = P) := ⟨_, rfl⟩
      rw [HPZ.out] at d1 d2 hp8
      clear hD hR hI hw hA hR1 hq hx CK HPP h2 ht e1 HPZ
      go_enter Tryz.func72, Tryz.ntmps72
      go_wp2_with fail
      rw [← HW1.out]
      refine (C1 _).out.mono ?_
      rintro e w' ⟨rfl, rfl⟩
      go_wp2_with fail
      go_quiet (fail)
      go_wp2_with fail
      refine (C7 _ _).out.mono ?_
      rintro e W2 ⟨v, rfl, HE, HB⟩
      have HE := Lib.hid HE
      have HB := Lib.hid HB
      go_wp2_with fail
      go_ret2
      exact next_err HD.out HR.out HE.out (below_drewN B1.out _) HB.out
    · have HR := Lib.hid (next_ok hw hk hx h2)
      have HP := Lib.hid fun m => (hR1.since (below_drewN (Below.refl _ _) m)).putTk hk hw.lt (s.T.getD k 0 + 1)
      have hfp := hI.ab
      have HT : Hid (∀ m, Turn fp w ((W1.drewN m).setCell ⟨(L.ab.add (k * 3)).block, (L.ab.add (k * 3)).off + 1, none⟩ (.int .i64 (s.T.getD k 0 + 1)))) := fun m => (Turn.of_below (below_drewN B1.out m)).trans (Turn.of_setCell (fp := fp) ⟨(L.ab.add (k * 3)).block, (L.ab.add (k * 3)).off + 1, none⟩ _ (by show fp (L.ab.add (k * 3)).block; rw [addr_block]; exact hfp)) (fun b hb => Or.inl hb)
      have HY : Hid (YW (s.setT k (s.T.getD k 0 + 1))) := by
        have := yw_next (b := (k : Int)) hw
        rw [HR.out] at this
        exact this
      have HLN : Hid ((s.setT k (s.T.getD k 0 + 1)).S.length = s.S.length) := rfl
      obtain ⟨p, HPP⟩ : ∃ p, Hid (L.ab.add (k * 3) = p) := ⟨_, rfl⟩
      rw [HPP.out] at C1 d1 d2 f1 HP HT e1
      obtain ⟨P, HPZ⟩ : ∃ P : Nat, Hid (s.P = P) := ⟨_, rfl⟩
      rw [HPZ.out] at d2 hp8 ht h2
      obtain ⟨t, HTZ⟩ : ∃ t : Nat, s.T.getD k 0 = (t : Int) := ⟨(s.T.getD k 0).toNat, by omega⟩
      rw [HTZ] at d1 HP HT HY HLN HR ht h2
      have e2 := e1 0 ((t : Int) + 1)
      have hlt : t < P := by omega
      clear hD hR hI hw hA hR1 hq hx CK HPP h2 hfp HPZ e1 HTZ
      go_enter Tryz.func72, Tryz.ntmps72
      go_wp2_with fail
      rw [← HW1.out]
      refine (C1 _).out.mono ?_
      rintro e w' ⟨rfl, rfl⟩
      go_wp2_with fail
      go_quiet (fail)
      go_wp2_with fail
      go_ret2
      exact next_lead HD.out HI.out HR.out (HP.out _) HLN.out HY.out (HT.out _)
  · have C1 := fun st => Lib.hid (yfind_bad (fp := fp) st b _ 1 1 [2] hR1 hw (fun b hb => Nat.lt_of_lt_of_le (hD.lt b hb) B1.out.size) (by omega) hA hq)
    have HR := Lib.hid (next_bad hq)
    obtain ⟨q, HQ⟩ : ∃ q, Hid (findN s b [2] = q) := ⟨_, rfl⟩
    rw [HQ.out] at C1 HR hq
    have HNZ := Lib.hid hq
    clear hD hR hI hw hA hR1 hq
    go_enter Tryz.func72, Tryz.ntmps72
    go_wp2_with fail
    rw [← HW1.out]
    refine (C1 _).out.mono ?_
    rintro e W2 ⟨v, rfl, HE, HB⟩
    obtain ⟨xv, rfl⟩ := (HE.wrong HNZ.out).ne
    have HE := Lib.hid HE
    have HB := Lib.hid HB
    go_wp2_with fail
    go_ret2
    exact next_err HD.out HR.out HE.out B1.out HB.out
end
end Go.Proofs.YthgkdnegnecnjaaGreatDoor

/- The landed yard: Free, Need, Drop, Wash, and the calls that only tell. Conditions: the yard's cells. -/
set_option linter.unusedVariables false
set_option linter.unusedSimpArgs false
set_option maxRecDepth 20000
namespace Go.Proofs.YthgkdnegnecnjaaGreatDoor
open Go.RowKit

theorem uses_getD {N D : List Bool} {P q : Nat} (h : q < P) : (usesV N D P).getD q (false, false) = (N.getD q false, D.getD q false) := getD_map_range _ _ _ _ h
theorem idxF_N (N D : List Bool) (P : Nat) (h : N.length = P) : idxF (·.1) (false, false) (usesV N D P) P = idxB N := by
  unfold idxF idxB
  rw [h]
  congr 1
  refine List.filter_congr fun q hq => ?_
  rw [uses_getD (List.mem_range.1 hq)]
theorem ycount_range (l : List Bool) : ((List.range l.length).filter fun k => l.getD k false).length = l.count true := by
  have h : l = (List.range l.length).map fun k => l.getD k false := by
    apply List.ext_getElem
    · simp
    · intro j h1 h2
      simp [List.getD_eq_getElem?_getD, h1]
  rw [← List.countP_eq_length_filter]
  conv => rhs; rw [h]
  rw [List.count, List.countP_map]
  refine List.countP_congr fun k _ => ?_
  simp
theorem idxF_D (N D : List Bool) (P : Nat) (h : D.length = P) : (idxF (·.2) (false, false) (usesV N D P) P).length = D.count true := by
  rw [← ycount_range D, h]
  unfold idxF
  rw [List.length_map]
  congr 1
  refine List.filter_congr fun q hq => ?_
  rw [uses_getD (List.mem_range.1 hq)]
theorem idxF_S (s : Yd) (L : YLo) (x : Int) : idxF (fun v => v.st == x) BkV.zero (bksV s L) s.S.length = listY s x := by
  unfold idxF listY
  congr 1
  refine List.filter_congr fun q hq => ?_
  rw [show (bksV s L).getD q BkV.zero = (⟨s.S.getD q 0, s.T.getD q 0, ⟨some (L.au q), s.P, s.P⟩⟩ : BkV) from getD_map_range _ _ _ _ (List.mem_range.1 hq)]
theorem uses_none {N D : List Bool} {P : Nat} (h : N.length = P) : (usesV N D P).any (·.1) = false ↔ idxB N = [] := by
  rw [idx_nil]
  constructor
  · intro h1 q
    by_cases hq : q < P
    · cases e : N.getD q false with
      | false => rfl
      | true =>
        refine absurd h1 (fun h3 => Bool.false_ne_true (h3.symm.trans ?_))
        refine List.any_eq_true.2 ⟨(N.getD q false, D.getD q false), List.mem_map.2 ⟨q, List.mem_range.2 hq, rfl⟩, e⟩
    · rw [List.getD_eq_getElem?_getD, List.getElem?_eq_none (by omega)]; rfl
  · intro h1
    refine Bool.eq_false_iff.2 fun h2 => ?_
    obtain ⟨u, hu, e⟩ := List.any_eq_true.1 h2
    obtain ⟨q, _, rfl⟩ := List.mem_map.1 hu
    exact Bool.false_ne_true ((h1 q).symm.trans e)
section
variable {w W1 W2 : World} {base g : Nat} {fp : Nat → Prop} {s : Yd} {L : YLo} {b p : Int} {k q : Nat}
theorem free_bad (h : findN s b [2, 3] ≠ 0) : freeY s b = (s, findN s b [2, 3]) := by
  unfold findN at h ⊢
  unfold freeY
  by_cases h0 : stY s b = 0
  · rw [if_pos h0, if_pos h0]
  · rw [if_neg h0] at h ⊢
    rw [if_neg h0]
    by_cases h1 : [(2 : Int), 3].contains (stY s b) = true
    · rw [if_pos h1] at h; exact absurd rfl h
    · rw [if_neg h1, if_pos (Or.inl ⟨fun e => h1 (by rw [e]; rfl), fun e => h1 (by rw [e]; rfl)⟩)]
theorem free_used (hw : YW s) (hk : k < s.S.length) (h1 : idxB (s.N.getD k []) ≠ []) : freeY s (k : Int) = (s, 9) := by
  have := (hw.st k hk).1
  unfold freeY
  rw [stY_at hk, if_neg (by omega), if_pos (Or.inr _)]
  unfold neededY
  rw [stY_at hk, if_neg (by omega), Int.toNat_natCast]
  exact h1
theorem free_ok (hk : k < s.S.length) (h1 : [(2 : Int), 3].contains (s.S.getD k 0) = true) (h2 : idxB (s.N.getD k []) = []) : freeY s (k : Int) = ((s.setS k 1).setT k 0, 0) := by
  have h3 := contains2 h1
  unfold freeY
  rw [stY_at hk, if_neg (by omega), if_neg, Int.toNat_natCast]
  rintro (h | h)
  · omega
  · refine h ?_
    unfold neededY
    rw [stY_at hk, if_neg (by omega), Int.toNat_natCast]
    exact h2
theorem want_at (hk : k < s.S.length) (hw : YW s) (hq : q < s.P) : pageY s (k : Int) (q : Int) := ⟨(stY_ne hw).2 ⟨k, rfl, hk⟩, by omega, by omega⟩
theorem want_bad (d : Bool) (h : ¬ pageY s b p) : wantY s b p d = (s, 2) := if_pos h
theorem want_no (d : Bool) (hk : k < s.S.length) (hw : YW s) (hq : q < s.P) (h : s.T.getD k 0 ≤ (q : Int) ∨ (s.N.getD k []).getD q false = true) : wantY s (k : Int) (q : Int) d = (s, 9) := by
  unfold wantY isN
  rw [if_neg (not_not_intro (want_at hk hw hq)), Int.toNat_natCast, Int.toNat_natCast, if_pos h]
theorem want_ok (d : Bool) (hk : k < s.S.length) (hw : YW s) (hq : q < s.P) (h1 : (q : Int) < s.T.getD k 0) (h2 : (s.N.getD k []).getD q false = false) : wantY s (k : Int) (q : Int) d = ((s.setN k q true).setD k q d, 0) := by
  unfold wantY isN
  rw [if_neg (not_not_intro (want_at hk hw hq)), Int.toNat_natCast, Int.toNat_natCast, if_neg]
  rw [h2]
  rintro (h | h)
  · omega
  · cases h
theorem neededN_zero (hw : YW s) (h : neededN s b p = 0) : ∃ k q : Nat, b = (k : Int) ∧ k < s.S.length ∧ p = (q : Int) ∧ q < s.P ∧ (s.N.getD k []).getD q false = true := by
  unfold neededN at h
  by_cases hp : pageY s b p
  · rw [if_neg (not_not_intro hp)] at h
    obtain ⟨k, q, rfl, hk, rfl, hq⟩ := page_at hw hp
    refine ⟨k, q, rfl, hk, rfl, hq, ?_⟩
    unfold isN at h
    rw [Int.toNat_natCast, Int.toNat_natCast] at h
    cases e : (s.N.getD k []).getD q false with
    | true => rfl
    | false => rw [e] at h; cases h
  · rw [if_pos hp] at h; cases h
theorem drop_bad (h : neededN s b p ≠ 0) : dropY s b p = (s, neededN s b p) := by
  unfold neededN at h ⊢
  unfold dropY
  by_cases hp : pageY s b p
  · rw [if_neg (not_not_intro hp)] at h ⊢
    rw [if_neg (not_not_intro hp)]
    by_cases h1 : isN s b p = false
    · rw [if_pos h1, if_pos h1]
    · rw [if_neg h1] at h; exact absurd rfl h
  · rw [if_pos hp, if_pos hp]
theorem wash_bad (h : neededN s b p ≠ 0) : washY s b p = (s, neededN s b p) := by
  unfold neededN at h ⊢
  unfold washY
  by_cases hp : pageY s b p
  · rw [if_neg (not_not_intro hp)] at h ⊢
    rw [if_neg (not_not_intro hp)]
    by_cases h1 : isN s b p = false
    · rw [if_pos h1, if_pos h1]
    · rw [if_neg h1] at h; exact absurd rfl h
  · rw [if_pos hp, if_pos hp]
theorem drop_ok (hw : YW s) (hk : k < s.S.length) (hq : q < s.P) (h : (s.N.getD k []).getD q false = true) : dropY s (k : Int) (q : Int) = ((s.setN k q false).setD k q false, 0) := by
  unfold dropY isN
  rw [if_neg (not_not_intro (want_at hk hw hq)), Int.toNat_natCast, Int.toNat_natCast, h, if_neg (by decide)]
theorem wash_ok (hw : YW s) (hk : k < s.S.length) (hq : q < s.P) (h : (s.N.getD k []).getD q false = true) : washY s (k : Int) (q : Int) = (s.setD k q false, 0) := by
  unfold washY isN
  rw [if_neg (not_not_intro (want_at hk hw hq)), Int.toNat_natCast, Int.toNat_natCast, h, if_neg (by decide)]
set_option maxHeartbeats 2000000 in
theorem yfree_any (b : Int) (hD : YardAt w base fp g s) : Calls Tryz.prog 65 #[.pointer (some ⟨g, 0, none⟩), .int .i64 b] w (YLeads w base fp g (freeY s b)) := by
  obtain ⟨L, hR, hI⟩ := hD.ex
  have hw := hD.wf
  have HD := Lib.hid hD
  have HI := Lib.hid hI
  obtain ⟨W1, HW1⟩ : ∃ W1, Hid (W1 = w.alloc (.cells #[.int .i64 2, .int .i64 3] 3)) := ⟨_, rfl⟩
  have B1 : Hid (Below w.heap.size w W1) := by rw [HW1.out]; exact (Below.refl _ _).alloc (Nat.le_refl _) _
  have hA : intK.Lie W1 W1.heap.size (some ⟨w.heap.size, 0, none⟩) 2 [2, 3] := by rw [HW1.out]; exact lits [2, 3] #[.int .i64 2, .int .i64 3] rfl (by intro x hx; simp at hx; show _ ∧ _; omega)
  have hR1 := hR.since B1.out
  by_cases hq : findN s b [2, 3] = 0
  · obtain ⟨k, rfl, hk, hx⟩ := findN_zero hw hq
    have C1 := fun st => Lib.hid (yfind_ok st k _ 2 2 [2, 3] hR1 hw hk (by omega) hA hx)
    have CK := hR1.block hk
    have d2 := CK.c2
    have C2 := Lib.hid (ycontainsf_any (some (L.au k)) s.P s.P (usesV (s.N.getD k []) (s.D.getD k []) s.P) W1 (by have := hw.p8; omega) (hR1.ur k hk).lie)
    obtain ⟨qq, HQQ⟩ : ∃ qq, Hid ((usesV (s.N.getD k []) (s.D.getD k []) s.P).any (·.1) = qq) := ⟨_, rfl⟩
    rw [HQQ.out] at C2
    have hN := hw.nl k hk
    cases qq with
    | true =>
      have HR := Lib.hid (free_used hw hk (fun e => by have := (uses_none (D := s.D.getD k []) hN).2 e; rw [HQQ.out] at this; cases this))
      have C7 := fun st W2 (hb : W1.heap.size ≤ W2.heap.size) => Lib.hid (ywrong_new st 9 (by omega) W2 fp (fun b hb2 => Nat.lt_of_lt_of_le (Nat.lt_of_lt_of_le (hD.lt b hb2) B1.out.size) hb))
      obtain ⟨p, HPP⟩ : ∃ p, Hid (L.ab.add (k * 3) = p) := ⟨_, rfl⟩
      rw [HPP.out] at C1 d2
      obtain ⟨P, HPZ⟩ : ∃ P : Nat, Hid (s.P = P) := ⟨_, rfl⟩
      rw [HPZ.out] at d2 C2
      clear hD hR hI hw hA hR1 hq hx CK HPP HPZ hN HQQ
      go_enter Tryz.func65, Tryz.ntmps65
      go_wp2_with fail
      rw [← HW1.out]
      refine (C1 _).out.mono ?_
      rintro e w' ⟨rfl, rfl⟩
      go_wp2_with fail
      refine C2.out.mono ?_
      rintro e W2 ⟨rfl, hB2⟩
      have B2 := Lib.hid hB2
      clear hB2
      go_wp2_with fail
      refine (C7 _ W2 B2.out.size).out.mono ?_
      rintro e W3 ⟨v, rfl, HE, HB⟩
      have HE := Lib.hid HE
      have HB := Lib.hid HB
      go_wp2_with fail
      go_ret
      exact lead_err HD.out HR.out HE.out (below_chain B1.out B2.out) HB.out
    | false =>
      have HR := Lib.hid (free_ok hk hx ((uses_none (D := s.D.getD k []) hN).1 HQQ.out))
      have HY : Hid (YW ((s.setS k 1).setT k 0)) := by
        have := yw_free (b := (k : Int)) hw
        rw [HR.out] at this
        exact this
      have HLN : Hid (((s.setS k 1).setT k 0).S.length = s.S.length) := by show _ = _; simp [Yd.setS, Yd.setT]
      have hfp := hI.ab
      have HPUT : Hid (∀ W2, Below W1.heap.size W1 W2 → (∃ u0 u1, W2.cell? (L.ab.add (k * 3)) = some u0 ∧ W2.frozen? (L.ab.add (k * 3)) = false ∧ (W2.setCell (L.ab.add (k * 3)) (.int .i64 1)).cell? ⟨(L.ab.add (k * 3)).block, (L.ab.add (k * 3)).off + 1, none⟩ = some u1 ∧ (W2.setCell (L.ab.add (k * 3)) (.int .i64 1)).frozen? ⟨(L.ab.add (k * 3)).block, (L.ab.add (k * 3)).off + 1, none⟩ = false) ∧ YRep ((W2.setCell (L.ab.add (k * 3)) (.int .i64 1)).setCell ⟨(L.ab.add (k * 3)).block, (L.ab.add (k * 3)).off + 1, none⟩ (.int .i64 0)) base g ((s.setS k 1).setT k 0) L ∧ Turn fp w ((W2.setCell (L.ab.add (k * 3)) (.int .i64 1)).setCell ⟨(L.ab.add (k * 3)).block, (L.ab.add (k * 3)).off + 1, none⟩ (.int .i64 0))) := fun W2 hb => by
        have hl1 : (s.setS k 1).S.length = s.S.length := by simp [Yd.setS]
        have r2 := hR1.since hb
        have c2 := r2.block hk
        have r3 := r2.putSt hk 1
        have c3 := r3.block (k := k) (by rw [hl1]; exact hk)
        have r4 := r3.putTk (k := k) (by rw [hl1]; exact hk) (by rw [hl1]; exact hw.lt) 0
        exact ⟨⟨_, _, c2.c0, c2.f0, c3.c1, c3.f1⟩, r4, ((Turn.of_below (below_chain B1.out hb)).trans (Turn.of_setCell (fp := fp) (L.ab.add (k * 3)) _ (by rw [addr_block]; exact hfp)) (fun b hb => Or.inl hb)).trans (Turn.of_setCell (fp := fp) ⟨(L.ab.add (k * 3)).block, (L.ab.add (k * 3)).off + 1, none⟩ _ (by show fp (L.ab.add (k * 3)).block; rw [addr_block]; exact hfp)) (fun b hb => Or.inl hb)⟩
      obtain ⟨p, HPP⟩ : ∃ p, Hid (L.ab.add (k * 3) = p) := ⟨_, rfl⟩
      rw [HPP.out] at C1 d2 HPUT
      obtain ⟨P, HPZ⟩ : ∃ P : Nat, Hid (s.P = P) := ⟨_, rfl⟩
      rw [HPZ.out] at d2 C2
      clear hD hR hI hw hA hR1 hq hx CK HPP HPZ hN HQQ hfp
      go_enter Tryz.func65, Tryz.ntmps65
      go_wp2_with fail
      rw [← HW1.out]
      refine (C1 _).out.mono ?_
      rintro e w' ⟨rfl, rfl⟩
      go_wp2_with fail
      refine C2.out.mono ?_
      rintro e W2 ⟨rfl, hB2⟩
      obtain ⟨⟨u0, u1, h0, h1, h2, h3⟩, hP, hT⟩ := HPUT.out W2 hB2
      have HP := Lib.hid hP
      have HT := Lib.hid hT
      clear hB2 hP hT HPUT
      go_wp2_with fail
      go_ret
      exact lead_ok HD.out HI.out HR.out HP.out HLN.out HY.out HT.out
  · have C1 := fun st => Lib.hid (yfind_bad (fp := fp) st b _ 2 2 [2, 3] hR1 hw (fun b hb => Nat.lt_of_lt_of_le (hD.lt b hb) B1.out.size) (by omega) hA hq)
    have HR := Lib.hid (free_bad hq)
    obtain ⟨q, HQ⟩ : ∃ q, Hid (findN s b [2, 3] = q) := ⟨_, rfl⟩
    rw [HQ.out] at C1 HR hq
    have HNZ := Lib.hid hq
    clear hD hR hI hw hA hR1 hq
    go_enter Tryz.func65, Tryz.ntmps65
    go_wp2_with fail
    rw [← HW1.out]
    refine (C1 _).out.mono ?_
    rintro e W2 ⟨v, rfl, HE, HB⟩
    obtain ⟨xv, rfl⟩ := (HE.wrong HNZ.out).ne
    have HE := Lib.hid HE
    have HB := Lib.hid HB
    go_wp2_with fail
    go_ret
    exact lead_err HD.out HR.out HE.out B1.out HB.out
set_option maxHeartbeats 2000000 in
theorem yneed_any (b p : Int) (d : Bool) (hD : YardAt w base fp g s) : Calls Tryz.prog 109 #[.pointer (some ⟨g, 0, none⟩), .int .i64 b, .int .i64 p, .bool d] w (YLeads w base fp g (wantY s b p d)) := by
  obtain ⟨L, hR, hI⟩ := hD.ex
  have hw := hD.wf
  have HD := Lib.hid hD
  have HI := Lib.hid hI
  by_cases hpg : pageY s b p
  · obtain ⟨k, q, rfl, hk, rfl, hq⟩ := page_at hw hpg
    have C1 := fun st => Lib.hid (yfindpage_ok st k q hR hw hk hq)
    have c0 := hR.c0
    have d1 := (hR.block hk).c1
    have CU := hR.use hk hq
    have e0 := CU.c0
    have e1 := CU.c1
    have f0 := CU.f0
    have f1 := CU.f1
    have hs := hw.n32
    have ht := hw.tk k hk
    have hp8 := hw.p8
    have i0 : (0 : Int) ≤ (k : Int) := by omega
    have i1 : (k : Int) < (s.S.length : Int) := by omega
    have C9 := fun st => Lib.hid (ywrong_new st 9 (by omega) w fp hD.lt)
    obtain ⟨nd, HND⟩ : ∃ nd, Hid ((s.N.getD k []).getD q false = nd) := ⟨_, rfl⟩
    by_cases h1 : s.T.getD k 0 ≤ (q : Int)
    · have HR := Lib.hid (want_no d hk hw hq (Or.inl h1))
      obtain ⟨pp, HPP⟩ : ∃ pp, Hid ((L.au k).add (q * 2) = pp) := ⟨_, rfl⟩
      rw [HPP.out] at C1 e0 e1 f0 f1
      obtain ⟨ad, HAD⟩ : ∃ ad, Hid (L.ab = ad) := ⟨_, rfl⟩
      rw [HAD.out] at c0 d1
      obtain ⟨z, HZ⟩ : ∃ z : Nat, Hid (s.S.length = z) := ⟨_, rfl⟩
      rw [HZ.out] at c0 hs i1
      obtain ⟨t, HTZ⟩ : ∃ t, Hid (s.T.getD k 0 = t) := ⟨_, rfl⟩
      rw [HTZ.out] at d1 h1 ht
      clear hD hR hI hw hk hq hpg CU HPP HAD HZ HTZ ht hp8
      go_enter Tryz.func109, Tryz.ntmps109
      go_wp2_with fail
      refine (C1 _).out.mono ?_
      rintro e w' ⟨rfl, rfl⟩
      go_wp2_with fail
      refine (C9 _).out.mono ?_
      rintro e W2 ⟨v, rfl, HE, HB⟩
      have HE := Lib.hid HE
      have HB := Lib.hid HB
      go_wp2_with fail
      go_ret
      exact lead_err HD.out HR.out HE.out (Below.refl _ _) HB.out
    · have h1 : (q : Int) < s.T.getD k 0 := by omega
      cases nd with
      | true =>
        have HR := Lib.hid (want_no d hk hw hq (Or.inr HND.out))
        rw [HND.out] at e0
        obtain ⟨pp, HPP⟩ : ∃ pp, Hid ((L.au k).add (q * 2) = pp) := ⟨_, rfl⟩
        rw [HPP.out] at C1 e0 e1 f0 f1
        obtain ⟨ad, HAD⟩ : ∃ ad, Hid (L.ab = ad) := ⟨_, rfl⟩
        rw [HAD.out] at c0 d1
        obtain ⟨z, HZ⟩ : ∃ z : Nat, Hid (s.S.length = z) := ⟨_, rfl⟩
        rw [HZ.out] at c0 hs i1
        obtain ⟨t, HTZ⟩ : ∃ t, Hid (s.T.getD k 0 = t) := ⟨_, rfl⟩
        rw [HTZ.out] at d1 h1 ht
        clear hD hR hI hw hk hq hpg CU HPP HAD HZ HTZ ht hp8 HND
        go_enter Tryz.func109, Tryz.ntmps109
        go_wp2_with fail
        refine (C1 _).out.mono ?_
        rintro e w' ⟨rfl, rfl⟩
        go_wp2_with fail
        refine (C9 _).out.mono ?_
        rintro e W2 ⟨v, rfl, HE, HB⟩
        have HE := Lib.hid HE
        have HB := Lib.hid HB
        go_wp2_with fail
        go_ret
        exact lead_err HD.out HR.out HE.out (Below.refl _ _) HB.out
      | false =>
        have HR := Lib.hid (want_ok d hk hw hq h1 HND.out)
        rw [HND.out] at e0
        have hfp := hI.au k hk
        have r2 := hR.putN hk hw.ln hq (hw.nl k hk) true
        have r2u := r2.use (k := k) (q := q) hk hq
        have r3 := r2.putD (k := k) (q := q) hk hw.ld hq (hw.dl k hk) d
        have g1 := r2u.c1
        have g2 := r2u.f1
        have HP := Lib.hid r3
        have HT : Hid (Turn fp w ((w.setCell ((L.au k).add (q * 2)) (.bool true)).setCell ⟨((L.au k).add (q * 2)).block, ((L.au k).add (q * 2)).off + 1, none⟩ (.bool d))) := (Turn.of_setCell (fp := fp) ((L.au k).add (q * 2)) _ (by rw [addr_block]; exact hfp)).trans (Turn.of_setCell (fp := fp) ⟨((L.au k).add (q * 2)).block, ((L.au k).add (q * 2)).off + 1, none⟩ _ (by show fp ((L.au k).add (q * 2)).block; rw [addr_block]; exact hfp)) (fun b hb => Or.inl hb)
        have HY : Hid (YW ((s.setN k q true).setD k q d)) := by
          have := yw_want (b := (k : Int)) (p := (q : Int)) hw d
          rw [HR.out] at this
          exact this
        have HLN : Hid (((s.setN k q true).setD k q d).S.length = s.S.length) := rfl
        obtain ⟨pp, HPP⟩ : ∃ pp, Hid ((L.au k).add (q * 2) = pp) := ⟨_, rfl⟩
        rw [HPP.out] at C1 e0 e1 f0 f1 g1 g2 HP HT
        obtain ⟨ad, HAD⟩ : ∃ ad, Hid (L.ab = ad) := ⟨_, rfl⟩
        rw [HAD.out] at c0 d1
        obtain ⟨z, HZ⟩ : ∃ z : Nat, Hid (s.S.length = z) := ⟨_, rfl⟩
        rw [HZ.out] at c0 hs i1
        obtain ⟨t, HTZ⟩ : ∃ t, Hid (s.T.getD k 0 = t) := ⟨_, rfl⟩
        rw [HTZ.out] at d1 h1 ht
        clear hD hR hI hw hk hq hpg CU HPP HAD HZ HTZ ht hp8 HND C9 r2 r2u r3 hfp
        go_enter Tryz.func109, Tryz.ntmps109
        go_wp2_with fail
        refine (C1 _).out.mono ?_
        rintro e w' ⟨rfl, rfl⟩
        go_wp2_with fail
        go_ret
        exact lead_ok HD.out HI.out HR.out HP.out HLN.out HY.out HT.out
  · have C1 := fun st => Lib.hid (yfindpage_bad (fp := fp) st b p hR hw hD.lt hpg)
    have HR := Lib.hid (want_bad d hpg)
    clear hD hR hI hw hpg
    go_enter Tryz.func109, Tryz.ntmps109
    go_wp2_with fail
    refine (C1 _).out.mono ?_
    rintro e W2 ⟨v, rfl, HE, HB⟩
    obtain ⟨xv, rfl⟩ := (HE.wrong (by decide)).ne
    have HE := Lib.hid HE
    have HB := Lib.hid HB
    go_wp2_with fail
    go_ret
    exact lead_err HD.out HR.out HE.out (Below.refl _ _) HB.out
set_option maxHeartbeats 2000000 in
theorem ydrop_any (b p : Int) (hD : YardAt w base fp g s) : Calls Tryz.prog 63 #[.pointer (some ⟨g, 0, none⟩), .int .i64 b, .int .i64 p] w (YLeads w base fp g (dropY s b p)) := by
  obtain ⟨L, hR, hI⟩ := hD.ex
  have hw := hD.wf
  have HD := Lib.hid hD
  have HI := Lib.hid hI
  by_cases hnn : neededN s b p = 0
  · obtain ⟨k, q, rfl, hk, rfl, hq, hN⟩ := neededN_zero hw hnn
    have C1 := fun st => Lib.hid (yfindneeded_ok st k q hR hw hk hq hN)
    have CU := hR.use hk hq
    have e0 := CU.c0
    have f0 := CU.f0
    have HR := Lib.hid (drop_ok hw hk hq hN)
    have hfp := hI.au k hk
    have r2 := hR.putN hk hw.ln hq (hw.nl k hk) false
    have r2u := r2.use (k := k) (q := q) hk hq
    have r3 := r2.putD (k := k) (q := q) hk hw.ld hq (hw.dl k hk) false
    have g1 := r2u.c1
    have g2 := r2u.f1
    have HP := Lib.hid r3
    have HT : Hid (Turn fp w ((w.setCell ((L.au k).add (q * 2)) (.bool false)).setCell ⟨((L.au k).add (q * 2)).block, ((L.au k).add (q * 2)).off + 1, none⟩ (.bool false))) := (Turn.of_setCell (fp := fp) ((L.au k).add (q * 2)) _ (by rw [addr_block]; exact hfp)).trans (Turn.of_setCell (fp := fp) ⟨((L.au k).add (q * 2)).block, ((L.au k).add (q * 2)).off + 1, none⟩ _ (by show fp ((L.au k).add (q * 2)).block; rw [addr_block]; exact hfp)) (fun b hb => Or.inl hb)
    have HY : Hid (YW ((s.setN k q false).setD k q false)) := by
      have := yw_drop (b := (k : Int)) (p := (q : Int)) hw
      rw [HR.out] at this
      exact this
    have HLN : Hid (((s.setN k q false).setD k q false).S.length = s.S.length) := rfl
    obtain ⟨pp, HPP⟩ : ∃ pp, Hid ((L.au k).add (q * 2) = pp) := ⟨_, rfl⟩
    rw [HPP.out] at C1 e0 f0 g1 g2 HP HT
    clear hD hR hI hw hk hq hnn CU HPP r3 hfp hN r2 r2u
    go_enter Tryz.func63, Tryz.ntmps63
    go_wp2_with fail
    refine (C1 _).out.mono ?_
    rintro e w' ⟨rfl, rfl⟩
    go_wp2_with fail
    go_ret
    exact lead_ok HD.out HI.out HR.out HP.out HLN.out HY.out HT.out
  · have C1 := fun st => Lib.hid (yfindneeded_bad (fp := fp) st b p hR hw hD.lt hnn)
    have HR := Lib.hid (drop_bad hnn)
    obtain ⟨q, HQ⟩ : ∃ q, Hid (neededN s b p = q) := ⟨_, rfl⟩
    rw [HQ.out] at C1 HR hnn
    have HNZ := Lib.hid hnn
    clear hD hR hI hw hnn
    go_enter Tryz.func63, Tryz.ntmps63
    go_wp2_with fail
    refine (C1 _).out.mono ?_
    rintro e W2 ⟨v, rfl, HE, HB⟩
    obtain ⟨xv, rfl⟩ := (HE.wrong HNZ.out).ne
    have HE := Lib.hid HE
    have HB := Lib.hid HB
    go_wp2_with fail
    go_ret
    exact lead_err HD.out HR.out HE.out (Below.refl _ _) HB.out
set_option maxHeartbeats 2000000 in
theorem ystate_any (b : Int) (hD : YardAt w base fp g s) : Calls Tryz.prog 64 #[.pointer (some ⟨g, 0, none⟩), .int .i64 b] w (SaysI w (stY s b)) := by
  obtain ⟨L, hR, hI⟩ := hD.ex
  have hw := hD.wf
  have hs := hw.n32
  have HB0 := Lib.hid (Below.refl w.heap.size w)
  have C1 := Lib.hid (yhas_any b hR hs)
  by_cases h0 : stY s b = 0
  · rw [hasY_no hw h0] at C1
    rw [h0]
    clear hD hR hI hw h0 hs
    go_enter Tryz.func64, Tryz.ntmps64
    go_wp2_with fail
    refine C1.out.mono ?_
    rintro e w' ⟨rfl, rfl⟩
    go_wp2_with fail
    go_ret
    exact ⟨rfl, HB0⟩
  · obtain ⟨k, rfl, hk⟩ := (stY_ne hw).1 h0
    rw [hasY_at hk] at C1
    have c0 := hR.c0
    have CK := hR.block hk
    have d0 := CK.c0
    have d2 := CK.c2
    rw [stY_at hk]
    obtain ⟨y, HYY⟩ : ∃ y, Hid (s.S.getD k 0 = y) := ⟨_, rfl⟩
    rw [HYY.out] at d0 ⊢
    obtain ⟨ad, HAD⟩ : ∃ ad, Hid (L.ab = ad) := ⟨_, rfl⟩
    rw [HAD.out] at c0 d0 d2
    obtain ⟨z, HZ⟩ : ∃ z : Nat, Hid (s.S.length = z) := ⟨_, rfl⟩
    rw [HZ.out] at c0 hs hk
    have i0 : (0 : Int) ≤ (k : Int) := by omega
    have i1 : (k : Int) < (z : Int) := by omega
    clear hD hR hI hw hk h0 CK HAD HZ
    go_enter Tryz.func64, Tryz.ntmps64
    go_wp2_with fail
    refine C1.out.mono ?_
    rintro e w' ⟨rfl, rfl⟩
    go_wp2_with fail
    go_ret
    exact ⟨rfl, HB0⟩
set_option maxHeartbeats 2000000 in
theorem yneeded_any (b : Int) (hD : YardAt w base fp g s) : Calls Tryz.prog 54 #[.pointer (some ⟨g, 0, none⟩), .int .i64 b] w (GivesI w (neededY s b)) := by
  obtain ⟨L, hR, hI⟩ := hD.ex
  have hw := hD.wf
  have hs := hw.n32
  have HB0 := Lib.hid (Below.refl w.heap.size w)
  have C1 := Lib.hid (yhas_any b hR hs)
  by_cases h0 : stY s b = 0
  · rw [hasY_no hw h0] at C1
    rw [show neededY s b = [] from if_pos h0]
    clear hD hR hI hw h0 hs
    go_enter Tryz.func54, Tryz.ntmps54
    go_wp2_with fail
    refine C1.out.mono ?_
    rintro e w' ⟨rfl, rfl⟩
    go_wp2_with fail
    go_ret
    exact ⟨none, 0, 0, rfl, Kind.Row.none_, HB0⟩
  · obtain ⟨k, rfl, hk⟩ := (stY_ne hw).1 h0
    rw [hasY_at hk] at C1
    have c0 := hR.c0
    have CK := hR.block hk
    have d0 := CK.c0
    have d2 := CK.c2
    have hN := hw.nl k hk
    have hDl := hw.dl k hk
    have C2 := Lib.hid (ywhichn_any (some (L.au k)) s.P s.P (usesV (s.N.getD k []) (s.D.getD k []) s.P) w (by have := hw.p8; omega) (hR.ur k hk).lie)
    rw [idxF_N _ _ _ hN] at C2
    rw [show neededY s (k : Int) = idxB (s.N.getD k []) by unfold neededY; rw [if_neg h0, Int.toNat_natCast]]
    obtain ⟨y, HYY⟩ : ∃ y, Hid (idxB (s.N.getD k []) = y) := ⟨_, rfl⟩
    rw [HYY.out] at C2 ⊢
    obtain ⟨P, HPZ⟩ : ∃ P : Nat, Hid (s.P = P) := ⟨_, rfl⟩
    rw [HPZ.out] at d2 C2
    clear hN hDl HPZ HYY
    obtain ⟨ad, HAD⟩ : ∃ ad, Hid (L.ab = ad) := ⟨_, rfl⟩
    rw [HAD.out] at c0 d0 d2
    obtain ⟨z, HZ⟩ : ∃ z : Nat, Hid (s.S.length = z) := ⟨_, rfl⟩
    rw [HZ.out] at c0 hs hk
    have i0 : (0 : Int) ≤ (k : Int) := by omega
    have i1 : (k : Int) < (z : Int) := by omega
    clear hD hR hI hw hk h0 CK HAD HZ
    go_enter Tryz.func54, Tryz.ntmps54
    go_wp2_with fail
    refine C1.out.mono ?_
    rintro e w' ⟨rfl, rfl⟩
    go_wp2_with fail
    refine C2.out.mono ?_
    rintro e W2 ⟨A, n, c, rfl, HO, HB⟩
    go_wp2_with fail
    go_ret
    exact ⟨A, n, c, rfl, HO, HB⟩
theorem ymakefunc (fn : Fn) (first cap : Array Value) (w : World) : (Instr.makeFunc fn first cap).run Tryz.prog w = .ok (.func fn first cap) w := by
  simp [go_sem, Instr.makeFunc]
set_option maxHeartbeats 2000000 in
theorem ylist_any (x : Int) (hD : YardAt w base fp g s) : Calls Tryz.prog 56 #[.pointer (some ⟨g, 0, none⟩), .int .i64 x] w (GivesI w (listY s x)) := by
  obtain ⟨L, hR, hI⟩ := hD.ex
  have hw := hD.wf
  have hs := hw.n32
  have hmf := ymakefunc
  obtain ⟨W1, HW1⟩ : ∃ W1, Hid (W1 = w.alloc (.cells #[.int .i64 x] 3)) := ⟨_, rfl⟩
  have B1 : Hid (Below w.heap.size w W1) := by rw [HW1.out]; exact (Below.refl _ _).alloc (Nat.le_refl _) _
  have hp : W1.cell? ⟨w.heap.size, 0, none⟩ = some (.int .i64 x) := by rw [HW1.out, cell_new]; rfl
  have hz : w.heap.size < W1.heap.size := by rw [HW1.out]; simp
  have c0 : (w.alloc (.cells #[.int .i64 x] 3)).cell? ⟨g, 0, none⟩ = some (.slice (some L.ab) s.S.length s.S.length) := by rw [← HW1.out]; exact (hR.since B1.out).c0
  have C2 := Lib.hid (ywhichb_any (some L.ab) s.S.length s.S.length (bksV s L) x ⟨w.heap.size, 0, none⟩ W1 (by omega) (hR.since B1.out).br.lie hp hz)
  rw [idxF_S] at C2
  obtain ⟨y, HYY⟩ : ∃ y, Hid (listY s x = y) := ⟨_, rfl⟩
  rw [HYY.out] at C2 ⊢
  obtain ⟨ad, HAD⟩ : ∃ ad, Hid (L.ab = ad) := ⟨_, rfl⟩
  rw [HAD.out] at c0 C2
  obtain ⟨z, HZ⟩ : ∃ z : Nat, Hid (s.S.length = z) := ⟨_, rfl⟩
  rw [HZ.out] at c0 hs C2
  clear hD hR hI hw HAD HZ HYY hp hz
  go_enter Tryz.func56, Tryz.ntmps56
  go_wp2_with fail
  rw [← HW1.out]
  refine C2.out.mono ?_
  rintro e W2 ⟨A, n, c, rfl, HO, HB⟩
  go_wp2_with fail
  go_ret
  exact ⟨A, n, c, rfl, HO.out.elder B1.out.size, below_chain B1.out HB.out⟩
end
theorem yopen_nil (b : Int) (w : World) : Calls Tryz.prog 70 #[.pointer none, .int .i64 b] w fun e w' => ∃ v, e = .returned v ∧ ErrAt (fun b => b < w.heap.size) w' 1 v ∧ Below w.heap.size w w' := by
  obtain ⟨W1, HW1⟩ : ∃ W1, Hid (W1 = w.alloc (.cells #[.int .i64 1] 3)) := ⟨_, rfl⟩
  have B1 : Hid (Below w.heap.size w W1) := by rw [HW1.out]; exact (Below.refl _ _).alloc (Nat.le_refl _) _
  have C1 := fun st => Lib.hid (yfind_nil st b (some ⟨w.heap.size, 0, none⟩) 1 1 W1)
  go_enter Tryz.func70, Tryz.ntmps70
  go_wp2_with fail
  rw [← HW1.out]
  refine (C1 _).out.mono ?_
  rintro e W2 ⟨v, rfl, HE, HB⟩
  obtain ⟨xv, rfl⟩ := (HE.wrong (by decide)).ne
  have HE := Lib.hid HE
  have HB := Lib.hid HB
  go_wp2_with fail
  go_ret
  refine ⟨_, rfl, ?_, below_chain B1.out HB.out⟩
  rcases HE.out with ⟨h, _⟩ | ⟨h0, g, s, e, h1, h2, h3, h4⟩
  · cases h
  · exact Or.inr ⟨h0, g, s, e, h1, h2, fun hg => h4 (Nat.lt_of_lt_of_le hg B1.out.size)⟩
theorem ystate_nil (b : Int) (w : World) : Calls Tryz.prog 64 #[.pointer none, .int .i64 b] w (SaysI w 0) := by
  have C1 := Lib.hid (yhas_nil b w)
  have HB0 := Lib.hid (Below.refl w.heap.size w)
  go_enter Tryz.func64, Tryz.ntmps64
  go_wp2_with fail
  refine C1.out.mono ?_
  rintro e w' ⟨rfl, rfl⟩
  go_wp2_with fail
  go_ret
  exact ⟨rfl, HB0⟩
theorem ylist_nil (b : Int) (w : World) : Calls Tryz.prog 56 #[.pointer none, .int .i64 b] w fun e w' => e = .returned (.slice none 0 0) ∧ Hid (Below w.heap.size w w') := by
  have B1 : Hid (Below w.heap.size w (w.alloc (.cells #[.int .i64 b] 3))) := (Below.refl _ _).alloc (Nat.le_refl _) _
  go_enter Tryz.func56, Tryz.ntmps56
  go_wp2_with fail
  go_ret
  exact ⟨rfl, B1⟩
end Go.Proofs.YthgkdnegnecnjaaGreatDoor

/- The landed yard: New. Conditions: none. -/
set_option linter.unusedVariables false
set_option linter.unusedSimpArgs false
set_option maxRecDepth 20000
namespace Go.Proofs.YthgkdnegnecnjaaGreatDoor
open Go.RowKit

theorem bk_made : ∃ i z, Tryz.prog.info? blkK.T = some i ∧ i.zero = some z ∧ i.size = blkK.k ∧ i.bytes ≤ 1000 ∧ z.cells = (blkK.cv blkK.dflt).toArray := by
  obtain ⟨i0, hi, hz0, hz1, hz2⟩ := info_parts infoBk
  exact ⟨i0, _, hi, hz0, hz1, by rw [hz2]; omega, rfl⟩
theorem use_made : ∃ i z, Tryz.prog.info? useK.T = some i ∧ i.zero = some z ∧ i.size = useK.k ∧ i.bytes ≤ 1000 ∧ z.cells = (useK.cv useK.dflt).toArray := by
  obtain ⟨i0, hi, hz0, hz1, hz2⟩ := info_parts infoUs
  exact ⟨i0, _, hi, hz0, hz1, by rw [hz2]; omega, rfl⟩
/-- So many blocks are made. -/
def newBk (au : Nat → Addr) (P i k : Nat) : BkV := if k < i then ⟨1, 0, ⟨some (au k), P, P⟩⟩ else BkV.zero
structure NewY_ (w : World) (base g n P i : Nat) (ab : Addr) (au : Nat → Addr) : Prop where
  base_le : base ≤ g
  row : w.heap[g]? = some (.cells #[.slice (some ab) n n] 119 (0, 0))
  br : blkK.Row w base (some ab) n n ((List.range n).map (newBk au P i))
  ur : ∀ k, k < i → useK.Row w base (some (au k)) P P (List.replicate P (false, false))
  inj : ∀ j k, j < i → k < i → (au j).block = (au k).block → j = k
section
variable {w w' : World} {base g n P i : Nat} {ab : Addr} {au : Nat → Addr}
theorem NewY_.c0 (h : NewY_ w base g n P i ab au) : w.cell? ⟨g, 0, none⟩ = some (.slice (some ab) n n) := by rw [cell_of_row _ _ _ _ _ _ h.row]; rfl
theorem NewY_.lt (h : NewY_ w base g n P i ab au) : g < w.heap.size := (Array.getElem?_eq_some_iff.1 h.row).1
theorem NewY_.abz (h : NewY_ w base g n P i ab au) : ab = ⟨ab.block, 0, none⟩ := row_zero h.br
theorem NewY_.typed (h : NewY_ w base g n P i ab au) : ∃ cur, w.heap[ab.block]? = some (.cells cur 122 (0, 0)) := Row.typed h.br _ (by simp [blk])
theorem NewY_.since (h : NewY_ w base g n P i ab au) (hb : Below w.heap.size w w') : NewY_ w' base g n P i ab au :=
  ⟨h.base_le, (hb.block g h.lt).trans h.row, h.br.since hb, fun k hk => (h.ur k hk).since hb, h.inj⟩
/-- One block more: its pages are new, and its three cells are stored. -/
theorem NewY_.next (h : NewY_ w base g n P i ab au) (hi : i < n) (hb : Below w.heap.size w w') (hu : useK.Row w' base (some ⟨w.heap.size, 0, none⟩) P P (List.replicate P (false, false))) :
    ∃ u0 u1 u2, w'.cell? (ab.add (i * 3)) = some u0 ∧ w'.frozen? (ab.add (i * 3)) = false ∧
      (w'.setCell (ab.add (i * 3)) (.int .i64 1)).cell? ⟨(ab.add (i * 3)).block, (ab.add (i * 3)).off + 1, none⟩ = some u1 ∧ (w'.setCell (ab.add (i * 3)) (.int .i64 1)).frozen? ⟨(ab.add (i * 3)).block, (ab.add (i * 3)).off + 1, none⟩ = false ∧
      ((w'.setCell (ab.add (i * 3)) (.int .i64 1)).setCell ⟨(ab.add (i * 3)).block, (ab.add (i * 3)).off + 1, none⟩ (.int .i64 0)).cell? ⟨(ab.add (i * 3)).block, (ab.add (i * 3)).off + 2, none⟩ = some u2 ∧ ((w'.setCell (ab.add (i * 3)) (.int .i64 1)).setCell ⟨(ab.add (i * 3)).block, (ab.add (i * 3)).off + 1, none⟩ (.int .i64 0)).frozen? ⟨(ab.add (i * 3)).block, (ab.add (i * 3)).off + 2, none⟩ = false ∧
      NewY_ (((w'.setCell (ab.add (i * 3)) (.int .i64 1)).setCell ⟨(ab.add (i * 3)).block, (ab.add (i * 3)).off + 1, none⟩ (.int .i64 0)).setCell ⟨(ab.add (i * 3)).block, (ab.add (i * 3)).off + 2, none⟩ (.slice (some ⟨w.heap.size, 0, none⟩) P P)) base g n P (i + 1) ab (fun k => if k = i then ⟨w.heap.size, 0, none⟩ else au k) ∧
      (∀ w0 : World, Below base w0 w' → Below base w0 (((w'.setCell (ab.add (i * 3)) (.int .i64 1)).setCell ⟨(ab.add (i * 3)).block, (ab.add (i * 3)).off + 1, none⟩ (.int .i64 0)).setCell ⟨(ab.add (i * 3)).block, (ab.add (i * 3)).off + 2, none⟩ (.slice (some ⟨w.heap.size, 0, none⟩) P P))) := by
  have h2 := h.since hb
  obtain ⟨cur, hc⟩ := h2.typed
  have hz := h.abz
  rw [placeZ hz]
  have hg : g < w.heap.size := h.lt
  have hne : g ≠ ab.block := fun e => absurd (other_type (w := w') h2.row (e ▸ hc)) (by decide)
  have hr0 := h2.br
  rw [hz] at hr0
  have hv : ∀ (f : Nat → BkV), ((List.range n).map f).getD i blkK.dflt = f i := fun f => getD_map_range _ _ _ _ hi
  have hv0 : newBk au P i i = BkV.zero := if_neg (Nat.lt_irrefl i)
  have r1 := hr0.put (i := i) (r := 0) hi (by decide) (.int .i64 1) ⟨1, 0, BV.zero⟩ (by rw [hv, hv0]; rfl) trivial
  have r2 := r1.put (i := i) (r := 1) hi (by decide) (.int .i64 0) ⟨1, 0, BV.zero⟩ (by rw [getD_setY, if_pos ⟨rfl, by simpa using hi⟩]; rfl) trivial
  have r3 := r2.put (i := i) (r := 2) hi (by decide) (.slice (some ⟨w.heap.size, 0, none⟩) P P) ⟨1, 0, ⟨some ⟨w.heap.size, 0, none⟩, P, P⟩⟩ (by rw [getD_setY, if_pos ⟨rfl, by simpa using hi⟩]; rfl) trivial
  have hcell : ∀ {W : World} {vs : List BkV} (hr : blkK.Row W base (some ⟨ab.block, 0, none⟩) n n vs) (r : Nat) (hr3 : r < 3), (∃ u, W.cell? ⟨ab.block, i * 3 + r, none⟩ = some u) ∧ W.frozen? ⟨ab.block, i * 3 + r, none⟩ = false := fun {W vs} hr r hr3 => by
    refine ⟨?_, hr.row.frozenAt _⟩
    obtain ⟨ad, e1, e2, e3⟩ := hr.lie.each i hi
    obtain rfl := Option.some.inj e1
    have hlen := blkK.len (vs.getD i blkK.dflt)
    obtain ⟨u, hu⟩ : ∃ u, (blkK.cv (vs.getD i blkK.dflt))[r]? = some u := ⟨_, List.getElem?_eq_getElem (by rw [hlen]; exact hr3)⟩
    have := e3 r u hu
    rw [addr_add] at this
    refine ⟨u, ?_⟩
    rw [← this]
    congr 1
    unfold Addr.add
    by_cases h0 : i * 3 + r = 0
    · rw [if_pos (show i * blkK.k + r = 0 from h0), h0]
    · rw [if_neg (show ¬ i * blkK.k + r = 0 from h0)]; simp; rfl
  obtain ⟨⟨u0, c0⟩, f0⟩ := hcell hr0 0 (by decide)
  obtain ⟨⟨u1, c1⟩, f1⟩ := hcell r1 1 (by decide)
  obtain ⟨⟨u2, c2⟩, f2⟩ := hcell r2 2 (by decide)
  have hgeb : base ≤ ab.block := Row.blk_ge h.br _ (by simp [blk])
  refine ⟨u0, u1, u2, c0, f0, c1, f1, c2, f2, ⟨h.base_le, ?_, ?_, fun k hk => ?_, fun j k hj hk e => ?_⟩, fun w0 hw0 => ((hw0.setCell (p := ⟨ab.block, i * 3, none⟩) hgeb _).setCell (p := ⟨ab.block, i * 3 + 1, none⟩) hgeb _).setCell (p := ⟨ab.block, i * 3 + 2, none⟩) hgeb _⟩
  · exact (setCell_heap _ _ _ _ _ hne).trans ((setCell_heap _ _ _ _ _ hne).trans ((setCell_heap _ _ _ _ _ hne).trans h2.row))
  · rw [hz]
    refine Kind.Row.same r3 ?_
    rw [List.set_set, List.set_set]
    refine (map_range_set _ _ _ _ _ hi ?_ fun j hj e => ?_).symm
    · unfold newBk
      rw [if_pos (Nat.lt_succ_self i)]; simp
    · unfold newBk
      by_cases h3 : j < i
      · rw [if_pos h3, if_pos (by omega)]; simp [e]
      · rw [if_neg h3, if_neg (by omega)]
  · have hrow : useK.Row w' base (some (if k = i then ⟨w.heap.size, 0, none⟩ else au k)) P P (List.replicate P (false, false)) := by
      by_cases e : k = i
      · rw [if_pos e]; exact hu
      · rw [if_neg e]; exact h2.ur k (by omega)
    refine Row.at_block hrow fun b hm => ?_
    obtain ⟨c2', hc2⟩ := Row.typed hrow b hm
    have hne2 : b ≠ ab.block := fun e => absurd (other_type (w := w') (e ▸ hc2) hc) (by decide)
    exact (setCell_heap _ _ _ _ _ hne2).trans ((setCell_heap _ _ _ _ _ hne2).trans (setCell_heap _ _ _ _ _ hne2))
  · have hlt : ∀ k, k < i → (au k).block < w.heap.size := fun k hk => Row.blk_lt (h.ur k hk) _ (by simp [blk])
    by_cases e1 : j = i
    · by_cases e2 : k = i
      · omega
      · have := hlt k (by omega)
        simp only [e1, if_true, e2, if_false] at e
        omega
    · by_cases e2 : k = i
      · have := hlt j (by omega)
        simp only [e2, if_true, e1, if_false] at e
        omega
      · simp only [e1, e2, if_false] at e
        exact h.inj j k (by omega) (by omega) e
end
theorem getD_repl {α : Type} (n k : Nat) (x : α) : (List.replicate n x).getD k x = x := by
  rw [List.getD_eq_getElem?_getD, List.getElem?_replicate]; split <;> rfl
theorem uses_rep (P : Nat) : usesV (List.replicate P false) (List.replicate P false) P = List.replicate P (false, false) := by
  unfold usesV
  refine List.eq_replicate_iff.2 ⟨by simp, fun u hu => ?_⟩
  obtain ⟨j, _, rfl⟩ := List.mem_map.1 hu
  rw [getD_repl]
theorem new_done {w w' : World} {g n P : Nat} {ab : Addr} {au : Nat → Addr} (h : NewY_ w' w.heap.size g n P n ab au) (h1 : 1 ≤ n) (h2 : n ≤ 32) (h3 : 1 ≤ P) (h4 : P ≤ 8) : YardAt w' w.heap.size (fun b => w.heap.size ≤ b ∧ b < w'.heap.size) g (freshY n P) := by
  have hS : (freshY n P).S.length = n := List.length_replicate ..
  refine ⟨fresh_yw h1 h2 h3 h4, ⟨h.base_le, h.lt⟩, fun b hb => hb.1, fun b hb => hb.2, ⟨⟨ab, au⟩, ⟨h.base_le, ?_, ?_, fun k hk => ?_, fun j k hj hk e => ?_⟩, ⟨?_, ?_⟩, fun k hk => ⟨?_, ?_⟩⟩⟩
  · rw [hS]; exact h.row
  · rw [hS]
    refine Kind.Row.same h.br ?_
    unfold bksV
    rw [hS]
    refine List.map_congr_left fun k hk => ?_
    have hk := List.mem_range.1 hk
    unfold newBk
    rw [if_pos hk]
    show _ = (⟨(List.replicate n (1 : Int)).getD k 0, (List.replicate n (0 : Int)).getD k 0, ⟨some (au k), P, P⟩⟩ : BkV)
    rw [getD_rep _ _ _ _ hk, getD_rep _ _ _ _ hk]
  · rw [hS] at hk
    refine Kind.Row.same (h.ur k hk) ?_
    show _ = usesV ((List.replicate n (List.replicate P false)).getD k []) ((List.replicate n (List.replicate P false)).getD k []) P
    rw [getD_rep _ _ _ _ hk]
    exact (uses_rep P).symm
  · rw [hS] at hj hk; exact h.inj j k hj hk e
  · exact Row.blk_ge h.br _ (by simp [blk])
  · exact Row.blk_lt h.br _ (by simp [blk])
  · rw [hS] at hk; exact Row.blk_ge (h.ur k hk) _ (by simp [blk])
  · rw [hS] at hk; exact Row.blk_lt (h.ur k hk) _ (by simp [blk])
set_option maxHeartbeats 8000000 in
set_option maxRecDepth 20000 in
theorem ynew_any (x y : Int) (w : World) : Calls Tryz.prog 45 #[.int .i64 x, .int .i64 y] w (NewY w (if mayY x y = true then some (freshY x.toNat y.toNat) else none)) := by
  have HB0 := Lib.hid (Below.refl w.heap.size w)
  by_cases h1 : x < 1
  · rw [if_neg (show ¬ mayY x y = true by unfold mayY; simp; omega)]
    go_enter Tryz.func45, Tryz.ntmps45
    go_wp2_with fail
    go_ret
    exact ⟨rfl, HB0.out⟩
  by_cases h2 : 32 < x
  · rw [if_neg (show ¬ mayY x y = true by unfold mayY; simp; omega)]
    go_enter Tryz.func45, Tryz.ntmps45
    go_wp2_with fail
    go_ret
    exact ⟨rfl, HB0.out⟩
  by_cases h3 : y < 1
  · rw [if_neg (show ¬ mayY x y = true by unfold mayY; simp; omega)]
    go_enter Tryz.func45, Tryz.ntmps45
    go_wp2_with fail
    go_ret
    exact ⟨rfl, HB0.out⟩
  by_cases h4 : 8 < y
  · rw [if_neg (show ¬ mayY x y = true by unfold mayY; simp; omega)]
    go_enter Tryz.func45, Tryz.ntmps45
    go_wp2_with fail
    go_ret
    exact ⟨rfl, HB0.out⟩
  rw [if_pos (show mayY x y = true by unfold mayY; simp; omega)]
  obtain ⟨n, rfl⟩ : ∃ n : Nat, x = (n : Int) := ⟨x.toNat, by omega⟩
  obtain ⟨P, rfl⟩ : ∃ P : Nat, y = (P : Int) := ⟨y.toNat, by omega⟩
  rw [Int.toNat_natCast, Int.toNat_natCast]
  have hn : n ≤ 32 := by omega
  have hn1 : 1 ≤ n := by omega
  have HP4 : Hid (1 ≤ P ∧ P ≤ 8) := by show _ ∧ _; omega
  have hP8 : P ≤ 8 := by omega
  obtain ⟨W1, hr1, hb1, ho1⟩ := Kind.made blkK bk_made n (n : Int) rfl (by omega) w w.heap.size (Nat.le_refl _)
  have hr1' : (Instr.makeSlice 117 (.int .i64 (n : Int)) (.int .i64 (n : Int))).run Tryz.prog w = .ok (.slice (some ⟨w.heap.size, 0, none⟩) n n) W1 := hr1
  obtain ⟨W2, HW2⟩ : ∃ W2, Hid (W2 = W1.alloc (.cells #[.slice (some ⟨w.heap.size, 0, none⟩) n n] 119)) := ⟨_, rfl⟩
  have L2 : Below W1.heap.size W1 W2 := by rw [HW2.out]; exact (Below.refl _ _).alloc (Nat.le_refl _) _
  have B2 := Lib.hid (below_chain hb1 L2)
  have R2 : Hid (NewY_ W2 w.heap.size W1.heap.size n P 0 ⟨w.heap.size, 0, none⟩ (fun _ => ⟨0, 0, none⟩)) := by
    refine ⟨hb1.size, by rw [HW2.out]; exact heap_alloc_new W1 _, Kind.Row.same (ho1.since L2) ?_, fun k hk => absurd hk (Nat.not_lt_zero k), fun j k hj => absurd hj (Nat.not_lt_zero j)⟩
    apply List.ext_getElem
    · simp
    · intro j h1 h2
      rw [List.getElem_replicate, List.getElem_map]
      rfl
  have c2 : (W1.alloc (.cells #[.slice (some ⟨w.heap.size, 0, none⟩) n n] 119)).cell? ⟨W1.heap.size, 0, none⟩ = some (.slice (some ⟨w.heap.size, 0, none⟩) n n) := by rw [← HW2.out]; exact R2.out.c0
  clear hr1 hb1 ho1 L2
  go_enter Tryz.func45, Tryz.ntmps45
  go_wp2_with fail
  rw [← HW2.out]
  obtain ⟨g, HG⟩ : ∃ g, Hid (W1.heap.size = g) := ⟨_, rfl⟩
  obtain ⟨ab, HAB⟩ : ∃ ab : Addr, Hid ((⟨w.heap.size, 0, none⟩ : Addr) = ab) := ⟨_, rfl⟩
  rw [HG.out] at R2 ⊢
  rw [HAB.out] at R2
  clear c2 hr1' h1 h2 h3 h4
  go_loopw [30] (fun t30 wr => ∃ (i : Nat) (au : Nat → Addr), t30 = .int .i64 i ∧ i ≤ n ∧ Hid (NewY_ wr w.heap.size g n P i ab au) ∧ Hid (Below w.heap.size w wr)) (fun t30 _ => n - (intOf t30).toNat)
  case atStart => exact ⟨0, _, rfl, Nat.zero_le _, R2, B2⟩
  clear R2 B2
  case round =>
    obtain ⟨i, au, rfl, hi, HR, HB⟩ := hrel
    have i0 : (0 : Int) ≤ (i : Int) := by omega
    by_cases hlt : i < n
    · have i1 : (i : Int) < (n : Int) := by omega
      have c0 := HR.out.c0
      have hRd := HR.out.since (w' := wr.drew) ((Below.refl _ _).drew)
      have hBd : Below w.heap.size w wr.drew := below_chain HB.out ((Below.refl _ _).drew)
      obtain ⟨W3, hr3, hb3, ho3⟩ := Kind.made useK use_made P (P : Int) rfl (by omega) wr.drew wr.drew.heap.size (Nat.le_refl _)
      have hr3' : (Instr.makeSlice 120 (.int .i64 (P : Int)) (.int .i64 (P : Int))).run Tryz.prog wr.drew = .ok (.slice (some ⟨wr.drew.heap.size, 0, none⟩) P P) W3 := hr3
      obtain ⟨u0, u1, u2, d0, f0, d1, f1, d2, f2, hN, hBB⟩ := hRd.next hlt hb3 (ho3.elder hBd.size)
      have HN := Lib.hid hN
      have HBB := Lib.hid (hBB w (below_chain hBd hb3))
      have c3 : W3.cell? ⟨g, 0, none⟩ = some (.slice (some ab) n n) := (hRd.since hb3).c0
      clear hr3 hb3 ho3 hN hBB HB HR hRd hBd
      go_wp2_with fail
      go_region
      go_wp2_with fail
      go_roundw
      case rel => exact ⟨i + 1, _, by go_num, by omega, HN, HBB⟩
      case measure => simp [intOf]; omega
    · obtain rfl : i = n := by omega
      go_wp2_with fail
      go_ret
      exact ⟨g, _, rfl, new_done HR.out hn1 hn HP4.out.1 HP4.out.2, HB.out⟩
end Go.Proofs.YthgkdnegnecnjaaGreatDoor

/- Which block is worn how much, as mathematics: the least, the most worn one, the spread, the order. No conditions; no program. -/
set_option maxRecDepth 20000
namespace Go.Proofs.YthgkdnegnecnjaaGreatDoor

def wornM (x : Int) : Int := if x < 0 ∨ 1073741824 < x then 0 else x
def keyW (ws : List Int) (i : Nat) : Int := wornM (ws.getD i 0)
def isC (cs : List Bool) (i : Nat) : Bool := cs.getD i false
/-- i stands ahead of j. -/
def lexW (ws : List Int) (i j : Nat) : Prop := keyW ws i < keyW ws j ∨ (keyW ws i = keyW ws j ∧ i < j)
/-- The order of those that count among the first n. -/
structure IsOrder (ws : List Int) (cs : List Bool) (n : Nat) (o : List Nat) : Prop where
  up : o.Pairwise (lexW ws)
  all : ∀ i, i ∈ o ↔ i < n ∧ isC cs i = true
/-- The first one that is worn least of those that count among the first n: -1 if there is none. -/
def leastN (ws : List Int) (cs : List Bool) : Nat → Int
  | 0 => -1
  | i + 1 => if isC cs i = true ∧ (leastN ws cs i < 0 ∨ keyW ws i < keyW ws (leastN ws cs i).toNat) then (i : Int) else leastN ws cs i
def greatN (ws : List Int) (cs : List Bool) : Nat → Int
  | 0 => -1
  | i + 1 => if isC cs i = true ∧ (greatN ws cs i < 0 ∨ keyW ws (greatN ws cs i).toNat < keyW ws i) then (i : Int) else greatN ws cs i
def insW (ws : List Int) (i : Nat) : List Nat → List Nat
  | [] => [i]
  | a :: l => if keyW ws i < keyW ws a then i :: a :: l else a :: insW ws i l
def orderN (ws : List Int) (cs : List Bool) : Nat → List Nat
  | 0 => []
  | i + 1 => if isC cs i = true then insW ws i (orderN ws cs i) else orderN ws cs i
def orderW (ws : List Int) (cs : List Bool) : List Nat := if ws.length = cs.length then orderN ws cs ws.length else []
def orderI (ws : List Int) (cs : List Bool) : List Int := (orderW ws cs).map fun (k : Nat) => (k : Int)
def leastW (ws : List Int) (cs : List Bool) : Int := if ws.length = cs.length then leastN ws cs ws.length else -1
def greatW (ws : List Int) (cs : List Bool) : Int := if ws.length = cs.length then greatN ws cs ws.length else -1
def spreadW (ws : List Int) (cs : List Bool) : Int := if leastW ws cs < 0 then 0 else keyW ws (greatW ws cs).toNat - keyW ws (leastW ws cs).toNat
section
variable {ws : List Int} {cs : List Bool} {n i j k : Nat} {o o' : List Nat}
theorem worn_bd (x : Int) : 0 ≤ wornM x ∧ wornM x ≤ 1073741824 := by unfold wornM; split <;> omega
theorem worn_id {x : Int} (h0 : 0 ≤ x) (h1 : x ≤ 1073741824) : wornM x = x := if_neg (by omega)
theorem lex_irr : ¬ lexW ws i i := fun h => by unfold lexW at h; omega
theorem lex_trans (h1 : lexW ws i j) (h2 : lexW ws j k) : lexW ws i k := by unfold lexW at *; omega
theorem lex_tri (h : i ≠ j) : lexW ws i j ∨ lexW ws j i := by unfold lexW; omega
/-- Two lists in order that have the same members are one. -/
theorem order_one : ∀ {o o' : List Nat}, o.Pairwise (lexW ws) → o'.Pairwise (lexW ws) → (∀ i, i ∈ o ↔ i ∈ o') → o = o'
  | [], [], _, _, _ => rfl
  | [], b :: l, _, _, h => by have := (h b).2 (by simp); cases this
  | a :: l, [], _, _, h => by have := (h a).1 (by simp); cases this
  | a :: l, b :: l', h1, h2, h => by
    obtain ⟨ha, hl⟩ := List.pairwise_cons.1 h1
    obtain ⟨hb, hl'⟩ := List.pairwise_cons.1 h2
    have e : a = b := by
      rcases List.mem_cons.1 ((h a).1 (by simp)) with e | e
      · exact e
      · rcases List.mem_cons.1 ((h b).2 (by simp)) with e2 | e2
        · exact e2.symm
        · exact absurd (lex_trans (ha b e2) (hb a e)) lex_irr
    subst e
    refine congrArg _ (order_one hl hl' fun i => ?_)
    have hi := h i
    rw [List.mem_cons, List.mem_cons] at hi
    constructor
    · intro hm
      rcases hi.1 (Or.inr hm) with e | e
      · subst e; exact absurd (ha _ hm) lex_irr
      · exact e
    · intro hm
      rcases hi.2 (Or.inr hm) with e | e
      · subst e; exact absurd (hb _ hm) lex_irr
      · exact e
theorem IsOrder.one (h : IsOrder ws cs n o) (h' : IsOrder ws cs n o') : o = o' := order_one h.up h'.up fun i => (h.all i).trans (h'.all i).symm
theorem ins_mem : ∀ {o : List Nat}, ∀ x, x ∈ insW ws i o ↔ x = i ∨ x ∈ o
  | [], x => by simp [insW]
  | a :: l, x => by
    unfold insW
    split
    · simp
    · rw [List.mem_cons, ins_mem (o := l) x, List.mem_cons]
      constructor
      · rintro (h | h | h)
        · exact Or.inr (Or.inl h)
        · exact Or.inl h
        · exact Or.inr (Or.inr h)
      · rintro (h | h | h)
        · exact Or.inr (Or.inl h)
        · exact Or.inl h
        · exact Or.inr (Or.inr h)
theorem ins_up : ∀ {o : List Nat}, o.Pairwise (lexW ws) → (∀ x ∈ o, x < i) → (insW ws i o).Pairwise (lexW ws)
  | [], _, _ => by simp [insW]
  | a :: l, h, hi => by
    obtain ⟨ha, hl⟩ := List.pairwise_cons.1 h
    unfold insW
    split
    · rename_i hk
      refine List.pairwise_cons.2 ⟨fun x hx => ?_, h⟩
      rcases List.mem_cons.1 hx with rfl | hx
      · exact Or.inl hk
      · exact lex_trans (Or.inl hk) (ha x hx)
    · rename_i hk
      refine List.pairwise_cons.2 ⟨fun x hx => ?_, ins_up hl fun x hx => hi x (by simp [hx])⟩
      rcases (ins_mem x).1 hx with rfl | hx
      · have := hi a (by simp)
        unfold lexW; omega
      · exact ha x hx
theorem order_is : ∀ n, IsOrder ws cs n (orderN ws cs n)
  | 0 => ⟨by simp [orderN], fun i => by simp [orderN]⟩
  | n + 1 => by
    have ih := order_is n
    unfold orderN
    by_cases hc : isC cs n = true
    · rw [if_pos hc]
      refine ⟨ins_up ih.up fun x hx => ((ih.all x).1 hx).1, fun x => ?_⟩
      rw [ins_mem, ih.all]
      constructor
      · rintro (rfl | ⟨h1, h2⟩)
        · exact ⟨by omega, hc⟩
        · exact ⟨by omega, h2⟩
      · rintro ⟨h1, h2⟩
        by_cases e : x = n
        · exact Or.inl e
        · exact Or.inr ⟨by omega, h2⟩
    · rw [if_neg hc]
      refine ⟨ih.up, fun x => ?_⟩
      rw [ih.all]
      constructor
      · rintro ⟨h1, h2⟩; exact ⟨by omega, h2⟩
      · rintro ⟨h1, h2⟩
        have : x ≠ n := fun e => hc (e ▸ h2)
        exact ⟨by omega, h2⟩
theorem order_lt {x : Nat} (h : x ∈ orderN ws cs n) : x < n := ((order_is n).all x).1 h |>.1
/-- Where the new one is put. -/
theorem ins_split : ∀ {o : List Nat} {k : Nat}, k ≤ o.length → (∀ j, j < k → keyW ws (o.getD j 0) ≤ keyW ws i) → (k < o.length → keyW ws i < keyW ws (o.getD k 0)) → insW ws i o = o.take k ++ i :: o.drop k
  | [], k, hk, _, _ => by
    obtain rfl : k = 0 := by simpa using hk
    rfl
  | a :: l, 0, _, _, h2 => by
    have := h2 (by simp)
    unfold insW
    rw [if_pos (by simpa using this)]; rfl
  | a :: l, k + 1, hk, h1, h2 => by
    have h0 := h1 0 (by omega)
    unfold insW
    rw [if_neg (by have : keyW ws a ≤ keyW ws i := by simpa using h0
                   omega), ins_split (o := l) (k := k) (by simpa using hk) (fun j hj => by simpa using h1 (j + 1) (by omega)) (fun hl => by simpa using h2 (by simpa using hl))]
    rfl
/-- In an order no later one is worn less. -/
theorem up_le (h : o.Pairwise (lexW ws)) {a b : Nat} (hab : a ≤ b) (hb : b < o.length) : keyW ws (o.getD a 0) ≤ keyW ws (o.getD b 0) := by
  by_cases e : a = b
  · subst e; exact Int.le_refl _
  · have := List.pairwise_iff_getElem.1 h a b (by omega) hb (by omega)
    rw [List.getD_eq_getElem?_getD, List.getD_eq_getElem?_getD, List.getElem?_eq_getElem hb, List.getElem?_eq_getElem (show a < o.length by omega)]
    unfold lexW at this
    simp only [Option.getD_some]
    omega
/- the least and the most worn -/
structure IsLeast (ws : List Int) (cs : List Bool) (n k : Nat) : Prop where
  lt : k < n
  is : isC cs k = true
  le : ∀ j, j < n → isC cs j = true → keyW ws k < keyW ws j ∨ (keyW ws k = keyW ws j ∧ k ≤ j)
structure IsGreat (ws : List Int) (cs : List Bool) (n k : Nat) : Prop where
  lt : k < n
  is : isC cs k = true
  le : ∀ j, j < n → isC cs j = true → keyW ws j < keyW ws k ∨ (keyW ws k = keyW ws j ∧ k ≤ j)
theorem IsLeast.one (h : IsLeast ws cs n i) (h' : IsLeast ws cs n j) : i = j := by
  have h1 := h.le j h'.lt h'.is
  have h2 := h'.le i h.lt h.is
  omega
theorem IsGreat.one (h : IsGreat ws cs n i) (h' : IsGreat ws cs n j) : i = j := by
  have h1 := h.le j h'.lt h'.is
  have h2 := h'.le i h.lt h.is
  omega
theorem least_is : ∀ n, (leastN ws cs n = -1 ∧ ∀ j, j < n → isC cs j = false) ∨ ∃ k : Nat, leastN ws cs n = (k : Int) ∧ IsLeast ws cs n k
  | 0 => Or.inl ⟨rfl, fun j hj => by omega⟩
  | n + 1 => by
    unfold leastN
    cases hc : isC cs n with
    | false =>
      rw [if_neg (by simp)]
      rcases least_is n with ⟨h1, h2⟩ | ⟨k, h1, h2⟩
      · refine Or.inl ⟨h1, fun j hj => ?_⟩
        by_cases e : j = n
        · rw [e]; exact hc
        · exact h2 j (by omega)
      · refine Or.inr ⟨k, h1, by have := h2.lt; omega, h2.is, fun j hj hcj => ?_⟩
        by_cases e : j = n
        · rw [e, hc] at hcj; cases hcj
        · exact h2.le j (by omega) hcj
    | true =>
      rcases least_is n with ⟨h1, h2⟩ | ⟨k, h1, h2⟩
      · rw [h1, if_pos ⟨rfl, Or.inl (by decide)⟩]
        refine Or.inr ⟨n, rfl, by omega, hc, fun j hj hcj => ?_⟩
        by_cases e : j = n
        · subst e; exact Or.inr ⟨rfl, Nat.le_refl _⟩
        · rw [h2 j (by omega)] at hcj; cases hcj
      · rw [h1]
        by_cases hk : keyW ws n < keyW ws k
        · rw [if_pos ⟨rfl, Or.inr (by rw [Int.toNat_natCast]; exact hk)⟩]
          refine Or.inr ⟨n, rfl, by omega, hc, fun j hj hcj => ?_⟩
          by_cases e : j = n
          · subst e; exact Or.inr ⟨rfl, Nat.le_refl _⟩
          · have := h2.le j (by omega) hcj; omega
        · rw [if_neg (by rw [Int.toNat_natCast]; rintro ⟨_, h | h⟩; omega; exact hk h)]
          refine Or.inr ⟨k, rfl, by have := h2.lt; omega, h2.is, fun j hj hcj => ?_⟩
          by_cases e : j = n
          · have := h2.lt
            rw [e]; omega
          · exact h2.le j (by omega) hcj
theorem great_is : ∀ n, (greatN ws cs n = -1 ∧ ∀ j, j < n → isC cs j = false) ∨ ∃ k : Nat, greatN ws cs n = (k : Int) ∧ IsGreat ws cs n k
  | 0 => Or.inl ⟨rfl, fun j hj => by omega⟩
  | n + 1 => by
    unfold greatN
    cases hc : isC cs n with
    | false =>
      rw [if_neg (by simp)]
      rcases great_is n with ⟨h1, h2⟩ | ⟨k, h1, h2⟩
      · refine Or.inl ⟨h1, fun j hj => ?_⟩
        by_cases e : j = n
        · rw [e]; exact hc
        · exact h2 j (by omega)
      · refine Or.inr ⟨k, h1, by have := h2.lt; omega, h2.is, fun j hj hcj => ?_⟩
        by_cases e : j = n
        · rw [e, hc] at hcj; cases hcj
        · exact h2.le j (by omega) hcj
    | true =>
      rcases great_is n with ⟨h1, h2⟩ | ⟨k, h1, h2⟩
      · rw [h1, if_pos ⟨rfl, Or.inl (by decide)⟩]
        refine Or.inr ⟨n, rfl, by omega, hc, fun j hj hcj => ?_⟩
        by_cases e : j = n
        · subst e; exact Or.inr ⟨rfl, Nat.le_refl _⟩
        · rw [h2 j (by omega)] at hcj; cases hcj
      · rw [h1]
        by_cases hk : keyW ws k < keyW ws n
        · rw [if_pos ⟨rfl, Or.inr (by rw [Int.toNat_natCast]; exact hk)⟩]
          refine Or.inr ⟨n, rfl, by omega, hc, fun j hj hcj => ?_⟩
          by_cases e : j = n
          · subst e; exact Or.inr ⟨rfl, Nat.le_refl _⟩
          · have := h2.le j (by omega) hcj; omega
        · rw [if_neg (by rw [Int.toNat_natCast]; rintro ⟨_, h | h⟩; omega; exact hk h)]
          refine Or.inr ⟨k, rfl, by have := h2.lt; omega, h2.is, fun j hj hcj => ?_⟩
          by_cases e : j = n
          · have := h2.lt
            rw [e]; omega
          · exact h2.le j (by omega) hcj
/-- The order's first is the least worn one. -/
theorem order_head {a : Nat} {l : List Nat} (h : orderN ws cs n = a :: l) : IsLeast ws cs n a := by
  have ho := order_is (ws := ws) (cs := cs) n
  rw [h] at ho
  obtain ⟨h1, h2⟩ := (ho.all a).1 (by simp)
  refine ⟨h1, h2, fun j hj hc => ?_⟩
  rcases List.mem_cons.1 ((ho.all j).2 ⟨hj, hc⟩) with e | e
  · subst e; exact Or.inr ⟨rfl, Nat.le_refl _⟩
  · have := (List.pairwise_cons.1 ho.up).1 j e
    unfold lexW at this
    omega
theorem order_none : orderN ws cs n = [] ↔ ∀ j, j < n → isC cs j = false := by
  have ho := order_is (ws := ws) (cs := cs) n
  constructor
  · intro h j hj
    cases hc : isC cs j with
    | false => rfl
    | true =>
      have := (ho.all j).2 ⟨hj, hc⟩
      rw [h] at this; cases this
  · intro h
    rw [List.eq_nil_iff_forall_not_mem]
    intro x hx
    obtain ⟨h1, h2⟩ := (ho.all x).1 hx
    rw [h x h1] at h2; cases h2
theorem least_head {a : Nat} {l : List Nat} (h : orderN ws cs n = a :: l) : leastN ws cs n = (a : Int) := by
  have h1 := order_head h
  rcases least_is (ws := ws) (cs := cs) n with ⟨_, h3⟩ | ⟨k, h2, h3⟩
  · exact absurd h1.is (by rw [h3 a h1.lt]; decide)
  · rw [h2, h1.one h3]
theorem least_none (h : orderN ws cs n = []) : leastN ws cs n = -1 := by
  rcases least_is (ws := ws) (cs := cs) n with ⟨h2, _⟩ | ⟨k, _, h3⟩
  · exact h2
  · have := order_none.1 h k h3.lt
    rw [h3.is] at this; cases this
theorem great_none (h : orderN ws cs n = []) : greatN ws cs n = -1 := by
  rcases great_is (ws := ws) (cs := cs) n with ⟨h2, _⟩ | ⟨k, _, h3⟩
  · exact h2
  · have := order_none.1 h k h3.lt
    rw [h3.is] at this; cases this
/-- The most worn one: where the order's last ones begin that are worn alike. -/
theorem great_at {p : Nat} (hp : p < (orderN ws cs n).length) (h1 : ∀ j, p ≤ j → j < (orderN ws cs n).length → keyW ws ((orderN ws cs n).getD j 0) = keyW ws ((orderN ws cs n).getD ((orderN ws cs n).length - 1) 0)) (h2 : p = 0 ∨ keyW ws ((orderN ws cs n).getD (p - 1) 0) ≠ keyW ws ((orderN ws cs n).getD p 0)) :
    greatN ws cs n = (((orderN ws cs n).getD p 0 : Nat) : Int) := by
  have ho := order_is (ws := ws) (cs := cs) n
  obtain ⟨o, ho2⟩ : ∃ o, orderN ws cs n = o := ⟨_, rfl⟩
  rw [ho2] at ho hp h1 h2 ⊢
  have hmem : o.getD p 0 ∈ o := by rw [List.getD_eq_getElem?_getD, List.getElem?_eq_getElem hp]; exact List.getElem_mem hp
  obtain ⟨h3, h4⟩ := (ho.all _).1 hmem
  have hg : IsGreat ws cs n (o.getD p 0) := by
    refine ⟨h3, h4, fun j hj hc => ?_⟩
    obtain ⟨q, hq, rfl⟩ := List.mem_iff_getElem.1 ((ho.all j).2 ⟨hj, hc⟩)
    have e : o[q] = o.getD q 0 := by rw [List.getD_eq_getElem?_getD, List.getElem?_eq_getElem hq]; rfl
    rw [e]
    by_cases hpq : p ≤ q
    · right
      refine ⟨(h1 p (Nat.le_refl _) hp).trans (h1 q hpq hq).symm, ?_⟩
      by_cases e2 : p = q
      · rw [e2]; exact Nat.le_refl _
      · have := List.pairwise_iff_getElem.1 ho.up p q hp hq (by omega)
        have e3 : o[p] = o.getD p 0 := by rw [List.getD_eq_getElem?_getD, List.getElem?_eq_getElem hp]; rfl
        rw [e, e3] at this
        have h5 := (h1 p (Nat.le_refl _) hp).trans (h1 q hpq hq).symm
        unfold lexW at this
        omega
    · left
      have h5 := up_le ho.up (show q ≤ p - 1 by omega) (show p - 1 < o.length by omega)
      have h6 := up_le ho.up (show p - 1 ≤ p by omega) hp
      rcases h2 with h2 | h2
      · omega
      · omega
  rcases great_is (ws := ws) (cs := cs) n with ⟨_, h5⟩ | ⟨k, h5, h6⟩
  · have := h5 _ h3
    rw [h4] at this; cases this
  · rw [h5, h6.one hg]
theorem spread_nonneg : 0 ≤ spreadW ws cs := by
  unfold spreadW
  split
  · exact Int.le_refl _
  · rename_i h
    unfold leastW greatW at *
    by_cases hl : ws.length = cs.length
    · rw [if_pos hl] at h ⊢
      rw [if_pos hl]
      rcases least_is (ws := ws) (cs := cs) ws.length with ⟨h1, _⟩ | ⟨k, h1, h2⟩
      · omega
      · rcases great_is (ws := ws) (cs := cs) ws.length with ⟨_, h4⟩ | ⟨g, h3, h4⟩
        · have := h4 k h2.lt
          rw [h2.is] at this; cases this
        · rw [h1, h3, Int.toNat_natCast, Int.toNat_natCast]
          have := h4.le k h2.lt h2.is
          omega
    · rw [if_neg hl] at h; omega
end
end Go.Proofs.YthgkdnegnecnjaaGreatDoor

/- The landed wear's least one. Conditions: the lists' cells. -/
set_option linter.unusedVariables false
set_option linter.unusedSimpArgs false
set_option maxRecDepth 20000
namespace Go.Proofs.YthgkdnegnecnjaaGreatDoor
open Go.RowKit

theorem bool_at {w : World} {B n : Nat} {A : Option Addr} {xs : List Bool} (h : boolK.Lie w B A n xs) {k : Nat} (hk : k < n) : ∃ ad, A = some ad ∧ ad.block < B ∧ w.cell? (ad.add k) = some (.bool (xs.getD k false)) := by
  obtain ⟨ad, e1, e2, e3⟩ := h.each k hk
  have := boolK_at (b := xs.getD k false) e3
  rw [show k * boolK.k = k from Nat.mul_one k] at this
  exact ⟨ad, e1, e2, this⟩
/-- Both lists. -/
structure Two2 (w : World) (A : Option Addr) (n : Nat) (ws : List Int) (A' : Option Addr) (m : Nat) (cs : List Bool) : Prop where
  a : intK.Lie w w.heap.size A n ws
  b : boolK.Lie w w.heap.size A' m cs
theorem Two2.since {w w' : World} {A A' : Option Addr} {n m : Nat} {ws : List Int} {cs : List Bool} (h : Two2 w A n ws A' m cs) (hb : Below w.heap.size w w') : Two2 w' A n ws A' m cs := ⟨h.a.since hb, h.b.since hb⟩
theorem run_index_i (ad : Addr) (n c k : Nat) (hk : k < n) (w : World) : (Instr.indexAt 22 (.slice (some ad) n c) (.int .i64 (k : Int))).run Tryz.prog w = .ok (.pointer (some (ad.add k))) w := by
  have i0 : (0 : Int) ≤ (k : Int) := by omega
  have i1 : (k : Int) < (n : Int) := by omega
  go_simp
theorem run_load_int (p : Addr) (z : Int) (w : World) (hc : w.cell? p = some (.int .i64 z)) : (Instr.loadAt 3 (.pointer (some p))).run Tryz.prog w = .ok (.int .i64 z) w := by go_simp
theorem erases_any (x : Int) (w : World) : Calls Tryz.prog 123 #[.int .i64 x] w fun e w' => e = .returned (.int .i64 (wornM x)) ∧ w' = w := by
  by_cases h0 : x < 0
  · rw [show wornM x = 0 from if_pos (Or.inl h0)]
    go_enter Tryz.func123, Tryz.ntmps123
    go_wp2_with fail
    go_ret
    exact ⟨rfl, rfl⟩
  by_cases h1 : 1073741824 < x
  · rw [show wornM x = 0 from if_pos (Or.inr h1)]
    go_enter Tryz.func123, Tryz.ntmps123
    go_wp2_with fail
    go_ret
    exact ⟨rfl, rfl⟩
  · rw [show wornM x = x from if_neg (by omega)]
    go_enter Tryz.func123, Tryz.ntmps123
    go_wp2_with fail
    go_ret
    exact ⟨rfl, rfl⟩
theorem less1_any (x y : Int) (w : World) : Calls Tryz.prog 115 #[.int .i64 x, .int .i64 y] w fun e w' => e = .returned (.bool (decide (x < y))) ∧ w' = w := by
  go_enter Tryz.func115, Tryz.ntmps115
  go_wp2_with fail
  go_ret
  exact ⟨rfl, rfl⟩
set_option maxHeartbeats 4000000 in
theorem firstleast_any (A : Option Addr) (n c : Nat) (ws : List Int) (A' : Option Addr) (m c' : Nat) (cs : List Bool) (w : World) (hn : n ≤ 100) (hm : m ≤ 9223372036854775807) (h : Two2 w A n ws A' m cs) :
    Calls Tryz.prog 114 #[.slice A n c, .slice A' m c', .func (.func 115) #[] #[]] w (SaysI w (leastW ws cs)) := by
  have hl1 := h.a.len
  have hl2 := h.b.len
  have H := Lib.hid h
  by_cases hnm : n = m
  · subst hnm
    have HO : Hid (leastW ws cs = leastN ws cs n) := by show _ = _; unfold leastW; rw [if_pos (hl1.trans hl2.symm), hl1]
    rw [HO.out]
    clear h hl1 hl2 hm HO
    go_enter Tryz.func114, Tryz.ntmps114
    go_wp2_with fail
    go_loopw [7, 17] (fun t7 t17 wr => ∃ (k : Nat) (r : Int), t7 = .int .i64 r ∧ t17 = .int .i64 k ∧ k ≤ n ∧ Hid (r = leastN ws cs k) ∧ Hid (Below w.heap.size w wr)) (fun _ t17 _ => n - (intOf t17).toNat)
    case atStart => exact ⟨0, -1, rfl, rfl, Nat.zero_le _, rfl, Below.refl _ _⟩
    case round =>
      obtain ⟨k, r, rfl, rfl, hk, HR, HB⟩ := hrel
      have i0 : (0 : Int) ≤ (k : Int) := by omega
      by_cases hlt : k < n
      · have i1 : (k : Int) < (n : Int) := by omega
        obtain ⟨v, HV⟩ : ∃ v, Hid (isC cs k = v) := ⟨_, rfl⟩
        obtain ⟨ab, e1, _, g1⟩ := bool_at (H.out.since HB.out).b hlt
        obtain ⟨aw, e2, _, g2⟩ := int_at (H.out.since HB.out).a hlt
        rw [show cs.getD k false = v from HV.out] at g1
        obtain ⟨x, HX⟩ : ∃ x, Hid (ws.getD k 0 = x) := ⟨_, rfl⟩
        rw [HX.out] at g2
        subst e1 e2
        have HST : Hid (leastN ws cs (k + 1) = if v = true ∧ (leastN ws cs k < 0 ∨ keyW ws k < keyW ws (leastN ws cs k).toNat) then (k : Int) else leastN ws cs k) := by show _ = _; rw [← HV.out]; rfl
        rw [← HR.out] at HST
        cases v with
        | false =>
          rw [if_neg (by rintro ⟨h, _⟩; cases h)] at HST
          go_wp2_with fail
          go_quiet (fail)
          have HB2 := Lib.hid (below_drewN HB.out nq)
          clear g1 g2 HB HR
          generalize wr.drewN nq = w2 at HB2 ⊢
          clear nq
          go_wp2_with fail
          go_roundw
          case rel => exact ⟨k + 1, r, rfl, by go_num, by omega, HST.out.symm, HB2⟩
          case measure => simp [intOf]; omega
        | true =>
          by_cases hr : r < 0
          · rw [if_pos ⟨rfl, Or.inl hr⟩] at HST
            have d0 : decide (r < 0) = true := decide_eq_true hr
            go_wp2_with fail
            go_quiet (fail)
            have HB2 := Lib.hid (below_drewN HB.out nq)
            clear g1 g2 HB HR d0 hr
            generalize wr.drewN nq = w2 at HB2 ⊢
            clear nq
            go_wp2_with fail
            go_roundw
            case rel => exact ⟨k + 1, (k : Int), rfl, by go_num, by omega, HST.out.symm, HB2⟩
            case measure => simp [intOf]; omega
          · have d0 : decide (r < 0) = false := decide_eq_false hr
            have hin : ∃ z : Nat, r = (z : Int) ∧ z < n := by
              rcases least_is (ws := ws) (cs := cs) k with ⟨h1, _⟩ | ⟨z, h1, h2⟩
              · have := HR.out; omega
              · exact ⟨z, HR.out.trans h1, by have := h2.lt; omega⟩
            obtain ⟨z, rfl, hz⟩ := hin
            obtain ⟨aw', e2, _, g3⟩ := int_at (H.out.since HB.out).a hz
            obtain ⟨y, HY⟩ : ∃ y, Hid (ws.getD z 0 = y) := ⟨_, rfl⟩
            rw [HY.out] at g3
            obtain rfl := Option.some.inj e2
            have j0 : (0 : Int) ≤ (z : Int) := by omega
            have j1 : (z : Int) < (n : Int) := by omega
            obtain ⟨kx, HKX⟩ : ∃ q, Hid (wornM x = q) := ⟨_, rfl⟩
            obtain ⟨ky, HKY⟩ : ∃ q, Hid (wornM y = q) := ⟨_, rfl⟩
            rw [Int.toNat_natCast, show keyW ws k = kx by unfold keyW; rw [HX.out, HKX.out], show keyW ws z = ky by unfold keyW; rw [HY.out, HKY.out]] at HST
            have E1 : ∀ W, Calls Tryz.prog 123 #[.int .i64 x] W fun e w' => e = .returned (.int .i64 kx) ∧ w' = W := fun W => by
              rw [← HKX.out]; exact erases_any x W
            have E2 : ∀ W, Calls Tryz.prog 123 #[.int .i64 y] W fun e w' => e = .returned (.int .i64 ky) ∧ w' = W := fun W => by
              rw [← HKY.out]; exact erases_any y W
            obtain ⟨t, HT⟩ : ∃ t, Hid (decide (kx < ky) = t) := ⟨_, rfl⟩
            have E3 : ∀ W, Calls Tryz.prog 115 #[.int .i64 kx, .int .i64 ky] W fun e w' => e = .returned (.bool t) ∧ w' = W := fun W => by
              rw [← HT.out]; exact less1_any kx ky W
            have HE1 := Lib.hid E1
            have HE2 := Lib.hid E2
            have HE3 := Lib.hid E3
            clear E1 E2 E3
            cases t with
            | false =>
              have hv : ¬ (kx < ky) := of_decide_eq_false HT.out
              rw [if_neg (by rintro ⟨_, h | h⟩; exact hr h; exact hv h)] at HST
              clear hv
              go_wp2_with fail
              go_quiet (first | (go_at_call 115; refine Calls.quiet_of_same (HE3.out _)) | (go_at_call_of 123 (Value.int IntKind.i64 x); refine Calls.quiet_of_same (HE1.out _)) | (go_at_call 123; refine Calls.quiet_of_same (HE2.out _)))
              have HB2 := Lib.hid (below_drewN HB.out nq)
              clear g1 g2 g3 HB HR d0 HE1 HE2 HE3
              generalize wr.drewN nq = w2 at HB2 ⊢
              clear nq
              go_wp2_with fail
              go_roundw
              case rel => exact ⟨k + 1, (z : Int), rfl, by go_num, by omega, HST.out.symm, HB2⟩
              case measure => simp [intOf]; omega
            | true =>
              have hv : kx < ky := of_decide_eq_true HT.out
              rw [if_pos ⟨rfl, Or.inr hv⟩] at HST
              clear hv
              go_wp2_with fail
              go_quiet (first | (go_at_call 115; refine Calls.quiet_of_same (HE3.out _)) | (go_at_call_of 123 (Value.int IntKind.i64 x); refine Calls.quiet_of_same (HE1.out _)) | (go_at_call 123; refine Calls.quiet_of_same (HE2.out _)))
              have HB2 := Lib.hid (below_drewN HB.out nq)
              clear g1 g2 g3 HB HR d0 HE1 HE2 HE3
              generalize wr.drewN nq = w2 at HB2 ⊢
              clear nq
              go_wp2_with fail
              go_roundw
              case rel => exact ⟨k + 1, (k : Int), rfl, by go_num, by omega, HST.out.symm, HB2⟩
              case measure => simp [intOf]; omega
      · obtain rfl : k = n := by omega
        go_wp2_with fail
        go_ret
        exact ⟨by rw [← HR.out]; rfl, HB⟩
  · have HO : Hid (leastW ws cs = -1) := by show _ = _; unfold leastW; rw [if_neg (by omega)]
    rw [HO.out]
    have hz : ((n : Int) != (m : Int)) = true := by simp; omega
    have hz2 : ¬ (n : Int) = (m : Int) := by omega
    clear h hl1 hl2 HO
    go_enter Tryz.func114, Tryz.ntmps114
    go_wp2_with fail
    go_ret
    exact ⟨rfl, Below.refl _ _⟩
section
variable (A : Option Addr) (n c : Nat) (ws : List Int) (A' : Option Addr) (m c' : Nat) (cs : List Bool) (w : World) (hn : n ≤ 40) (hm : m ≤ 9223372036854775807) (h : Two2 w A n ws A' m cs)
include hn hm h
theorem wleast_any : Calls Tryz.prog 88 #[.slice A n c, .slice A' m c'] w (SaysI w (leastW ws cs)) := by
  have C := Lib.hid (firstleast_any A n c ws A' m c' cs w (by omega) hm h)
  clear h
  go_enter Tryz.func88, Tryz.ntmps88
  go_wp2_with fail
  refine C.out.mono ?_
  rintro e w' ⟨rfl, HB⟩
  go_wp2_with fail
  go_ret
  exact ⟨rfl, HB⟩
end
end Go.Proofs.YthgkdnegnecnjaaGreatDoor
