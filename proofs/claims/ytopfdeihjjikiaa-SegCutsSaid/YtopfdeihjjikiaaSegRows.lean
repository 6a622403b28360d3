/- A row of rows of bytes that a call made itself: each row in a block of its own. No conditions. -/
import Derived.Test.YtopfdeihjjikiaaSegName
import Derived.Test.YtopfdeihjjikiaaKinds
set_option linter.unusedVariables false
set_option linter.unusedSimpArgs false
namespace Go.Proofs.Ytopfdeihjjikiaa
open Go.RowKit

/-- Row g has n places; the first k hold rows of s bytes each, in blocks of their own, one behind the other; all is the call's own. -/
structure Rows2 (w : World) (base g n k s : Nat) (ps : List (List Nat)) (B C : Nat → Nat) : Prop where
  base_le : base ≤ g
  row : ∃ cur, w.heap[g]? = some (.cells cur 38 (0, 0)) ∧ cur.size = n ∧ ∀ j, j < k → cur[j]? = some (.slice (some ⟨B j, 0, none⟩) s (C j))
  each : ∀ j, j < k → g < B j ∧ Own w base (some ⟨B j, 0, none⟩) s (C j) (ps.getD j [])
  apart : ∀ i j, i < j → j < k → B i < B j
section
variable {w w' : World} {base g n k s : Nat} {ps : List (List Nat)} {B C : Nat → Nat}
theorem Rows2.lt (h : Rows2 w base g n k s ps B C) : g < w.heap.size := by
  obtain ⟨cur, e, _⟩ := h.row
  exact (Array.getElem?_eq_some_iff.1 e).1
theorem Rows2.free (h : Rows2 w base g n k s ps B C) (j : Nat) : w.frozen? ⟨g, j, none⟩ = false := by
  obtain ⟨cur, e, _⟩ := h.row
  simp [World.frozen?, e]
theorem Rows2.cell (h : Rows2 w base g n k s ps B C) {j : Nat} (hj : j < k) : w.cell? ⟨g, j, none⟩ = some (.slice (some ⟨B j, 0, none⟩) s (C j)) := by
  obtain ⟨cur, e, _, hc⟩ := h.row
  rw [cell_of_row _ _ _ cur 38 (0, 0) e]; exact hc j hj
theorem Rows2.some_cell (h : Rows2 w base g n k s ps B C) {j : Nat} (hj : j < n) : ∃ u, w.cell? ⟨g, j, none⟩ = some u := by
  obtain ⟨cur, e, hs, _⟩ := h.row
  exact ⟨cur[j]'(by omega), by rw [cell_of_row _ _ _ cur 38 (0, 0) e]; exact Array.getElem?_eq_getElem (by omega)⟩
theorem Rows2.since (h : Rows2 w base g n k s ps B C) (hb : Below w.heap.size w w') : Rows2 w' base g n k s ps B C := by
  obtain ⟨h0, ⟨cur, e, rest⟩, h2, h3⟩ := h
  exact ⟨h0, ⟨cur, (hb.block _ (Array.getElem?_eq_some_iff.1 e).1).trans e, rest⟩, fun j hj => ⟨(h2 j hj).1, (h2 j hj).2.since hb⟩, h3⟩
theorem Rows2.elder (h : Rows2 w base g n k s ps B C) {base' : Nat} (hb : base' ≤ base) : Rows2 w base' g n k s ps B C :=
  ⟨Nat.le_trans hb h.base_le, h.row, fun j hj => ⟨(h.each j hj).1, (h.each j hj).2.elder hb⟩, h.apart⟩
theorem Rows2.parts (h : Rows2 w base g n k s ps B C) (hk : k = n) (hl : ps.length = n) (hs : s ≤ 9223372036854775807) : Parts w w.heap.size (some ⟨g, 0, none⟩) n ps := by
  subst hk
  refine ⟨hl, fun j hj => ⟨_, _, _, _, rfl, h.lt, by rw [add_zero_addr]; exact h.cell hj, hs, (h.each j hj).2.bytes⟩⟩
/-- One more is stored. -/
theorem Rows2.store (h : Rows2 w base g n k s ps B C) (hk : k < n) {b c : Nat} (ho : Own w base (some ⟨b, 0, none⟩) s c (ps.getD k [])) (hb : ∀ j, j < k → B j < b) (hg : g < b) :
    Rows2 (w.setCell ⟨g, k, none⟩ (.slice (some ⟨b, 0, none⟩) s c)) base g n (k + 1) s ps (fun j => if j = k then b else B j) (fun j => if j = k then c else C j) := by
  obtain ⟨h0, ⟨cur, e, hs, hc⟩, h2, h3⟩ := h
  have hgr : w.grownBy (w.setCell ⟨g, k, none⟩ (.slice (some ⟨b, 0, none⟩) s c)) (some g) := grownBy_setCell w g k _
  refine ⟨h0, ⟨cur.setIfInBounds k (.slice (some ⟨b, 0, none⟩) s c), ?_, by simpa using hs, fun j hj => ?_⟩, fun j hj => ?_, fun i j hij hj => ?_⟩
  · simp [World.setCell, Array.getElem?_modify, e]
  · by_cases hjk : j = k
    · subst hjk
      rw [Array.getElem?_setIfInBounds_self_of_lt (by omega)]
      simp
    · rw [Array.getElem?_setIfInBounds_ne (fun e => hjk e.symm), hc j (by omega)]
      simp [hjk]
  · by_cases hjk : j = k
    · subst hjk
      simp only [if_pos]
      exact ⟨hg, own_other ho hgr (by omega)⟩
    · simp only [if_neg hjk]
      obtain ⟨k1, k2⟩ := h2 j (by omega)
      exact ⟨k1, own_other k2 hgr (by omega)⟩
  · by_cases hjk : j = k
    · subst hjk
      rw [if_neg (by omega), if_pos rfl]
      exact hb i hij
    · rw [if_neg (by omega), if_neg hjk]
      exact h3 i j hij (by omega)
/-- The bounds of the rows so far. -/
theorem Rows2.lts (h : Rows2 w base g n k s ps B C) {j : Nat} (hj : j < k) : B j < w.heap.size := ((h.each j hj).2.row.lt (B j) rfl).2
end
theorem rows2_made (W : World) (N s base : Nat) (ps : List (List Nat)) (hb : base ≤ W.heap.size) : Rows2 (W.alloc (.cells (madeCells #[.slice none 0 0] N) 38)) base W.heap.size N 0 s ps (fun _ => 0) (fun _ => 0) :=
  ⟨hb, ⟨_, heap_alloc_new W _, size_madeCells _ _, fun j hj => absurd hj (Nat.not_lt_zero j)⟩, fun j hj => absurd hj (Nat.not_lt_zero j), fun i j _ hj => absurd hj (Nat.not_lt_zero j)⟩
theorem infoR : (Try.prog.info? 38).map (fun i => (i.zero, i.size, i.bytes)) = some (some (.slice none 0 0), 1, 24) := by kernel_rfl
theorem make_rows (N : Nat) (hN : N ≤ 20000) (W : World) : (Instr.makeSlice 24 (.int .i64 (N : Int)) (.int .i64 (N : Int))).run Try.prog W =
    .ok (.slice (some ⟨W.heap.size, 0, none⟩) N N) (W.alloc (.cells (madeCells #[.slice none 0 0] N) 38)) := by
  obtain ⟨i0, hi, hz0, hz1, hz2⟩ := info_parts infoR
  have h := run_make (P := Try.prog) W 24 38 i0 _ Try.underlying24 hi hz0 .i64 .i64 (N : Int) (N : Int) (by omega) (by omega) (by rw [hz2]; omega) (by omega)
  rw [h, hz1, Nat.mul_one]
  rfl
theorem make_rows_any (N s : Nat) (hN : N ≤ 20000) (ps : List (List Nat)) (W : World) : ∃ W', (Instr.makeSlice 24 (.int .i64 (N : Int)) (.int .i64 (N : Int))).run Try.prog W = .ok (.slice (some ⟨W.heap.size, 0, none⟩) N N) W' ∧ Below W.heap.size W W' ∧ Rows2 W' W.heap.size W.heap.size N 0 s ps (fun _ => 0) (fun _ => 0) :=
  ⟨_, make_rows N hN W, since_alloc (Below.refl _ _) _, rows2_made W N s _ ps (Nat.le_refl _)⟩
/- slices of slices of bytes, as values -/
structure SV where
  a : Option Addr
  n : Nat
  c : Nat
def sliceK : Kind SV where
  T := 38
  L := 24
  k := 1
  cv := fun v => [.slice v.a v.n v.c]
  wf := fun _ => True
  dflt := ⟨none, 0, 0⟩
  len := fun v => rfl
  one := fun v u hu => by rw [List.mem_singleton.1 hu]; rfl
  pos := by decide
  ok := trivial
  under := Try.underlying24
  elem := by kernel_rfl
  info := by
    obtain ⟨i0, hi, hz0, hz1, hz2⟩ := info_parts infoR
    exact ⟨i0, _, hi, hz0, hz1, by rw [hz2]; omega, rfl⟩
/-- The slices vs hold the bytes ps, one by one. -/
structure Hold (w : World) (B : Nat) (vs : List SV) (ps : List (List Nat)) : Prop where
  len : vs.length = ps.length
  each : ∀ k, k < vs.length → (vs.getD k sliceK.dflt).n ≤ (vs.getD k sliceK.dflt).c ∧ Bytes w B (vs.getD k sliceK.dflt).a (vs.getD k sliceK.dflt).n (ps.getD k [])
section
variable {w w' : World} {B B' : Nat} {vs us : List SV} {ps qs : List (List Nat)}
theorem Hold.below (h : Hold w B vs ps) (hb : Below B w w') : Hold w' B vs ps := ⟨h.len, fun k hk => ⟨(h.each k hk).1, (h.each k hk).2.below hb⟩⟩
theorem Hold.wider (h : Hold w B vs ps) (hB : B ≤ B') : Hold w B' vs ps := ⟨h.len, fun k hk => ⟨(h.each k hk).1, (h.each k hk).2.wider hB⟩⟩
theorem Hold.since (h : Hold w w.heap.size vs ps) (hb : Below w.heap.size w w') : Hold w' w'.heap.size vs ps := (h.below hb).wider hb.size
end
/-- A slice of slices of bytes, each no longer than its room. -/
structure Lays (w : World) (B : Nat) (A : Option Addr) (n : Nat) (vs : List SV) (ps : List (List Nat)) : Prop where
  lie : sliceK.Lie w B A n vs
  hold : Hold w B vs ps
section
variable {w w' : World} {B B' n : Nat} {A : Option Addr} {vs : List SV} {ps : List (List Nat)}
theorem Lays.len (h : Lays w B A n vs ps) : ps.length = n := h.hold.len.symm.trans h.lie.len
theorem Lays.since (h : Lays w w.heap.size A n vs ps) (hb : Below w.heap.size w w') : Lays w' w'.heap.size A n vs ps := ⟨h.lie.since hb, h.hold.since hb⟩
theorem Lays.at_ (h : Lays w B A n vs ps) {k : Nat} (hk : k < n) : ∃ ad A' n' c', A = some ad ∧ ad.block < B ∧ w.cell? (ad.add k) = some (.slice A' n' c') ∧ n' ≤ c' ∧ Bytes w B A' n' (ps.getD k []) := by
  obtain ⟨ad, e1, e2, e3⟩ := h.lie.each k hk
  obtain ⟨h1, h2⟩ := h.hold.each k (by rw [h.lie.len]; exact hk)
  refine ⟨ad, _, _, _, e1, e2, ?_, h1, h2⟩
  have := e3 0 (.slice (vs.getD k sliceK.dflt).a (vs.getD k sliceK.dflt).n (vs.getD k sliceK.dflt).c) rfl
  rwa [addr_add, Nat.add_zero, show k * sliceK.k = k from Nat.mul_one k] at this
end
/-- The slices of a row of rows. -/
def valsOf (B C : Nat → Nat) (s n : Nat) : List SV := (List.range n).map fun j => ⟨some ⟨B j, 0, none⟩, s, C j⟩
theorem valsOf_at {B C : Nat → Nat} {s n j : Nat} (h : j < n) : (valsOf B C s n).getD j sliceK.dflt = ⟨some ⟨B j, 0, none⟩, s, C j⟩ := by
  unfold valsOf
  rw [List.getD_eq_getElem?_getD, List.getElem?_map, List.getElem?_range h]; rfl
theorem Rows2.lays {w : World} {base g n s : Nat} {ps : List (List Nat)} {B C : Nat → Nat} (h : Rows2 w base g n n s ps B C) (hl : ps.length = n) : Lays w w.heap.size (some ⟨g, 0, none⟩) n (valsOf B C s n) ps := by
  have hv : (valsOf B C s n).length = n := by simp [valsOf]
  refine ⟨⟨hv, fun j hj => ⟨_, rfl, h.lt, fun i u hu => ?_⟩, fun _ => trivial⟩, ⟨by rw [hv, hl], fun j hj => ?_⟩⟩
  · rw [valsOf_at hj] at hu
    have hi : i = 0 := by
      rcases i with _ | i
      · rfl
      · simp [sliceK] at hu
    subst hi
    have hu : (Value.slice (some ⟨B j, 0, none⟩) s (C j)) = u := by simpa [sliceK] using hu
    rw [← hu, addr_add, Nat.add_zero, show j * sliceK.k = j from Nat.mul_one j, add_zero_addr]
    exact h.cell hj
  · rw [hv] at hj
    rw [valsOf_at hj]
    exact ⟨(h.each j hj).2.cap, (h.each j hj).2.bytes⟩
theorem Lays.none_ {w : World} {B : Nat} : Lays w B none 0 [] [] := ⟨Kind.Lie.none_, ⟨rfl, fun k hk => absurd hk (Nat.not_lt_zero k)⟩⟩
end Go.Proofs.Ytopfdeihjjikiaa
