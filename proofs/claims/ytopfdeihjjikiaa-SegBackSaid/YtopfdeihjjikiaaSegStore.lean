/- Stores into rows of entries, and of slices, that are the call's own. Conditions: the place is one of the row's. -/
import Derived.Test.YtopfdeihjjikiaaSegRows
import Derived.Test.YtopfdeihjjikiaaSegOk
set_option linter.unusedVariables false
set_option linter.unusedSimpArgs false
namespace Go.Proofs.Ytopfdeihjjikiaa
open Go.RowKit

theorem ent_cells_set : ∀ (vs : List E) (i : Nat) (v : E), i < vs.length → entK.cells (vs.set i v) = ((((entK.cells vs).set (i * 4) (.int .u64 v.addr)).set (i * 4 + 1) (.int .i64 v.page)).set (i * 4 + 2) (.bool v.dirty)).set (i * 4 + 3) (.int .i64 v.seq)
  | [], i, v, h => by simp at h
  | u :: r, 0, v, _ => rfl
  | u :: r, i + 1, v, h => by
    have ih := ent_cells_set r i v (by simpa using h)
    have e : ∀ (l : List Value) (k : Nat) (x : Value), (entCells u ++ l).set (k + 4) x = entCells u ++ l.set k x := fun l k x => rfl
    show entCells u ++ entK.cells (r.set i v) = _
    rw [ih, show (i + 1) * 4 = i * 4 + 4 by omega]
    show _ = ((((entCells u ++ entK.cells r).set (i * 4 + 4) _).set (i * 4 + 4 + 1) _).set (i * 4 + 4 + 2) _).set (i * 4 + 4 + 3) _
    rw [e, show i * 4 + 4 + 1 = i * 4 + 1 + 4 by omega, e, show i * 4 + 4 + 2 = i * 4 + 2 + 4 by omega, e, show i * 4 + 4 + 3 = i * 4 + 3 + 4 by omega, e]
theorem ent_cells_page : ∀ (vs : List E) (i : Nat) (p : Int), i < vs.length → entK.cells (vs.set i { vs.getD i E.zero with page := p }) = (entK.cells vs).set (i * 4 + 1) (.int .i64 p)
  | [], i, p, h => by simp at h
  | u :: r, 0, p, _ => rfl
  | u :: r, i + 1, p, h => by
    have ih := ent_cells_page r i p (by simpa using h)
    have e : ∀ (l : List Value) (k : Nat) (x : Value), (entCells u ++ l).set (k + 4) x = entCells u ++ l.set k x := fun l k x => rfl
    show entCells u ++ entK.cells (r.set i { r.getD i E.zero with page := p }) = (entCells u ++ entK.cells r).set ((i + 1) * 4 + 1) _
    rw [ih, show (i + 1) * 4 + 1 = i * 4 + 1 + 4 by omega, e]
/-- The world behind the store of an entry. -/
def putE (W : World) (g p : Nat) (v : E) : World := (((W.setCell ⟨g, p, none⟩ (.int .u64 v.addr)).setCell ⟨g, p + 1, none⟩ (.int .i64 v.page)).setCell ⟨g, p + 2, none⟩ (.bool v.dirty)).setCell ⟨g, p + 3, none⟩ (.int .i64 v.seq)
section
variable {W : World} {base g n c : Nat} {vs : List E}
theorem entRow_set (h : entK.Row W base (some ⟨g, 0, none⟩) n c vs) {i : Nat} (hi : i < n) (v : E) (hv : EWf v) : entK.Row (putE W g (i * 4) v) base (some ⟨g, 0, none⟩) n c (vs.set i v) ∧ W.grownBy (putE W g (i * 4) v) (some g) := by
  obtain ⟨h1, g1⟩ := h.row.stored (i * 4) (.int .u64 v.addr)
  obtain ⟨h2, g2⟩ := h1.stored (i * 4 + 1) (.int .i64 v.page)
  obtain ⟨h3, g3⟩ := h2.stored (i * 4 + 2) (.bool v.dirty)
  obtain ⟨h4, g4⟩ := h3.stored (i * 4 + 3) (.int .i64 v.seq)
  refine ⟨⟨?_, fun u hu => ?_⟩, grownBy_trans (grownBy_trans (grownBy_trans g1 g2) g3) g4⟩
  · rw [ent_cells_set vs i v (by rw [h.len]; exact hi)]; exact h4
  · rcases List.mem_or_eq_of_mem_set hu with hu | hu
    · exact h.wf u hu
    · rw [hu]; exact hv
theorem entRow_page (h : entK.Row W base (some ⟨g, 0, none⟩) n c vs) {i : Nat} (hi : i < n) (p : Int) (hp : EWf { vs.getD i E.zero with page := p }) : entK.Row (W.setCell ⟨g, i * 4 + 1, none⟩ (.int .i64 p)) base (some ⟨g, 0, none⟩) n c (vs.set i { vs.getD i E.zero with page := p }) ∧ W.grownBy (W.setCell ⟨g, i * 4 + 1, none⟩ (.int .i64 p)) (some g) := by
  obtain ⟨h1, g1⟩ := h.row.stored (i * 4 + 1) (.int .i64 p)
  refine ⟨⟨?_, fun u hu => ?_⟩, g1⟩
  · rw [ent_cells_page vs i p (by rw [h.len]; exact hi)]; exact h1
  · rcases List.mem_or_eq_of_mem_set hu with hu | hu
    · exact h.wf u hu
    · rw [hu]; exact hp
theorem entRow_free (h : entK.Row W base (some ⟨g, 0, none⟩) n c vs) (j : Nat) : W.frozen? ⟨g, j, none⟩ = false := h.row.frozenAt j
theorem entRow_some {A : Option Addr} (h : entK.Row W base A n c vs) (hn : 0 < n) : ∃ g, A = some ⟨g, 0, none⟩ ∧ base ≤ g ∧ g < W.heap.size := by
  rcases h.row.2 with ⟨_, h0⟩ | ⟨g, cap, cur, hv, hbg, hg, _⟩
  · omega
  · injection hv with e1 e2 e3
    exact ⟨g, e1, hbg, (Array.getElem?_eq_some_iff.1 hg).1⟩
/-- The four cells of entry i of a row. -/
structure RowCells (W : World) (g p : Nat) (v : E) : Prop where
  c0 : W.cell? ⟨g, p, none⟩ = some (.int .u64 v.addr)
  c1 : W.cell? ⟨g, p + 1, none⟩ = some (.int .i64 v.page)
  c2 : W.cell? ⟨g, p + 2, none⟩ = some (.bool v.dirty)
  c3 : W.cell? ⟨g, p + 3, none⟩ = some (.int .i64 v.seq)
theorem entRow_cells (h : entK.Row W base (some ⟨g, 0, none⟩) n c vs) {i : Nat} (hi : i < n) : RowCells W g (i * 4) (getE vs i) := by
  obtain ⟨ad, e1, _, e3⟩ := h.lie.each i hi
  obtain rfl := Option.some.inj e1
  have hat : entK.At W ((⟨g, 0, none⟩ : Addr).add (i * 4)) (getE vs i) := e3
  rw [add_zero_addr] at hat
  obtain ⟨c0, c1, c2, c3⟩ := entAt_of hat
  exact ⟨c0, c1, c2, c3⟩
end
section
variable {W : World} {base g n c : Nat} {vs : List SV}
theorem slice_cells_set : ∀ (vs : List SV) (i : Nat) (v : SV), i < vs.length → sliceK.cells (vs.set i v) = (sliceK.cells vs).set i (.slice v.a v.n v.c)
  | [], i, v, h => by simp at h
  | u :: r, 0, v, _ => rfl
  | u :: r, i + 1, v, h => by
    have ih := slice_cells_set r i v (by simpa using h)
    show Value.slice u.a u.n u.c :: sliceK.cells (r.set i v) = Value.slice u.a u.n u.c :: (sliceK.cells r).set i _
    rw [ih]
theorem sliceRow_set (h : sliceK.Row W base (some ⟨g, 0, none⟩) n c vs) {i : Nat} (hi : i < n) (v : SV) : sliceK.Row (W.setCell ⟨g, i, none⟩ (.slice v.a v.n v.c)) base (some ⟨g, 0, none⟩) n c (vs.set i v) ∧ W.grownBy (W.setCell ⟨g, i, none⟩ (.slice v.a v.n v.c)) (some g) := by
  obtain ⟨h1, g1⟩ := h.row.stored i (.slice v.a v.n v.c)
  refine ⟨⟨?_, fun u _ => trivial⟩, g1⟩
  rw [slice_cells_set vs i v (by rw [h.len]; exact hi)]; exact h1
theorem sliceRow_free (h : sliceK.Row W base (some ⟨g, 0, none⟩) n c vs) (j : Nat) : W.frozen? ⟨g, j, none⟩ = false := h.row.frozenAt j
theorem sliceRow_some {A : Option Addr} (h : sliceK.Row W base A n c vs) (hn : 0 < n) : ∃ g, A = some ⟨g, 0, none⟩ ∧ base ≤ g ∧ g < W.heap.size := by
  rcases h.row.2 with ⟨_, h0⟩ | ⟨g, cap, cur, hv, hbg, hg, _⟩
  · omega
  · injection hv with e1 e2 e3
    exact ⟨g, e1, hbg, (Array.getElem?_eq_some_iff.1 hg).1⟩
theorem sliceRow_cell (h : sliceK.Row W base (some ⟨g, 0, none⟩) n c vs) {i : Nat} (hi : i < n) : W.cell? ⟨g, i, none⟩ = some (.slice (vs.getD i sliceK.dflt).a (vs.getD i sliceK.dflt).n (vs.getD i sliceK.dflt).c) := by
  obtain ⟨ad, e1, _, e3⟩ := h.lie.each i hi
  obtain rfl := Option.some.inj e1
  have := e3 0 _ rfl
  rwa [addr_add, Nat.add_zero, show i * sliceK.k = i from Nat.mul_one i, add_zero_addr] at this
end
/-- One of the slices exchanged. -/
theorem Hold.set {w : World} {B : Nat} {vs : List SV} {ps : List (List Nat)} (h : Hold w B vs ps) {i : Nat} (hi : i < vs.length) (v : SV) (bs : List Nat) (hc : v.n ≤ v.c) (hb : Bytes w B v.a v.n bs) : Hold w B (vs.set i v) (ps.set i bs) := by
  refine ⟨by rw [List.length_set, List.length_set]; exact h.len, fun k hk => ?_⟩
  rw [List.length_set] at hk
  have hkp : k < ps.length := by rw [← h.len]; exact hk
  by_cases e : i = k
  · subst e
    rw [List.getD_eq_getElem?_getD, List.getElem?_set_self hk, List.getD_eq_getElem?_getD, List.getElem?_set_self hkp]
    exact ⟨hc, hb⟩
  · have := h.each k hk
    rw [List.getD_eq_getElem?_getD, List.getElem?_set_ne e, List.getD_eq_getElem?_getD, List.getElem?_set_ne e]
    rw [List.getD_eq_getElem?_getD, List.getD_eq_getElem?_getD] at this
    exact this
end Go.Proofs.Ytopfdeihjjikiaa
