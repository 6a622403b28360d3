/- Rows of notes that a call made itself: what they hold, how they grow, slices of them. Conditions: at most 8000 notes. -/
import Derived.Test.YtaocppgekinocaaNoteBase
set_option linter.unusedVariables false
set_option linter.unusedSimpArgs false
namespace Go.Proofs.Ytaocppgekinocaa
open Go.RowKit

theorem infoN : (Try.prog.info? 43).map (fun i => (i.zero, i.size, i.bytes)) = some (some (.agg #[.bool false, .int .u64 0, .int .i64 0, .bool false, .int .i64 0]), 5, 40) := by kernel_rfl
theorem elemN : Try.prog.elem 22 = 43 := by kernel_rfl
theorem underN : Try.prog.underlying 22 = some (.slice (Try.prog.elem 22)) := by rw [elemN]; exact Try.underlying22
def noteCells (v : V) : List Value := [.bool v.gone, .int .u64 v.addr, .int .i64 v.page, .bool v.dirty, .int .i64 v.seq]
def cellsN : List V → List Value
  | [] => []
  | v :: r => noteCells v ++ cellsN r
theorem cellsN_len (vs : List V) : (cellsN vs).length = vs.length * 5 := by
  induction vs with
  | nil => rfl
  | cons v r ih => rw [cellsN, List.length_append, ih, List.length_cons]; simp [noteCells]; omega
theorem cellsN_append (a b : List V) : cellsN (a ++ b) = cellsN a ++ cellsN b := by
  induction a with
  | nil => rfl
  | cons v r ih => simp only [List.cons_append, cellsN, ih, List.append_assoc]
theorem cellsN_at (vs : List V) (k j : Nat) (hk : k < vs.length) (hj : j < 5) : (cellsN vs)[k * 5 + j]? = (noteCells (vs.getD k V.zero))[j]? := by
  induction vs generalizing k with
  | nil => simp at hk
  | cons v r ih =>
    rcases k with _ | k
    · rw [cellsN, Nat.zero_mul, Nat.zero_add, List.getElem?_append_left (by simpa [noteCells] using hj)]; rfl
    · rw [cellsN, List.getElem?_append_right (by simp [noteCells]; omega), show (k + 1) * 5 + j - (noteCells v).length = k * 5 + j by simp [noteCells]; omega]
      rw [List.length_cons] at hk
      rw [ih k (by omega)]
      rfl
theorem cellsN_one (vs : List V) : ∀ u ∈ cellsN vs, u.oneCell' = true := by
  induction vs with
  | nil => intro u hu; cases hu
  | cons v r ih =>
    intro u hu
    rcases List.mem_append.1 hu with hu | hu
    · simp only [noteCells, List.mem_cons, List.not_mem_nil, or_false] at hu
      rcases hu with rfl | rfl | rfl | rfl | rfl <;> rfl
    · exact ih u hu
/-- The cells from A on, as the list has them. -/
theorem Notes.cells {w : World} {B n : Nat} {ad : Addr} {vs : List V} (h : Notes w B (some ad) n vs) (j : Nat) (u : Value) (hu : (cellsN vs)[j]? = some u) : w.cell? (ad.add j) = some u := by
  have hj : j < n * 5 := by
    rcases Nat.lt_or_ge j (cellsN vs).length with h' | h'
    · rw [cellsN_len, h.len] at h'; exact h'
    · rw [List.getElem?_eq_none h'] at hu; cases hu
  have e : j = j / 5 * 5 + j % 5 := by omega
  have hk : j / 5 < n := by omega
  obtain ⟨ad', e1, _, c0, c1, c2, c3, c4⟩ := h.each (j / 5) hk
  obtain rfl := Option.some.inj e1
  have hr : j % 5 < 5 := by omega
  rw [e, cellsN_at vs (j / 5) (j % 5) (by rw [h.len]; exact hk) hr] at hu
  rw [e, ← addr_add]
  have ha : ∀ i, (ad.add (j / 5 * 5)).add (i + 1) = ⟨(ad.add (j / 5 * 5)).block, (ad.add (j / 5 * 5)).off + (i + 1), none⟩ := fun i => by simp [Addr.add]
  rcases (by omega : j % 5 = 0 ∨ j % 5 = 1 ∨ j % 5 = 2 ∨ j % 5 = 3 ∨ j % 5 = 4) with h0 | h0 | h0 | h0 | h0 <;> rw [h0] at hu ⊢
  · rw [add_none, c0]; exact hu
  · rw [ha 0, c1]; exact hu
  · rw [ha 1, c2]; exact hu
  · rw [ha 2, c3]; exact hu
  · rw [ha 3, c4]; exact hu
/-- Cells that lie so are notes. -/
theorem notes_of {w : World} {g n : Nat} {vs : List V} (hl : vs.length = n) (hwf : ∀ v ∈ vs, Wf v) (hg : g < w.heap.size) (h : ∀ j u, (cellsN vs)[j]? = some u → w.cell? ⟨g, j, none⟩ = some u) : Notes w w.heap.size (some ⟨g, 0, none⟩) n vs := by
  refine ⟨hl, fun k hk => ⟨_, rfl, hg, ?_⟩, getDN_wf hwf⟩
  rw [add_zero_addr]
  have hk' : k < vs.length := by omega
  exact ⟨h (k * 5) _ (cellsN_at vs k 0 hk' (by omega)), h (k * 5 + 1) _ (cellsN_at vs k 1 hk' (by omega)), h (k * 5 + 2) _ (cellsN_at vs k 2 hk' (by omega)), h (k * 5 + 3) _ (cellsN_at vs k 3 hk' (by omega)), h (k * 5 + 4) _ (cellsN_at vs k 4 hk' (by omega))⟩
/-- A slice of notes whose row is the call's own, or nil. -/
structure OwnN (w : World) (base : Nat) (A : Option Addr) (n c : Nat) (vs : List V) : Prop where
  row : w.ownsRow base 43 5 (.slice A n c) n (cellsN vs)
  wf : ∀ v ∈ vs, Wf v
section
variable {w W W' w' : World} {base n c m c' : Nat} {A A' : Option Addr} {vs us : List V}
theorem OwnN.len (h : OwnN w base A n c vs) : vs.length = n := by have := h.row.1; rw [cellsN_len] at this; omega
theorem OwnN.same (h : OwnN w base A n c vs) (e : vs = us) : OwnN w base A n c us := e ▸ h
theorem OwnN.none_ : OwnN w base none 0 0 [] := ⟨World.ownsRow_nil _ _ _ _, fun v hv => by cases hv⟩
theorem OwnN.elder (h : OwnN w base A n c vs) {base' : Nat} (hb : base' ≤ base) : OwnN w base' A n c vs := by
  refine ⟨⟨h.row.1, ?_⟩, h.wf⟩
  rcases h.row.2 with hn | ⟨g, cap, cur, hv, hbg, rest⟩
  · exact .inl hn
  · exact .inr ⟨g, cap, cur, hv, Nat.le_trans hb hbg, rest⟩
theorem OwnN.since (h : OwnN w base A n c vs) (hb : Below w.heap.size w W) : OwnN W base A n c vs := by
  refine ⟨⟨h.row.1, ?_⟩, h.wf⟩
  rcases h.row.2 with hn | ⟨g, cap, cur, hv, hbg, hg, rest⟩
  · exact .inl hn
  · exact .inr ⟨g, cap, cur, hv, hbg, (hb.block g (Array.getElem?_eq_some_iff.1 hg).1).trans hg, rest⟩
theorem OwnN.cap (h : OwnN w base A n c vs) : n ≤ c := by
  rcases h.row.2 with ⟨hv, hn⟩ | ⟨g, cap, cur, hv, hbg, hg, hnc, _⟩
  · omega
  · injection hv with _ _ h3; omega
theorem OwnN.block_lt (h : OwnN w base A n c vs) : ∀ b, (Value.slice A n c).ownBlock = some b → b < w.heap.size := fun b hb => (h.row.lt b hb).2
theorem OwnN.kept {row : Option Nat} (h : OwnN w base A n c vs) (hg : w.grownBy w' row) (hne : ∀ b, row = some b → b < base) : OwnN w' base A n c vs := by
  refine ⟨h.row.kept hg ?_, h.wf⟩
  cases hb : (Value.slice A n c).ownBlock with
  | none => exact Or.inl rfl
  | some k =>
    refine Or.inr fun e => ?_
    have h1 := (h.row.lt k hb).1
    have h2 := hne k e.symm
    omega
theorem OwnN.elsewhere {B : Nat} (h : OwnN w base A n c vs) (hg : w.grownBy w' (Value.slice A n c).ownBlock) (hB : B ≤ base) (hw : B ≤ w.heap.size) : Below B w w' :=
  (Below.refl B w).grown hg hw fun k hk => Nat.le_trans hB (h.row.lt k hk).1
theorem OwnN.notes (h : OwnN w base A n c vs) : Notes w w.heap.size A n vs := by
  rcases h.row.2 with ⟨hv, hn⟩ | ⟨g, cap, cur, hv, hbg, hg, hnc, hcm, hsz, ht⟩
  · have hl := h.len
    subst hn
    obtain rfl := List.eq_nil_of_length_eq_zero hl
    exact Notes.none_
  · have hA : A = some ⟨g, 0, none⟩ := by injection hv
    subst hA
    refine notes_of h.len h.wf (Array.getElem?_eq_some_iff.1 hg).1 fun j u hu => ?_
    have := h.row.cells (g := g) rfl j u hu
    rwa [add_zero_addr] at this
end
theorem append_notes_g (w W : World) (hS : Below w.heap.size w W) (v : Value) (n : Nat) (vs : List V) (hown : W.ownsRow w.heap.size 43 5 v n (cellsN vs)) (A : Option Addr) (m c : Nat) (us : List V)
    (hA : Notes W W.heap.size A m us) (hnm : n + m ≤ 8000) :
    ∃ A' c' W', (Builtin.append_ #[22, 22] 22 #[v, .slice A m c]).run Try.prog W = .ok (.slice A' (n + m) c') W' ∧ W'.ownsRow w.heap.size 43 5 (.slice A' (n + m) c') (n + m) (cellsN (vs ++ us)) ∧ Below w.heap.size w W' ∧ W.grownBy W' v.ownBlock := by
  obtain ⟨i0, hi, hz0, hz1, hz2⟩ := info_parts infoN
  have hform : ∀ (v' : Value) (W' : World) (xs : List Value), W'.ownsRow w.heap.size 43 5 v' (n + m) xs → ∃ A' c', v' = .slice A' (n + m) c' := by
    intro v' W' xs h
    rcases h.2 with ⟨hv, hx⟩ | ⟨g, cap, cur, hv, _⟩
    · exact ⟨none, 0, by rw [hv, hx]⟩
    · exact ⟨_, _, hv⟩
  rcases A with _ | ad
  · have hm0 : m = 0 := by
      rcases Nat.eq_zero_or_pos m with h | h
      · exact h
      · obtain ⟨ad, h', _⟩ := hA.each 0 h
        cases h'
    subst hm0
    have hcs : us = [] := List.eq_nil_of_length_eq_zero hA.len
    subst hcs
    obtain ⟨A', c', rfl⟩ := hform v W _ hown
    refine ⟨A', c', W, ?_, by simpa using hown, hS, World.grownBy.refl _ _⟩
    rcases hown.2 with ⟨hv, hx⟩ | ⟨g, cap, cur, hv, _, _, hnc, _⟩
    · injection hv with h1 h2 h3
      subst h1 h3
      have hn0 : n = 0 := by omega
      subst hn0
      simp [Builtin.append_, run_underlying Try.underlying22, sizeOf, typeInfo, hi, Builtin.lenOf, Builtin.firstCells]
    · injection hv with h1 h2 h3
      subst h1 h3
      have hnc' : n ≤ c' := by omega
      simp [Builtin.append_, run_underlying Try.underlying22, sizeOf, typeInfo, hi, Builtin.lenOf, Builtin.firstCells, storeCells, hnc']
  · obtain ⟨v', W', hr, ho, hg, _⟩ := run_append_own (P := Try.prog) W w.heap.size 22 22 43 i0 _ 5 40 Try.underlying22 hi hz0 hz1 hz2 rfl (by omega) v n (cellsN vs) hown ad m c (cellsN us) (by rw [cellsN_len, hA.len]) hA.cells (cellsN_one us)
      (by unfold maxLen; omega) (by omega) hS.size
    obtain ⟨A', c', rfl⟩ := hform v' W' _ ho
    refine ⟨A', c', W', hr, ?_, hS.grown hg hS.size (fun k hk => (hown.lt k hk).1), hg⟩
    rw [cellsN_append]; exact ho
section
variable {w W : World} {base n c m c' : Nat} {A A' : Option Addr} {vs us : List V}
/-- append(row, others..), for whatever came behind: what lies below 'base' stays. -/
theorem ownN_append (hS : Below w.heap.size w W) (h : OwnN W w.heap.size A n c vs) (hA : Notes W W.heap.size A' m us) (hnm : n + m ≤ 8000) :
    ∃ A2 c2 W2, (Builtin.append_ #[22, 22] 22 #[.slice A n c, .slice A' m c']).run Try.prog W = .ok (.slice A2 (n + m) c2) W2 ∧ OwnN W2 w.heap.size A2 (n + m) c2 (vs ++ us) ∧ Below w.heap.size w W2 := by
  obtain ⟨A2, c2, W2, hr, ho, hb, hg⟩ := append_notes_g w W hS _ n vs h.row A' m c' us hA hnm
  exact ⟨A2, c2, W2, hr, ⟨ho, fun v hv => by
    rcases List.mem_append.1 hv with hv | hv
    · exact h.wf v hv
    · exact hA.all v hv⟩, hb⟩
theorem notes_new1 (W : World) (v : V) (hv : Wf v) : Notes (W.alloc (.cells #[.bool v.gone, .int .u64 v.addr, .int .i64 v.page, .bool v.dirty, .int .i64 v.seq] 43)) (W.alloc (.cells #[.bool v.gone, .int .u64 v.addr, .int .i64 v.page, .bool v.dirty, .int .i64 v.seq] 43)).heap.size (some ⟨W.heap.size, 0, none⟩) 1 [v] :=
  notes_of rfl (fun u hu => by rw [List.mem_singleton.1 hu]; exact hv) (by simp) fun j u hu => by
    rw [cell_new]
    have : (cellsN [v])[j]? = (#[.bool v.gone, .int .u64 v.addr, .int .i64 v.page, .bool v.dirty, .int .i64 v.seq] : Array Value)[j]? := by simp [cellsN, noteCells]
    rw [← this]; exact hu
/-- append(row, v) -/
theorem ownN_append_one (hS : Below w.heap.size w W) (h : OwnN W w.heap.size A n c vs) (v : V) (hv : Wf v) (hn : n + 1 ≤ 8000) :
    ∃ A2 c2 W2, (Builtin.append_ #[22, 22] 22 #[.slice A n c, .slice (some ⟨W.heap.size, 0, none⟩) 1 1]).run Try.prog (W.alloc (.cells #[.bool v.gone, .int .u64 v.addr, .int .i64 v.page, .bool v.dirty, .int .i64 v.seq] 43)) = .ok (.slice A2 (n + 1) c2) W2 ∧ OwnN W2 w.heap.size A2 (n + 1) c2 (vs ++ [v]) ∧ Below w.heap.size w W2 :=
  ownN_append (since_alloc hS _) (h.since ((Below.refl _ _).alloc (Nat.le_refl _) _)) (notes_new1 W v hv) hn
end
theorem sliceN_to (A : Option Addr) (n c k : Nat) (hk : k ≤ n) (hc : n ≤ c) (W : World) :
    (Instr.slice 22 (.slice A n c) none (some (.int .i64 (k : Int))) none).run Try.prog W = .ok (.slice A k c) W := by
  obtain ⟨i0, hi, hz0, hz1, hz2⟩ := info_parts infoN
  have h := run_slice_h (P := Try.prog) (w := W) 22 A n c underN .i64 (k : Int) (by omega) (by omega)
  rw [h, elemN]
  cases A <;> simp [sizeOf, typeInfo, hi, hz1, sliced, add_none]
theorem sliceN_from (A : Option Addr) (n c k : Nat) (hk : k ≤ n) (W : World) :
    (Instr.slice 22 (.slice A n c) (some (.int .i64 (k : Int))) none none).run Try.prog W = .ok (.slice (if c = k then A else A.map (·.add (k * 5))) (n - k) (c - k)) W := by
  obtain ⟨i0, hi, hz0, hz1, hz2⟩ := info_parts infoN
  have h := run_slice_l (P := Try.prog) (w := W) 22 A n c underN .i64 (k : Int) (by omega) (by omega)
  rw [h, elemN]
  simp [sizeOf, typeInfo, hi, hz1, sliced]
end Go.Proofs.Ytaocppgekinocaa
