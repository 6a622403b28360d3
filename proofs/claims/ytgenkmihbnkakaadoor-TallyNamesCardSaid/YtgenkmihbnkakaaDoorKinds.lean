/- Slices of structs (or of whatever has k cells each), for any kind of element: their cells, rows of the call's own, appends, slice expressions. Conditions: the slices' cells; at most 8000 elements. -/
import Derived.Test.YtgenkmihbnkakaaDoorOver
set_option linter.unusedVariables false
set_option linter.unusedSimpArgs false
set_option maxRecDepth 20000
namespace Go.Proofs.YtgenkmihbnkakaaDoor
open Go.RowKit

/-- A kind of element: its type, its slices' type, its cells. -/
structure Kind (α : Type) where
  T : TypeId
  L : TypeId
  k : Nat
  cv : α → List Value
  wf : α → Prop
  dflt : α
  len : ∀ v, (cv v).length = k
  one : ∀ v u, u ∈ cv v → u.oneCell' = true
  pos : 0 < k
  ok : wf dflt
  under : Tryd.prog.underlying L = some (.slice T)
  elem : Tryd.prog.elem L = T
  info : ∃ i z, Tryd.prog.info? T = some i ∧ i.zero = some z ∧ i.size = k ∧ i.bytes ≤ 1000 ∧ z.cells.size = k
namespace Kind
variable {α : Type} (K : Kind α)
def cells : List α → List Value
  | [] => []
  | v :: r => K.cv v ++ cells r
theorem cells_len (vs : List α) : (K.cells vs).length = vs.length * K.k := by
  induction vs with
  | nil => simp [cells]
  | cons v r ih => rw [cells, List.length_append, ih, K.len, List.length_cons, Nat.add_mul, Nat.one_mul]; omega
theorem cells_append (a b : List α) : K.cells (a ++ b) = K.cells a ++ K.cells b := by
  induction a with
  | nil => rfl
  | cons v r ih => simp only [List.cons_append, cells, ih, List.append_assoc]
theorem cells_at (vs : List α) (i j : Nat) (hi : i < vs.length) (hj : j < K.k) : (K.cells vs)[i * K.k + j]? = (K.cv (vs.getD i K.dflt))[j]? := by
  induction vs generalizing i with
  | nil => simp at hi
  | cons v r ih =>
    rcases i with _ | i
    · rw [cells, Nat.zero_mul, Nat.zero_add, List.getElem?_append_left (by rw [K.len]; exact hj)]; rfl
    · have e : (i + 1) * K.k + j - (K.cv v).length = i * K.k + j := by rw [K.len, Nat.add_mul, Nat.one_mul]; omega
      rw [cells, List.getElem?_append_right (by rw [K.len, Nat.add_mul, Nat.one_mul]; omega), e]
      rw [List.length_cons] at hi
      rw [ih i (by omega)]
      rfl
theorem cells_one (vs : List α) : ∀ u ∈ K.cells vs, u.oneCell' = true := by
  induction vs with
  | nil => intro u hu; cases hu
  | cons v r ih =>
    intro u hu
    rcases List.mem_append.1 hu with hu | hu
    · exact K.one v u hu
    · exact ih u hu
/-- One element's cells, from place p on. -/
def At (w : World) (p : Addr) (v : α) : Prop := ∀ j u, (K.cv v)[j]? = some u → w.cell? (p.add j) = some u
structure Lie (w : World) (B : Nat) (A : Option Addr) (n : Nat) (vs : List α) : Prop where
  len : vs.length = n
  each : ∀ i, i < n → ∃ ad, A = some ad ∧ ad.block < B ∧ K.At w (ad.add (i * K.k)) (vs.getD i K.dflt)
  wf : ∀ i, K.wf (vs.getD i K.dflt)
variable {K} {w w' W W' : World} {B B' base n c m c' : Nat} {A A' : Option Addr} {vs us : List α} {p : Addr} {v : α}
theorem At.kept (h : K.At w p v) (e : ∀ q : Addr, q.block = p.block → w'.cell? q = w.cell? q) : K.At w' p v := fun j u hu => (e _ (addr_block _ _)).trans (h j u hu)
theorem Lie.none_ : K.Lie w B A 0 [] := ⟨rfl, fun k hk => absurd hk (Nat.not_lt_zero k), fun k => K.ok⟩
theorem Lie.below (h : K.Lie w B A n vs) (hb : Below B w w') : K.Lie w' B A n vs := ⟨h.len, fun k hk => by
  obtain ⟨ad, e1, e2, e3⟩ := h.each k hk
  exact ⟨ad, e1, e2, e3.kept fun q hq => hb.cell (by rw [hq, addr_block]; exact e2)⟩, h.wf⟩
theorem Lie.back (h : K.Lie w' B A n vs) (hb : Below B w w') : K.Lie w B A n vs := ⟨h.len, fun k hk => by
  obtain ⟨ad, e1, e2, e3⟩ := h.each k hk
  exact ⟨ad, e1, e2, e3.kept fun q hq => (hb.cell (by rw [hq, addr_block]; exact e2)).symm⟩, h.wf⟩
theorem Lie.wider (h : K.Lie w B A n vs) (hB : B ≤ B') : K.Lie w B' A n vs := ⟨h.len, fun k hk => by
  obtain ⟨ad, e1, e2, e3⟩ := h.each k hk
  exact ⟨ad, e1, Nat.lt_of_lt_of_le e2 hB, e3⟩, h.wf⟩
theorem Lie.since (h : K.Lie w w.heap.size A n vs) (hb : Below w.heap.size w w') : K.Lie w' w'.heap.size A n vs := (h.below hb).wider hb.size
theorem Lie.same (h : K.Lie w B A n vs) (e : vs = us) : K.Lie w B A n us := e ▸ h
theorem getD_firsts (k j : Nat) (h : j < k) : (vs.take k).getD j K.dflt = vs.getD j K.dflt := by
  rw [List.getD_eq_getElem?_getD, List.getD_eq_getElem?_getD, List.getElem?_take_of_lt h]
theorem getD_rest (k j : Nat) : (vs.drop k).getD j K.dflt = vs.getD (k + j) K.dflt := by
  rw [List.getD_eq_getElem?_getD, List.getD_eq_getElem?_getD, List.getElem?_drop]
theorem Lie.first (h : K.Lie w B A n vs) {k : Nat} (hk : k ≤ n) : K.Lie w B A k (vs.take k) :=
  ⟨by rw [List.length_take, h.len]; omega, fun j hj => by
    obtain ⟨ad, e1, e2, e3⟩ := h.each j (by omega)
    exact ⟨ad, e1, e2, by rw [getD_firsts _ _ hj]; exact e3⟩,
   fun j => by
    by_cases hj : j < k
    · rw [getD_firsts _ _ hj]; exact h.wf j
    · rw [List.getD_eq_getElem?_getD, List.getElem?_eq_none (by rw [List.length_take]; omega)]; exact K.ok⟩
theorem Lie.rest (h : K.Lie w B A n vs) {k c : Nat} (hk : k ≤ n) (hc : n ≤ c) : K.Lie w B (if c = k then A else A.map (·.add (k * K.k))) (n - k) (vs.drop k) :=
  ⟨by rw [List.length_drop, h.len], fun j hj => by
    obtain ⟨ad, e1, e2, e3⟩ := h.each (k + j) (by omega)
    rw [if_neg (by omega), e1]
    refine ⟨ad.add (k * K.k), rfl, by rw [addr_block]; exact e2, ?_⟩
    rw [addr_add, getD_rest, ← Nat.add_mul]
    exact e3, fun j => by rw [getD_rest]; exact h.wf _⟩
theorem Lie.all (h : K.Lie w B A n vs) : ∀ v ∈ vs, K.wf v := by
  intro v hv
  obtain ⟨i, hi, rfl⟩ := List.mem_iff_getElem.1 hv
  have := h.wf i
  rw [List.getD_eq_getElem?_getD, List.getElem?_eq_getElem hi] at this
  exact this
theorem getD_wf (h : ∀ v ∈ vs, K.wf v) (k : Nat) : K.wf (vs.getD k K.dflt) := by
  rw [List.getD_eq_getElem?_getD]
  cases hk : vs[k]? with
  | none => exact K.ok
  | some b => exact h b (List.mem_of_getElem? hk)
/-- The cells from A on, as the list has them. -/
theorem Lie.cells {ad : Addr} (h : K.Lie w B (some ad) n vs) (j : Nat) (u : Value) (hu : (K.cells vs)[j]? = some u) : w.cell? (ad.add j) = some u := by
  have hk := K.pos
  have hj : j < n * K.k := by
    rcases Nat.lt_or_ge j (K.cells vs).length with h' | h'
    · rw [K.cells_len, h.len] at h'; exact h'
    · rw [List.getElem?_eq_none h'] at hu; cases hu
  have e : j = j / K.k * K.k + j % K.k := by rw [Nat.mul_comm]; exact (Nat.div_add_mod j K.k).symm
  have hq : j / K.k < n := by rw [Nat.div_lt_iff_lt_mul hk]; exact hj
  obtain ⟨ad', e1, _, e3⟩ := h.each (j / K.k) hq
  obtain rfl := Option.some.inj e1
  have hr : j % K.k < K.k := Nat.mod_lt _ hk
  rw [e, K.cells_at vs (j / K.k) (j % K.k) (by rw [h.len]; exact hq) hr] at hu
  rw [e, ← addr_add]
  exact e3 _ _ hu
theorem lie_of {g : Nat} (hl : vs.length = n) (hwf : ∀ v ∈ vs, K.wf v) (hg : g < w.heap.size) (h : ∀ j u, (K.cells vs)[j]? = some u → w.cell? ⟨g, j, none⟩ = some u) : K.Lie w w.heap.size (some ⟨g, 0, none⟩) n vs := by
  refine ⟨hl, fun i hi => ⟨_, rfl, hg, fun j u hu => ?_⟩, getD_wf hwf⟩
  have hj : j < K.k := by
    rcases Nat.lt_or_ge j (K.cv (vs.getD i K.dflt)).length with h' | h'
    · rw [K.len] at h'; exact h'
    · rw [List.getElem?_eq_none h'] at hu; cases hu
  rw [add_zero_addr]
  have := h (i * K.k + j) u (by rw [K.cells_at vs i j (by omega) hj]; exact hu)
  have e : (⟨g, i * K.k, none⟩ : Addr).add j = ⟨g, i * K.k + j, none⟩ := by
    unfold Addr.add
    split
    · next h0 => simp_all
    · rfl
  rw [e]; exact this
/-- A slice whose row is the call's own (from block 'base' on), or nil. -/
structure Row (K : Kind α) (w : World) (base : Nat) (A : Option Addr) (n c : Nat) (vs : List α) : Prop where
  row : w.ownsRow base K.T K.k (.slice A n c) n (K.cells vs)
  wf : ∀ v ∈ vs, K.wf v
theorem Row.len (h : K.Row w base A n c vs) : vs.length = n := by
  have := h.row.1
  rw [K.cells_len] at this
  exact Nat.eq_of_mul_eq_mul_right K.pos this
theorem Row.same (h : K.Row w base A n c vs) (e : vs = us) : K.Row w base A n c us := e ▸ h
theorem Row.none_ : K.Row w base none 0 0 [] := ⟨World.ownsRow_nil _ _ _ _, fun v hv => by cases hv⟩
theorem Row.elder (h : K.Row w base A n c vs) {base' : Nat} (hb : base' ≤ base) : K.Row w base' A n c vs := by
  refine ⟨⟨h.row.1, ?_⟩, h.wf⟩
  rcases h.row.2 with hn | ⟨g, cap, cur, hv, hbg, rest⟩
  · exact .inl hn
  · exact .inr ⟨g, cap, cur, hv, Nat.le_trans hb hbg, rest⟩
theorem Row.since (h : K.Row w base A n c vs) (hb : Below w.heap.size w W) : K.Row W base A n c vs := by
  refine ⟨⟨h.row.1, ?_⟩, h.wf⟩
  rcases h.row.2 with hn | ⟨g, cap, cur, hv, hbg, hg, rest⟩
  · exact .inl hn
  · exact .inr ⟨g, cap, cur, hv, hbg, (hb.block g (Array.getElem?_eq_some_iff.1 hg).1).trans hg, rest⟩
theorem Row.cap (h : K.Row w base A n c vs) : n ≤ c := by
  rcases h.row.2 with ⟨hv, hn⟩ | ⟨g, cap, cur, hv, hbg, hg, hnc, _⟩
  · omega
  · injection hv with _ _ h3; omega
theorem Row.block_lt (h : K.Row w base A n c vs) : ∀ b, (Value.slice A n c).ownBlock = some b → b < w.heap.size := fun b hb => (h.row.lt b hb).2
theorem Row.kept {row : Option Nat} (h : K.Row w base A n c vs) (hg : w.grownBy w' row) (hne : ∀ b, row = some b → b < base) : K.Row w' base A n c vs := by
  refine ⟨h.row.kept hg ?_, h.wf⟩
  cases hb : (Value.slice A n c).ownBlock with
  | none => exact Or.inl rfl
  | some k =>
    refine Or.inr fun e => ?_
    have h1 := (h.row.lt k hb).1
    have h2 := hne k e.symm
    omega
theorem Row.other {b : Nat} (h : K.Row w base A n c vs) (hg : w.grownBy w' (some b)) (hn : ∀ k, (Value.slice A n c).ownBlock = some k → k ≠ b) : K.Row w' base A n c vs := by
  refine ⟨h.row.kept hg ?_, h.wf⟩
  cases hb : (Value.slice A n c).ownBlock with
  | none => exact Or.inl rfl
  | some k => exact Or.inr fun e => hn k hb (Option.some.inj e)
theorem Row.elsewhere (h : K.Row w base A n c vs) (hg : w.grownBy w' (Value.slice A n c).ownBlock) (hB : B ≤ base) (hw : B ≤ w.heap.size) : Below B w w' :=
  (Below.refl B w).grown hg hw fun k hk => Nat.le_trans hB (h.row.lt k hk).1
theorem Row.lie (h : K.Row w base A n c vs) : K.Lie w w.heap.size A n vs := by
  rcases h.row.2 with ⟨hv, hn⟩ | ⟨g, cap, cur, hv, hbg, hg, hnc, hcm, hsz, ht⟩
  · have hl := h.len
    subst hn
    obtain rfl := List.eq_nil_of_length_eq_zero hl
    exact Lie.none_
  · have hA : A = some ⟨g, 0, none⟩ := by injection hv
    subst hA
    refine lie_of h.len h.wf (Array.getElem?_eq_some_iff.1 hg).1 fun j u hu => ?_
    have := h.row.cells (g := g) rfl j u hu
    rwa [add_zero_addr] at this
theorem append_g (hS : Below w.heap.size w W) (h : K.Row W w.heap.size A n c vs) (hA : K.Lie W W.heap.size A' m us) (hnm : n + m ≤ 8000) :
    ∃ A2 c2 W2, (Builtin.append_ #[K.L, K.L] K.L #[.slice A n c, .slice A' m c']).run Tryd.prog W = .ok (.slice A2 (n + m) c2) W2 ∧ K.Row W2 w.heap.size A2 (n + m) c2 (vs ++ us) ∧ Below w.heap.size w W2 ∧ W.grownBy W2 (Value.slice A n c).ownBlock := by
  obtain ⟨i0, z, hi, hz0, hz1, hz2, hz3⟩ := K.info
  have hform : ∀ (v' : Value) (W' : World) (xs : List Value), W'.ownsRow w.heap.size K.T K.k v' (n + m) xs → ∃ A' c', v' = .slice A' (n + m) c' := by
    intro v' W' xs h
    rcases h.2 with ⟨hv, hx⟩ | ⟨g, cap, cur, hv, _⟩
    · exact ⟨none, 0, by rw [hv, hx]⟩
    · exact ⟨_, _, hv⟩
  have hwf : ∀ v ∈ vs ++ us, K.wf v := fun v hv => by
    rcases List.mem_append.1 hv with hv | hv
    · exact h.wf v hv
    · exact hA.all v hv
  rcases A' with _ | ad
  · have hm0 : m = 0 := by
      rcases Nat.eq_zero_or_pos m with h | h
      · exact h
      · obtain ⟨ad, h', _⟩ := hA.each 0 h
        cases h'
    subst hm0
    have hcs : us = [] := List.eq_nil_of_length_eq_zero hA.len
    subst hcs
    refine ⟨A, c, W, ?_, by simpa using h, hS, World.grownBy.refl _ _⟩
    rcases h.row.2 with ⟨hv, hx⟩ | ⟨g, cap, cur, hv, _, _, hnc, _⟩
    · injection hv with h1 h2 h3
      subst h1 h3
      have hn0 : n = 0 := by omega
      subst hn0
      simp [Builtin.append_, run_underlying K.under, sizeOf, typeInfo, hi, Builtin.lenOf, Builtin.firstCells]
    · injection hv with h1 h2 h3
      subst h1 h3
      have hnc' : n ≤ c := by omega
      simp [Builtin.append_, run_underlying K.under, sizeOf, typeInfo, hi, Builtin.lenOf, Builtin.firstCells, storeCells, hnc']
  · have hb : (n + m) * i0.bytes ≤ 8000 * 1000 := Nat.mul_le_mul hnm hz2
    obtain ⟨v', W', hr, ho, hg, _⟩ := run_append_own (P := Tryd.prog) W w.heap.size K.L K.L K.T i0 z K.k i0.bytes K.under hi hz0 hz1 rfl hz3 K.pos (.slice A n c) n (K.cells vs) h.row ad m c' (K.cells us) (by rw [K.cells_len, hA.len]) hA.cells (K.cells_one us)
      (by unfold maxLen; omega) (by omega) hS.size
    obtain ⟨A2, c2, rfl⟩ := hform v' W' _ ho
    refine ⟨A2, c2, W', hr, ⟨?_, hwf⟩, hS.grown hg hS.size (fun k hk => (h.row.lt k hk).1), hg⟩
    rw [K.cells_append]; exact ho
theorem append_b (hb : base ≤ W.heap.size) (h : K.Row W base A n c vs) (hA : K.Lie W W.heap.size A' m us) (hnm : n + m ≤ 8000) :
    ∃ A2 c2 W2, (Builtin.append_ #[K.L, K.L] K.L #[.slice A n c, .slice A' m c']).run Tryd.prog W = .ok (.slice A2 (n + m) c2) W2 ∧ K.Row W2 base A2 (n + m) c2 (vs ++ us) ∧ W.grownBy W2 (Value.slice A n c).ownBlock := by
  let w0 : World := { W with heap := W.heap.extract 0 base }
  have hs : w0.heap.size = base := by show (W.heap.extract 0 base).size = base; simp; omega
  have hS : Below w0.heap.size w0 W := ⟨rfl, rfl, rfl, by rw [hs]; exact hb, fun k hk => by
    rw [hs] at hk
    show W.heap[k]? = (W.heap.extract 0 base)[k]?
    rw [Array.getElem?_extract]
    simp; omega⟩
  obtain ⟨A2, c2, W2, hr, ho, _, hg⟩ := append_g (c' := c') hS (by rw [hs]; exact h) hA hnm
  rw [hs] at ho
  exact ⟨A2, c2, W2, hr, ho, hg⟩
/-- Where the row that was appended to lies: where it was, or in a new block. -/
theorem append_at (h : K.Row W base A n c vs) (hA : K.Lie W W.heap.size A' m us) (hnm : n + m ≤ 8000) {A2 : Option Addr} {N2 c2 : Nat} {W2 : World} (hr : (Builtin.append_ #[K.L, K.L] K.L #[.slice A n c, .slice A' m c']).run Tryd.prog W = .ok (.slice A2 N2 c2) W2) :
    ∀ b, (Value.slice A2 N2 c2).ownBlock = some b → (Value.slice A n c).ownBlock = some b ∨ W.heap.size ≤ b := by
  obtain ⟨i0, z, hi, hz0, hz1, hz2, hz3⟩ := K.info
  have fin : ∀ (v : Value) (w : World), (Builtin.append_ #[K.L, K.L] K.L #[.slice A n c, .slice A' m c']).run Tryd.prog W = .ok v w → (∀ b, v.ownBlock = some b → (Value.slice A n c).ownBlock = some b ∨ W.heap.size ≤ b) → ∀ b, (Value.slice A2 N2 c2).ownBlock = some b → (Value.slice A n c).ownBlock = some b ∨ W.heap.size ≤ b := by
    intro v w h1 h2
    rw [hr] at h1
    injection h1 with h1 _
    rw [h1]; exact h2
  rcases A' with _ | ad
  · have hm0 : m = 0 := by
      rcases Nat.eq_zero_or_pos m with h | h
      · exact h
      · obtain ⟨ad, h', _⟩ := hA.each 0 h
        cases h'
    subst hm0
    refine fin (.slice A n c) W ?_ (fun b hb => Or.inl hb)
    rcases h.row.2 with ⟨hv, hx⟩ | ⟨g, cap, cur, hv, _, _, hnc, _⟩
    · injection hv with h1 h2 h3
      subst h1 h3
      have hn0 : n = 0 := by omega
      subst hn0
      simp [Builtin.append_, run_underlying K.under, sizeOf, typeInfo, hi, Builtin.lenOf, Builtin.firstCells]
    · injection hv with h1 h2 h3
      subst h1 h3
      have hnc' : n ≤ c := by omega
      simp [Builtin.append_, run_underlying K.under, sizeOf, typeInfo, hi, Builtin.lenOf, Builtin.firstCells, storeCells, hnc']
  · have hl : (K.cells us).length = m * i0.size := by rw [hz1, K.cells_len, hA.len]
    have hbm : m * i0.bytes ≤ 8000 * 1000 := Nat.mul_le_mul (by omega) hz2
    have hbn : (n + m) * i0.bytes ≤ 8000 * 1000 := Nat.mul_le_mul hnm hz2
    rcases h.row.2 with ⟨hv, hx⟩ | ⟨g, cap, cur, hv, hbg, hg, hnc, hcm, hcs, ht⟩
    · injection hv with h1 h2 h3
      subst h1 h3
      have hn0 : n = 0 := by omega
      subst hn0
      by_cases hm : m = 0
      · subst hm
        refine fin (.slice none 0 0) W ?_ (fun b hb => by cases hb)
        simp [Builtin.append_, run_underlying K.under, sizeOf, typeInfo, hi, Builtin.lenOf, Builtin.firstCells, loadCells, loadCellsFrom]
      · have hr2 := run_append_nil (P := Tryd.prog) W K.L K.L K.T i0 z K.under hi hz0 ad m c' (K.cells us) hl hA.cells (by omega) (by omega) (by omega)
        exact fin _ _ hr2 (fun b hb => Or.inr (by have : W.heap.size = b := by simpa [Value.ownBlock] using hb
                                                  omega))
    · injection hv with h1 h2 h3
      subst h1 h3
      by_cases hroom : n + m ≤ c
      · have hr2 := run_append_room (P := Tryd.prog) W K.L K.L K.T i0 K.under hi g n c cur hg ad m c' (K.cells us) hl hA.cells (K.cells_one us) hroom (by rw [hl, hz1, ← Nat.add_mul, hcs]; exact Nat.mul_le_mul_right _ hroom)
        exact fin _ _ hr2 (fun b hb => Or.inl hb)
      · have holds := h.row.cells (g := g) rfl
        have hr2 := run_append_grow (P := Tryd.prog) W K.L K.L K.T i0 z K.under hi hz0 ⟨g, 0, none⟩ n c (K.cells vs) (by rw [hz1, K.cells_len, h.len]) holds ad m c' (K.cells us) hl hA.cells (by omega) (by omega) (growslice_fits (by omega) (by omega))
        exact fin _ _ hr2 (fun b hb => Or.inr (by have : W.heap.size = b := by simpa [Value.ownBlock] using hb
                                                  omega))
theorem new1 (W : World) (v : α) (hv : K.wf v) (cs : Array Value) (hcs : cs = (K.cv v).toArray) : K.Lie (W.alloc (.cells cs K.T)) (W.alloc (.cells cs K.T)).heap.size (some ⟨W.heap.size, 0, none⟩) 1 [v] := by
  subst hcs
  refine lie_of rfl (fun u hu => by rw [List.mem_singleton.1 hu]; exact hv) (by simp) fun j u hu => ?_
  rw [cell_new]
  simpa [cells] using hu
/-- append(row, v): the new element's cells lie in a new row of one. -/
theorem append_one (hS : Below w.heap.size w W) (h : K.Row W w.heap.size A n c vs) (v : α) (hv : K.wf v) (cs : Array Value) (hcs : cs = (K.cv v).toArray) (hn : n + 1 ≤ 8000) :
    ∃ A2 c2 W2, (Builtin.append_ #[K.L, K.L] K.L #[.slice A n c, .slice (some ⟨W.heap.size, 0, none⟩) 1 1]).run Tryd.prog (W.alloc (.cells cs K.T)) = .ok (.slice A2 (n + 1) c2) W2 ∧ K.Row W2 w.heap.size A2 (n + 1) c2 (vs ++ [v]) ∧ Below w.heap.size w W2 ∧ W.grownBy W2 (Value.slice A n c).ownBlock := by
  obtain ⟨A2, c2, W2, hr, ho, hb, hg⟩ := append_g (c' := 1) (since_alloc hS (.cells cs K.T)) (h.since ((Below.refl _ _).alloc (Nat.le_refl _) _)) (new1 W v hv cs hcs) hn
  exact ⟨A2, c2, W2, hr, ho, hb, grownBy_trans (World.grownBy_alloc _ _ _) hg⟩
theorem append_one_b (hb : base ≤ W.heap.size) (h : K.Row W base A n c vs) (v : α) (hv : K.wf v) (cs : Array Value) (hcs : cs = (K.cv v).toArray) (hn : n + 1 ≤ 8000) :
    ∃ A2 c2 W2, (Builtin.append_ #[K.L, K.L] K.L #[.slice A n c, .slice (some ⟨W.heap.size, 0, none⟩) 1 1]).run Tryd.prog (W.alloc (.cells cs K.T)) = .ok (.slice A2 (n + 1) c2) W2 ∧ K.Row W2 base A2 (n + 1) c2 (vs ++ [v]) ∧ W.grownBy W2 (Value.slice A n c).ownBlock := by
  obtain ⟨A2, c2, W2, hr, ho, hg⟩ := append_b (c' := 1) (base := base) (W := W.alloc (.cells cs K.T)) (by simp; omega) (h.since ((Below.refl _ _).alloc (Nat.le_refl _) _)) (new1 W v hv cs hcs) hn
  exact ⟨A2, c2, W2, hr, ho, grownBy_trans (World.grownBy_alloc _ _ _) hg⟩
/-- append(row, v), and where the row lies then. -/
theorem append_one_at (hb : base ≤ W.heap.size) (h : K.Row W base A n c vs) (v : α) (hv : K.wf v) (cs : Array Value) (hcs : cs = (K.cv v).toArray) (hn : n + 1 ≤ 8000) :
    ∃ A2 c2 W2, (Builtin.append_ #[K.L, K.L] K.L #[.slice A n c, .slice (some ⟨W.heap.size, 0, none⟩) 1 1]).run Tryd.prog (W.alloc (.cells cs K.T)) = .ok (.slice A2 (n + 1) c2) W2 ∧ K.Row W2 base A2 (n + 1) c2 (vs ++ [v]) ∧ W.grownBy W2 (Value.slice A n c).ownBlock ∧
      ∀ b, (Value.slice A2 (n + 1) c2).ownBlock = some b → (Value.slice A n c).ownBlock = some b ∨ W.heap.size ≤ b := by
  have hL := new1 W v hv cs hcs
  have hR : K.Row (W.alloc (.cells cs K.T)) base A n c vs := h.since ((Below.refl _ _).alloc (Nat.le_refl _) _)
  obtain ⟨A2, c2, W2, hr, ho, hg⟩ := append_b (c' := 1) (base := base) (W := W.alloc (.cells cs K.T)) (by simp; omega) hR hL hn
  refine ⟨A2, c2, W2, hr, ho, grownBy_trans (World.grownBy_alloc _ _ _) hg, fun b hb => ?_⟩
  rcases append_at hR hL hn hr b hb with h1 | h1
  · exact Or.inl h1
  · exact Or.inr (by simp at h1; omega)
variable (K)
theorem slice_to (A : Option Addr) (n c k : Nat) (hk : k ≤ n) (hc : n ≤ c) (W : World) :
    (Instr.slice K.L (.slice A n c) none (some (.int .i64 (k : Int))) none).run Tryd.prog W = .ok (.slice A k c) W := by
  obtain ⟨i0, z, hi, hz0, hz1, hz2, hz3⟩ := K.info
  have hu : Tryd.prog.underlying K.L = some (.slice (Tryd.prog.elem K.L)) := by rw [K.elem]; exact K.under
  have h := run_slice_h (P := Tryd.prog) (w := W) K.L A n c hu .i64 (k : Int) (by omega) (by omega)
  rw [h, K.elem]
  cases A <;> simp [sizeOf, typeInfo, hi, hz1, sliced, add_none]
theorem slice_from (A : Option Addr) (n c k : Nat) (hk : k ≤ n) (W : World) :
    (Instr.slice K.L (.slice A n c) (some (.int .i64 (k : Int))) none none).run Tryd.prog W = .ok (.slice (if c = k then A else A.map (·.add (k * K.k))) (n - k) (c - k)) W := by
  obtain ⟨i0, z, hi, hz0, hz1, hz2, hz3⟩ := K.info
  have hu : Tryd.prog.underlying K.L = some (.slice (Tryd.prog.elem K.L)) := by rw [K.elem]; exact K.under
  have h := run_slice_l (P := Tryd.prog) (w := W) K.L A n c hu .i64 (k : Int) (by omega) (by omega)
  rw [h, K.elem]
  simp [sizeOf, typeInfo, hi, hz1, sliced]
theorem slice_mid (A : Option Addr) (n c lo hi : Nat) (h1 : lo ≤ hi) (h2 : hi ≤ c) (W : World) :
    (Instr.slice K.L (.slice A n c) (some (.int .i64 (lo : Int))) (some (.int .i64 (hi : Int))) none).run Tryd.prog W = .ok (.slice (if c = lo then A else A.map (·.add (lo * K.k))) (hi - lo) (c - lo)) W := by
  obtain ⟨i0, z, hi', hz0, hz1, hz2, hz3⟩ := K.info
  have hu : Tryd.prog.underlying K.L = some (.slice (Tryd.prog.elem K.L)) := by rw [K.elem]; exact K.under
  have h := run_slice_lh (P := Tryd.prog) (w := W) K.L A n c hu .i64 .i64 (lo : Int) (hi : Int) (by omega) (by omega) (by omega)
  rw [h, K.elem]
  simp [sizeOf, typeInfo, hi', hz1, sliced]
variable {K}
/-- es[lo:hi] -/
theorem Lie.mid (h : K.Lie w B A n vs) {lo hi : Nat} (h1 : lo ≤ hi) (h2 : hi ≤ n) (hc : n ≤ c) : K.Lie w B (if c = lo then A else A.map (·.add (lo * K.k))) (hi - lo) ((vs.drop lo).take (hi - lo)) :=
  (h.rest (k := lo) (c := c) (by omega) hc).first (by omega)
end Kind
/- the facts that a walk wants: the place's own block and offset -/
theorem add_at (p : Addr) (j : Nat) : p.add (j + 1) = ⟨p.block, p.off + (j + 1), none⟩ := by simp [Addr.add]
end Go.Proofs.YtgenkmihbnkakaaDoor
