/- Rows of any kind of element: copies within, clear, one element put in between, one taken out, append of zero elements. Conditions: the rows' cells; at most 8000 elements. -/
import Derived.Test.YtfidamiomnohcaaKindMade
import Derived.Test.YtfidamiomnohcaaTurn
import Derived.Lib.AppendZerosOnto
import Derived.Laws.CopyRow
set_option linter.unusedVariables false
set_option linter.unusedSimpArgs false
set_option maxRecDepth 20000
namespace Go.Proofs.Ytfidamiomnohcaa
open Go.RowKit

namespace Kind
variable {α : Type} {K : Kind α} {w w' W : World} {base g n c : Nat} {vs us : List α} {x : α}
theorem cells_take (vs : List α) (i : Nat) : K.cells (vs.take i) = (K.cells vs).take (i * K.k) := by
  induction vs generalizing i with
  | nil => simp [cells]
  | cons v r ih =>
    cases i with
    | zero => simp [cells]
    | succ i =>
      rw [List.take_succ_cons, cells, cells, ih, List.take_append, K.len, List.take_of_length_le (l := K.cv v) (by rw [K.len, Nat.add_mul, Nat.one_mul]; omega), show (i + 1) * K.k - K.k = i * K.k by rw [Nat.add_mul, Nat.one_mul]; omega]
theorem cells_drop (vs : List α) (i : Nat) : K.cells (vs.drop i) = (K.cells vs).drop (i * K.k) := by
  have h1 : K.cells (vs.take i) ++ K.cells (vs.drop i) = K.cells vs := by rw [← cells_append, List.take_append_drop]
  rw [← h1, cells_take]
  rcases Nat.le_total i vs.length with h | h
  · rw [List.drop_append_of_le_length (by rw [List.length_take, K.cells_len]; exact Nat.le_of_eq (Nat.min_eq_left (Nat.mul_le_mul_right _ h)).symm), List.drop_of_length_le (l := List.take _ _) (by rw [List.length_take]; omega), List.nil_append]
  · rw [List.drop_of_length_le (l := vs) h]
    simp only [cells, List.append_nil]
    rw [List.drop_of_length_le (by rw [List.length_take]; omega)]
theorem add_zero_k (g j : Nat) : (⟨g, 0, none⟩ : Addr).add j = ⟨g, j, none⟩ := by
  unfold Addr.add; split <;> simp_all
theorem add_two (g i j : Nat) : (⟨g, i, none⟩ : Addr).add j = ⟨g, i + j, none⟩ := by
  unfold Addr.add; split <;> simp_all
/-- copy(a, b) where a lies in a row that is known whole. -/
theorem run_copy_k (K : Kind α) (w : World) (ty : TypeId) (g o dLen dCap : Nat) (a : Addr) (sLen sCap : Nat) (cur : Array Value) (t : TypeId) (cs : List Value) (hg : w.heap[g]? = some (.cells cur t (0, 0))) (hn : cs.length = Nat.min sLen dLen * K.k)
    (hsrc : ∀ j v, cs[j]? = some v → w.cell? (a.add j) = some v) (hfit : o + cs.length ≤ cur.size) (h1 : ∀ v ∈ cs, v.oneCell' = true) :
    (Builtin.copy_ #[K.L, K.L] ty #[.slice (some ⟨g, o, none⟩) dLen dCap, .slice (some a) sLen sCap]).run Try.prog w =
      .ok (.int .i64 (Nat.min sLen dLen : Nat)) (w.setRow g (cur.toList.take o ++ cs ++ cur.toList.drop (o + cs.length)).toArray) := by
  obtain ⟨i0, z, hi, hz0, hz1, hz2, hz3⟩ := K.info
  have hl := run_loadCells_list (P := Try.prog) w a cs hsrc
  have hst := run_storeCells_at Try.prog g o t cs 0 cur w hg (by simpa using hfit) h1
  simp only [Nat.add_zero] at hst
  have hfc : (Builtin.firstCells K.k (Nat.min sLen dLen) (.slice (some a) sLen sCap)).run Try.prog w = .ok cs.toArray w := by
    simp only [Builtin.firstCells]
    rw [← hn]; exact hl
  simp only [Builtin.copy_, run_underlying K.under, Builtin.lenOf, sizeOf, typeInfo, hi, hz1]
  simp [run_underlying K.under, Builtin.lenOf, sizeOf, typeInfo, hi, hz1, hfc, hst, goInt, Sem.run_bind, Result.andThen_ok]
/-- A slice's row, opened. -/
theorem Row.open_ (h : K.Row w base (some ⟨g, 0, none⟩) n c vs) : ∃ cur : Array Value, base ≤ g ∧ w.heap[g]? = some (.cells cur K.T (0, 0)) ∧ n ≤ c ∧ c ≤ maxLen ∧ cur.size = c * K.k ∧ cur.toList.take (n * K.k) = K.cells vs := by
  rcases h.row.2 with ⟨hv, _⟩ | ⟨g', cap, cur, hv, h1, h2, h3, h4, h5, h6⟩
  · injection hv with e; cases e
  · injection hv with e1 e2 e3
    injection e1 with e1; injection e1 with e1
    subst e1 e3
    exact ⟨cur, h1, h2, h3, h4, h5, h6⟩
theorem Row.shut {cur : List Value} (hb : base ≤ g) (hg : w.heap[g]? = some (.cells cur.toArray K.T (0, 0))) (hn : n ≤ c) (hc : c ≤ maxLen) (hs : cur.length = c * K.k) (ht : cur.take (n * K.k) = K.cells vs) (hl : vs.length = n) (hw : ∀ v ∈ vs, K.wf v) : K.Row w base (some ⟨g, 0, none⟩) n c vs :=
  ⟨⟨by rw [K.cells_len, hl], Or.inr ⟨g, c, cur.toArray, rfl, hb, hg, hn, hc, by simpa using hs, by simpa using ht⟩⟩, hw⟩
theorem grown_setRow (w : World) (g : Nat) (cs : Array Value) : w.grownBy (w.setRow g cs) (some g) :=
  ⟨rfl, rfl, rfl, by simp [World.setRow], fun i hi hn => setRow_other w g i _ (fun e => hn (by rw [e]))⟩
/-- The beginning of a row. -/
theorem Row.first (h : K.Row w base (some ⟨g, 0, none⟩) n c vs) {i : Nat} (hi : i ≤ n) : K.Row w base (some ⟨g, 0, none⟩) i c (vs.take i) := by
  obtain ⟨cur, h1, h2, h3, h4, h5, h6⟩ := h.open_
  refine Row.shut (cur := cur.toList) h1 (by simpa using h2) (by omega) h4 (by simpa using h5) ?_ (by rw [List.length_take, h.len]; omega) (fun v hv => h.wf v (List.mem_of_mem_take hv))
  rw [cells_take, ← h6, List.take_take, Nat.min_eq_left (Nat.mul_le_mul_right _ hi)]
/-- copy(row[o:], b): b written over the row from place o on. -/
theorem Row.copy (h : K.Row w base (some ⟨g, 0, none⟩) n c vs) {o m dLen dCap sCap B : Nat} {ad : Addr} (hs : K.Lie w B (some ad) m us) (hd : m ≤ dLen) (ho : o + m ≤ n) (ty : TypeId) :
    ∃ W, (Builtin.copy_ #[K.L, K.L] ty #[.slice (some ⟨g, o * K.k, none⟩) dLen dCap, .slice (some ad) m sCap]).run Try.prog w = .ok (.int .i64 (m : Nat)) W ∧ K.Row W base (some ⟨g, 0, none⟩) n c (vs.take o ++ us ++ vs.drop (o + m)) ∧ w.grownBy W (some g) := by
  obtain ⟨cur, h1, h2, h3, h4, h5, h6⟩ := h.open_
  have hul := hs.len
  have hvl := h.len
  have hk : (K.cells us).length = m * K.k := by rw [K.cells_len, hul]
  have hok : o * K.k + m * K.k ≤ n * K.k := by rw [← Nat.add_mul]; exact Nat.mul_le_mul_right _ ho
  have hnk : n * K.k ≤ c * K.k := Nat.mul_le_mul_right _ h3
  have hrun := run_copy_k K w ty g (o * K.k) dLen dCap ad m sCap cur K.T (K.cells us) h2 (by rw [hk, show Nat.min m dLen = m from Nat.min_eq_left hd]) hs.cells (by rw [hk]; omega) (K.cells_one us)
  rw [show Nat.min m dLen = m from Nat.min_eq_left hd] at hrun
  refine ⟨_, hrun, Row.shut (cur := cur.toList.take (o * K.k) ++ K.cells us ++ cur.toList.drop (o * K.k + (K.cells us).length)) h1 (setRow_heap _ _ _ _ _ _ h2) h3 h4 ?_ ?_ ?_ (fun v hv => ?_), grown_setRow _ _ _⟩
  · have : cur.toList.length = cur.size := by simp
    simp only [List.length_append, List.length_take, List.length_drop, hk]
    omega
  · have hl : cur.toList.length = cur.size := by simp
    rw [K.cells_append, K.cells_append, cells_take, cells_drop, ← h6, hk, List.take_append, List.take_of_length_le (by rw [List.length_append, List.length_take, hk]; omega)]
    have e1 : n * K.k - (cur.toList.take (o * K.k) ++ K.cells us).length = n * K.k - (o * K.k + m * K.k) := by
      rw [List.length_append, List.length_take, hk, Nat.min_eq_left (by rw [hl]; omega)]
    rw [e1, ← List.drop_take, List.take_take, Nat.min_eq_left (by omega), Nat.add_mul]
  · simp only [List.length_append, List.length_take, List.length_drop, hul, hvl]; omega
  · rcases List.mem_append.1 hv with hv | hv
    · rcases List.mem_append.1 hv with hv | hv
      · exact h.wf v (List.mem_of_mem_take hv)
      · exact hs.all v hv
    · exact h.wf v (List.mem_of_mem_drop hv)
/-- A row with room: its elements from place i on a place further up, then one laid at i. -/
theorem Row.insert (h : K.Row w base (some ⟨g, 0, none⟩) n c vs) {i B c' : Nat} {p : Addr} (hx : K.Lie w B (some p) 1 [x]) (hp : p.block ≠ g) (hi : i < n) (hc : n < c) (ty : TypeId) :
    ∃ W1 W2, (Builtin.copy_ #[K.L, K.L] ty #[.slice (some ⟨g, (i + 1) * K.k, none⟩) (n + 1 - (i + 1)) (c - (i + 1)), .slice (some ⟨g, i * K.k, none⟩) (n + 1 - i) (c - i)]).run Try.prog w = .ok (.int .i64 (n - i : Nat)) W1 ∧
      (Builtin.copy_ #[K.L, K.L] ty #[.slice (some ⟨g, i * K.k, none⟩) (n + 1 - i) (c - i), .slice (some p) 1 c']).run Try.prog W1 = .ok (.int .i64 (1 : Nat)) W2 ∧
      K.Row W2 base (some ⟨g, 0, none⟩) (n + 1) c (vs.take i ++ x :: vs.drop i) ∧ w.grownBy W2 (some g) := by
  obtain ⟨cur, h1, h2, h3, h4, h5, h6⟩ := h.open_
  have hvl := h.len
  have hcl : cur.toList.length = c * K.k := by simpa using h5
  have hkp := K.pos
  have m1 : i * K.k + (n - i) * K.k = n * K.k := by rw [← Nat.add_mul]; congr 1; omega
  have m2 : (n + 1) * K.k = n * K.k + K.k := by rw [Nat.add_mul, Nat.one_mul]
  have m3 : (i + 1) * K.k = i * K.k + K.k := by rw [Nat.add_mul, Nat.one_mul]
  have m4 : (n + 1) * K.k ≤ c * K.k := Nat.mul_le_mul_right _ hc
  have hQ : (K.cells (vs.drop i)).length = (n - i) * K.k := by rw [K.cells_len, List.length_drop, hvl]
  have hX : (K.cells [x]).length = K.k := by rw [K.cells_len]; simp
  have hP : (K.cells (vs.take i)).length = i * K.k := by rw [K.cells_len, List.length_take, hvl, Nat.min_eq_left (by omega)]
  obtain ⟨Z, hZ⟩ : ∃ Z, cur.toList = K.cells (vs.take i) ++ K.cells (vs.drop i) ++ Z := ⟨cur.toList.drop (n * K.k), by rw [← K.cells_append, List.take_append_drop, ← h6, List.take_append_drop]⟩
  have hZl : (K.cells (vs.take i) ++ K.cells (vs.drop i) ++ Z).length = c * K.k := by rw [← hZ]; exact hcl
  rw [List.length_append, List.length_append, hP, hQ] at hZl
  have hmin1 : Nat.min (n + 1 - i) (n + 1 - (i + 1)) = n - i := by rw [show Nat.min (n + 1 - i) (n + 1 - (i + 1)) = n + 1 - (i + 1) from Nat.min_eq_right (by omega)]; omega
  have hsrc : ∀ j v, (K.cells (vs.drop i))[j]? = some v → w.cell? ((⟨g, i * K.k, none⟩ : Addr).add j) = some v := fun j v hv => by
    have hj : j < (n - i) * K.k := by
      rcases Nat.lt_or_ge j (K.cells (vs.drop i)).length with h' | h'
      · rw [hQ] at h'; exact h'
      · rw [List.getElem?_eq_none h'] at hv; cases hv
    rw [add_two, cell_of_row w g _ cur K.T (0, 0) h2, ← Array.getElem?_toList, hZ, List.append_assoc, List.getElem?_append_right (by rw [hP]; omega), hP, Nat.add_sub_cancel_left, List.getElem?_append_left (by rw [hQ]; exact hj)]
    exact hv
  have r1 := run_copy_k K w ty g ((i + 1) * K.k) (n + 1 - (i + 1)) (c - (i + 1)) ⟨g, i * K.k, none⟩ (n + 1 - i) (c - i) cur K.T (K.cells (vs.drop i)) h2 (by rw [hQ, hmin1]) hsrc (by rw [hQ, h5]; omega) (K.cells_one _)
  rw [hmin1] at r1
  obtain ⟨L1, HL1⟩ : ∃ L1, cur.toList.take ((i + 1) * K.k) ++ K.cells (vs.drop i) ++ cur.toList.drop ((i + 1) * K.k + (K.cells (vs.drop i)).length) = L1 := ⟨_, rfl⟩
  rw [HL1] at r1
  have e1 : L1 = K.cells (vs.take i) ++ ((K.cells (vs.drop i) ++ Z).take K.k ++ K.cells (vs.drop i) ++ Z.drop K.k) := by
    rw [← HL1, hZ, hQ]
    have a1 : (K.cells (vs.take i) ++ K.cells (vs.drop i) ++ Z).take ((i + 1) * K.k) = K.cells (vs.take i) ++ (K.cells (vs.drop i) ++ Z).take K.k := by
      rw [List.append_assoc, List.take_append, List.take_of_length_le (l := K.cells (vs.take i)) (by rw [hP]; omega), hP, show (i + 1) * K.k - i * K.k = K.k by omega]
    have a2 : (K.cells (vs.take i) ++ K.cells (vs.drop i) ++ Z).drop ((i + 1) * K.k + (n - i) * K.k) = Z.drop K.k := by
      rw [List.drop_append, List.drop_eq_nil_of_le (by rw [List.length_append, hP, hQ]; omega), List.nil_append, List.length_append, hP, hQ]
      congr 1; omega
    rw [a1, a2]
    simp only [List.append_assoc]
  have hT : ((K.cells (vs.drop i) ++ Z).take K.k).length = K.k := by
    rw [List.length_take, List.length_append, hQ]; omega
  have hw1 : (w.setRow g L1.toArray).heap[g]? = some (.cells L1.toArray K.T (0, 0)) := setRow_heap _ _ _ _ _ _ h2
  have hL1l : L1.length = c * K.k := by
    rw [e1, List.length_append, List.length_append, List.length_append, hP, hT, hQ, List.length_drop]; omega
  have hsx : ∀ j v, (K.cells [x])[j]? = some v → (w.setRow g L1.toArray).cell? (p.add j) = some v := fun j v hv => by
    have := hx.cells j v hv
    exact ((grown_setRow w g L1.toArray).cell this (by rw [addr_block]; intro e; exact hp (Option.some.inj e)))
  have hmin2 : Nat.min 1 (n + 1 - i) = 1 := Nat.min_eq_left (by omega)
  have r2 := run_copy_k K (w.setRow g L1.toArray) ty g (i * K.k) (n + 1 - i) (c - i) p 1 c' L1.toArray K.T (K.cells [x]) hw1 (by rw [hX, hmin2, Nat.one_mul]) hsx (by rw [hX, List.size_toArray, hL1l]; omega) (K.cells_one _)
  rw [hmin2] at r2
  refine ⟨_, _, r1, r2, Row.shut (cur := L1.toArray.toList.take (i * K.k) ++ K.cells [x] ++ L1.toArray.toList.drop (i * K.k + (K.cells [x]).length)) h1 (setRow_heap _ _ _ _ _ _ hw1) (by omega) h4 ?_ ?_ ?_ (fun v hv => ?_), grownBy_trans (grown_setRow _ _ _) (grown_setRow _ _ _)⟩
  · simp only [List.length_append, List.length_take, List.length_drop, hX, hL1l]
    omega
  · have a1 : L1.toArray.toList.take (i * K.k) = K.cells (vs.take i) := by
      show L1.take _ = _
      rw [e1, ← hP, List.take_left]
    have a2 : L1.toArray.toList.drop (i * K.k + (K.cells [x]).length) = K.cells (vs.drop i) ++ Z.drop K.k := by
      show L1.drop _ = _
      rw [e1, hX, List.append_assoc, ← List.append_assoc, List.drop_append, List.drop_eq_nil_of_le (by rw [List.length_append, hP, hT]; omega), List.nil_append, List.length_append, hP, hT, Nat.sub_self, List.drop_zero]
    rw [a1, a2, m2, ← List.append_assoc, List.take_append, List.take_of_length_le (by rw [List.length_append, List.length_append, hP, hX, hQ]; omega)]
    rw [show n * K.k + K.k - (K.cells (vs.take i) ++ K.cells [x] ++ K.cells (vs.drop i)).length = 0 by rw [List.length_append, List.length_append, hP, hX, hQ]; omega, List.take_zero, List.append_nil, ← K.cells_append, ← K.cells_append, List.append_assoc]
    rfl
  · rw [List.length_append, List.length_cons, List.length_take, List.length_drop, hvl]; omega
  · rcases List.mem_append.1 hv with hv | hv
    · exact h.wf v (List.mem_of_mem_take hv)
    · rcases List.mem_cons.1 hv with rfl | hv
      · exact hx.all v List.mem_cons_self
      · exact h.wf v (List.mem_of_mem_drop hv)
theorem zero_cells (hz : ∃ i z, Try.prog.info? K.T = some i ∧ i.zero = some z ∧ i.size = K.k ∧ i.bytes ≤ 1000 ∧ z.cells = (K.cv K.dflt).toArray) (n : Nat) : (Builtin.zeroCells (K.cv K.dflt).toArray n).toList = K.cells (List.replicate n K.dflt) := by
  have h := K.made_cells n
  rw [← h]
  have hl : (K.cv K.dflt).toArray.size = K.k := by simp [K.len]
  have hk := K.pos
  unfold Builtin.zeroCells madeCells
  rw [hl]
/-- append(row[:i], make([]T, m)...) where there is no room: a new row. -/
theorem Row.grow (h : K.Row w base (some ⟨g, 0, none⟩) n c vs) (hz : ∃ i z, Try.prog.info? K.T = some i ∧ i.zero = some z ∧ i.size = K.k ∧ i.bytes ≤ 1000 ∧ z.cells = (K.cv K.dflt).toArray) {i m : Nat} (hb : base ≤ w.heap.size) (hi : i ≤ n) (hm : 0 < m) (hg : c < i + m) (hsm : i + m ≤ 8000) {tn ty : TypeId} {kn : IntKind} (htn : Try.prog.underlying tn = some (.int kn)) :
    ∃ c2 W, (Builtin.append_ #[K.L, tn] ty #[.slice (some ⟨g, 0, none⟩) i c, .int .i64 (m : Int)]).run Try.prog w = .ok (.slice (some ⟨w.heap.size, 0, none⟩) (i + m) c2) W ∧ K.Row W base (some ⟨w.heap.size, 0, none⟩) (i + m) c2 (vs.take i ++ List.replicate m K.dflt) ∧ Below w.heap.size w W := by
  obtain ⟨i0, z, h1, h2, h3, h4, h5⟩ := hz
  have h' := h.first hi
  have hz' : z.cells.size = K.k := by rw [h5]; simp [K.len]
  have hold : (Builtin.firstCells i0.size i (.slice (some ⟨g, 0, none⟩) i c)).run Try.prog w.drew = .ok (K.cells (vs.take i)).toArray w.drew := by
    rw [h3]
    exact run_firstCells_some (P := Try.prog) w.drew K.k i ⟨g, 0, none⟩ i c (K.cells (vs.take i)) (by rw [K.cells_len, h'.len]) (h'.lie.cells)
  have hbb : (i + m) * i0.bytes ≤ 8000 * 1000 := Nat.mul_le_mul hsm h4
  have hbm : m * i0.bytes ≤ 8000 * 1000 := Nat.mul_le_mul (by omega) h4
  have hr := Lib.run_append_grow_zeros (P := Try.prog) w K.L tn ty K.T i0 z .i64 kn K.under htn h1 h2 (some ⟨g, 0, none⟩) i c (K.cells (vs.take i)) hold m hm (by rw [h3]; exact K.pos) hg (by omega) (by omega) (growslice_fits (by omega) (by omega))
  rw [h5] at hr
  have hge := grownCap_ge w (i + m) c K.T
  have hcm : grownCap w (i + m) c K.T ≤ maxLen := grownCap_le_maxLen w (i + m) c K.T (by unfold maxLen; omega)
  have hzc := zero_cells (K := K) ⟨i0, z, h1, h2, h3, h4, h5⟩
  refine ⟨_, _, hr, Row.shut (cur := ((K.cells (vs.take i)).toArray ++ Builtin.zeroCells (K.cv K.dflt).toArray m ++ Builtin.zeroCells (K.cv K.dflt).toArray (grownCap w (i + m) c K.T - (i + m))).toList) hb (heap_alloc_new w.drew _) hge hcm ?_ ?_ ?_ (fun v hv => ?_), (below_drewN (Below.refl _ _) 1).alloc (Nat.le_refl _) _⟩
  · simp only [Array.toList_append, hzc, List.length_append, K.cells_len, List.length_replicate, List.length_take, h.len, Nat.min_eq_left hi, ← Nat.add_mul]
    congr 1; omega
  · rw [Array.toList_append, Array.toList_append, hzc, ← K.cells_append]
    refine (List.take_append_of_le_length (Nat.le_of_eq ?_)).trans (List.take_of_length_le (Nat.le_of_eq ?_))
    all_goals simp only [K.cells_len, List.length_append, List.length_replicate, List.length_take, h.len, Nat.min_eq_left hi]
  · rw [List.length_append, List.length_replicate, List.length_take, h.len]; omega
  · rcases List.mem_append.1 hv with hv | hv
    · exact h.wf v (List.mem_of_mem_take hv)
    · rw [(List.mem_replicate.1 hv).2]; exact K.ok
/-- append(nil, make([]T, m)...). -/
theorem grow_nil (hz : ∃ i z, Try.prog.info? K.T = some i ∧ i.zero = some z ∧ i.size = K.k ∧ i.bytes ≤ 1000 ∧ z.cells = (K.cv K.dflt).toArray) {m : Nat} (hb : base ≤ w.heap.size) (hm : 0 < m) (hsm : m ≤ 8000) {tn ty : TypeId} {kn : IntKind} (htn : Try.prog.underlying tn = some (.int kn)) :
    ∃ c2 W, (Builtin.append_ #[K.L, tn] ty #[.slice none 0 0, .int .i64 (m : Int)]).run Try.prog w = .ok (.slice (some ⟨w.heap.size, 0, none⟩) m c2) W ∧ K.Row W base (some ⟨w.heap.size, 0, none⟩) m c2 (List.replicate m K.dflt) ∧ Below w.heap.size w W := by
  obtain ⟨i0, z, h1, h2, h3, h4, h5⟩ := hz
  have hbm : m * i0.bytes ≤ 8000 * 1000 := Nat.mul_le_mul hsm h4
  have hr := Lib.run_append_nil_zeros (P := Try.prog) w K.L tn ty K.T i0 z .i64 kn K.under htn h1 h2 m hm (by rw [h3]; exact K.pos) (by omega) (by omega)
  rw [h5] at hr
  have hge := grownCap_ge w m 0 K.T
  have hcm : grownCap w m 0 K.T ≤ maxLen := grownCap_le_maxLen w m 0 K.T (by unfold maxLen; omega)
  have hzc := zero_cells (K := K) ⟨i0, z, h1, h2, h3, h4, h5⟩
  refine ⟨_, _, hr, Row.shut (cur := (Builtin.zeroCells (K.cv K.dflt).toArray m ++ Builtin.zeroCells (K.cv K.dflt).toArray (grownCap w m 0 K.T - m)).toList) hb (heap_alloc_new w.drew _) hge hcm ?_ ?_ (List.length_replicate ..) (fun v hv => ?_), (below_drewN (Below.refl _ _) 1).alloc (Nat.le_refl _) _⟩
  · simp only [Array.toList_append, hzc, List.length_append, K.cells_len, List.length_replicate, ← Nat.add_mul]
    congr 1; omega
  · rw [Array.toList_append, hzc]
    refine (List.take_append_of_le_length (Nat.le_of_eq ?_)).trans (List.take_of_length_le (Nat.le_of_eq ?_))
    all_goals simp only [K.cells_len, List.length_replicate]
  · rw [(List.mem_replicate.1 hv).2]; exact K.ok
/-- clear(b) where b is one element of a row that is known whole. -/
theorem run_clear_one (K : Kind α) (hz : ∃ i z, Try.prog.info? K.T = some i ∧ i.zero = some z ∧ i.size = K.k ∧ i.bytes ≤ 1000 ∧ z.cells = (K.cv K.dflt).toArray) (w : World) (ty : TypeId) (g o dCap : Nat) (cur : Array Value) (t : TypeId) (hg : w.heap[g]? = some (.cells cur t (0, 0))) (hfit : o + K.k ≤ cur.size) :
    (Builtin.clear_ #[K.L] ty #[.slice (some ⟨g, o, none⟩) 1 dCap]).run Try.prog w = .ok (.tuple #[]) (w.setRow g (cur.toList.take o ++ K.cells [K.dflt] ++ cur.toList.drop (o + (K.cells [K.dflt]).length)).toArray) := by
  have hzc := zero_cells (K := K) hz 1
  obtain ⟨i0, z, h1, h2, h3, h4, h5⟩ := hz
  have hX : (K.cells [K.dflt]).length = K.k := by rw [K.cells_len]; simp
  have hst := run_storeCells_at Try.prog g o t (K.cells [K.dflt]) 0 cur w hg (by rw [hX]; omega) (K.cells_one _)
  simp only [Nat.add_zero] at hst
  have e : List.replicate 1 K.dflt = [K.dflt] := rfl
  rw [e] at hzc
  simp [Builtin.clear_, run_underlying K.under, zeroValue, typeInfo, h1, h2, h5, hzc, hst]
/-- append(row[:i], row[i+1:]...), and the last element cleared: one is taken out. -/
theorem Row.delete (h : K.Row w base (some ⟨g, 0, none⟩) n c vs) (hz : ∃ i z, Try.prog.info? K.T = some i ∧ i.zero = some z ∧ i.size = K.k ∧ i.bytes ≤ 1000 ∧ z.cells = (K.cv K.dflt).toArray) {i : Nat} (hi : i < n) (ty ty2 : TypeId) :
    ∃ W1 W2, (Builtin.append_ #[K.L, K.L] ty #[.slice (some ⟨g, 0, none⟩) i c, .slice (if c = i + 1 then some ⟨g, 0, none⟩ else some ⟨g, (i + 1) * K.k, none⟩) (n - (i + 1)) (c - (i + 1))]).run Try.prog w = .ok (.slice (some ⟨g, 0, none⟩) (n - 1) c) W1 ∧
      (Builtin.clear_ #[K.L] ty2 #[.slice (some ⟨g, (n - 1) * K.k, none⟩) 1 (c - (n - 1))]).run Try.prog W1 = .ok (.tuple #[]) W2 ∧
      K.Row W2 base (some ⟨g, 0, none⟩) (n - 1) c (vs.take i ++ vs.drop (i + 1)) ∧ w.grownBy W2 (some g) := by
  obtain ⟨cur, h1, h2, h3, h4, h5, h6⟩ := h.open_
  have hvl := h.len
  have hcl : cur.toList.length = c * K.k := by simpa using h5
  have hkp := K.pos
  obtain ⟨i0, z, q1, q2, q3, q4, q5⟩ := hz
  have hR : (K.cells (vs.drop (i + 1))).length = (n - (i + 1)) * K.k := by rw [K.cells_len, List.length_drop, hvl]
  have hP : (K.cells (vs.take i)).length = i * K.k := by rw [K.cells_len, List.length_take, hvl, Nat.min_eq_left (by omega)]
  have hX : (K.cells [K.dflt]).length = K.k := by rw [K.cells_len]; simp
  have m1 : i * K.k + (n - (i + 1)) * K.k = (n - 1) * K.k := by rw [← Nat.add_mul]; congr 1; omega
  have m2 : (n - 1) * K.k + K.k = n * K.k := by
    have : (n - 1 + 1) * K.k = (n - 1) * K.k + K.k := by rw [Nat.add_mul, Nat.one_mul]
    rw [← this]; congr 1; omega
  have m3 : n * K.k ≤ c * K.k := Nat.mul_le_mul_right _ h3
  have hL : K.Lie w w.heap.size (if c = i + 1 then some ⟨g, 0, none⟩ else some ⟨g, (i + 1) * K.k, none⟩) (n - (i + 1)) (vs.drop (i + 1)) := by
    have := h.lie.rest (k := i + 1) (c := c) (by omega) h3
    simpa only [Option.map_some, add_zero_k] using this
  obtain ⟨ad, hA⟩ : ∃ ad, (if c = i + 1 then some (⟨g, 0, none⟩ : Addr) else some ⟨g, (i + 1) * K.k, none⟩) = some ad := by
    by_cases e : c = i + 1
    · exact ⟨_, if_pos e⟩
    · exact ⟨_, if_neg e⟩
  rw [hA] at hL ⊢
  have r1 := run_append_room (P := Try.prog) w K.L ty K.T i0 K.under q1 g i c cur h2 ad (n - (i + 1)) (c - (i + 1)) (K.cells (vs.drop (i + 1))) (by rw [hR, q3]) hL.cells (K.cells_one _) (by omega) (by rw [hR, q3, h5]; omega)
  rw [q3, show i + (n - (i + 1)) = n - 1 by omega] at r1
  obtain ⟨L1, HL1⟩ : ∃ L1, cur.toList.take (i * K.k) ++ K.cells (vs.drop (i + 1)) ++ cur.toList.drop (i * K.k + (K.cells (vs.drop (i + 1))).length) = L1 := ⟨_, rfl⟩
  rw [HL1] at r1
  have a0 : cur.toList.take (i * K.k) = K.cells (vs.take i) := by
    rw [cells_take, ← h6, List.take_take, Nat.min_eq_left (Nat.mul_le_mul_right _ (by omega))]
  have hL1l : L1.length = c * K.k := by
    rw [← HL1, a0, List.length_append, List.length_append, hP, hR, List.length_drop, hcl]; omega
  have hw1 : (w.setRow g L1.toArray).heap[g]? = some (.cells L1.toArray K.T (0, 0)) := setRow_heap _ _ _ _ _ _ h2
  have r2 := run_clear_one K ⟨i0, z, q1, q2, q3, q4, q5⟩ (w.setRow g L1.toArray) ty2 g ((n - 1) * K.k) (c - (n - 1)) L1.toArray K.T hw1 (by rw [List.size_toArray, hL1l]; omega)
  refine ⟨_, _, r1, r2, Row.shut (cur := L1.toArray.toList.take ((n - 1) * K.k) ++ K.cells [K.dflt] ++ L1.toArray.toList.drop ((n - 1) * K.k + (K.cells [K.dflt]).length)) h1 (setRow_heap _ _ _ _ _ _ hw1) (by omega) h4 ?_ ?_ ?_ (fun v hv => ?_), grownBy_trans (grown_setRow _ _ _) (grown_setRow _ _ _)⟩
  · simp only [List.length_append, List.length_take, List.length_drop, hX, hL1l]
    omega
  · have a1 : L1.take ((n - 1) * K.k) = K.cells (vs.take i) ++ K.cells (vs.drop (i + 1)) := by
      rw [← HL1, a0, ← m1, ← hP, ← hR, ← List.length_append, List.take_left]
    show (L1.take _ ++ _ ++ _).take _ = _
    rw [a1, List.append_assoc, List.take_append, List.take_of_length_le (by rw [List.length_append, hP, hR]; omega), show (n - 1) * K.k - (K.cells (vs.take i) ++ K.cells (vs.drop (i + 1))).length = 0 by rw [List.length_append, hP, hR]; omega, List.take_zero, List.append_nil, ← K.cells_append]
  · rw [List.length_append, List.length_take, List.length_drop, hvl]; omega
  · rcases List.mem_append.1 hv with hv | hv
    · exact h.wf v (List.mem_of_mem_take hv)
    · exact h.wf v (List.mem_of_mem_drop hv)
end Kind
end Go.Proofs.Ytfidamiomnohcaa
