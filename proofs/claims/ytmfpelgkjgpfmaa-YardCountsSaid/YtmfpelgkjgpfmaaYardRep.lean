/- The landed yard in memory: its row of blocks, a row of pages for each; what each store leaves. No conditions. -/
import Derived.Test.YtmfpelgkjgpfmaaMoves
import Derived.Test.YtmfpelgkjgpfmaaKindMade
import Derived.Test.YtmfpelgkjgpfmaaBSlices
import Derived.Test.YtmfpelgkjgpfmaaYardMath
set_option linter.unusedVariables false
set_option linter.unusedSimpArgs false
namespace Go.Proofs.Ytmfpelgkjgpfmaa
open Go.RowKit

/-- A block, as its cells have it. -/
structure BkV where
  st : Int
  tk : Int
  a : BV
def BkV.zero : BkV := ⟨0, 0, BV.zero⟩
theorem infoBk : (Try.prog.info? 54).map (fun i => (i.zero, i.size, i.bytes)) = some (some (.agg #[.int .i64 0, .int .i64 0, .slice none 0 0]), 3, 40) := by kernel_rfl
def blkK : Kind BkV where
  T := 54
  L := 49
  k := 3
  cv := fun v => [.int .i64 v.st, .int .i64 v.tk, .slice v.a.a v.a.n v.a.c]
  wf := fun _ => True
  dflt := BkV.zero
  len := fun v => rfl
  one := fun v u hu => by
    simp only [List.mem_cons, List.not_mem_nil, or_false] at hu
    rcases hu with rfl | rfl | rfl <;> rfl
  pos := by decide
  ok := trivial
  under := Try.underlying49
  elem := by kernel_rfl
  info := by
    obtain ⟨i0, hi, hz0, hz1, hz2⟩ := info_parts infoBk
    exact ⟨i0, _, hi, hz0, hz1, by rw [hz2]; omega, rfl⟩
theorem infoUs : (Try.prog.info? 66).map (fun i => (i.zero, i.size, i.bytes)) = some (some (.agg #[.bool false, .bool false]), 2, 2) := by kernel_rfl
def useK : Kind (Bool × Bool) where
  T := 66
  L := 52
  k := 2
  cv := fun v => [.bool v.1, .bool v.2]
  wf := fun _ => True
  dflt := (false, false)
  len := fun v => rfl
  one := fun v u hu => by
    simp only [List.mem_cons, List.not_mem_nil, or_false] at hu
    rcases hu with rfl | rfl <;> rfl
  pos := by decide
  ok := trivial
  under := Try.underlying52
  elem := by kernel_rfl
  info := by
    obtain ⟨i0, hi, hz0, hz1, hz2⟩ := info_parts infoUs
    exact ⟨i0, _, hi, hz0, hz1, by rw [hz2]; omega, rfl⟩
theorem blkK_T : blkK.T = 54 := rfl
theorem useK_T : useK.T = 66 := rfl
/-- Where it stands: the row of blocks, each block's pages. -/
structure YLo where
  ab : Addr
  au : Nat → Addr
def bksV (s : Yd) (L : YLo) : List BkV := (List.range s.S.length).map fun k => ⟨s.S.getD k 0, s.T.getD k 0, ⟨some (L.au k), s.P, s.P⟩⟩
def usesV (N D : List Bool) (P : Nat) : List (Bool × Bool) := (List.range P).map fun q => (N.getD q false, D.getD q false)
theorem getD_map_range {α : Type} (f : Nat → α) (n k : Nat) (d : α) (h : k < n) : ((List.range n).map f).getD k d = f k := by
  rw [List.getD_eq_getElem?_getD, List.getElem?_map, List.getElem?_range h]; rfl
theorem map_range_set {α : Type} (f f' : Nat → α) (n k : Nat) (x : α) (h : k < n) (hx : f' k = x) (ho : ∀ j, j < n → j ≠ k → f' j = f j) : (List.range n).map f' = ((List.range n).map f).set k x := by
  apply List.ext_getElem
  · simp
  · intro j h1 h2
    simp only [List.length_map, List.length_range] at h1
    rw [List.getElem_set]
    by_cases e : k = j
    · subst e; simp [hx]
    · rw [if_neg e]; simp [ho j h1 (Ne.symm e)]
structure YRep (w : World) (base g : Nat) (s : Yd) (L : YLo) : Prop where
  base_le : base ≤ g
  row : w.heap[g]? = some (.cells #[.slice (some L.ab) s.S.length s.S.length] 51 (0, 0))
  br : blkK.Row w base (some L.ab) s.S.length s.S.length (bksV s L)
  ur : ∀ k, k < s.S.length → useK.Row w base (some (L.au k)) s.P s.P (usesV (s.N.getD k []) (s.D.getD k []) s.P)
  inj : ∀ j k, j < s.S.length → k < s.S.length → (L.au j).block = (L.au k).block → j = k
structure CellsK (w : World) (p : Addr) (st tk : Int) (a : Addr) (P : Nat) : Prop where
  c0 : w.cell? p = some (.int .i64 st)
  c1 : w.cell? ⟨p.block, p.off + 1, none⟩ = some (.int .i64 tk)
  c2 : w.cell? ⟨p.block, p.off + 2, none⟩ = some (.slice (some a) P P)
  f0 : w.frozen? p = false
  f1 : w.frozen? ⟨p.block, p.off + 1, none⟩ = false
structure CellsU (w : World) (p : Addr) (n d : Bool) : Prop where
  c0 : w.cell? p = some (.bool n)
  c1 : w.cell? ⟨p.block, p.off + 1, none⟩ = some (.bool d)
  f0 : w.frozen? p = false
  f1 : w.frozen? ⟨p.block, p.off + 1, none⟩ = false
structure YLo.In (L : YLo) (n : Nat) (fp : Nat → Prop) : Prop where
  ab : fp L.ab.block
  au : ∀ k, k < n → fp (L.au k).block
theorem row_zero {α : Type} {K : Kind α} {w : World} {base n c : Nat} {a : Addr} {vs : List α} (h : K.Row w base (some a) n c vs) : a = ⟨a.block, 0, none⟩ := by
  rcases h.row.2 with ⟨hv, _⟩ | ⟨b, cap, cur, hv, _⟩
  · injection hv with h1; cases h1
  · injection hv with h1
    rw [Option.some.inj h1]
theorem placeZ {a : Addr} (h : a = ⟨a.block, 0, none⟩) (j : Nat) : a.add j = ⟨a.block, j, none⟩ := by
  rw [h]
  unfold Addr.add
  split
  · next h0 => rw [h0]
  · simp
section
variable {w w' : World} {base g k q : Nat} {s : Yd} {L : YLo} {fp fq : Nat → Prop}
theorem YRep.lt (h : YRep w base g s L) : g < w.heap.size := (Array.getElem?_eq_some_iff.1 h.row).1
theorem YRep.c0 (h : YRep w base g s L) : w.cell? ⟨g, 0, none⟩ = some (.slice (some L.ab) s.S.length s.S.length) := by rw [cell_of_row _ _ _ _ _ _ h.row]; rfl
theorem YRep.abz (h : YRep w base g s L) : L.ab = ⟨L.ab.block, 0, none⟩ := row_zero h.br
theorem YRep.auz (h : YRep w base g s L) (hk : k < s.S.length) : L.au k = ⟨(L.au k).block, 0, none⟩ := row_zero (h.ur k hk)
theorem YRep.block (h : YRep w base g s L) (hk : k < s.S.length) : CellsK w (L.ab.add (k * 3)) (s.S.getD k 0) (s.T.getD k 0) (L.au k) s.P := by
  obtain ⟨ad, e1, e2, e3⟩ := h.br.lie.each k hk
  obtain rfl := Option.some.inj e1
  rw [show (bksV s L).getD k blkK.dflt = (⟨s.S.getD k 0, s.T.getD k 0, ⟨some (L.au k), s.P, s.P⟩⟩ : BkV) from getD_map_range _ _ _ _ hk] at e3
  have hb := h.br.row
  have hz := h.abz
  rw [hz] at hb
  have hpl : L.ab.add (k * 3) = ⟨L.ab.block, k * 3, none⟩ := placeZ hz _
  refine ⟨by have := e3 0 (.int .i64 (s.S.getD k 0)) rfl; rwa [add_none] at this, by have := e3 1 (.int .i64 (s.T.getD k 0)) rfl; rwa [add_at _ 0] at this, by have := e3 2 (.slice (some (L.au k)) s.P s.P) rfl; rwa [add_at _ 1] at this, ?_, ?_⟩
  · rw [hpl]; exact hb.frozenAt _
  · rw [hpl]; exact hb.frozenAt _
theorem YRep.use (h : YRep w base g s L) (hk : k < s.S.length) (hq : q < s.P) : CellsU w ((L.au k).add (q * 2)) ((s.N.getD k []).getD q false) ((s.D.getD k []).getD q false) := by
  obtain ⟨ad, e1, e2, e3⟩ := (h.ur k hk).lie.each q hq
  obtain rfl := Option.some.inj e1
  rw [show (usesV (s.N.getD k []) (s.D.getD k []) s.P).getD q useK.dflt = (((s.N.getD k []).getD q false, (s.D.getD k []).getD q false) : Bool × Bool) from getD_map_range _ _ _ _ hq] at e3
  have hb := (h.ur k hk).row
  have hz := h.auz hk
  rw [hz] at hb
  have hpl : (L.au k).add (q * 2) = ⟨(L.au k).block, q * 2, none⟩ := placeZ hz _
  refine ⟨by have := e3 0 _ rfl; rwa [add_none] at this, by have := e3 1 _ rfl; rwa [add_at _ 0] at this, ?_, ?_⟩
  · rw [hpl]; exact hb.frozenAt _
  · rw [hpl]; exact hb.frozenAt _
theorem YRep.typedB (h : YRep w base g s L) : ∃ cur, w.heap[L.ab.block]? = some (.cells cur 54 (0, 0)) := Row.typed h.br _ (by simp [blk])
theorem YRep.typedU (h : YRep w base g s L) (hk : k < s.S.length) : ∃ cur, w.heap[(L.au k).block]? = some (.cells cur 66 (0, 0)) := Row.typed (h.ur k hk) _ (by simp [blk])
theorem YRep.stays (h : YRep w base g s L) (h0 : w'.heap[g]? = w.heap[g]?) (hi : L.In s.S.length fp) (hb : ∀ b, fp b → w'.heap[b]? = w.heap[b]?) : YRep w' base g s L :=
  ⟨h.base_le, h0.trans h.row, Row.at_block h.br fun b hm => by
    have : b = L.ab.block := by simpa [blk] using hm
    rw [this]; exact hb _ hi.ab, fun k hk => Row.at_block (h.ur k hk) fun b hm => by
    have : b = (L.au k).block := by simpa [blk] using hm
    rw [this]; exact hb _ (hi.au k hk), h.inj⟩
theorem YRep.since (h : YRep w base g s L) (hb : Below w.heap.size w w') : YRep w' base g s L :=
  ⟨h.base_le, (hb.block g h.lt).trans h.row, h.br.since hb, fun k hk => (h.ur k hk).since hb, h.inj⟩
theorem YRep.elder (h : YRep w base g s L) {base' : Nat} (hb : base' ≤ base) : YRep w base' g s L :=
  ⟨Nat.le_trans hb h.base_le, h.row, h.br.elder hb, fun k hk => (h.ur k hk).elder hb, h.inj⟩
/- what a store leaves -/
theorem YRep.putSt (h : YRep w base g s L) (hk : k < s.S.length) (x : Int) : YRep (w.setCell (L.ab.add (k * 3)) (.int .i64 x)) base g (s.setS k x) L := by
  obtain ⟨cur, hc⟩ := h.typedB
  rw [placeZ h.abz]
  have hl : (s.setS k x).S.length = s.S.length := by simp [Yd.setS]
  refine ⟨h.base_le, ?_, ?_, ?_, ?_⟩
  all_goals simp only [hl]
  · exact (setCell_heap w _ _ _ _ fun e => absurd (other_type (w := w) h.row (e ▸ hc)) (by decide)).trans h.row
  · have hr := h.br
    rw [h.abz] at hr ⊢
    have := hr.put (i := k) (r := 0) hk (by decide) (.int .i64 x) ⟨x, s.T.getD k 0, ⟨some (L.au k), s.P, s.P⟩⟩ (by rw [show (bksV s L).getD k blkK.dflt = (⟨s.S.getD k 0, s.T.getD k 0, ⟨some (L.au k), s.P, s.P⟩⟩ : BkV) from getD_map_range _ _ _ _ hk]; rfl) trivial
    refine Kind.Row.same this ?_
    unfold bksV
    rw [hl]
    refine (map_range_set _ _ _ _ _ hk ?_ fun j hj e => ?_).symm
    · simp only [Yd.setS, getD_setY, hk, and_self, if_true]
    · simp only [Yd.setS, getD_setY, e, false_and, if_false]
  · exact fun j hj => Row.at_block (h.ur j hj) fun b hm => by
      obtain ⟨c2, hc2⟩ := Row.typed (h.ur j hj) b hm
      exact setCell_heap w _ _ _ _ fun e => absurd (other_type (w := w) (e ▸ hc2) hc) (by decide)
  · exact h.inj
theorem YRep.putTk (h : YRep w base g s L) (hk : k < s.S.length) (hT : s.T.length = s.S.length) (x : Int) : YRep (w.setCell ⟨(L.ab.add (k * 3)).block, (L.ab.add (k * 3)).off + 1, none⟩ (.int .i64 x)) base g (s.setT k x) L := by
  obtain ⟨cur, hc⟩ := h.typedB
  rw [placeZ h.abz]
  refine ⟨h.base_le, (setCell_heap w _ _ _ _ fun e => absurd (other_type (w := w) h.row (e ▸ hc)) (by decide)).trans h.row, ?_, fun j hj => Row.at_block (h.ur j hj) fun b hm => ?_, h.inj⟩
  · have hr := h.br
    rw [h.abz] at hr ⊢
    have := hr.put (i := k) (r := 1) hk (by decide) (.int .i64 x) ⟨s.S.getD k 0, x, ⟨some (L.au k), s.P, s.P⟩⟩ (by rw [show (bksV s L).getD k blkK.dflt = (⟨s.S.getD k 0, s.T.getD k 0, ⟨some (L.au k), s.P, s.P⟩⟩ : BkV) from getD_map_range _ _ _ _ hk]; rfl) trivial
    refine Kind.Row.same this (map_range_set _ _ _ _ _ hk ?_ fun j hj e => ?_).symm
    · simp only [Yd.setT, getD_setY, hT, hk, and_self, if_true]
    · simp only [Yd.setT, getD_setY, e, false_and, if_false]
  · obtain ⟨c2, hc2⟩ := Row.typed (h.ur j hj) b hm
    exact setCell_heap w _ _ _ _ fun e => absurd (other_type (w := w) (e ▸ hc2) hc) (by decide)
theorem use_other (h : YRep w base g s L) {j : Nat} (hk : k < s.S.length) (hj : j < s.S.length) (e : j ≠ k) (o : Nat) (v : Value) : useK.Row (w.setCell ⟨(L.au k).block, o, none⟩ v) base (some (L.au j)) s.P s.P (usesV (s.N.getD j []) (s.D.getD j []) s.P) := Row.at_block (h.ur j hj) fun b hm => by
  have : b = (L.au j).block := by simpa [blk] using hm
  rw [this]
  exact setCell_heap w _ _ _ _ fun e2 => e (h.inj j k hj hk e2)
theorem use_keeps (h : YRep w base g s L) (hk : k < s.S.length) (o : Nat) (v : Value) : (w.setCell ⟨(L.au k).block, o, none⟩ v).heap[g]? = some (.cells #[.slice (some L.ab) s.S.length s.S.length] 51 (0, 0)) ∧ blkK.Row (w.setCell ⟨(L.au k).block, o, none⟩ v) base (some L.ab) s.S.length s.S.length (bksV s L) := by
  obtain ⟨cur, hc⟩ := h.typedU hk
  refine ⟨(setCell_heap w _ _ _ _ fun e => absurd (other_type (w := w) h.row (e ▸ hc)) (by decide)).trans h.row, Row.at_block h.br fun b hm => ?_⟩
  obtain ⟨c2, hc2⟩ := Row.typed h.br b hm
  exact setCell_heap w _ _ _ _ fun e => absurd (other_type (w := w) (e ▸ hc2) hc) (by decide)
theorem YRep.putN (h : YRep w base g s L) (hk : k < s.S.length) (hN : s.N.length = s.S.length) (hq : q < s.P) (hP : (s.N.getD k []).length = s.P) (x : Bool) : YRep (w.setCell ((L.au k).add (q * 2)) (.bool x)) base g (s.setN k q x) L := by
  rw [placeZ (h.auz hk)]
  obtain ⟨h1, h2⟩ := use_keeps h hk (q * 2) (.bool x)
  refine ⟨h.base_le, h1, h2, fun j hj => ?_, h.inj⟩
  show useK.Row _ base (some (L.au j)) s.P s.P (usesV ((s.N.set k ((s.N.getD k []).set q x)).getD j []) (s.D.getD j []) s.P)
  by_cases e : j = k
  · subst e
    rw [getD_setY, if_pos ⟨rfl, by rw [hN]; exact hj⟩]
    have hr := h.ur j hj
    rw [h.auz hj] at hr ⊢
    have := hr.put (i := q) (r := 0) hq (by decide) (.bool x) (x, (s.D.getD j []).getD q false) (by rw [show (usesV (s.N.getD j []) (s.D.getD j []) s.P).getD q useK.dflt = (((s.N.getD j []).getD q false, (s.D.getD j []).getD q false) : Bool × Bool) from getD_map_range _ _ _ _ hq]; rfl) trivial
    refine Kind.Row.same this (map_range_set _ _ _ _ _ hq ?_ fun i hi e => ?_).symm
    · simp only [getD_setY, hP, hq, and_self, if_true]
    · simp only [getD_setY, e, false_and, if_false]
  · rw [getD_setY, if_neg (fun x => e x.1)]
    exact use_other h hk hj e _ _
theorem YRep.putD (h : YRep w base g s L) (hk : k < s.S.length) (hD : s.D.length = s.S.length) (hq : q < s.P) (hP : (s.D.getD k []).length = s.P) (x : Bool) : YRep (w.setCell ⟨((L.au k).add (q * 2)).block, ((L.au k).add (q * 2)).off + 1, none⟩ (.bool x)) base g (s.setD k q x) L := by
  rw [placeZ (h.auz hk)]
  obtain ⟨h1, h2⟩ := use_keeps h hk (q * 2 + 1) (.bool x)
  refine ⟨h.base_le, h1, h2, fun j hj => ?_, h.inj⟩
  show useK.Row _ base (some (L.au j)) s.P s.P (usesV (s.N.getD j []) ((s.D.set k ((s.D.getD k []).set q x)).getD j []) s.P)
  by_cases e : j = k
  · subst e
    rw [getD_setY, if_pos ⟨rfl, by rw [hD]; exact hj⟩]
    have hr := h.ur j hj
    rw [h.auz hj] at hr ⊢
    have := hr.put (i := q) (r := 1) hq (by decide) (.bool x) ((s.N.getD j []).getD q false, x) (by rw [show (usesV (s.N.getD j []) (s.D.getD j []) s.P).getD q useK.dflt = (((s.N.getD j []).getD q false, (s.D.getD j []).getD q false) : Bool × Bool) from getD_map_range _ _ _ _ hq]; rfl) trivial
    refine Kind.Row.same this (map_range_set _ _ _ _ _ hq ?_ fun i hi e => ?_).symm
    · simp only [getD_setY, hP, hq, and_self, if_true]
    · simp only [getD_setY, e, false_and, if_false]
  · rw [getD_setY, if_neg (fun x => e x.1)]
    exact use_other h hk hj e _ _
end
/-- A yard at block g, all its blocks in fp. -/
structure YardAt (w : World) (base : Nat) (fp : Nat → Prop) (g : Nat) (s : Yd) : Prop where
  wf : YW s
  own : fp g
  ge : ∀ b, fp b → base ≤ b
  lt : ∀ b, fp b → b < w.heap.size
  ex : ∃ L, YRep w base g s L ∧ L.In s.S.length fp
section
variable {w w' : World} {base g : Nat} {s : Yd} {L : YLo} {fp fq : Nat → Prop}
theorem YardAt.keep (h : YardAt w base fp g s) (ht : Turn fq w w') (hd : Two fq fp) : YardAt w' base fp g s := by
  obtain ⟨L, h1, h2⟩ := h.ex
  have hb : ∀ b, fp b → w'.heap[b]? = w.heap[b]? := fun b hb => ht.block b (h.lt b hb) fun hq => hd b hq hb
  exact ⟨h.wf, h.own, h.ge, fun b hb => Nat.lt_of_lt_of_le (h.lt b hb) ht.size, ⟨L, h1.stays (hb g h.own) h2 hb, h2⟩⟩
theorem YardAt.since (h : YardAt w base fp g s) (hb : Below w.heap.size w w') : YardAt w' base fp g s := h.keep (fq := fun _ => False) (Turn.of_below hb) fun b hb => hb.elim
theorem YardAt.elder (h : YardAt w base fp g s) {base' : Nat} (hb : base' ≤ base) : YardAt w base' fp g s := by
  obtain ⟨L, h1, h2⟩ := h.ex
  exact ⟨h.wf, h.own, fun b hf => Nat.le_trans hb (h.ge b hf), h.lt, ⟨L, h1.elder hb, h2⟩⟩
theorem YardAt.same (h : YardAt w base fp g s) {s' : Yd} (e : s = s') : YardAt w base fp g s' := e ▸ h
theorem YardAt.base_le (h : YardAt w base fp g s) : base ≤ w.heap.size := Nat.le_of_lt (Nat.lt_of_le_of_lt (h.ge g h.own) (h.lt g h.own))
/-- Where it was turned: it stands again, in the same blocks. -/
theorem yard_turned {s' : Yd} (hR : YardAt w base fp g s) (hi : L.In s.S.length fp) (h1 : YRep w' base g s' L) (hl : s'.S.length = s.S.length) (hw : YW s') (ht : Turn fp w w') : YardAt w' base fp g s' ∧ Moves w fp w' fp :=
  ⟨⟨hw, hR.own, hR.ge, fun b hb => Nat.lt_of_lt_of_le (hR.lt b hb) ht.size, ⟨L, h1, by rw [hl]; exact hi⟩⟩, ht, fun b hb => Or.inl hb⟩
end
end Go.Proofs.Ytmfpelgkjgpfmaa
