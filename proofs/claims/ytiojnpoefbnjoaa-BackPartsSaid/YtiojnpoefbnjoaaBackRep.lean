/- The landed back in memory: a row of owners; what a store of one leaves. No conditions. -/
import Derived.Test.YtiojnpoefbnjoaaMoves
import Derived.Test.YtiojnpoefbnjoaaKindMade
import Derived.Test.YtiojnpoefbnjoaaBackMath
set_option linter.unusedVariables false
set_option linter.unusedSimpArgs false
namespace Go.Proofs.Ytiojnpoefbnjoaa
open Go.RowKit

theorem infoOwn : (Try.prog.info? 66).map (fun i => (i.zero, i.size, i.bytes)) = some (some (.agg #[.bool false, .int .u64 0]), 2, 16) := by kernel_rfl
def ownK : Kind (Bool × Int) where
  T := 66
  L := 57
  k := 2
  cv := fun v => [.bool v.1, .int .u64 v.2]
  wf := fun _ => True
  dflt := (false, 0)
  len := fun v => rfl
  one := fun v u hu => by
    simp only [List.mem_cons, List.not_mem_nil, or_false] at hu
    rcases hu with rfl | rfl <;> rfl
  pos := by decide
  ok := trivial
  under := Try.underlying57
  elem := by kernel_rfl
  info := by
    obtain ⟨i0, hi, hz0, hz1, hz2⟩ := info_parts infoOwn
    exact ⟨i0, _, hi, hz0, hz1, by rw [hz2]; omega, rfl⟩
theorem own_made_ : ∃ i z, Try.prog.info? ownK.T = some i ∧ i.zero = some z ∧ i.size = ownK.k ∧ i.bytes ≤ 1000 ∧ z.cells = (ownK.cv ownK.dflt).toArray := by
  obtain ⟨i0, hi, hz0, hz1, hz2⟩ := info_parts infoOwn
  exact ⟨i0, _, hi, hz0, hz1, by rw [hz2]; omega, rfl⟩
def ownV (o : Option Int) : Bool × Int := (o.isSome, o.getD 0)
theorem getD_own (s : Bk) (k : Nat) : (s.map ownV).getD k ownK.dflt = ownV (s.getD k none) := by
  rw [List.getD_eq_getElem?_getD, List.getD_eq_getElem?_getD, List.getElem?_map]
  cases s[k]? <;> rfl
theorem row_zero {α : Type} {K : Kind α} {w : World} {base n c : Nat} {a : Addr} {vs : List α} (h : K.Row w base (some a) n c vs) : a = ⟨a.block, 0, none⟩ := by
  rcases h.row.2 with ⟨hv, _⟩ | ⟨b, cap, cur, hv, _⟩
  · injection hv with h1; cases h1
  · injection hv with h1
    rw [Option.some.inj h1]
theorem placeZ {a : Addr} (h : a = ⟨a.block, 0, none⟩) (j : Nat) : a.add j = ⟨a.block, j, none⟩ := by
  rw [h]
  unfold Addr.add
  split
  · next h0 => rw [h0]
  · simp
structure BkRep (w : World) (base g : Nat) (s : Bk) (ab : Addr) : Prop where
  base_le : base ≤ g
  row : w.heap[g]? = some (.cells #[.slice (some ab) s.length s.length] 59 (0, 0))
  br : ownK.Row w base (some ab) s.length s.length (s.map ownV)
/-- One owner's cells, and what a store there asks. -/
structure CellsO (w : World) (p : Addr) (o : Option Int) : Prop where
  c0 : w.cell? p = some (.bool o.isSome)
  c1 : w.cell? ⟨p.block, p.off + 1, none⟩ = some (.int .u64 (o.getD 0))
  f0 : w.frozen? p = false
section
variable {w w' : World} {base g k : Nat} {s : Bk} {ab : Addr} {fp fq : Nat → Prop}
theorem BkRep.lt (h : BkRep w base g s ab) : g < w.heap.size := (Array.getElem?_eq_some_iff.1 h.row).1
theorem BkRep.c0 (h : BkRep w base g s ab) : w.cell? ⟨g, 0, none⟩ = some (.slice (some ab) s.length s.length) := by rw [cell_of_row _ _ _ _ _ _ h.row]; rfl
theorem BkRep.abz (h : BkRep w base g s ab) : ab = ⟨ab.block, 0, none⟩ := row_zero h.br
theorem cells_own {V : List (Bool × Int)} {n : Nat} (h : ownK.Row w base (some ab) n n V) (hk : k < n) : w.cell? (ab.add (k * 2)) = some (.bool (V.getD k (false, 0)).1) ∧ w.cell? ⟨(ab.add (k * 2)).block, (ab.add (k * 2)).off + 1, none⟩ = some (.int .u64 (V.getD k (false, 0)).2) ∧ w.frozen? (ab.add (k * 2)) = false ∧ w.frozen? ⟨(ab.add (k * 2)).block, (ab.add (k * 2)).off + 1, none⟩ = false := by
  obtain ⟨ad, e1, e2, e3⟩ := h.lie.each k hk
  obtain rfl := Option.some.inj e1
  have hb := h.row
  have hz := row_zero h
  rw [hz] at hb
  have hpl : ab.add (k * 2) = ⟨ab.block, k * 2, none⟩ := placeZ hz _
  refine ⟨by have := e3 0 (.bool (V.getD k (false, 0)).1) rfl; rwa [add_none] at this, by have := e3 1 (.int .u64 (V.getD k (false, 0)).2) rfl; rwa [add_at _ 0] at this, ?_, ?_⟩
  · rw [hpl]; exact hb.frozenAt _
  · rw [hpl]; exact hb.frozenAt _
theorem BkRep.block (h : BkRep w base g s ab) (hk : k < s.length) : CellsO w (ab.add (k * 2)) (s.getD k none) := by
  obtain ⟨h1, h2, h3, h4⟩ := cells_own h.br hk
  have := getD_own s k
  rw [show ownK.dflt = (false, 0) from rfl] at this
  rw [this] at h1 h2
  exact ⟨h1, h2, h3⟩
theorem BkRep.typed (h : BkRep w base g s ab) : ∃ cur, w.heap[ab.block]? = some (.cells cur 66 (0, 0)) := Row.typed h.br _ (by simp [blk])
theorem BkRep.stays (h : BkRep w base g s ab) (h0 : w'.heap[g]? = w.heap[g]?) (h1 : w'.heap[ab.block]? = w.heap[ab.block]?) : BkRep w' base g s ab :=
  ⟨h.base_le, h0.trans h.row, Row.at_block h.br fun b hm => by
    have : b = ab.block := by simpa [blk] using hm
    rw [this]; exact h1⟩
theorem BkRep.since (h : BkRep w base g s ab) (hb : Below w.heap.size w w') : BkRep w' base g s ab := ⟨h.base_le, (hb.block g h.lt).trans h.row, h.br.since hb⟩
theorem BkRep.elder (h : BkRep w base g s ab) {base' : Nat} (hb : base' ≤ base) : BkRep w base' g s ab := ⟨Nat.le_trans hb h.base_le, h.row, h.br.elder hb⟩
/-- A store of an owner: what it asks of the second cell, and what it leaves. -/
theorem BkRep.put (h : BkRep w base g s ab) (hk : k < s.length) (o : Option Int) :
    ((∃ u, (w.setCell (ab.add (k * 2)) (.bool o.isSome)).cell? ⟨(ab.add (k * 2)).block, (ab.add (k * 2)).off + 1, none⟩ = some u) ∧ (w.setCell (ab.add (k * 2)) (.bool o.isSome)).frozen? ⟨(ab.add (k * 2)).block, (ab.add (k * 2)).off + 1, none⟩ = false) ∧
    BkRep ((w.setCell (ab.add (k * 2)) (.bool o.isSome)).setCell ⟨(ab.add (k * 2)).block, (ab.add (k * 2)).off + 1, none⟩ (.int .u64 (o.getD 0))) base g (s.set k o) ab := by
  obtain ⟨cur, hc⟩ := h.typed
  have hz := h.abz
  have hg : g ≠ ab.block := fun e => absurd (other_type (w := w) h.row (e ▸ hc)) (by decide)
  have hr0 := h.br
  rw [hz] at hr0
  have hv : (s.map ownV).getD k ownK.dflt = ownV (s.getD k none) := getD_own s k
  have r1 := hr0.put (i := k) (r := 0) hk (by decide) (.bool o.isSome) (o.isSome, (s.getD k none).getD 0) (by rw [hv]; rfl) trivial
  have hl : (s.map ownV).length = s.length := List.length_map ..
  have r2 := r1.put (i := k) (r := 1) hk (by decide) (.int .u64 (o.getD 0)) (ownV o) (by rw [getD_setBk, if_pos ⟨rfl, by rw [hl]; exact hk⟩]; rfl) trivial
  have hpl : (⟨ab.block, 0, none⟩ : Addr).add (k * 2) = ⟨ab.block, k * 2, none⟩ := placeZ rfl _
  obtain ⟨_, h2, _, h4⟩ := cells_own r1 hk
  rw [hpl] at h2 h4
  rw [placeZ hz]
  refine ⟨⟨⟨_, h2⟩, h4⟩, h.base_le, ?_, ?_⟩
  · rw [show (s.set k o).length = s.length from List.length_set]
    exact (setCell_heap _ _ _ _ _ hg).trans ((setCell_heap _ _ _ _ _ hg).trans h.row)
  · rw [show (s.set k o).length = s.length from List.length_set]
    rw [hz]
    refine Kind.Row.same r2 ?_
    rw [List.set_set, List.map_set]
end
/-- A back at block g, its blocks in fp. -/
structure BkAt (w : World) (base : Nat) (fp : Nat → Prop) (g : Nat) (s : Bk) : Prop where
  wf : BkW s
  own : fp g
  ge : ∀ b, fp b → base ≤ b
  lt : ∀ b, fp b → b < w.heap.size
  ex : ∃ ab, BkRep w base g s ab ∧ fp ab.block
section
variable {w w' : World} {base g : Nat} {s : Bk} {fp fq : Nat → Prop}
theorem BkAt.keep (h : BkAt w base fp g s) (ht : Turn fq w w') (hd : Two fq fp) : BkAt w' base fp g s := by
  obtain ⟨ab, h1, h2⟩ := h.ex
  have hb : ∀ b, fp b → w'.heap[b]? = w.heap[b]? := fun b hb => ht.block b (h.lt b hb) fun hq => hd b hq hb
  exact ⟨h.wf, h.own, h.ge, fun b hb => Nat.lt_of_lt_of_le (h.lt b hb) ht.size, ⟨ab, h1.stays (hb g h.own) (hb _ h2), h2⟩⟩
theorem BkAt.since (h : BkAt w base fp g s) (hb : Below w.heap.size w w') : BkAt w' base fp g s := h.keep (fq := fun _ => False) (Turn.of_below hb) fun b hb => hb.elim
theorem BkAt.elder (h : BkAt w base fp g s) {base' : Nat} (hb : base' ≤ base) : BkAt w base' fp g s := by
  obtain ⟨ab, h1, h2⟩ := h.ex
  exact ⟨h.wf, h.own, fun b hf => Nat.le_trans hb (h.ge b hf), h.lt, ⟨ab, h1.elder hb, h2⟩⟩
theorem BkAt.same (h : BkAt w base fp g s) {s' : Bk} (e : s = s') : BkAt w base fp g s' := e ▸ h
theorem BkAt.base_le (h : BkAt w base fp g s) : base ≤ w.heap.size := Nat.le_of_lt (Nat.lt_of_le_of_lt (h.ge g h.own) (h.lt g h.own))
/-- Where it was turned: it stands again, in the same blocks. -/
theorem bk_turned {s' : Bk} {ab : Addr} (hR : BkAt w base fp g s) (hi : fp ab.block) (h1 : BkRep w' base g s' ab) (hw : BkW s') (ht : Turn fp w w') : BkAt w' base fp g s' ∧ Moves w fp w' fp :=
  ⟨⟨hw, hR.own, hR.ge, fun b hb => Nat.lt_of_lt_of_le (hR.lt b hb) ht.size, ⟨ab, h1, hi⟩⟩, ht, fun b hb => Or.inl hb⟩
end
end Go.Proofs.Ytiojnpoefbnjoaa
