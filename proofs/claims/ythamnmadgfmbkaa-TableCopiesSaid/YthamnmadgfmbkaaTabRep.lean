/- The landed table in memory: one row of rows with at most one row of entries (at most 120 entries); how many there are, how many dirty. No conditions. -/
import Derived.Test.YthamnmadgfmbkaaMoves
import Derived.Test.YthamnmadgfmbkaaEntShared
import Derived.Test.YthamnmadgfmbkaaInsRow
import Derived.Test.YthamnmadgfmbkaaTabPlace
set_option linter.unusedVariables false
set_option linter.unusedSimpArgs false
namespace Go.Proofs.Ythamnmadgfmbkaa
open Go.RowKit

/-- A slice of entries, as a value. -/
structure SV where
  a : Option Addr
  n : Nat
  c : Nat
def SV.zero : SV := ⟨none, 0, 0⟩
theorem infoES : (Try.prog.info? 27).map (fun i => (i.zero, i.size, i.bytes)) = some (some (.slice none 0 0), 1, 24) := by kernel_rfl
def esK : Kind SV where
  T := 27
  L := 50
  k := 1
  cv := fun v => [.slice v.a v.n v.c]
  wf := fun _ => True
  dflt := SV.zero
  len := fun v => rfl
  one := fun v u hu => by rw [List.mem_singleton.1 hu]; rfl
  pos := by decide
  ok := trivial
  under := Try.underlying50
  elem := by kernel_rfl
  info := by
    obtain ⟨i0, hi, hz0, hz1, hz2⟩ := info_parts infoES
    exact ⟨i0, _, hi, hz0, hz1, by rw [hz2]; omega, rfl⟩
theorem esK_zero : ∃ i z, Try.prog.info? esK.T = some i ∧ i.zero = some z ∧ i.size = esK.k ∧ i.bytes ≤ 1000 ∧ z.cells = (esK.cv esK.dflt).toArray := by
  obtain ⟨i0, hi, hz0, hz1, hz2⟩ := info_parts infoES
  exact ⟨i0, _, hi, hz0, hz1, by rw [hz2]; omega, rfl⟩
theorem entK_zero : ∃ i z, Try.prog.info? entK.T = some i ∧ i.zero = some z ∧ i.size = entK.k ∧ i.bytes ≤ 1000 ∧ z.cells = (entK.cv entK.dflt).toArray := by
  obtain ⟨i0, hi, hz0, hz1, hz2⟩ := info_parts infoE
  exact ⟨i0, _, hi, hz0, hz1, by rw [hz2]; omega, rfl⟩
theorem esK_at {w : World} {p : Addr} {v : SV} (h : esK.At w p v) : w.cell? p = some (.slice v.a v.n v.c) := by
  have := h 0 _ rfl
  rwa [add_none] at this
/-- One row of entries in a row of rows. -/
structure TOne (w : World) (base : Nat) (fp : Nat → Prop) (l : List E) (h cA r c : Nat) : Prop where
  rows : esK.Row w base (some ⟨h, 0, none⟩) 1 cA [⟨some ⟨r, 0, none⟩, l.length, c⟩]
  row : entK.Row w base (some ⟨r, 0, none⟩) l.length c l
  fh : fp h
  fr : fp r
/-- The value of the table's rows. -/
def TIn (w : World) (base : Nat) (fp : Nat → Prop) (l : List E) (v : Value) : Prop :=
  (l = [] ∧ ∃ A cA, v = .slice A 0 cA ∧ esK.Row w base A 0 cA [] ∧ ∀ b ∈ blk A, fp b) ∨ (0 < l.length ∧ ∃ h cA r c, v = .slice (some ⟨h, 0, none⟩) 1 cA ∧ TOne w base fp l h cA r c)
structure TCore (w : World) (base : Nat) (fp : Nat → Prop) (g : Nat) (l : List E) (v : Value) (m d : Int) : Prop where
  own : fp g
  ge : ∀ b, fp b → base ≤ b
  lt : ∀ b, fp b → b < w.heap.size
  tab : w.heap[g]? = some (.cells #[v, .int .i64 m, .int .i64 d] 52 (0, 0))
  rows : TIn w base fp l v
structure TabAt (w : World) (base : Nat) (fp : Nat → Prop) (g : Nat) (l : List E) : Prop where
  wf : TW l
  core : ∃ v, TCore w base fp g l v (l.length : Int) (dirtyT l : Int)
/-- The blocks behind a call: those that were, and new ones. -/
def newer (fp : Nat → Prop) (w w' : World) : Nat → Prop := fun b => fp b ∨ (w.heap.size ≤ b ∧ b < w'.heap.size)
section
variable {w w' w'' : World} {base base' g h r c cA : Nat} {l l' : List E} {v v' : Value} {m d m' d' : Int} {fp fq : Nat → Prop} {cs : Array Value}
theorem blk_zero (h : Nat) : ∀ b ∈ blk (some (⟨h, 0, none⟩ : Addr)), b = h := fun b hb => by simpa [blk] using hb
theorem TOne.stay (k : TOne w base fp l h cA r c) (hg : w.heap[g]? = some (.cells cs 52 (0, 0))) (hb : ∀ b, fp b → b ≠ g → w'.heap[b]? = w.heap[b]?) : TOne w' base fp l h cA r c :=
  ⟨Row.at_block k.rows fun b hm => by
      obtain ⟨cur, hc⟩ := Row.typed k.rows b hm
      have e := blk_zero h b hm
      subst e
      exact hb _ k.fh fun e => by
        rw [e] at hc
        have := other_type hc hg
        revert this; decide,
   Row.at_block k.row fun b hm => by
      obtain ⟨cur, hc⟩ := Row.typed k.row b hm
      have e := blk_zero r b hm
      subst e
      exact hb _ k.fr fun e => by
        rw [e] at hc
        have := other_type hc hg
        revert this; decide, k.fh, k.fr⟩
theorem TIn.stay (k : TIn w base fp l v) (hg : w.heap[g]? = some (.cells cs 52 (0, 0))) (hb : ∀ b, fp b → b ≠ g → w'.heap[b]? = w.heap[b]?) : TIn w' base fp l v := by
  rcases k with ⟨e, A, cA, ev, hr, hf⟩ | ⟨h0, h, cA, r, c, ev, ho⟩
  · refine Or.inl ⟨e, A, cA, ev, Row.at_block hr fun b hm => ?_, hf⟩
    obtain ⟨cur, hc⟩ := Row.typed hr b hm
    exact hb _ (hf b hm) fun e => by
      rw [e] at hc
      have := other_type hc hg
      revert this; decide
  · exact Or.inr ⟨h0, h, cA, r, c, ev, ho.stay hg hb⟩
theorem TIn.mono (k : TIn w base fp l v) (hf : ∀ b, fp b → fq b) : TIn w base fq l v := by
  rcases k with ⟨e, A, cA, ev, hr, h1⟩ | ⟨h0, h, cA, r, c, ev, ho⟩
  · exact Or.inl ⟨e, A, cA, ev, hr, fun b hb => hf b (h1 b hb)⟩
  · exact Or.inr ⟨h0, h, cA, r, c, ev, ho.rows, ho.row, hf _ ho.fh, hf _ ho.fr⟩
theorem TIn.elder (k : TIn w base fp l v) (hb : base' ≤ base) : TIn w base' fp l v := by
  rcases k with ⟨e, A, cA, ev, hr, h1⟩ | ⟨h0, h, cA, r, c, ev, ho⟩
  · exact Or.inl ⟨e, A, cA, ev, hr.elder hb, h1⟩
  · exact Or.inr ⟨h0, h, cA, r, c, ev, ho.rows.elder hb, ho.row.elder hb, ho.fh, ho.fr⟩
theorem TCore.glt (k : TCore w base fp g l v m d) : g < w.heap.size := k.lt g k.own
theorem TCore.base_le (k : TCore w base fp g l v m d) : base ≤ w.heap.size := Nat.le_of_lt (Nat.lt_of_le_of_lt (k.ge g k.own) k.glt)
theorem TCore.keep (k : TCore w base fp g l v m d) (hs : w.heap.size ≤ w'.heap.size) (hb : ∀ b, fp b → w'.heap[b]? = w.heap[b]?) : TCore w' base fp g l v m d :=
  ⟨k.own, k.ge, fun b hf => Nat.lt_of_lt_of_le (k.lt b hf) hs, (hb g k.own).trans k.tab, k.rows.stay k.tab fun b hf _ => hb b hf⟩
theorem TCore.since (k : TCore w base fp g l v m d) (hb : Below w.heap.size w w') : TCore w' base fp g l v m d := k.keep hb.size fun b hf => hb.block b (k.lt b hf)
/-- What a call leaves: the table's own cells, its rows. -/
theorem TCore.fin (k : TCore w base fp g l v m d) (ht : Turn fp w w') (hg : w'.heap[g]? = some (.cells #[v', .int .i64 m', .int .i64 d'] 52 (0, 0))) (hr : TIn w' base (newer fp w w') l' v') :
    TCore w' base (newer fp w w') g l' v' m' d' ∧ Moves w fp w' (newer fp w w') :=
  ⟨⟨Or.inl k.own, fun b hb => by
      rcases hb with hb | hb
      · exact k.ge b hb
      · have := k.base_le; omega, fun b hb => by
      rcases hb with hb | hb
      · exact Nat.lt_of_lt_of_le (k.lt b hb) ht.size
      · exact hb.2, hg, hr⟩, ⟨ht, fun b hb => hb.imp id And.left⟩⟩
theorem TCore.c0 (k : TCore w base fp g l v m d) : w.cell? ⟨g, 0, none⟩ = some v := by rw [cell_of_row _ _ _ _ _ _ k.tab]; rfl
theorem TCore.c1 (k : TCore w base fp g l v m d) : w.cell? ⟨g, 1, none⟩ = some (.int .i64 m) := by rw [cell_of_row _ _ _ _ _ _ k.tab]; rfl
theorem TCore.c2 (k : TCore w base fp g l v m d) : w.cell? ⟨g, 2, none⟩ = some (.int .i64 d) := by rw [cell_of_row _ _ _ _ _ _ k.tab]; rfl
theorem TCore.free (k : TCore w base fp g l v m d) (j : Nat) : w.frozen? ⟨g, j, none⟩ = false := by simp [World.frozen?, k.tab]
/-- A store into the table's own cells. -/
theorem tab_set0 (hg : w.heap[g]? = some (.cells #[v, .int .i64 m, .int .i64 d] 52 (0, 0))) (v' : Value) : (w.setCell ⟨g, 0, none⟩ v').heap[g]? = some (.cells #[v', .int .i64 m, .int .i64 d] 52 (0, 0)) := by simp [World.setCell, Array.getElem?_modify, hg]
theorem tab_set1 (hg : w.heap[g]? = some (.cells #[v, .int .i64 m, .int .i64 d] 52 (0, 0))) (m' : Int) : (w.setCell ⟨g, 1, none⟩ (.int .i64 m')).heap[g]? = some (.cells #[v, .int .i64 m', .int .i64 d] 52 (0, 0)) := by simp [World.setCell, Array.getElem?_modify, hg]
theorem tab_set2 (hg : w.heap[g]? = some (.cells #[v, .int .i64 m, .int .i64 d] 52 (0, 0))) (d' : Int) : (w.setCell ⟨g, 2, none⟩ (.int .i64 d')).heap[g]? = some (.cells #[v, .int .i64 m, .int .i64 d'] 52 (0, 0)) := by simp [World.setCell, Array.getElem?_modify, hg]
theorem TCore.set1 (k : TCore w base fp g l v m d) (m' : Int) : TCore (w.setCell ⟨g, 1, none⟩ (.int .i64 m')) base fp g l v m' d :=
  ⟨k.own, k.ge, fun b hf => by have := k.lt b hf; simpa [World.setCell] using this, tab_set1 k.tab m', k.rows.stay k.tab fun b hf hn => setCell_heap _ _ _ _ _ hn⟩
theorem TCore.set2 (k : TCore w base fp g l v m d) (d' : Int) : TCore (w.setCell ⟨g, 2, none⟩ (.int .i64 d')) base fp g l v m d' :=
  ⟨k.own, k.ge, fun b hf => by have := k.lt b hf; simpa [World.setCell] using this, tab_set2 k.tab d', k.rows.stay k.tab fun b hf hn => setCell_heap _ _ _ _ _ hn⟩
theorem TCore.turn_set (k : TCore w base fp g l v m d) (j : Nat) (x : Value) : Turn fp w (w.setCell ⟨g, j, none⟩ x) := Turn.of_setCell _ _ k.own
theorem TCore.nums (k : TCore w base fp g l v m d) (h1 : m = m') (h2 : d = d') : TCore w base fp g l v m' d' := h1 ▸ h2 ▸ k
theorem TCore.tab_other (k : TCore w base fp g l v m d) {b : Nat} {x : Array Value} {T : TypeId} (hb : w.heap[b]? = some (.cells x T (0, 0))) (hT : T ≠ 52) : b ≠ g := fun e => by
  rw [e] at hb
  exact hT (other_type hb k.tab)
/- the face's own -/
theorem TabAt.own (k : TabAt w base fp g l) : fp g := k.core.choose_spec.own
theorem TabAt.ge (k : TabAt w base fp g l) : ∀ b, fp b → base ≤ b := k.core.choose_spec.ge
theorem TabAt.lt (k : TabAt w base fp g l) : ∀ b, fp b → b < w.heap.size := k.core.choose_spec.lt
theorem TabAt.keep (h : TabAt w base fp g l) (ht : Turn fq w w') (hd : Two fq fp) : TabAt w' base fp g l := by
  obtain ⟨v, k⟩ := h.core
  exact ⟨h.wf, v, k.keep ht.size fun b hf => ht.block b (k.lt b hf) fun hq => hd b hq hf⟩
theorem TabAt.since (h : TabAt w base fp g l) (hb : Below w.heap.size w w') : TabAt w' base fp g l := h.keep (fq := fun _ => False) (Turn.of_below hb) fun b hb => hb.elim
theorem TabAt.elder (h : TabAt w base fp g l) {base' : Nat} (hb : base' ≤ base) : TabAt w base' fp g l := by
  obtain ⟨v, k⟩ := h.core
  exact ⟨h.wf, v, k.own, fun b hf => Nat.le_trans hb (k.ge b hf), k.lt, k.tab, k.rows.elder hb⟩
theorem TabAt.same (h : TabAt w base fp g l) {l' : List E} (e : l = l') : TabAt w base fp g l' := e ▸ h
theorem TabAt.base_le (h : TabAt w base fp g l) : base ≤ w.heap.size := Nat.le_of_lt (Nat.lt_of_le_of_lt (h.ge g h.own) (h.lt g h.own))
end
end Go.Proofs.Ythamnmadgfmbkaa
