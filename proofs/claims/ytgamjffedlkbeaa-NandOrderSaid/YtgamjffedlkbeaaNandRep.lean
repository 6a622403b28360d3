/- A chip of the project in memory: its cells, its blocks' cells, their bytes; what each store leaves. No conditions. -/
import Derived.Test.YtgamjffedlkbeaaNandMath
import Derived.Test.YtgamjffedlkbeaaMoves
import Derived.Test.YtgamjffedlkbeaaQuiet
import Derived.Test.YtgamjffedlkbeaaKindMade
set_option linter.unusedVariables false
set_option linter.unusedSimpArgs false
namespace Go.Proofs.Ytgamjffedlkbeaa
open Go.RowKit

/-- A block, as its cells have it. -/
structure BV where
  a : Option Addr
  n : Nat
  c : Nat
  next : Nat
  wear : Nat
  marked : Bool
  failed : Bool
def BV.zero : BV := ⟨none, 0, 0, 0, 0, false, false⟩
def bvCells (v : BV) : List Value := [.slice v.a v.n v.c, .int .i64 (v.next : Int), .int .i64 (v.wear : Int), .bool v.marked, .bool v.failed]
theorem infoBV : (Try.prog.info? 60).map (fun i => (i.zero, i.size, i.bytes)) = some (some (.agg #[.slice none 0 0, .int .i64 0, .int .i64 0, .bool false, .bool false]), 5, 48) := by kernel_rfl
def blkK : Kind BV where
  T := 60
  L := 56
  k := 5
  cv := bvCells
  wf := fun _ => True
  dflt := BV.zero
  len := fun v => rfl
  one := fun v u hu => by
    simp only [bvCells, List.mem_cons, List.not_mem_nil, or_false] at hu
    rcases hu with rfl | rfl | rfl | rfl | rfl <;> rfl
  pos := by decide
  ok := trivial
  under := Try.underlying56
  elem := by kernel_rfl
  info := by
    obtain ⟨i0, hi, hz0, hz1, hz2⟩ := info_parts infoBV
    exact ⟨i0, _, hi, hz0, hz1, by rw [hz2]; omega, rfl⟩
theorem blkK_T : blkK.T = 60 := rfl
theorem mishK_T : mishK.T = 45 := rfl
/-- Where a chip stands. -/
structure CL where
  AM : Option Addr
  cM : Nat
  ab : Addr
  cB : Nat
  v : List BV
def CL.at_ (L : CL) (k : Nat) : BV := L.v.getD k BV.zero
def chipRow (s : Chip) (L : CL) : Array Value := #[.int .i64 (s.nb : Int), .int .i64 (s.np : Int), .int .i64 (s.ns : Int), .slice L.AM s.ms.length L.cM, .slice (some L.ab) s.nb L.cB, .bool s.on, .int .i64 (s.ops : Int), .int .i64 (s.misuse : Int), .int .i64 (s.programs : Int)]
def Chip.nth (s : Chip) (k : Nat) : Blk := s.bs.getD k Blk.zero
structure BlkAt (w : World) (base : Nat) (v : BV) (b : Blk) : Prop where
  raw : Own w base v.a v.n v.c b.pg.flatten
  next : v.next = b.next
  wear : v.wear = b.wear
  marked : v.marked = b.marked
  failed : v.failed = b.failed
structure Rep (w : World) (base : Nat) (fp : Nat → Prop) (g : Nat) (s : Chip) (L : CL) : Prop where
  wf : s.Wf
  row : w.heap[g]? = some (.cells (chipRow s L) 58 (0, 0))
  ms : mishK.Row w base L.AM s.ms.length L.cM s.ms
  bl : blkK.Row w base (some L.ab) s.nb L.cB L.v
  each : ∀ k, k < s.nb → BlkAt w base (L.at_ k) (s.nth k)
  apart : ∀ j k, j < s.nb → k < s.nb → j ≠ k → ∀ x ∈ Go.Proofs.Ytgamjffedlkbeaa.blk (L.at_ j).a, x ∉ Go.Proofs.Ytgamjffedlkbeaa.blk (L.at_ k).a
  fg : fp g
  fm : ∀ b ∈ Go.Proofs.Ytgamjffedlkbeaa.blk L.AM, fp b
  fb : fp L.ab.block
  fr : ∀ k, k < s.nb → ∀ b ∈ Go.Proofs.Ytgamjffedlkbeaa.blk (L.at_ k).a, fp b
  ge : ∀ b, fp b → base ≤ b
  lt : ∀ b, fp b → b < w.heap.size
structure CellsC (w : World) (g : Nat) (s : Chip) (L : CL) : Prop where
  c0 : w.cell? ⟨g, 0, none⟩ = some (.int .i64 (s.nb : Int))
  c1 : w.cell? ⟨g, 1, none⟩ = some (.int .i64 (s.np : Int))
  c2 : w.cell? ⟨g, 2, none⟩ = some (.int .i64 (s.ns : Int))
  c3 : w.cell? ⟨g, 3, none⟩ = some (.slice L.AM s.ms.length L.cM)
  c4 : w.cell? ⟨g, 4, none⟩ = some (.slice (some L.ab) s.nb L.cB)
  c5 : w.cell? ⟨g, 5, none⟩ = some (.bool s.on)
  c6 : w.cell? ⟨g, 6, none⟩ = some (.int .i64 (s.ops : Int))
  c7 : w.cell? ⟨g, 7, none⟩ = some (.int .i64 (s.misuse : Int))
  c8 : w.cell? ⟨g, 8, none⟩ = some (.int .i64 (s.programs : Int))
/-- A block's five cells, as a walk wants them. -/
structure CellsB (w : World) (p : Addr) (v : BV) : Prop where
  c0 : w.cell? p = some (.slice v.a v.n v.c)
  c1 : w.cell? ⟨p.block, p.off + 1, none⟩ = some (.int .i64 (v.next : Int))
  c2 : w.cell? ⟨p.block, p.off + 2, none⟩ = some (.int .i64 (v.wear : Int))
  c3 : w.cell? ⟨p.block, p.off + 3, none⟩ = some (.bool v.marked)
  c4 : w.cell? ⟨p.block, p.off + 4, none⟩ = some (.bool v.failed)
theorem cellsB_of {w : World} {p : Addr} {v : BV} (h : blkK.At w p v) : CellsB w p v :=
  ⟨by have := h 0 (.slice v.a v.n v.c) rfl; rwa [add_none] at this, by have := h 1 (.int .i64 (v.next : Int)) rfl; rwa [add_at p 0] at this, by have := h 2 (.int .i64 (v.wear : Int)) rfl; rwa [add_at p 1] at this, by have := h 3 (.bool v.marked) rfl; rwa [add_at p 2] at this, by have := h 4 (.bool v.failed) rfl; rwa [add_at p 3] at this⟩
section
variable {w w' : World} {base base' g k : Nat} {fp fq : Nat → Prop} {s s' : Chip} {L : CL}
theorem Rep.glt (h : Rep w base fp g s L) : g < w.heap.size := (Array.getElem?_eq_some_iff.1 h.row).1
theorem Rep.cells (h : Rep w base fp g s L) : CellsC w g s L :=
  ⟨by rw [cell_of_row _ _ _ _ _ _ h.row]; rfl, by rw [cell_of_row _ _ _ _ _ _ h.row]; rfl, by rw [cell_of_row _ _ _ _ _ _ h.row]; rfl, by rw [cell_of_row _ _ _ _ _ _ h.row]; rfl, by rw [cell_of_row _ _ _ _ _ _ h.row]; rfl, by rw [cell_of_row _ _ _ _ _ _ h.row]; rfl, by rw [cell_of_row _ _ _ _ _ _ h.row]; rfl, by rw [cell_of_row _ _ _ _ _ _ h.row]; rfl, by rw [cell_of_row _ _ _ _ _ _ h.row]; rfl⟩
theorem Rep.free (h : Rep w base fp g s L) (k : Nat) : w.frozen? ⟨g, k, none⟩ = false := by simp [World.frozen?, h.row]
/-- The blocks' row begins its block. -/
theorem Rep.ab (h : Rep w base fp g s L) : L.ab = ⟨L.ab.block, 0, none⟩ := by
  rcases h.bl.row.2 with ⟨hv, _⟩ | ⟨b, cap, cur, hv, _⟩
  · injection hv with h1; cases h1
  · injection hv with h1
    rw [Option.some.inj h1]
theorem Rep.place (h : Rep w base fp g s L) (k : Nat) : L.ab.add (k * 5) = ⟨L.ab.block, k * 5, none⟩ := by
  rw [h.ab]
  unfold Addr.add
  split
  · next h0 => rw [h0]
  · simp
theorem Rep.block (h : Rep w base fp g s L) (hk : k < s.nb) : CellsB w (L.ab.add (k * 5)) (L.at_ k) := by
  obtain ⟨ad, e1, e2, e3⟩ := h.bl.lie.each k hk
  obtain rfl := Option.some.inj e1
  exact cellsB_of (v := L.at_ k) e3
theorem Rep.free5 (h : Rep w base fp g s L) (k r : Nat) : w.frozen? ⟨(L.ab.add (k * 5)).block, (L.ab.add (k * 5)).off + r, none⟩ = false := by
  rw [h.place k]
  have hb := h.bl.row
  rw [h.ab] at hb
  exact hb.frozenAt _
theorem Rep.vlen (h : Rep w base fp g s L) : L.v.length = s.nb := h.bl.len
theorem Rep.bl_not_g (h : Rep w base fp g s L) : L.ab.block ≠ g := fun e => by
  obtain ⟨cur, hc⟩ := Row.typed h.bl L.ab.block (by simp [Go.Proofs.Ytgamjffedlkbeaa.blk])
  rw [e] at hc
  exact absurd (other_type hc h.row) (by rw [blkK_T]; decide)
theorem Rep.ms_not_g (h : Rep w base fp g s L) : ∀ b ∈ Go.Proofs.Ytgamjffedlkbeaa.blk L.AM, b ≠ g := fun b hb e => by
  obtain ⟨cur, hc⟩ := Row.typed h.ms b hb
  rw [e] at hc
  exact absurd (other_type hc h.row) (by rw [mishK_T]; decide)
theorem Rep.ms_not_bl (h : Rep w base fp g s L) : ∀ b ∈ Go.Proofs.Ytgamjffedlkbeaa.blk L.AM, b ≠ L.ab.block := fun b hb e => by
  obtain ⟨cur, hc⟩ := Row.typed h.ms b hb
  obtain ⟨cur2, hc2⟩ := Row.typed h.bl L.ab.block (by simp [Go.Proofs.Ytgamjffedlkbeaa.blk])
  rw [e] at hc
  exact absurd (other_type hc hc2) (by rw [mishK_T, blkK_T]; decide)
theorem Rep.raw_not_g (h : Rep w base fp g s L) (hk : k < s.nb) : ∀ b ∈ Go.Proofs.Ytgamjffedlkbeaa.blk (L.at_ k).a, b ≠ g := fun b hb e => by
  obtain ⟨cur, hc⟩ := (h.each k hk).raw.typed b hb
  rw [e] at hc
  exact absurd (other_type hc h.row) (by decide)
theorem Rep.raw_not_bl (h : Rep w base fp g s L) (hk : k < s.nb) : ∀ b ∈ Go.Proofs.Ytgamjffedlkbeaa.blk (L.at_ k).a, b ≠ L.ab.block := fun b hb e => by
  obtain ⟨cur, hc⟩ := (h.each k hk).raw.typed b hb
  obtain ⟨cur2, hc2⟩ := Row.typed h.bl L.ab.block (by simp [Go.Proofs.Ytgamjffedlkbeaa.blk])
  rw [e] at hc
  exact absurd (other_type hc hc2) (by rw [blkK_T]; decide)
theorem Rep.raw_not_ms (h : Rep w base fp g s L) (hk : k < s.nb) : ∀ b ∈ Go.Proofs.Ytgamjffedlkbeaa.blk (L.at_ k).a, b ∉ Go.Proofs.Ytgamjffedlkbeaa.blk L.AM := fun b hb e => by
  obtain ⟨cur, hc⟩ := (h.each k hk).raw.typed b hb
  obtain ⟨cur2, hc2⟩ := Row.typed h.ms b e
  exact absurd (other_type hc hc2) (by rw [mishK_T]; decide)
theorem BlkAt.at_block {v : BV} {b : Blk} (h : BlkAt w base v b) (hb : ∀ x ∈ Go.Proofs.Ytgamjffedlkbeaa.blk v.a, w'.heap[x]? = w.heap[x]?) : BlkAt w' base v b :=
  ⟨h.raw.at_block hb, h.next, h.wear, h.marked, h.failed⟩
/-- Its blocks stand as they stood. -/
theorem Rep.keepB (h : Rep w base fp g s L) (hb : ∀ b, fp b → w'.heap[b]? = w.heap[b]?) (hsz : w.heap.size ≤ w'.heap.size) : Rep w' base fp g s L :=
  ⟨h.wf, (hb g h.fg).trans h.row, Row.at_block h.ms fun b hm => hb b (h.fm b hm), Row.at_block h.bl fun b hm => hb b (by rw [show b = L.ab.block by simpa [Go.Proofs.Ytgamjffedlkbeaa.blk] using hm]; exact h.fb), fun k hk => (h.each k hk).at_block fun b hm => hb b (h.fr k hk b hm),
    h.apart, h.fg, h.fm, h.fb, h.fr, h.ge, fun b hf => Nat.lt_of_lt_of_le (h.lt b hf) hsz⟩
theorem Rep.keep (h : Rep w base fp g s L) (ht : Turn fq w w') (hd : Two fq fp) : Rep w' base fp g s L :=
  h.keepB (fun b hf => ht.block b (h.lt b hf) fun hq => hd b hq hf) ht.size
theorem Rep.since (h : Rep w base fp g s L) (hb : Below w.heap.size w w') : Rep w' base fp g s L := h.keep (fq := fun _ => False) (Turn.of_below hb) fun b hb => hb.elim
theorem BlkAt.elder {v : BV} {b : Blk} (h : BlkAt w base v b) (hb : base' ≤ base) : BlkAt w base' v b := ⟨h.raw.elder hb, h.next, h.wear, h.marked, h.failed⟩
theorem Rep.elder (h : Rep w base fp g s L) (hb : base' ≤ base) : Rep w base' fp g s L :=
  ⟨h.wf, h.row, h.ms.elder hb, h.bl.elder hb, fun k hk => (h.each k hk).elder hb, h.apart, h.fg, h.fm, h.fb, h.fr, fun b hf => Nat.le_trans hb (h.ge b hf), h.lt⟩
/-- The chip's own cells are others: the chip's numbers alone turn. -/
theorem Rep.head (h : Rep w base fp g s L) (hs : s'.Wf) (e1 : s'.nb = s.nb) (e2 : s'.np = s.np) (e3 : s'.ns = s.ns) (e4 : s'.ms = s.ms) (e5 : s'.bs = s.bs) (hrow : w'.heap[g]? = some (.cells (chipRow s' L) 58 (0, 0))) (hk : ∀ b, b ≠ g → w'.heap[b]? = w.heap[b]?) (hsz : w.heap.size ≤ w'.heap.size) : Rep w' base fp g s' L := by
  have en : ∀ k, s'.nth k = s.nth k := fun k => by unfold Chip.nth; rw [e5]
  refine ⟨hs, hrow, ?_, ?_, fun k hk' => ?_, by rw [e1]; exact h.apart, h.fg, h.fm, h.fb, by rw [e1]; exact h.fr, h.ge, fun b hf => Nat.lt_of_lt_of_le (h.lt b hf) hsz⟩
  · rw [e4]; exact Row.at_block h.ms fun b hb => hk b (h.ms_not_g b hb)
  · rw [e1]; exact Row.at_block h.bl fun b hb => hk b (by rw [show b = L.ab.block by simpa [Go.Proofs.Ytgamjffedlkbeaa.blk] using hb]; exact h.bl_not_g)
  · rw [e1] at hk'
    rw [en]
    exact (h.each k hk').at_block fun b hb => hk b (h.raw_not_g hk' b hb)
theorem getD_set_self {α : Type} {l : List α} {k : Nat} (hk : k < l.length) (x d : α) : (l.set k x).getD k d = x := by
  rw [List.getD_eq_getElem?_getD, List.getElem?_set_self hk]; rfl
theorem getD_set_other {α : Type} {l : List α} {k j : Nat} (hk : k ≠ j) (x d : α) : (l.set k x).getD j d = l.getD j d := by
  rw [List.getD_eq_getElem?_getD, List.getD_eq_getElem?_getD, List.getElem?_set_ne hk]
/-- One cell of one block is another one. -/
theorem Rep.cell (h : Rep w base fp g s L) (hk : k < s.nb) {r : Nat} (hr : r < 5) (u : Value) (x : BV) (y : Blk) (hx : bvCells x = (bvCells (L.at_ k)).set r u) (ha : x.a = (L.at_ k).a) (hn : x.n = (L.at_ k).n) (hc : x.c = (L.at_ k).c)
    (hy : y.pg = (s.nth k).pg) (y1 : x.next = y.next) (y2 : x.wear = y.wear) (y3 : x.marked = y.marked) (y4 : x.failed = y.failed) (hwf : (s.setB (k : Int) y).Wf) :
    Rep (w.setCell ⟨(L.ab.add (k * 5)).block, (L.ab.add (k * 5)).off + r, none⟩ u) base fp g (s.setB (k : Int) y) { L with v := L.v.set k x } := by
  rw [h.place k]
  have hlv := h.vlen
  have hlb := h.wf.len
  have hkb : ∀ b, b ≠ L.ab.block → (w.setCell ⟨L.ab.block, k * 5 + r, none⟩ u).heap[b]? = w.heap[b]? := fun b hb => setCell_heap w L.ab.block (k * 5 + r) b u hb
  have hat : ∀ j, j < s.nb → ({ L with v := L.v.set k x } : CL).at_ j = if j = k then x else L.at_ j := fun j hj => by
    unfold CL.at_
    by_cases e : j = k
    · subst e; rw [if_pos rfl]; exact getD_set_self (by rw [hlv]; exact hj) _ _
    · rw [if_neg e]; exact getD_set_other (Ne.symm e) _ _
  have hata : ∀ j, j < s.nb → (({ L with v := L.v.set k x } : CL).at_ j).a = (L.at_ j).a := fun j hj => by
    rw [hat j hj]
    by_cases e : j = k
    · subst e; rw [if_pos rfl]; exact ha
    · rw [if_neg e]
  have hnth : ∀ j, j < s.nb → (s.setB (k : Int) y).nth j = if j = k then y else s.nth j := fun j hj => by
    unfold Chip.nth Chip.setB
    rw [Int.toNat_natCast]
    by_cases e : j = k
    · subst e; rw [if_pos rfl]; exact getD_set_self (by rw [hlb]; exact hj) _ _
    · rw [if_neg e]; exact getD_set_other (Ne.symm e) _ _
  refine ⟨hwf, (hkb g h.bl_not_g.symm).trans h.row, Row.at_block h.ms fun b hb => hkb b (h.ms_not_bl b hb), ?_, fun j hj => ?_, fun i j hi hj hij b hb => ?_, h.fg, h.fm, h.fb, fun j hj b hb => h.fr j hj b (by rw [← hata j hj]; exact hb), h.ge, fun b hf => Nat.lt_of_lt_of_le (h.lt b hf) (by rw [World.setCell]; simp)⟩
  · have hbl := h.bl
    rw [h.ab] at hbl
    have := Kind.Row.put hbl hk hr u x hx trivial
    show blkK.Row _ base (some L.ab) s.nb L.cB (L.v.set k x)
    rw [h.ab]; exact this
  · have hj' : j < s.nb := hj
    have h0 := (h.each j hj').at_block (w' := w.setCell ⟨L.ab.block, k * 5 + r, none⟩ u) fun b hb => hkb b (h.raw_not_bl hj' b hb)
    rw [hat j hj', hnth j hj']
    by_cases e : j = k
    · subst e
      rw [if_pos rfl, if_pos rfl]
      exact ⟨by rw [ha, hn, hc, hy]; exact h0.raw, y1, y2, y3, y4⟩
    · rw [if_neg e, if_neg e]; exact h0
  · rw [hata i hi] at hb
    rw [hata j hj]
    exact h.apart i j hi hj hij b hb
/-- The bytes of one block are others. -/
theorem Rep.bytes (h : Rep w base fp g s L) (hk : k < s.nb) (y : Blk) (ho : Own w' base (L.at_ k).a (L.at_ k).n (L.at_ k).c y.pg.flatten) (y1 : y.next = (s.nth k).next) (y2 : y.wear = (s.nth k).wear) (y3 : y.marked = (s.nth k).marked) (y4 : y.failed = (s.nth k).failed)
    (ht : ∀ b, b < w.heap.size → b ∉ Go.Proofs.Ytgamjffedlkbeaa.blk (L.at_ k).a → w'.heap[b]? = w.heap[b]?) (hsz : w.heap.size ≤ w'.heap.size) (hwf : (s.setB (k : Int) y).Wf) : Rep w' base fp g (s.setB (k : Int) y) L := by
  have hlb := h.wf.len
  have hnth : ∀ j, j < s.nb → (s.setB (k : Int) y).nth j = if j = k then y else s.nth j := fun j hj => by
    unfold Chip.nth Chip.setB
    rw [Int.toNat_natCast]
    by_cases e : j = k
    · subst e; rw [if_pos rfl]; exact getD_set_self (by rw [hlb]; exact hj) _ _
    · rw [if_neg e]; exact getD_set_other (Ne.symm e) _ _
  refine ⟨hwf, (ht g h.glt fun hb => h.raw_not_g hk g hb rfl).trans h.row, Row.at_block h.ms fun b hb => ht b (Row.blk_lt h.ms b hb) fun hb' => h.raw_not_ms hk b hb' hb, Row.at_block h.bl fun b hb => ht b (Row.blk_lt h.bl b hb) fun hb' => h.raw_not_bl hk b hb' (by simpa [Go.Proofs.Ytgamjffedlkbeaa.blk] using hb), fun j hj => ?_, h.apart, h.fg, h.fm, h.fb, h.fr, h.ge, fun b hf => Nat.lt_of_lt_of_le (h.lt b hf) hsz⟩
  have hj' : j < s.nb := hj
  rw [hnth j hj']
  by_cases e : j = k
  · subst e
    rw [if_pos rfl]
    have h0 := h.each j hj'
    exact ⟨ho, h0.next.trans y1.symm, h0.wear.trans y2.symm, h0.marked.trans y3.symm, h0.failed.trans y4.symm⟩
  · rw [if_neg e]
    exact (h.each j hj').at_block fun b hb => ht b ((h.each j hj').raw.blk_lt b hb) (h.apart j k hj' hk e b hb)
end
/-- A chip as an object apart from all else. -/
def ChipAt (w : World) (base : Nat) (fp : Nat → Prop) (g : Nat) (s : Chip) : Prop := ∃ L, Rep w base fp g s L
section
variable {w w' : World} {base g : Nat} {fp fq : Nat → Prop} {s : Chip}
theorem ChipAt.wf (h : ChipAt w base fp g s) : s.Wf := h.elim fun L h => h.wf
theorem ChipAt.lt (h : ChipAt w base fp g s) : ∀ b, fp b → b < w.heap.size := h.elim fun L h => h.lt
theorem ChipAt.ge (h : ChipAt w base fp g s) : ∀ b, fp b → base ≤ b := h.elim fun L h => h.ge
theorem ChipAt.since (h : ChipAt w base fp g s) (hb : Below w.heap.size w w') : ChipAt w' base fp g s := h.imp fun L h => h.since hb
theorem ChipAt.keep (h : ChipAt w base fp g s) (ht : Turn fq w w') (hd : Two fq fp) : ChipAt w' base fp g s := h.imp fun L h => h.keep ht hd
theorem ChipAt.elder (h : ChipAt w base fp g s) {base' : Nat} (hb : base' ≤ base) : ChipAt w base' fp g s := h.imp fun L h => h.elder hb
theorem ChipAt.same (h : ChipAt w base fp g s) {s' : Chip} (e : s = s') : ChipAt w base fp g s' := e ▸ h
end
end Go.Proofs.Ytgamjffedlkbeaa
