/- An object that turns, beside all else: its blocks (a set that may grow by new ones), rows and errors that lie apart from it. No conditions. -/
import Derived.Test.YtfidamiomnohcaaTurn
import Derived.Test.YtfidamiomnohcaaShared
set_option linter.unusedVariables false
set_option linter.unusedSimpArgs false
set_option maxRecDepth 20000
namespace Go.Proofs.Ytfidamiomnohcaa
open Go.RowKit

/-- From one world to another: only the object's blocks turn, it takes new ones alone. -/
structure Moves (w : World) (fp : Nat → Prop) (w' : World) (fp' : Nat → Prop) : Prop where
  turn : Turn fp w w'
  grows : ∀ b, fp' b → fp b ∨ w.heap.size ≤ b
section
variable {fp fp' fp'' fq fq' : Nat → Prop} {w w' w'' w0 : World} {B base base' n c g : Nat} {A : Option Addr} {bs : List Nat} {k : Int} {v : Value}
theorem Moves.refl (fp : Nat → Prop) (w : World) : Moves w fp w fp := ⟨Turn.refl fp w, fun b h => Or.inl h⟩
theorem Moves.of_below (h : Below w.heap.size w w') : Moves w fp w' fp := ⟨Turn.of_below h, fun b h => Or.inl h⟩
theorem Moves.size (h : Moves w fp w' fp') : w.heap.size ≤ w'.heap.size := h.turn.size
theorem Moves.trans (h : Moves w fp w' fp') (k : Moves w' fp' w'' fp'') : Moves w fp w'' fp'' :=
  ⟨h.turn.trans k.turn h.grows, fun b hb => by
    rcases k.grows b hb with h1 | h1
    · exact h.grows b h1
    · exact Or.inr (Nat.le_trans h.size h1)⟩
/-- What lies below the object stays. -/
theorem Moves.below (h : Moves w fp w' fp') (hB : Below B w0 w) (hf : ∀ b, fp b → B ≤ b) (hw : B ≤ w.heap.size) : Below B w0 w' := h.turn.chain hB hf hw
theorem Moves.cell (h : Moves w fp w' fp') {p : Addr} (hp : ¬ fp p.block) {u : Value} (hc : w.cell? p = some u) : w'.cell? p = some u :=
  (same_cell (h.turn.block p.block (World.block_lt_of_cell? w p hc) hp) rfl).trans hc

/-- A row of bytes of the call's own that lies apart from the object. -/
structure Rest (fp : Nat → Prop) (w : World) (base : Nat) (A : Option Addr) (n c : Nat) (bs : List Nat) : Prop where
  own : Own w base A n c bs
  safe : ∀ b ∈ blk A, ¬ fp b
theorem Rest.step (h : Rest fp w base A n c bs) (hs : Moves w fp w' fp') : Rest fp' w' base A n c bs :=
  ⟨h.own.at_block fun b hb => hs.turn.block b (h.own.blk_lt b hb) (h.safe b hb), fun b hb hf => by
    rcases hs.grows b hf with h1 | h1
    · exact h.safe b hb h1
    · have := h.own.blk_lt b hb; omega⟩
theorem Rest.since (h : Rest fp w base A n c bs) (hb : Below w.heap.size w w') : Rest fp w' base A n c bs := h.step (Moves.of_below hb)
theorem Rest.new (h : Own w' w.heap.size A n c bs) (hf : ∀ b, fp b → b < w.heap.size) : Rest fp w' w.heap.size A n c bs :=
  ⟨h, fun b hb hfb => by have h1 := h.blk_ge b hb; have h2 := hf b hfb; omega⟩
theorem Rest.elder (h : Rest fp w base A n c bs) (hb : base' ≤ base) : Rest fp w base' A n c bs := ⟨h.own.elder hb, h.safe⟩
/-- The same, of any kind of element. -/
structure RestK {α : Type} (K : Kind α) (fp : Nat → Prop) (w : World) (base : Nat) (A : Option Addr) (n c : Nat) (vs : List α) : Prop where
  row : K.Row w base A n c vs
  safe : ∀ b ∈ blk A, ¬ fp b
theorem RestK.step {α : Type} {K : Kind α} {vs : List α} (h : RestK K fp w base A n c vs) (hs : Moves w fp w' fp') : RestK K fp' w' base A n c vs :=
  ⟨Row.at_block h.row fun b hb => hs.turn.block b (Row.blk_lt h.row b hb) (h.safe b hb), fun b hb hf => by
    rcases hs.grows b hf with h1 | h1
    · exact h.safe b hb h1
    · have := Row.blk_lt h.row b hb; omega⟩
theorem RestK.since {α : Type} {K : Kind α} {vs : List α} (h : RestK K fp w base A n c vs) (hb : Below w.heap.size w w') : RestK K fp w' base A n c vs := h.step (Moves.of_below hb)
theorem RestK.new {α : Type} {K : Kind α} {vs : List α} (h : K.Row w' w.heap.size A n c vs) (hf : ∀ b, fp b → b < w.heap.size) : RestK K fp w' w.heap.size A n c vs :=
  ⟨h, fun b hb hfb => by have h1 := Row.blk_ge h b hb; have h2 := hf b hfb; omega⟩
/-- A block of cells that lies apart from the object. -/
structure RestC (fp : Nat → Prop) (w : World) (b : Nat) (cs : Array Value) (T : TypeId) : Prop where
  row : w.heap[b]? = some (.cells cs T (0, 0))
  safe : ¬ fp b
theorem RestC.lt {cs : Array Value} {T : TypeId} {b : Nat} (h : RestC fp w b cs T) : b < w.heap.size := (Array.getElem?_eq_some_iff.1 h.row).1
theorem RestC.step {cs : Array Value} {T : TypeId} {b : Nat} (h : RestC fp w b cs T) (hs : Moves w fp w' fp') : RestC fp' w' b cs T :=
  ⟨(hs.turn.block b h.lt h.safe).trans h.row, fun hf => by
    rcases hs.grows b hf with h1 | h1
    · exact h.safe h1
    · have := h.lt; omega⟩
theorem RestC.since {cs : Array Value} {T : TypeId} {b : Nat} (h : RestC fp w b cs T) (hb : Below w.heap.size w w') : RestC fp w' b cs T := h.step (Moves.of_below hb)
theorem RestC.cell {cs : Array Value} {T : TypeId} {b : Nat} (h : RestC fp w b cs T) (k : Nat) : w.cell? ⟨b, k, none⟩ = cs[k]? := cell_of_row _ _ _ _ _ _ h.row
theorem RestC.free {cs : Array Value} {T : TypeId} {b : Nat} (h : RestC fp w b cs T) (k : Nat) : w.frozen? ⟨b, k, none⟩ = false := by simp [World.frozen?, h.row]
theorem RestC.new (W : World) (cs : Array Value) (T : TypeId) (hf : ∀ b, fp b → b < W.heap.size) : RestC fp (W.alloc (.cells cs T)) W.heap.size cs T := ⟨heap_alloc_new W _, fun h => by have := hf _ h; omega⟩
theorem RestC.put {cs : Array Value} {T : TypeId} {b : Nat} (h : RestC fp w b cs T) (k : Nat) (v : Value) : RestC fp (w.setCell ⟨b, k, none⟩ v) b (cs.setIfInBounds k v) T :=
  ⟨by simp [World.setCell, Array.getElem?_modify, h.row], h.safe⟩
theorem RestC.other {cs : Array Value} {T : TypeId} {b c : Nat} (h : RestC fp w b cs T) (hc : b ≠ c) (k : Nat) (v : Value) : RestC fp (w.setCell ⟨c, k, none⟩ v) b cs T :=
  ⟨(setCell_heap w c k b v hc).trans h.row, h.safe⟩
/-- An error of number k (0: none) that lies apart from the object. -/
theorem RestC.keep {cs : Array Value} {T : TypeId} {b : Nat} (h : RestC fp w b cs T) (ht : Turn fq w w') (hn : ¬ fq b) : RestC fp w' b cs T := ⟨(ht.block b h.lt hn).trans h.row, h.safe⟩
theorem RestC.not_row {α : Type} {K : Kind α} {vs : List α} {cs : Array Value} {T : TypeId} {b : Nat} (h : RestC fp w b cs T) (hr : K.Row w base A n c vs) (ht : K.T ≠ T) : b ∉ blk A := fun hb => by
  obtain ⟨cur, hc⟩ := Row.typed hr b hb
  exact ht (other_type hc h.row)
theorem RestK.keep {α : Type} {K : Kind α} {vs : List α} (h : RestK K fp w base A n c vs) (ht : Turn fq w w') (hn : ∀ b ∈ blk A, ¬ fq b) : RestK K fp w' base A n c vs :=
  ⟨Row.at_block h.row fun b hb => ht.block b (Row.blk_lt h.row b hb) (hn b hb), h.safe⟩
/-- append(row, v): only that row turns. -/
theorem RestK.append {α : Type} {K : Kind α} {vs : List α} (h : RestK K fp w base A n c vs) (hb : base ≤ w.heap.size) (hf : ∀ b, fp b → b < w.heap.size) (v : α) (hv : K.wf v) (cs : Array Value) (hcs : cs = (K.cv v).toArray) (hn : n + 1 ≤ 8000) :
    ∃ A2 c2 W2, (Builtin.append_ #[K.L, K.L] K.L #[.slice A n c, .slice (some ⟨w.heap.size, 0, none⟩) 1 1]).run Try.prog (w.alloc (.cells cs K.T)) = .ok (.slice A2 (n + 1) c2) W2 ∧ RestK K fp W2 base A2 (n + 1) c2 (vs ++ [v]) ∧ Turn (fun b => b ∈ blk A) w W2 := by
  obtain ⟨A2, c2, W2, h1, h2, h3, h4⟩ := Kind.append_one_at hb h.row v hv cs hcs hn
  have hbk : ∀ {A : Option Addr} {n c b : Nat}, (Value.slice A n c).ownBlock = some b → b ∈ blk A := fun {A n c b} e => by
    cases A with
    | none => cases e
    | some a => simp [blk]; simpa [Value.ownBlock] using e.symm
  refine ⟨A2, c2, W2, h1, ⟨h2, fun b hb2 hfb => ?_⟩, Turn.of_grown h3 fun b e => hbk e⟩
  rcases h2.row.2 with ⟨hv2, _⟩ | ⟨g, cap, cur, hv2, _⟩
  · injection hv2 with e1; rw [e1] at hb2; cases hb2
  · injection hv2 with e1
    rw [e1] at hb2
    have e2 : b = g := by simpa [blk] using hb2
    rcases h4 b (by rw [e1, e2]; rfl) with h5 | h5
    · exact h.safe b (hbk h5) hfb
    · have := hf b hfb; omega
/-- An error of number k (0: none) that a call made, apart from the object. -/
def Or2 (fp fq : Nat → Prop) : Nat → Prop := fun b => fp b ∨ fq b
theorem Two.left (h : Two fp fq) (hs : Moves w fp w' fp') (hl : ∀ b, fq b → b < w.heap.size) : Two fp' fq := fun b h1 h2 => by
  rcases hs.grows b h1 with h3 | h3
  · exact h b h3 h2
  · have := hl b h2; omega
theorem Two.right (h : Two fp fq) (hs : Moves w fq w' fq') (hl : ∀ b, fp b → b < w.heap.size) : Two fp fq' := (h.flip.left hs hl).flip
theorem Moves.orL (h : Moves w fp w' fp') (fq : Nat → Prop) : Moves w (Or2 fp fq) w' (Or2 fp' fq) :=
  ⟨h.turn.mono fun b hb => Or.inl (Or.inl hb), fun b hb => by
    rcases hb with hb | hb
    · exact (h.grows b hb).imp Or.inl id
    · exact Or.inl (Or.inr hb)⟩
theorem Moves.orR (h : Moves w fp w' fp') (fq : Nat → Prop) : Moves w (Or2 fq fp) w' (Or2 fq fp') :=
  ⟨h.turn.mono fun b hb => Or.inl (Or.inr hb), fun b hb => by
    rcases hb with hb | hb
    · exact Or.inl (Or.inl hb)
    · exact (h.grows b hb).imp Or.inr id⟩
/-- Of two worlds that differ by draws alone. -/
theorem Moves.drewN (n : Nat) : Moves w fp (w.drewN n) fp := Moves.of_below (below_drewN (Below.refl _ _) n)
end
end Go.Proofs.Ytfidamiomnohcaa
