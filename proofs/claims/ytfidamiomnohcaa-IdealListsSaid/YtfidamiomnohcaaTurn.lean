/- What turns from one world to another: blocks of a set alone, and new ones. Rows and cells elsewhere stay. No conditions. -/
import Derived.Test.YtfidamiomnohcaaKinds
set_option linter.unusedVariables false
set_option linter.unusedSimpArgs false
set_option maxRecDepth 20000
namespace Go.Proofs.Ytfidamiomnohcaa
open Go.RowKit

/-- Only blocks of fp turn; there may be new ones. -/
structure Turn (fp : Nat → Prop) (w w' : World) : Prop where
  os : w'.os = w.os
  tape : w'.tape = w.tape
  output : w'.output = w.output
  size : w.heap.size ≤ w'.heap.size
  block : ∀ k, k < w.heap.size → ¬ fp k → w'.heap[k]? = w.heap[k]?
/-- Two objects that share no block. -/
def Two (fp fq : Nat → Prop) : Prop := ∀ b, fp b → ¬ fq b
section
variable {fp fq : Nat → Prop} {w w' w'' : World} {B : Nat}
theorem Two.flip (h : Two fp fq) : Two fq fp := fun b h1 h2 => h b h2 h1
theorem Turn.refl (fp : Nat → Prop) (w : World) : Turn fp w w := ⟨rfl, rfl, rfl, Nat.le_refl _, fun _ _ _ => rfl⟩
theorem Turn.trans (h : Turn fp w w') (k : Turn fq w' w'') (hs : ∀ b, fq b → fp b ∨ w.heap.size ≤ b) : Turn fp w w'' :=
  ⟨k.os.trans h.os, k.tape.trans h.tape, k.output.trans h.output, Nat.le_trans h.size k.size, fun b hb hn => (k.block b (Nat.lt_of_lt_of_le hb h.size) fun hq => by
    rcases hs b hq with h1 | h1
    · exact hn h1
    · omega).trans (h.block b hb hn)⟩
theorem Turn.mono (h : Turn fp w w') (hs : ∀ b, fp b → fq b ∨ w.heap.size ≤ b) : Turn fq w w' := ⟨h.os, h.tape, h.output, h.size, fun b hb hn => h.block b hb fun hf => by
  rcases hs b hf with h1 | h1
  · exact hn h1
  · omega⟩
theorem Turn.of_below (h : Below w.heap.size w w') : Turn fp w w' := ⟨h.os, h.tape, h.output, h.size, fun b hb _ => h.block b hb⟩
theorem Turn.of_grown {row : Option Nat} (h : w.grownBy w' row) (hr : ∀ b, row = some b → fp b) : Turn fp w w' := ⟨h.os, h.tape, h.output, h.size, fun b hb hn => h.block b hb fun e => hn (hr b e.symm)⟩
theorem Turn.of_setCell (p : Addr) (v : Value) (hp : fp p.block) : Turn fp w (w.setCell p v) := Turn.of_grown (setCell_else w p v) fun b hb => by rw [← Option.some.inj hb]; exact hp
/-- What lies below B stays, where the set is above. -/
theorem Turn.below (h : Turn fp w w') (hB : ∀ b, fp b → B ≤ b) (hw : B ≤ w.heap.size) : Below B w w' := ⟨h.os, h.tape, h.output, h.size, fun b hb => h.block b (Nat.lt_of_lt_of_le hb hw) fun hf => by have := hB b hf; omega⟩
theorem Turn.chain {w0 : World} (h : Below B w0 w) (k : Turn fp w w') (hB : ∀ b, fp b → B ≤ b) (hw : B ≤ w.heap.size) : Below B w0 w' := h.trans (k.below hB hw)
theorem same_cell {b : Nat} (h : w'.heap[b]? = w.heap[b]?) {p : Addr} (hp : p.block = b) : w'.cell? p = w.cell? p := by
  unfold World.cell?
  rw [hp, h]
theorem setCell_heap (w : World) (g j b : Nat) (v : Value) (h : b ≠ g) : (w.setCell ⟨g, j, none⟩ v).heap[b]? = w.heap[b]? := by
  simp [World.setCell, Array.getElem?_modify, Ne.symm h]
/-- The block of an address. -/
def blk : Option Addr → List Nat
  | none => []
  | some a => [a.block]
theorem Bytes.at_block {A : Option Addr} {n B' : Nat} {bs : List Nat} (h : Bytes w B A n bs) (hB : ∀ b ∈ blk A, b < B') (hb : ∀ b ∈ blk A, w'.heap[b]? = w.heap[b]?) : Bytes w' B' A n bs :=
  ⟨h.len, fun k hk => by
    obtain ⟨ad, rfl, e2, e3⟩ := h.lies k hk
    have hm : ad.block ∈ blk (some ad) := by simp [blk]
    exact ⟨ad, rfl, hB _ hm, (same_cell (hb _ hm) (addr_block _ _)).trans e3⟩, h.small⟩
theorem Row.at_block {α : Type} {K : Kind α} {base n c : Nat} {A : Option Addr} {vs : List α} (h : K.Row w base A n c vs) (hb : ∀ b ∈ blk A, w'.heap[b]? = w.heap[b]?) : K.Row w' base A n c vs := by
  refine ⟨⟨h.row.1, ?_⟩, h.wf⟩
  rcases h.row.2 with h1 | ⟨g, cap, cur, hv, h2, h3, h4⟩
  · exact Or.inl h1
  · refine Or.inr ⟨g, cap, cur, hv, h2, ?_, h4⟩
    injection hv with e1 e2 e3
    rw [hb g (by rw [e1]; simp [blk])]; exact h3
theorem Row.blk_lt {α : Type} {K : Kind α} {base n c : Nat} {A : Option Addr} {vs : List α} (h : K.Row w base A n c vs) : ∀ b ∈ blk A, b < w.heap.size := fun b hb => by
  cases A with
  | none => cases hb
  | some a =>
    have : b = a.block := by simpa [blk] using hb
    subst this
    exact (h.row.lt a.block rfl).2
theorem Row.blk_ge {α : Type} {K : Kind α} {base n c : Nat} {A : Option Addr} {vs : List α} (h : K.Row w base A n c vs) : ∀ b ∈ blk A, base ≤ b := fun b hb => by
  cases A with
  | none => cases hb
  | some a =>
    have : b = a.block := by simpa [blk] using hb
    subst this
    exact (h.row.lt a.block rfl).1
/-- The type of a row's block. -/
theorem Row.typed {α : Type} {K : Kind α} {base n c : Nat} {A : Option Addr} {vs : List α} (h : K.Row w base A n c vs) : ∀ b ∈ blk A, ∃ cur, w.heap[b]? = some (.cells cur K.T (0, 0)) := fun b hb => by
  rcases h.row.2 with ⟨hv, _⟩ | ⟨g, cap, cur, hv, h2, h3, h4⟩
  · injection hv with e1 e2 e3
    rw [e1] at hb; cases hb
  · injection hv with e1 e2 e3
    rw [e1] at hb
    have : b = g := by simpa [blk] using hb
    subst this
    exact ⟨cur, h3⟩
theorem Own.typed {base n c : Nat} {A : Option Addr} {bs : List Nat} (h : Own w base A n c bs) : ∀ b ∈ blk A, ∃ cur, w.heap[b]? = some (.cells cur 5 (0, 0)) := fun b hb => by
  rcases h.row.2 with ⟨hv, _⟩ | ⟨g, cap, cur, hv, h2, h3, h4⟩
  · injection hv with e1 e2 e3
    rw [e1] at hb; cases hb
  · injection hv with e1 e2 e3
    rw [e1] at hb
    have : b = g := by simpa [blk] using hb
    subst this
    exact ⟨cur, h3⟩
theorem Own.at_block {base n c : Nat} {A : Option Addr} {bs : List Nat} (h : Own w base A n c bs) (hb : ∀ b ∈ blk A, w'.heap[b]? = w.heap[b]?) : Own w' base A n c bs := by
  refine ⟨⟨h.row.1, ?_⟩, h.small⟩
  rcases h.row.2 with h1 | ⟨g, cap, cur, hv, h2, h3, h4⟩
  · exact Or.inl h1
  · refine Or.inr ⟨g, cap, cur, hv, h2, ?_, h4⟩
    injection hv with e1 e2 e3
    rw [hb g (by rw [e1]; simp [blk])]; exact h3
theorem Own.blk_lt {base n c : Nat} {A : Option Addr} {bs : List Nat} (h : Own w base A n c bs) : ∀ b ∈ blk A, b < w.heap.size := fun b hb => by
  cases A with
  | none => cases hb
  | some a =>
    have : b = a.block := by simpa [blk] using hb
    subst this
    exact (h.row.lt a.block rfl).2
theorem Own.blk_ge {base n c : Nat} {A : Option Addr} {bs : List Nat} (h : Own w base A n c bs) : ∀ b ∈ blk A, base ≤ b := fun b hb => by
  cases A with
  | none => cases hb
  | some a =>
    have : b = a.block := by simpa [blk] using hb
    subst this
    exact (h.row.lt a.block rfl).1
/-- Blocks of two types are two blocks. -/
theorem other_type {b : Nat} {x y : Array Value} {s t : TypeId} (h : w.heap[b]? = some (.cells x s (0, 0))) (k : w.heap[b]? = some (.cells y t (0, 0))) : s = t := by
  rw [h] at k
  injection k with k
  injection k
end
end Go.Proofs.Ytfidamiomnohcaa
