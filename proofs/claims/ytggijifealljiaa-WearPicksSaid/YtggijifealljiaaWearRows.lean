/- A row of ints and a row of bools of the call's own, side by side. No conditions. -/
import Derived.Test.YtggijifealljiaaRefWear
import Derived.Test.YtggijifealljiaaKindMade
set_option linter.unusedVariables false
set_option linter.unusedSimpArgs false
namespace Go.Proofs.Ytggijifealljiaa
open Go.RowKit

theorem own_blk {A : Option Addr} {n c b : Nat} : (Value.slice A n c).ownBlock = some b ↔ b ∈ blk A := by
  cases A with
  | none => simp [Value.ownBlock, blk]
  | some a => simp [Value.ownBlock, blk, eq_comm]
theorem int_bool : intK.T ≠ boolK.T := by decide
section
variable {w w' : World} {base n c m c' n2 c2 g : Nat} {A A' A2 : Option Addr} {xs ys : List Int} {bs ds : List Bool}
/-- Rows of two types share no block. -/
theorem rows_apart {α β : Type} {K : Kind α} {M : Kind β} {vs : List α} {us : List β} (hT : K.T ≠ M.T) (h : K.Row w base A n c vs) (k : M.Row w base A' m c' us) : ∀ b ∈ blk A, b ∉ blk A' := fun b h1 h2 => by
  obtain ⟨x, hx⟩ := Row.typed h b h1
  obtain ⟨y, hy⟩ := Row.typed k b h2
  exact hT (other_type hx hy)
/-- What one row's growing leaves of a row of another type. -/
theorem row_grown {α β : Type} {K : Kind α} {M : Kind β} {vs : List α} {us : List β} (hT : K.T ≠ M.T) (h : K.Row w base A n c vs) (k : M.Row w base A' m c' us) (hg : w.grownBy w' (Value.slice A n c).ownBlock) : M.Row w' base A' m c' us :=
  Row.at_block k fun b hb => hg.block b (Row.blk_lt k b hb) fun e => rows_apart hT h k b (own_blk.1 e.symm) hb
structure Pair (w : World) (base : Nat) (A : Option Addr) (n c : Nat) (xs : List Int) (A' : Option Addr) (m c' : Nat) (bs : List Bool) : Prop where
  a : intK.Row w base A n c xs
  b : boolK.Row w base A' m c' bs
theorem Pair.since (h : Pair w base A n c xs A' m c' bs) (hb : Below w.heap.size w w') : Pair w' base A n c xs A' m c' bs := ⟨h.a.since hb, h.b.since hb⟩
theorem Pair.two (h : Pair w base A n c xs A' m c' bs) : Two2 w A n xs A' m bs := ⟨h.a.lie, h.b.lie⟩
theorem Pair.snocA (h : Pair w base A n c xs A' m c' bs) (hr : intK.Row w' base A2 n2 c2 ys) (hg : w.grownBy w' (Value.slice A n c).ownBlock) : Pair w' base A2 n2 c2 ys A' m c' bs := ⟨hr, row_grown int_bool h.a h.b hg⟩
theorem Pair.snocB (h : Pair w base A n c xs A' m c' bs) (hr : boolK.Row w' base A2 n2 c2 ds) (hg : w.grownBy w' (Value.slice A' m c').ownBlock) : Pair w' base A n c xs A2 n2 c2 ds := ⟨row_grown int_bool.symm h.b h.a hg, hr⟩
/-- One number stored. -/
theorem ints_put (h : intK.Row w base (some ⟨g, 0, none⟩) n c xs) {i : Nat} (hi : i < n) (x : Int) (hx : intK.wf x) : intK.Row (w.setCell ⟨g, i, none⟩ (.int .i64 x)) base (some ⟨g, 0, none⟩) n c (xs.set i x) := by
  have := Kind.Row.put h hi (r := 0) (by decide) (.int .i64 x) x rfl hx
  rwa [show i * intK.k + 0 = i from Nat.mul_one i] at this
theorem Pair.put (h : Pair w base (some ⟨g, 0, none⟩) n c xs A' m c' bs) {i : Nat} (hi : i < n) (x : Int) (hx : intK.wf x) : Pair (w.setCell ⟨g, i, none⟩ (.int .i64 x)) base (some ⟨g, 0, none⟩) n c (xs.set i x) A' m c' bs :=
  ⟨ints_put h.a hi x hx, row_grown int_bool h.a h.b (setCell_else w ⟨g, i, none⟩ _)⟩
theorem row_at_ {α : Type} {K : Kind α} {vs : List α} (h : K.Row w base A n c vs) (hn : 0 < n) : ∃ g, A = some ⟨g, 0, none⟩ := by
  rcases h.row.2 with ⟨hv, _⟩ | ⟨g, cap, cur, hv, _⟩
  · injection hv with e1 e2 e3; omega
  · injection hv with e1 e2 e3; exact ⟨g, e1⟩
theorem ints_cell (h : intK.Row w base (some ⟨g, 0, none⟩) n c xs) {k : Nat} (hk : k < n) : w.cell? ⟨g, k, none⟩ = some (.int .i64 (xs.getD k 0)) := by
  obtain ⟨ad, e, _, hc⟩ := int_at h.lie hk
  obtain rfl := Option.some.inj e
  rwa [add_zero_addr] at hc
theorem bools_cell (h : boolK.Row w base (some ⟨g, 0, none⟩) n c bs) {k : Nat} (hk : k < n) : w.cell? ⟨g, k, none⟩ = some (.bool (bs.getD k false)) := by
  obtain ⟨ad, e, _, hc⟩ := bool_at h.lie hk
  obtain rfl := Option.some.inj e
  rwa [add_zero_addr] at hc
end
end Go.Proofs.Ytggijifealljiaa
