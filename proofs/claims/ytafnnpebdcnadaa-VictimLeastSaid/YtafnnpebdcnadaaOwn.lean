/- Rows of bytes that a call made itself: what they hold, how they grow; making one with room. Conditions: at most 8000 bytes. -/
import Derived.Test.YtafnnpebdcnadaaBase
set_option linter.unusedVariables false
set_option linter.unusedSimpArgs false
namespace Go.Proofs.Ytafnnpebdcnadaa
open Go.RowKit

/-- A slice of bytes whose row is the call's own (from block 'base' on), or nil. -/
structure Own (w : World) (base : Nat) (A : Option Addr) (n c : Nat) (bs : List Nat) : Prop where
  row : w.ownsRow base 5 1 (.slice A n c) n (cellsOf bs)
  small : ∀ k, bs.getD k 0 < 256
section
variable {w W W' : World} {base n c m c' : Nat} {A A' : Option Addr} {bs cs : List Nat}
theorem Own.len (h : Own w base A n c bs) : bs.length = n := by have := h.row.1; simpa [cellsOf] using this
theorem Own.bytes (h : Own w base A n c bs) : Bytes w w.heap.size A n bs := own_bytes h.row h.small
theorem Own.same (h : Own w base A n c bs) (e : bs = cs) : Own w base A n c cs := e ▸ h
theorem Own.elder (h : Own w base A n c bs) {base' : Nat} (hb : base' ≤ base) : Own w base' A n c bs := by
  refine ⟨⟨h.row.1, ?_⟩, h.small⟩
  rcases h.row.2 with hn | ⟨g, cap, cur, hv, hbg, rest⟩
  · exact .inl hn
  · exact .inr ⟨g, cap, cur, hv, Nat.le_trans hb hbg, rest⟩
theorem Own.since (h : Own w base A n c bs) (hb : Below w.heap.size w W) : Own W base A n c bs := by
  refine ⟨⟨h.row.1, ?_⟩, h.small⟩
  rcases h.row.2 with hn | ⟨g, cap, cur, hv, hbg, hg, rest⟩
  · exact .inl hn
  · exact .inr ⟨g, cap, cur, hv, hbg, (hb.block g (Array.getElem?_eq_some_iff.1 hg).1).trans hg, rest⟩
theorem Own.none_ : Own w base none 0 0 [] := ⟨World.ownsRow_nil _ _ _ _, fun k => by simp⟩
theorem Own.cap (h : Own w base A n c bs) : n ≤ c := by
  rcases h.row.2 with ⟨hv, hn⟩ | ⟨g, cap, cur, hv, hbg, hg, hnc, _⟩
  · omega
  · injection hv with _ _ h3; omega
theorem Bytes.lt256 {B : Nat} (h : Bytes w B A n bs) : ∀ b ∈ bs, b < 256 := by
  intro b hb
  obtain ⟨i, hi, rfl⟩ := List.mem_iff_getElem.1 hb
  have := h.small i
  rw [List.getD_eq_getElem?_getD, List.getElem?_eq_getElem hi] at this
  exact this
theorem getD_small (h : ∀ b ∈ bs, b < 256) (k : Nat) : bs.getD k 0 < 256 := by
  rw [List.getD_eq_getElem?_getD]
  cases hk : bs[k]? with
  | none => simp
  | some b => exact h b (List.mem_of_getElem? hk)

/-- The same, for whatever came behind: what lies below 'base' stays. -/
theorem bytes_new1 (W : World) (Y : Int) (y : Nat) (hY : Y = (y : Int)) (hy : y < 256) : Bytes (W.alloc (.cells #[.int .u8 Y] 5)) (W.alloc (.cells #[.int .u8 Y] 5)).heap.size (some ⟨W.heap.size, 0, none⟩) 1 [y] := by
  subst hY
  refine ⟨rfl, fun k hk => ⟨_, rfl, by simp, ?_⟩, fun k => by match k with | 0 => simpa using hy | k + 1 => simp⟩
  obtain rfl : k = 0 := by omega
  rw [add_zero_addr, cell_new]
  rfl
/-- append(row, y) -/
theorem own_made (W : World) (N : Nat) (hN : N ≤ 20000) (hb : base ≤ W.heap.size) : Own (W.alloc (.cells (madeCells #[.int .u8 0] N) 5)) base (some ⟨W.heap.size, 0, none⟩) 0 N [] :=
  ⟨World.ownsRow_made W _ N hb (by unfold maxLen; omega) (by simp [size_madeCells]), fun k => by simp⟩
end
/-- What a call that answers a new row of bytes leaves. -/
def GivesBytes (w : World) (bs : List Nat) (e : Ending) (w' : World) : Prop := ∃ A n c, e = .returned (.slice A n c) ∧ Own w' w.heap.size A n c bs ∧ Below w.heap.size w w'
/-- A new row of bytes, written out. -/
theorem bytes_lit (W : World) (cs : Array Value) (n : Nat) (bs : List Nat) (hl : bs.length = n) (hsm : ∀ b ∈ bs, b < 256) (hc : ∀ k, k < n → cs[k]? = some (byteAt bs k)) : Bytes (W.alloc (.cells cs 5)) (W.alloc (.cells cs 5)).heap.size (some ⟨W.heap.size, 0, none⟩) n bs := by
  refine ⟨hl, fun k hk => ⟨_, rfl, by simp, ?_⟩, getD_small hsm⟩
  rw [add_zero_addr, cell_new]
  exact hc k hk
theorem bytes_lit2 (W : World) (a b : Nat) (ha : a < 256) (hb : b < 256) : Bytes (W.alloc (.cells #[.int .u8 (a : Int), .int .u8 (b : Int)] 5)) (W.alloc (.cells #[.int .u8 (a : Int), .int .u8 (b : Int)] 5)).heap.size (some ⟨W.heap.size, 0, none⟩) 2 [a, b] :=
  bytes_lit W _ 2 _ rfl (by simp; omega) fun k hk => by
    rcases (by omega : k = 0 ∨ k = 1) with rfl | rfl <;> rfl
theorem bytes_lit3 (W : World) (a b c : Nat) (ha : a < 256) (hb : b < 256) (hc : c < 256) : Bytes (W.alloc (.cells #[.int .u8 (a : Int), .int .u8 (b : Int), .int .u8 (c : Int)] 5)) (W.alloc (.cells #[.int .u8 (a : Int), .int .u8 (b : Int), .int .u8 (c : Int)] 5)).heap.size (some ⟨W.heap.size, 0, none⟩) 3 [a, b, c] :=
  bytes_lit W _ 3 _ rfl (by simp; omega) fun k hk => by
    rcases (by omega : k = 0 ∨ k = 1 ∨ k = 2) with rfl | rfl | rfl <;> rfl
end Go.Proofs.Ytafnnpebdcnadaa
