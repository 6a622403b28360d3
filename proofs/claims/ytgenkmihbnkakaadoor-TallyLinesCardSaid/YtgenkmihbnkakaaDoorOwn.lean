/- Rows of bytes that a call made itself: what they hold, how they grow; making one with room. Conditions: at most 8000 bytes. -/
import Derived.Test.YtgenkmihbnkakaaDoorBase
set_option linter.unusedVariables false
set_option linter.unusedSimpArgs false
set_option maxRecDepth 20000
namespace Go.Proofs.YtgenkmihbnkakaaDoor
open Go.RowKit

/-- A slice of bytes whose row is the call's own (from block 'base' on), or nil. -/
structure Own (w : World) (base : Nat) (A : Option Addr) (n c : Nat) (bs : List Nat) : Prop where
  row : w.ownsRow base 5 1 (.slice A n c) n (cellsOf bs)
  small : ∀ k, bs.getD k 0 < 256
section
variable {w W W' : World} {base n c m c' : Nat} {A A' : Option Addr} {bs cs : List Nat}
theorem Own.len (h : Own w base A n c bs) : bs.length = n := by have := h.row.1; simpa [cellsOf] using this
theorem Own.bytes (h : Own w base A n c bs) : Bytes w w.heap.size A n bs := own_bytes h.row h.small
theorem Own.same (h : Own w base A n c bs) (e : bs = cs) : Own w base A n c cs := e ▸ h
theorem Own.elder (h : Own w base A n c bs) {base' : Nat} (hb : base' ≤ base) : Own w base' A n c bs := by
  refine ⟨⟨h.row.1, ?_⟩, h.small⟩
  rcases h.row.2 with hn | ⟨g, cap, cur, hv, hbg, rest⟩
  · exact .inl hn
  · exact .inr ⟨g, cap, cur, hv, Nat.le_trans hb hbg, rest⟩
theorem Own.since (h : Own w base A n c bs) (hb : Below w.heap.size w W) : Own W base A n c bs := by
  refine ⟨⟨h.row.1, ?_⟩, h.small⟩
  rcases h.row.2 with hn | ⟨g, cap, cur, hv, hbg, hg, rest⟩
  · exact .inl hn
  · exact .inr ⟨g, cap, cur, hv, hbg, (hb.block g (Array.getElem?_eq_some_iff.1 hg).1).trans hg, rest⟩
theorem Own.none_ : Own w base none 0 0 [] := ⟨World.ownsRow_nil _ _ _ _, fun k => by simp⟩
theorem Own.cap (h : Own w base A n c bs) : n ≤ c := by
  rcases h.row.2 with ⟨hv, hn⟩ | ⟨g, cap, cur, hv, hbg, hg, hnc, _⟩
  · omega
  · injection hv with _ _ h3; omega
theorem Bytes.lt256 {B : Nat} (h : Bytes w B A n bs) : ∀ b ∈ bs, b < 256 := by
  intro b hb
  obtain ⟨i, hi, rfl⟩ := List.mem_iff_getElem.1 hb
  have := h.small i
  rw [List.getD_eq_getElem?_getD, List.getElem?_eq_getElem hi] at this
  exact this
theorem getD_small (h : ∀ b ∈ bs, b < 256) (k : Nat) : bs.getD k 0 < 256 := by
  rw [List.getD_eq_getElem?_getD]
  cases hk : bs[k]? with
  | none => simp
  | some b => exact h b (List.mem_of_getElem? hk)

theorem own_append (hS : Below w.heap.size w W) (h : Own W w.heap.size A n c bs) (hA : Bytes W W.heap.size A' m cs) (hnm : n + m ≤ 8000) :
    ∃ A2 c2 W2, (Builtin.append_ #[52, 52] 52 #[.slice A n c, .slice A' m c']).run Tryd.prog W = .ok (.slice A2 (n + m) c2) W2 ∧ Own W2 w.heap.size A2 (n + m) c2 (bs ++ cs) ∧ Below w.heap.size w W2 := by
  obtain ⟨A2, c2, W2, hr, ho, hb⟩ := append_bytes w W hS _ n bs h.row A' m c' cs hA hnm
  exact ⟨A2, c2, W2, hr, ⟨ho, getD_append _ _ h.small hA.small⟩, hb⟩
/-- The same, for whatever came behind: what lies below 'base' stays. -/
theorem own_append_at (hS : Below w.heap.size w W) (h : Own W w.heap.size A n c bs) (hA : Bytes W W.heap.size A' m cs) (hnm : n + m ≤ 8000) :
    ∃ A2 c2 W2, (Builtin.append_ #[52, 52] 52 #[.slice A n c, .slice A' m c']).run Tryd.prog W = .ok (.slice A2 (n + m) c2) W2 ∧ Own W2 w.heap.size A2 (n + m) c2 (bs ++ cs) ∧ Below w.heap.size W W2 := by
  obtain ⟨A2, c2, W2, hr, ho, hb, hg⟩ := append_bytes_g w W hS _ n bs h.row A' m c' cs hA hnm
  exact ⟨A2, c2, W2, hr, ⟨ho, getD_append _ _ h.small hA.small⟩, (Below.refl _ _).grown hg hS.size (fun k hk => (h.row.lt k hk).1)⟩
theorem bytes_new1 (W : World) (Y : Int) (y : Nat) (hY : Y = (y : Int)) (hy : y < 256) : Bytes (W.alloc (.cells #[.int .u8 Y] 5)) (W.alloc (.cells #[.int .u8 Y] 5)).heap.size (some ⟨W.heap.size, 0, none⟩) 1 [y] := by
  subst hY
  refine ⟨rfl, fun k hk => ⟨_, rfl, by simp, ?_⟩, fun k => by match k with | 0 => simpa using hy | k + 1 => simp⟩
  obtain rfl : k = 0 := by omega
  rw [add_zero_addr, cell_new]
  rfl
/-- append(row, y) -/
theorem own_append_one (hS : Below w.heap.size w W) (h : Own W w.heap.size A n c bs) (Y : Int) (y : Nat) (hY : Y = (y : Int)) (hy : y < 256) (hn : n + 1 ≤ 8000) :
    ∃ A2 c2 W2, (Builtin.append_ #[52, 52] 52 #[.slice A n c, .slice (some ⟨W.heap.size, 0, none⟩) 1 1]).run Tryd.prog (W.alloc (.cells #[.int .u8 Y] 5)) = .ok (.slice A2 (n + 1) c2) W2 ∧ Own W2 w.heap.size A2 (n + 1) c2 (bs ++ [y]) ∧ Below w.heap.size w W2 :=
  own_append (W := W.alloc (.cells #[.int .u8 Y] 5)) (since_alloc hS _) (h.since ((Below.refl _ _).alloc (Nat.le_refl _) _)) (bytes_new1 W Y y hY hy) hn
theorem make_room (n : Nat) (x : Int) (hn : n ≤ 8000) (h0 : 0 ≤ x) (h1 : x ≤ 1000) (W : World) : (Instr.makeSlice 52 (.int .i64 0) (.int .i64 ((n : Int) + x))).run Tryd.prog W =
    .ok (.slice (some ⟨W.heap.size, 0, none⟩) 0 ((n : Int) + x).toNat) (W.alloc (.cells (madeCells #[.int .u8 0] ((n : Int) + x).toNat) 5)) := by
  obtain ⟨i0, hi, hz0, hz1, hz2⟩ := info_parts info5
  have h := run_make (P := Tryd.prog) W 52 5 i0 _ Tryd.underlying52 hi hz0 .i64 .i64 0 ((n : Int) + x) (by omega) (by omega) (by rw [hz2]; omega) (by omega)
  rw [h, hz1, Nat.mul_one]
  rfl
theorem own_made (W : World) (N : Nat) (hN : N ≤ 20000) (hb : base ≤ W.heap.size) : Own (W.alloc (.cells (madeCells #[.int .u8 0] N) 5)) base (some ⟨W.heap.size, 0, none⟩) 0 N [] :=
  ⟨World.ownsRow_made W _ N hb (by unfold maxLen; omega) (by simp [size_madeCells]), fun k => by simp⟩
end
/-- What a call that answers a new row of bytes leaves. -/
def GivesBytes (w : World) (bs : List Nat) (e : Ending) (w' : World) : Prop := ∃ A n c, e = .returned (.slice A n c) ∧ Own w' w.heap.size A n c bs ∧ Below w.heap.size w w'
/-- A new row of bytes, written out. -/
theorem bytes_lit (W : World) (cs : Array Value) (n : Nat) (bs : List Nat) (hl : bs.length = n) (hsm : ∀ b ∈ bs, b < 256) (hc : ∀ k, k < n → cs[k]? = some (byteAt bs k)) : Bytes (W.alloc (.cells cs 5)) (W.alloc (.cells cs 5)).heap.size (some ⟨W.heap.size, 0, none⟩) n bs := by
  refine ⟨hl, fun k hk => ⟨_, rfl, by simp, ?_⟩, getD_small hsm⟩
  rw [add_zero_addr, cell_new]
  exact hc k hk
theorem bytes_lit2 (W : World) (a b : Nat) (ha : a < 256) (hb : b < 256) : Bytes (W.alloc (.cells #[.int .u8 (a : Int), .int .u8 (b : Int)] 5)) (W.alloc (.cells #[.int .u8 (a : Int), .int .u8 (b : Int)] 5)).heap.size (some ⟨W.heap.size, 0, none⟩) 2 [a, b] :=
  bytes_lit W _ 2 _ rfl (by simp; omega) fun k hk => by
    rcases (by omega : k = 0 ∨ k = 1) with rfl | rfl <;> rfl
theorem bytes_lit3 (W : World) (a b c : Nat) (ha : a < 256) (hb : b < 256) (hc : c < 256) : Bytes (W.alloc (.cells #[.int .u8 (a : Int), .int .u8 (b : Int), .int .u8 (c : Int)] 5)) (W.alloc (.cells #[.int .u8 (a : Int), .int .u8 (b : Int), .int .u8 (c : Int)] 5)).heap.size (some ⟨W.heap.size, 0, none⟩) 3 [a, b, c] :=
  bytes_lit W _ 3 _ rfl (by simp; omega) fun k hk => by
    rcases (by omega : k = 0 ∨ k = 1 ∨ k = 2) with rfl | rfl | rfl <;> rfl
end Go.Proofs.YtgenkmihbnkakaaDoor
