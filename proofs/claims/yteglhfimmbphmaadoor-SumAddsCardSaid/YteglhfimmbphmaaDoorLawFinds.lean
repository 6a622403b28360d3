/- SumFinds answers true, for all bytes and numbers. Conditions: what the two tables hold; the slice's cells. -/
import Derived.Test.YteglhfimmbphmaaDoorLawMores
set_option linter.unusedVariables false
set_option linter.unusedSimpArgs false
namespace Go.Proofs.YteglhfimmbphmaaDoor
open Go.RowKit

/- two bytes side by side, changed -/
theorem byte_xor (r : BitVec 32) (b x : Nat) : Crc.byte r (b ^^^ x) = Crc.byte r b ^^^ Crc.eight (BitVec.ofNat 32 x) := by
  unfold Crc.byte
  rw [Crc.ofNat_xor, ← Crc.eight_xor, BitVec.xor_assoc]
theorem byte_reg_xor (r d : BitVec 32) (b : Nat) : Crc.byte (r ^^^ d) b = Crc.byte r b ^^^ Crc.eight d := by
  unfold Crc.byte
  rw [← Crc.eight_xor]
  congr 1
  ac_rfl
theorem reg_two_ne (r : BitVec 32) (pre post : List Nat) (b0 b1 x y : Nat) (hx : x < 256) (hy : y < 256) (h : ¬ (x = 0 ∧ y = 0)) :
    Crc.reg r (pre ++ (b0 ^^^ x) :: (b1 ^^^ y) :: post) ≠ Crc.reg r (pre ++ b0 :: b1 :: post) := by
  intro he
  rw [Crc.reg_append, Crc.reg_append] at he
  have h2 : Crc.byte (Crc.byte (Crc.reg r pre) (b0 ^^^ x)) (b1 ^^^ y) = Crc.byte (Crc.byte (Crc.reg r pre) b0) b1 := Crc.reg_inj post he
  rw [byte_xor, byte_xor, byte_reg_xor, BitVec.xor_assoc, ← Crc.eight_xor] at h2
  have h3 : Crc.eight (Crc.eight (BitVec.ofNat 32 x) ^^^ BitVec.ofNat 32 y) = 0#32 := by
    have := congrArg (fun z => Crc.byte (Crc.byte (Crc.reg r pre) b0) b1 ^^^ z) h2
    simpa [← BitVec.xor_assoc] using this
  have h4 : Crc.eight (BitVec.ofNat 32 x) ^^^ BitVec.ofNat 32 y = 0#32 := Crc.eight_inj (by rw [h3, Crc.eight_zero])
  refine Crc.two_ne (x := BitVec.ofNat 32 x) (y := BitVec.ofNat 32 y) ?_ ?_ ?_ h4
  · rw [BitVec.lt_def, BitVec.toNat_ofNat, Nat.mod_eq_of_lt (show x < 2 ^ 32 by omega)]; exact hx
  · rw [BitVec.lt_def, BitVec.toNat_ofNat, Nat.mod_eq_of_lt (show y < 2 ^ 32 by omega)]; exact hy
  · rintro ⟨e1, e2⟩
    have f1 := congrArg BitVec.toNat e1
    have f2 := congrArg BitVec.toNat e2
    rw [BitVec.toNat_ofNat, Nat.mod_eq_of_lt (show x < 2 ^ 32 by omega)] at f1
    rw [BitVec.toNat_ofNat, Nat.mod_eq_of_lt (show y < 2 ^ 32 by omega)] at f2
    exact h ⟨f1, f2⟩
def turned (bs : List Nat) (i x y : Nat) : List Nat := (bs.set i (bs.getD i 0 ^^^ x)).set (i + 1) (bs.getD (i + 1) 0 ^^^ y)
theorem turned_ne (bs : List Nat) (i x y : Nat) (hi : i + 1 < bs.length) (hx : x < 256) (hy : y < 256) (h : ¬ (x = 0 ∧ y = 0)) : Crc.more 0#32 (turned bs i x y) ≠ Crc.more 0#32 bs := by
  have e1 : bs = bs.take i ++ bs.getD i 0 :: bs.getD (i + 1) 0 :: bs.drop (i + 2) := by
    have d0 : bs.drop i = bs[i] :: bs.drop (i + 1) := List.drop_eq_getElem_cons (by omega)
    have d1 : bs.drop (i + 1) = bs[i + 1] :: bs.drop (i + 2) := List.drop_eq_getElem_cons (by omega)
    rw [List.getD_eq_getElem?_getD, List.getD_eq_getElem?_getD, List.getElem?_eq_getElem (by omega : i < bs.length), List.getElem?_eq_getElem hi, Option.getD_some, Option.getD_some, ← d1, ← d0, List.take_append_drop]
  have e2 : turned bs i x y = bs.take i ++ (bs.getD i 0 ^^^ x) :: (bs.getD (i + 1) 0 ^^^ y) :: bs.drop (i + 2) := by
    unfold turned
    generalize bs.getD i 0 = b0 at *
    generalize bs.getD (i + 1) 0 = b1 at *
    have hl : (bs.take i).length = i := List.length_take_of_le (by omega)
    generalize bs.take i = pre at *
    generalize bs.drop (i + 2) = post at *
    subst e1
    rw [List.set_append_right _ _ (by omega), hl, Nat.sub_self, List.set_append_right _ _ (by omega), hl, Nat.add_sub_cancel_left]
    rfl
  intro he
  have h2 := Crc.not_inj he
  rw [e2] at h2
  have h3 : Crc.reg (~~~ 0#32) bs = Crc.reg (~~~ 0#32) (bs.take i ++ bs.getD i 0 :: bs.getD (i + 1) 0 :: bs.drop (i + 2)) := by rw [← e1]
  rw [h3] at h2
  exact reg_two_ne _ _ _ _ _ _ _ hx hy h h2

/-- A row of the call's own, known whole in its first n places. -/
structure Mine (w W : World) (g n : Nat) (bs : List Nat) : Prop where
  below : Below w.heap.size w W
  new : w.heap.size ≤ g
  len : bs.length = n
  row : ∃ cur, W.heap[g]? = some (.cells cur 5 (0, 0)) ∧ n ≤ cur.size ∧ (∀ k, k < n → cur[k]? = some (byteAt bs k))
theorem Mine.lt {w W : World} {g n : Nat} {bs : List Nat} (h : Mine w W g n bs) : g < W.heap.size := by
  obtain ⟨cur, e, _⟩ := h.row
  exact (Array.getElem?_eq_some_iff.1 e).1
theorem Mine.cell {w W : World} {g n : Nat} {bs : List Nat} (h : Mine w W g n bs) {k : Nat} (hk : k < n) : W.cell? ⟨g, k, none⟩ = some (.int .u8 ((bs.getD k 0 : Nat) : Int)) := by
  obtain ⟨cur, e, _, hc⟩ := h.row
  rw [cell_of_row _ _ _ cur 5 (0, 0) e]
  exact hc k hk
theorem Mine.free {w W : World} {g n : Nat} {bs : List Nat} (h : Mine w W g n bs) (k : Nat) : W.frozen? ⟨g, k, none⟩ = false := by
  obtain ⟨cur, e, _⟩ := h.row
  simp [World.frozen?, e]
theorem Mine.bytes {w W : World} {g n : Nat} {bs : List Nat} (h : Mine w W g n bs) (hsm : ∀ k, bs.getD k 0 < 256) : Bytes W W.heap.size (some ⟨g, 0, none⟩) n bs :=
  ⟨h.len, fun k hk => ⟨_, rfl, h.lt, by rw [add_zero_addr]; exact h.cell hk⟩, hsm⟩
theorem Mine.set {w W : World} {g n : Nat} {bs : List Nat} (h : Mine w W g n bs) {i v : Nat} (hi : i < n) : Mine w (W.setCell ⟨g, i, none⟩ (.int .u8 (v : Int))) g n (bs.set i v) := by
  obtain ⟨cur, e, hs, hc⟩ := h.row
  refine ⟨h.below.setCell h.new _, h.new, by rw [List.length_set]; exact h.len, cur.setIfInBounds i (.int .u8 (v : Int)), ?_, by simpa using hs, fun k hk => ?_⟩
  · simp [World.setCell, Array.getElem?_modify, e]
  · have hkl : k < bs.length := by rw [h.len]; exact hk
    by_cases hki : k = i
    · subst hki
      rw [Array.getElem?_setIfInBounds_self_of_lt (by omega)]
      simp [byteAt, List.getD_eq_getElem?_getD, List.getElem?_set_self hkl]
    · rw [Array.getElem?_setIfInBounds_ne (by omega), hc k hk]
      simp [byteAt, List.getD_eq_getElem?_getD, List.getElem?_set_ne (show i ≠ k by omega)]
theorem mine_of {w W : World} {n : Nat} {A : Option Addr} {c : Nat} {bs : List Nat} (hS : Below w.heap.size w W) (h : W.ownsRow w.heap.size 5 1 (.slice A n c) n (cellsOf bs)) (hn : 0 < n) :
    ∃ g, A = some ⟨g, 0, none⟩ ∧ Mine w W g n bs := by
  have hl : bs.length = n := by have := h.1; simpa [cellsOf] using this
  rcases h.2 with ⟨hv, h0⟩ | ⟨g, cap, cur, hv, hb, hg, hnc, _, hsz, ht⟩
  · omega
  · have hA : A = some ⟨g, 0, none⟩ := by injection hv
    refine ⟨g, hA, hS, hb, hl, cur, hg, by omega, fun k hk => ?_⟩
    have hkl : k < bs.length := by omega
    have := (h.cells (g := g) (by rw [hA]; rfl) k (byteAt bs k) (by
      unfold cellsOf byteAt
      rw [List.getElem?_map, List.getElem?_eq_getElem hkl]
      simp [List.getD_eq_getElem?_getD, List.getElem?_eq_getElem hkl]))
    rw [add_zero_addr, cell_of_row _ _ _ cur 5 (0, 0) hg] at this
    exact this
theorem turned_small (bs : List Nat) (i x y : Nat) (hsm : ∀ k, bs.getD k 0 < 256) (hx : x < 256) (hy : y < 256) (k : Nat) : (turned bs i x y).getD k 0 < 256 := by
  have one : ∀ (us : List Nat) (j v : Nat), (∀ k, us.getD k 0 < 256) → v < 256 → ∀ k, (us.set j v).getD k 0 < 256 := by
    intro us j v hu hv k
    rw [List.getD_eq_getElem?_getD, List.getElem?_set]
    have h0 := hu k
    rw [List.getD_eq_getElem?_getD] at h0
    split
    · split
      · simpa using hv
      · simp
    · exact h0
  exact one _ _ _ (one _ _ _ hsm (Crc.xor_lt_256 (hsm _) hx)) (Crc.xor_lt_256 (hsm _) hy) k
end Go.Proofs.YteglhfimmbphmaaDoor
