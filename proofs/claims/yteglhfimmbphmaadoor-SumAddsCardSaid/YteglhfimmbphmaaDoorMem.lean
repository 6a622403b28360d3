/- Words for memory: a slice whose cells are known, nil included; a slice of bytes; what the two tables hold. No conditions. -/
import Derived.Test.YteglhfimmbphmaaDoorProg
import Derived.Test.YteglhfimmbphmaaDoorCrc
import Derived.WalkKit
import Derived.Below
import Derived.Laws.OwnMore
import Derived.Deep.AppendLies
import Derived.Deep.Draws
set_option linter.unusedVariables false
set_option linter.unusedSimpArgs false
namespace Go.Proofs.YteglhfimmbphmaaDoor
open Go.RowKit

theorem addr_block (a : Addr) (n : Nat) : (a.add n).block = a.block := by unfold Addr.add; split <;> rfl
theorem addr_add (a : Addr) (i j : Nat) : (a.add i).add j = a.add (i + j) := by
  unfold Addr.add
  by_cases hi : i = 0 <;> by_cases hj : j = 0 <;> simp [hi, hj, Nat.add_assoc]

/-- The first n places from A on hold f, and lie below block B. -/
def Lies (w : World) (B : Nat) (A : Option Addr) (n : Nat) (f : Nat → Value) : Prop :=
  ∀ k, k < n → ∃ ad, A = some ad ∧ ad.block < B ∧ w.cell? (ad.add k) = some (f k)
section
variable {w w' : World} {B B' n : Nat} {A : Option Addr} {f g : Nat → Value}
theorem Lies.zero : Lies w B A 0 f := fun k hk => absurd hk (Nat.not_lt_zero k)
theorem Lies.same (h : Lies w B A n f) (e : ∀ k, k < n → f k = g k) : Lies w B A n g := fun k hk => by
  obtain ⟨ad, e1, e2, e3⟩ := h k hk
  exact ⟨ad, e1, e2, by rw [e3, e k hk]⟩
theorem Lies.kept (h : Lies w B A n f) (e : ∀ p : Addr, p.block < B → w'.cell? p = w.cell? p) : Lies w' B A n f := fun k hk => by
  obtain ⟨ad, e1, e2, e3⟩ := h k hk
  exact ⟨ad, e1, e2, (e _ (by rw [addr_block]; exact e2)).trans e3⟩
theorem Lies.wider (h : Lies w B A n f) (hB : B ≤ B') : Lies w B' A n f := fun k hk => by
  obtain ⟨ad, e1, e2, e3⟩ := h k hk
  exact ⟨ad, e1, Nat.lt_of_lt_of_le e2 hB, e3⟩
theorem Lies.below (h : Lies w B A n f) (hb : Below B w w') : Lies w' B A n f := h.kept fun _ hp => hb.cell hp
theorem Lies.drewN (h : Lies w B A n f) (m : Nat) : Lies (w.drewN m) B A n f := h
theorem Lies.alloc (h : Lies w B A n f) (hB : B ≤ w.heap.size) (o : Obj) : Lies (w.alloc o) B A n f := h.kept fun p hp => World.cell?_alloc_lt w o p (by omega)
theorem Lies.fewer {m : Nat} (h : Lies w B A n f) (hm : m ≤ n) : Lies w B A m f := fun k hk => h k (by omega)
/-- A slice expression's address: the model keeps the old one where the whole capacity is passed by. -/
theorem Lies.behind {k cap : Nat} (h : Lies w B A n f) (hk : k ≤ n) (hc : n ≤ cap) : Lies w B (if cap = k then A else A.map (·.add (k * 1))) (n - k) (fun j => f (k + j)) := fun j hj => by
  obtain ⟨ad, e1, e2, e3⟩ := h (k + j) (by omega)
  rw [if_neg (by omega), e1]
  exact ⟨ad.add (k * 1), rfl, by rw [addr_block]; exact e2, by rw [addr_add, Nat.mul_one]; exact e3⟩
end

/- a slice of bytes -/
def byteAt (bs : List Nat) (k : Nat) : Value := .int .u8 ((bs.getD k 0 : Nat) : Int)
structure Bytes (w : World) (B : Nat) (A : Option Addr) (n : Nat) (bs : List Nat) : Prop where
  len : bs.length = n
  lies : Lies w B A n (byteAt bs)
  small : ∀ k, bs.getD k 0 < 256
section
variable {w w' : World} {B B' n : Nat} {A : Option Addr} {bs : List Nat}
theorem Bytes.at_ {k : Nat} (h : Bytes w B A n bs) (hk : k < n) : ∃ ad, A = some ad ∧ ad.block < B ∧ w.cell? (ad.add k) = some (.int .u8 ((bs.getD k 0 : Nat) : Int)) := h.lies k hk
theorem Bytes.below (h : Bytes w B A n bs) (hb : Below B w w') : Bytes w' B A n bs := ⟨h.len, h.lies.below hb, h.small⟩
theorem Bytes.drewN (h : Bytes w B A n bs) (k : Nat) : Bytes (w.drewN k) B A n bs := ⟨h.len, h.lies.drewN k, h.small⟩
theorem Bytes.wider (h : Bytes w B A n bs) (hB : B ≤ B') : Bytes w B' A n bs := ⟨h.len, h.lies.wider hB, h.small⟩
theorem Bytes.alloc (h : Bytes w B A n bs) (hB : B ≤ w.heap.size) (o : Obj) : Bytes (w.alloc o) B A n bs := ⟨h.len, h.lies.alloc hB o, h.small⟩
theorem Bytes.none_ : Bytes w B A 0 [] := ⟨rfl, Lies.zero, fun k => by simp⟩
end

/- what the two tables hold -/
structure Tabs (w : World) : Prop where
  low : ∀ i, i < 16 → w.cell? ⟨0, i, none⟩ = some (.int .u32 ((Crc.lowerT.getD i 0 : Nat) : Int))
  high : ∀ i, i < 16 → w.cell? ⟨1, i, none⟩ = some (.int .u32 ((Crc.higherT.getD i 0 : Nat) : Int))
  size : 2 ≤ w.heap.size
theorem Tabs.drewN {w : World} (h : Tabs w) (n : Nat) : Tabs (w.drewN n) := ⟨h.low, h.high, h.size⟩
theorem Tabs.below {w w' : World} (h : Tabs w) {B : Nat} (hB : 2 ≤ B) (hb : Below B w w') : Tabs w' :=
  ⟨fun i hi => (hb.cell (p := ⟨0, i, none⟩) (by show 0 < B; omega)).trans (h.low i hi), fun i hi => (hb.cell (p := ⟨1, i, none⟩) (by show 1 < B; omega)).trans (h.high i hi), Nat.le_trans h.size hb.size⟩
end Go.Proofs.YteglhfimmbphmaaDoor
