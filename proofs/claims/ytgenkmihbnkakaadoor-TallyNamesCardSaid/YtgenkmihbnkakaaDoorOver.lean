/- The contract of the statements' OverBytes: a row of the call's own is written over, and beyond; nothing else turns. Conditions: at most 900 bytes. -/
import Derived.Test.YtgenkmihbnkakaaDoorOwn
set_option linter.unusedVariables false
set_option linter.unusedSimpArgs false
set_option maxRecDepth 20000
namespace Go.Proofs.YtgenkmihbnkakaaDoor
open Go.RowKit

theorem grownBy_trans {x y z : World} {row : Option Nat} (h : x.grownBy y row) (k : y.grownBy z row) : x.grownBy z row :=
  ⟨k.os.trans h.os, k.tape.trans h.tape, k.output.trans h.output, Nat.le_trans h.size k.size, fun i hi hr => (k.block i (Nat.lt_of_lt_of_le hi h.size) hr).trans (h.block i hi hr)⟩
theorem Own.kept {w w' : World} {base n c : Nat} {A : Option Addr} {bs : List Nat} {row : Option Nat} (h : Own w base A n c bs) (hg : w.grownBy w' row) (hne : ∀ b, row = some b → b < base) : Own w' base A n c bs := by
  refine ⟨h.row.kept hg ?_, h.small⟩
  cases hb : (Value.slice A n c).ownBlock with
  | none => exact Or.inl rfl
  | some k =>
    refine Or.inr fun e => ?_
    have h1 := (h.row.lt k hb).1
    have h2 := hne k e.symm
    omega
theorem Own.elsewhere {w w' : World} {B base n c : Nat} {A : Option Addr} {bs : List Nat} (h : Own w base A n c bs) (hg : w.grownBy w' (Value.slice A n c).ownBlock) (hB : B ≤ base) (hw : B ≤ w.heap.size) : Below B w w' :=
  (Below.refl B w).grown hg hw fun k hk => Nat.le_trans hB (h.row.lt k hk).1
theorem Own.block_lt {w : World} {base n c : Nat} {A : Option Addr} {bs : List Nat} (h : Own w base A n c bs) : ∀ b, (Value.slice A n c).ownBlock = some b → b < w.heap.size := fun b hb => (h.row.lt b hb).2
theorem own_at {W : World} {base n c : Nat} {A : Option Addr} {us : List Nat} (h : Own W base A n c us) (hn : 0 < n) : ∃ g, A = some ⟨g, 0, none⟩ ∧ base ≤ g ∧ g < W.heap.size := by
  rcases h.row.2 with ⟨_, h0⟩ | ⟨g, cap, cur, hv, hbg, hg, _⟩
  · omega
  · injection hv with e1 e2 e3
    exact ⟨g, e1, hbg, (Array.getElem?_eq_some_iff.1 hg).1⟩
theorem own_other {w w' : World} {base g b n c : Nat} {us : List Nat} (h : Own w base (some ⟨g, 0, none⟩) n c us) (hg : w.grownBy w' (some b)) (hn : g ≠ b) : Own w' base (some ⟨g, 0, none⟩) n c us :=
  ⟨h.row.kept hg (Or.inr fun e => hn (by simpa [Value.ownBlock] using e)), h.small⟩
theorem min_at (ts : Array TypeId) (ty : TypeId) (p q m : Int) (h : (p ≤ q ∧ m = p) ∨ (q ≤ p ∧ m = q)) (w : World) : (Builtin.min_ ts ty #[.int .i64 p, .int .i64 q]).run Tryd.prog w = .ok (.int .i64 m) w := by
  simp only [Builtin.min_]
  rcases h with ⟨h, rfl⟩ | ⟨h, rfl⟩
  · simp [Builtin.min2]; omega
  · simp [Builtin.min2]; omega
theorem Bytes.back {w w' : World} {B n : Nat} {A : Option Addr} {bs : List Nat} (h : Bytes w' B A n bs) (hb : Below B w w') : Bytes w B A n bs := ⟨h.len, h.lies.kept fun p hp => (hb.cell hp).symm, h.small⟩
theorem setCell_else (w : World) (p : Addr) (v : Value) : w.grownBy (w.setCell p v) (some p.block) :=
  ⟨rfl, rfl, rfl, by simp, fun k hk hn => by simp only [World.setCell]; rw [Array.getElem?_modify]; rw [if_neg (fun e => hn (by rw [e]))]⟩
theorem grownBy_setCell (w : World) (g j : Nat) (v : Value) : w.grownBy (w.setCell ⟨g, j, none⟩ v) (some g) :=
  ⟨rfl, rfl, rfl, by simp [World.setCell], fun i _ hr => by
    have : g ≠ i := fun e => hr (by rw [e])
    simp [World.setCell, Array.getElem?_modify, this]⟩
end Go.Proofs.YtgenkmihbnkakaaDoor
