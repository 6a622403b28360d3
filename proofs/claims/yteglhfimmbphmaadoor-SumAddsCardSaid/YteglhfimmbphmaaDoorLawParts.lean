/- SumParts answers true, for all bytes and numbers. Conditions: what the two tables hold; the slice's cells. -/
import Derived.Test.YteglhfimmbphmaaDoorLawTells
import Derived.Deep.RegionHeld3
set_option linter.unusedVariables false
set_option linter.unusedSimpArgs false
namespace Go.Proofs.YteglhfimmbphmaaDoor
open Go.RowKit

/-- Every cell that is there stays as it is. -/
def Kept (W w' : World) : Prop := ∀ b o v, W.cell? ⟨b, o, none⟩ = some v → w'.cell? ⟨b, o, none⟩ = some v
/-- What a call that keeps all old memory leaves. -/
def Leaves (w W : World) (v : Value) (e : Ending) (w' : World) : Prop := e = .returned v ∧ Below w.heap.size w w' ∧ Kept W w'
theorem leaves_of {w W w' : World} {v : Value} {e : Ending} (hS : Below w.heap.size w W) (he : e = .returned v) (hb : Below W.heap.size W w') : Leaves w W v e w' :=
  ⟨he, below_chain hS hb, fun b o v h => (hb.cell (p := ⟨b, o, none⟩) (World.block_lt_of_cell? W _ h)).trans h⟩
theorem since_alloc {w W : World} (h : Below w.heap.size w W) (o : Obj) : Below w.heap.size w (W.alloc o) := h.alloc h.size o
theorem since_drew {w W : World} (h : Below w.heap.size w W) : Below w.heap.size w W.drew := h.drew
theorem cell_first {W : World} {vs : Array Value} {t : TypeId} {z : Nat × Nat} {k : Nat} {v : Value} (h : vs[k]? = some v) : (W.alloc (.cells vs t z)).cell? ⟨W.heap.size, k, none⟩ = some v := (cell_new W vs t z k).trans h
theorem cell_first_at {W : World} {vs : Array Value} {t : TypeId} {z : Nat × Nat} {g k : Nat} {v : Value} (hg : g = W.heap.size) (h : vs[k]? = some v) : (W.alloc (.cells vs t z)).cell? ⟨g, k, none⟩ = some v := by
  subst hg
  exact cell_first h
theorem cell_drew {W : World} {a : Addr} {v : Value} (h : W.cell? a = some v) : W.drew.cell? a = some v := h
theorem cell_old {W : World} {o : Obj} {a : Addr} {v : Value} (h : W.cell? a = some v) : (W.alloc o).cell? a = some v := (World.cell?_alloc_lt _ _ _ (World.block_lt_of_cell? W a h)).trans h
theorem cell_kept {W w' : World} {b o : Nat} {v : Value} (h : Kept W w') (hc : W.cell? ⟨b, o, none⟩ = some v) : w'.cell? ⟨b, o, none⟩ = some v := h b o v hc

set_option maxHeartbeats 4000000 in
theorem parts_core (A : Option Addr) (n c : Nat) (x : Int) (w : World) (hn : n ≤ 400) (y z : Int)
   (A1 A2 : Option Addr) (k : Nat) (hk : k ≤ n)
   (hs1 : ∀ W, (Instr.slice 24 (.slice A n c) none (some (.int .i64 (k : Int))) none).run Tryd.prog W = .ok (.slice A1 k c) W)
   (hs2 : ∀ W, (Instr.slice 24 (.slice A n c) (some (.int .i64 (k : Int))) none none).run Tryd.prog W = .ok (.slice A2 (n - k) (c - k)) W)
   (K0 : Hid (∀ W, Calls Tryd.prog 16 #[.int .i64 x, .int .i64 ((n : Int) + 1)] W fun e w' => e = .returned (.int .i64 k) ∧ W = w'))
   (K1 : Hid (∀ W g, Below w.heap.size w W → W.cell? ⟨g, 0, none⟩ = some (.slice A n c) → Calls Tryd.prog 11 #[.slice (some ⟨g, 0, none⟩) 1 1] W (Leaves w W (.int .u32 z))))
   (K2 : Hid (∀ W g, Below w.heap.size w W → W.cell? ⟨g, 0, none⟩ = some (.slice A1 k c) → Calls Tryd.prog 11 #[.slice (some ⟨g, 0, none⟩) 1 1] W (Leaves w W (.int .u32 y))))
   (K3 : Hid (∀ W, Below w.heap.size w W → Calls Tryd.prog 13 #[.int .u32 y, .slice A2 (n - k) (c - k)] W (Leaves w W (.int .u32 z))))
   (K4 : Hid (∀ W g, Below w.heap.size w W → W.cell? ⟨g, 0, none⟩ = some (.slice A1 k c) → W.cell? ⟨g, 1, none⟩ = some (.slice none 0 0) → W.cell? ⟨g, 2, none⟩ = some (.slice A2 (n - k) (c - k)) → Calls Tryd.prog 11 #[.slice (some ⟨g, 0, none⟩) 3 3] W (Leaves w W (.int .u32 z))))
   (K5 : Hid (∀ W, Below w.heap.size w W → Calls Tryd.prog 13 #[.int .u32 0, .slice A n c] W (Leaves w W (.int .u32 z))))
   (K6 : Hid (∀ W, Below w.heap.size w W → Calls Tryd.prog 9 #[] W (Leaves w W (.bool true)))) :
    Calls Tryd.prog 4 #[.slice A n c, .int .i64 x] w fun e w' => e = .returned (.bool true) ∧ Below w.heap.size w w' := by
  go_enter Tryd.func4, Tryd.ntmps4
  go_wp2_with fail
  refine (K0.out _).mono ?_
  rintro e w' ⟨rfl, rfl⟩
  go_wp2_with fail
  go_region_held3 (fun W => Below w.heap.size w W) ((repeat (first | assumption | exact Below.refl _ _ | refine since_drew ?_ | refine since_alloc ?_ _))) (first
    | (go_at_call 11
       first
         | ((with_reducible refine (K1.out _ _ ?_ ?_).mono ?_)
            · assumption
            · repeat (first | (with_reducible exact cell_first rfl) | ((with_reducible refine cell_first_at ?_ rfl); (simp; done)) | (with_reducible refine cell_drew ?_) | (with_reducible refine cell_old ?_) | (with_reducible refine cell_kept (by assumption) ?_))
              done
            rintro e W1 ⟨rfl, c1, q1⟩)
         | ((with_reducible refine (K2.out _ _ ?_ ?_).mono ?_)
            · assumption
            · repeat (first | (with_reducible exact cell_first rfl) | ((with_reducible refine cell_first_at ?_ rfl); (simp; done)) | (with_reducible refine cell_drew ?_) | (with_reducible refine cell_old ?_) | (with_reducible refine cell_kept (by assumption) ?_))
              done
            rintro e W1 ⟨rfl, c1, q1⟩)
         | ((with_reducible refine (K4.out _ _ ?_ ?_ ?_ ?_).mono ?_)
            · assumption
            all_goals try (focus repeat (first | (with_reducible exact cell_first rfl) | ((with_reducible refine cell_first_at ?_ rfl); (simp; done)) | (with_reducible refine cell_drew ?_) | (with_reducible refine cell_old ?_) | (with_reducible refine cell_kept (by assumption) ?_)))
            rintro e W1 ⟨rfl, c1, q1⟩))
    | (go_at_call 13
       first
         | ((with_reducible refine (K3.out _ ?_).mono ?_)
            · assumption
            rintro e W1 ⟨rfl, c1, q1⟩)
         | ((with_reducible refine (K5.out _ ?_).mono ?_)
            · assumption
            rintro e W1 ⟨rfl, c1, q1⟩))
    | (go_at_call 9
       refine (K6.out _ ?_).mono ?_
       · assumption
       rintro e W1 ⟨rfl, c1, q1⟩))
  all_goals
    go_wp2
    go_ret
    exact ⟨rfl, by assumption⟩
end Go.Proofs.YteglhfimmbphmaaDoor
