/- SumParts answers true, for all bytes and numbers; its drawn region is told op by op. Conditions: what the two tables hold; the slice's cells. -/
import Derived.Test.YteglhfimmbphmaaDoorOps
import Derived.Test.YteglhfimmbphmaaDoorLow
set_option linter.unusedVariables false
set_option linter.unusedSimpArgs false
namespace Go.Proofs.YteglhfimmbphmaaDoor
open Go.RowKit
/-- A call that answers v and keeps all that was there. -/
def Gives (f : FuncId) (vs : Array Value) (W : World) (v : Value) : Prop := Calls Tryd.prog f vs W fun e w' => e = .returned v ∧ Later W w'
theorem gives {f : FuncId} {vs : Array Value} {W : World} {v : Value} {l : List Fact} {i : Nat} (h : Gives f vs W v) (hf : ∀ w', factOf l i v w') : Calls Tryd.prog f vs W fun e w' => ∃ u, e = .returned u ∧ Later W w' ∧ factOf l i u w' :=
  h.mono fun e w' ⟨he, hb⟩ => ⟨v, he, hb, hf w'⟩
set_option maxHeartbeats 1000000 in
theorem parts_core (A : Option Addr) (n c : Nat) (x : Int) (w : World) (hn : n ≤ 400) (y z : Int)
   (A1 A2 : Option Addr) (k : Nat) (hk : k ≤ n)
   (hs1 : ∀ W, (Instr.slice 24 (.slice A n c) none (some (.int .i64 (k : Int))) none).run Tryd.prog W = .ok (.slice A1 k c) W)
   (hs2 : ∀ W, (Instr.slice 24 (.slice A n c) (some (.int .i64 (k : Int))) none none).run Tryd.prog W = .ok (.slice A2 (n - k) (c - k)) W)
   (K0 : Hid (∀ W, Calls Tryd.prog 16 #[.int .i64 x, .int .i64 ((n : Int) + 1)] W fun e w' => e = .returned (.int .i64 k) ∧ W = w'))
   (K1 : Hid (∀ W g, Later w.drew W → W.cell? ⟨g, 0, none⟩ = some (.slice A n c) → Gives 11 #[.slice (some ⟨g, 0, none⟩) 1 1] W (.int .u32 z)))
   (K2 : Hid (∀ W g, Later w.drew W → W.cell? ⟨g, 0, none⟩ = some (.slice A1 k c) → Gives 11 #[.slice (some ⟨g, 0, none⟩) 1 1] W (.int .u32 y)))
   (K3 : Hid (∀ W, Later w.drew W → Gives 13 #[.int .u32 y, .slice A2 (n - k) (c - k)] W (.int .u32 z)))
   (K4 : Hid (∀ W g, Later w.drew W → W.cell? ⟨g, 0, none⟩ = some (.slice A1 k c) → W.cell? ⟨g, 1, none⟩ = some (.slice none 0 0) → W.cell? ⟨g, 2, none⟩ = some (.slice A2 (n - k) (c - k)) → Gives 11 #[.slice (some ⟨g, 0, none⟩) 3 3] W (.int .u32 z)))
   (K5 : Hid (∀ W, Later w.drew W → Gives 13 #[.int .u32 0, .slice A n c] W (.int .u32 z)))
   (K6 : Hid (∀ W, Later w.drew W → Gives 9 #[] W (.bool true))) :
    Calls Tryd.prog 4 #[.slice A n c, .int .i64 x] w fun e w' => e = .returned (.bool true) ∧ Below w.heap.size w w' := by
  have HS1 := Lib.hid hs1
  have HS2 := Lib.hid hs2
  clear hs1 hs2
  go_enter Tryd.func4, Tryd.ntmps4
  go_wp2_with fail
  refine (K0.out _).mono ?_
  rintro e w' ⟨rfl, rfl⟩
  go_wp2_with fail
  refine region_of_steps (by kernel_rfl) (factOf [.is (.slice A n c), .row [.slice A n c], .is (.int .u32 z), .is (.slice A n c), .is (.int .i64 k), .is (.slice A1 k c), .row [.slice A1 k c], .is (.int .u32 y), .is (.slice A n c), .is (.int .i64 k), .is (.slice A2 (n - k) (c - k)), .is (.int .u32 z), .is (.bool true), .is (.bool true), .is (.slice A n c), .is (.int .i64 k), .is (.slice A1 k c), .is (.slice A n c), .is (.int .i64 k), .is (.slice A2 (n - k) (c - k)), .row [.slice A1 k c, .slice none 0 0, .slice A2 (n - k) (c - k)], .is (.int .u32 z), .is (.slice A n c), .row [.slice A n c], .is (.int .u32 z), .is (.bool true), .is (.bool true), .is (.bool true), .is (.slice A n c), .is (.int .u32 z), .is (.slice A n c), .row [.slice A n c], .is (.int .u32 z), .is (.bool true), .is (.bool true), .is (.bool true), .is (.bool true), .is (.bool true), .is (.bool true)]) Later (by kernel_rfl) (fact_stays _) later_trans (later_refl _) (by
    refine Steps.cons ?_ (Steps.cons ?_ (Steps.cons ?_ (Steps.cons ?_ (Steps.cons ?_ (Steps.cons ?_ (Steps.cons ?_ (Steps.cons ?_ (Steps.cons ?_ (Steps.cons ?_ (Steps.cons ?_ (Steps.cons ?_ (Steps.cons ?_ (Steps.cons ?_ (Steps.cons ?_ (Steps.cons ?_ (Steps.cons ?_ (Steps.cons ?_ (Steps.cons ?_ (Steps.cons ?_ (Steps.cons ?_ (Steps.cons ?_ (Steps.cons ?_ (Steps.cons ?_ (Steps.cons ?_ (Steps.cons ?_ (Steps.cons ?_ (Steps.cons ?_ (Steps.cons ?_ (Steps.cons ?_ (Steps.cons ?_ (Steps.cons ?_ (Steps.cons ?_ (Steps.cons ?_ (Steps.cons ?_ (Steps.cons ?_ (Steps.cons ?_ (Steps.cons ?_ (Steps.cons ?_ (Steps.nil)))))))))))))))))))))))))))))))))))))))
    · intro listed a W H hw hd
      have t0 : a.tmps.getD 0 undef = .slice A n c := (H.old 0 (by kernel_rfl)).trans rfl
      exact step_value (i := 0) rfl rfl (run_op_move rfl t0) (later_refl _) rfl
    · intro listed a W H hw hd
      have t14 : a.tmps.getD 14 undef = .slice A n c := H.get 0 14 (by kernel_rfl) (dep_of hd 0 (by kernel_rfl))
      exact step_value (i := 1) rfl rfl (run_op_build rfl (by simp only [List.map_toArray, List.map_cons, List.map_nil]; show (Instr.buildSlice 22 1 #[(0, a.tmps.getD 14 undef)]).run _ _ = _; rw [t14]; exact run_build22_1 ..)) (later_alloc _ _) (row_made _ _ _ rfl)
    · intro listed a W H hw hd
      obtain ⟨g15, t15, c15⟩ := H.get 1 15 (by kernel_rfl) (dep_of hd 1 (by kernel_rfl))
      refine step_call (i := 2) rfl rfl (run_op_call (vs := #[.slice (some ⟨g15, 0, none⟩) 1 1]) Tryd.func11 (by kernel_rfl) (by kernel_rfl) rfl (by simp only [List.map_toArray, List.map_cons, List.map_nil]; show #[a.tmps.getD 15 undef] = _; rw [t15]; rfl)) ?_
      exact gives (K1.out _ _ hw (c15 0 _ rfl)) fun _ => rfl
    · intro listed a W H hw hd
      have t0 : a.tmps.getD 0 undef = .slice A n c := (H.old 0 (by kernel_rfl)).trans rfl
      exact step_value (i := 3) rfl rfl (run_op_move rfl t0) (later_refl _) rfl
    · intro listed a W H hw hd
      have t1 : a.tmps.getD 1 undef = .int .i64 k := (H.old 1 (by kernel_rfl)).trans rfl
      exact step_value (i := 4) rfl rfl (run_op_move rfl t1) (later_refl _) rfl
    · intro listed a W H hw hd
      have t17 : a.tmps.getD 17 undef = .slice A n c := H.get 3 17 (by kernel_rfl) (dep_of hd 3 (by kernel_rfl))
      have t18 : a.tmps.getD 18 undef = .int .i64 k := H.get 4 18 (by kernel_rfl) (dep_of hd 4 (by kernel_rfl))
      exact step_value (i := 5) rfl rfl (run_op_slice rfl (by show (Instr.sliceAt 24 (a.tmps.getD 17 undef) none (some (a.tmps.getD 18 undef)) none).run _ _ = _; rw [t17, t18]; rw [run_sliceAt_slice (h := under24)]; exact HS1.out W)) (later_refl _) rfl
    · intro listed a W H hw hd
      have t19 : a.tmps.getD 19 undef = .slice A1 k c := H.get 5 19 (by kernel_rfl) (dep_of hd 5 (by kernel_rfl))
      exact step_value (i := 6) rfl rfl (run_op_build rfl (by simp only [List.map_toArray, List.map_cons, List.map_nil]; show (Instr.buildSlice 22 1 #[(0, a.tmps.getD 19 undef)]).run _ _ = _; rw [t19]; exact run_build22_1 ..)) (later_alloc _ _) (row_made _ _ _ rfl)
    · intro listed a W H hw hd
      obtain ⟨g20, t20, c20⟩ := H.get 6 20 (by kernel_rfl) (dep_of hd 6 (by kernel_rfl))
      refine step_call (i := 7) rfl rfl (run_op_call (vs := #[.slice (some ⟨g20, 0, none⟩) 1 1]) Tryd.func11 (by kernel_rfl) (by kernel_rfl) rfl (by simp only [List.map_toArray, List.map_cons, List.map_nil]; show #[a.tmps.getD 20 undef] = _; rw [t20]; rfl)) ?_
      exact gives (K2.out _ _ hw (c20 0 _ rfl)) fun _ => rfl
    · intro listed a W H hw hd
      have t0 : a.tmps.getD 0 undef = .slice A n c := (H.old 0 (by kernel_rfl)).trans rfl
      exact step_value (i := 8) rfl rfl (run_op_move rfl t0) (later_refl _) rfl
    · intro listed a W H hw hd
      have t1 : a.tmps.getD 1 undef = .int .i64 k := (H.old 1 (by kernel_rfl)).trans rfl
      exact step_value (i := 9) rfl rfl (run_op_move rfl t1) (later_refl _) rfl
    · intro listed a W H hw hd
      have t22 : a.tmps.getD 22 undef = .slice A n c := H.get 8 22 (by kernel_rfl) (dep_of hd 8 (by kernel_rfl))
      have t23 : a.tmps.getD 23 undef = .int .i64 k := H.get 9 23 (by kernel_rfl) (dep_of hd 9 (by kernel_rfl))
      exact step_value (i := 10) rfl rfl (run_op_slice rfl (by show (Instr.sliceAt 24 (a.tmps.getD 22 undef) (some (a.tmps.getD 23 undef)) none none).run _ _ = _; rw [t22, t23]; rw [run_sliceAt_slice (h := under24)]; exact HS2.out W)) (later_refl _) rfl
    · intro listed a W H hw hd
      have t21 : a.tmps.getD 21 undef = .int .u32 y := H.get 7 21 (by kernel_rfl) (dep_of hd 7 (by kernel_rfl))
      have t24 : a.tmps.getD 24 undef = .slice A2 (n - k) (c - k) := H.get 10 24 (by kernel_rfl) (dep_of hd 10 (by kernel_rfl))
      refine step_call (i := 11) rfl rfl (run_op_call (vs := #[.int .u32 y, .slice A2 (n - k) (c - k)]) Tryd.func13 (by kernel_rfl) (by kernel_rfl) rfl (by simp only [List.map_toArray, List.map_cons, List.map_nil]; show #[a.tmps.getD 21 undef, a.tmps.getD 24 undef] = _; rw [t21, t24])) ?_
      exact gives (K3.out _ hw) fun _ => rfl
    · intro listed a W H hw hd
      have t16 : a.tmps.getD 16 undef = .int .u32 z := H.get 2 16 (by kernel_rfl) (dep_of hd 2 (by kernel_rfl))
      have t25 : a.tmps.getD 25 undef = .int .u32 z := H.get 11 25 (by kernel_rfl) (dep_of hd 11 (by kernel_rfl))
      exact step_value (i := 12) rfl rfl (run_op_bin rfl t16 t25 (run_eql32 _ _ _ _ rfl _)) (later_refl _) rfl
    · intro listed a W H hw hd
      have t26 : a.tmps.getD 26 undef = .bool true := H.get 12 26 (by kernel_rfl) (dep_of hd 12 (by kernel_rfl))
      exact step_value (i := 13) rfl rfl (run_op_move rfl t26) (later_refl _) rfl
    · intro listed a W H hw hd
      have t27 : a.tmps.getD 27 undef = .bool true := H.get 13 27 (by kernel_rfl) (dep_of hd 13 (by kernel_rfl))
      have t0 : a.tmps.getD 0 undef = .slice A n c := (H.old 0 (by kernel_rfl)).trans rfl
      exact step_value (i := 14) rfl (wanted_at (j := 13) (d := 27) (b := true) rfl (by kernel_rfl) t27) (run_op_move rfl t0) (later_refl _) rfl
    · intro listed a W H hw hd
      have t27 : a.tmps.getD 27 undef = .bool true := H.get 13 27 (by kernel_rfl) (dep_of hd 13 (by kernel_rfl))
      have t1 : a.tmps.getD 1 undef = .int .i64 k := (H.old 1 (by kernel_rfl)).trans rfl
      exact step_value (i := 15) rfl (wanted_at (j := 13) (d := 27) (b := true) rfl (by kernel_rfl) t27) (run_op_move rfl t1) (later_refl _) rfl
    · intro listed a W H hw hd
      have t27 : a.tmps.getD 27 undef = .bool true := H.get 13 27 (by kernel_rfl) (dep_of hd 13 (by kernel_rfl))
      have t28 : a.tmps.getD 28 undef = .slice A n c := H.get 14 28 (by kernel_rfl) (dep_of hd 14 (by kernel_rfl))
      have t29 : a.tmps.getD 29 undef = .int .i64 k := H.get 15 29 (by kernel_rfl) (dep_of hd 15 (by kernel_rfl))
      exact step_value (i := 16) rfl (wanted_at (j := 13) (d := 27) (b := true) rfl (by kernel_rfl) t27) (run_op_slice rfl (by show (Instr.sliceAt 24 (a.tmps.getD 28 undef) none (some (a.tmps.getD 29 undef)) none).run _ _ = _; rw [t28, t29]; rw [run_sliceAt_slice (h := under24)]; exact HS1.out W)) (later_refl _) rfl
    · intro listed a W H hw hd
      have t27 : a.tmps.getD 27 undef = .bool true := H.get 13 27 (by kernel_rfl) (dep_of hd 13 (by kernel_rfl))
      have t0 : a.tmps.getD 0 undef = .slice A n c := (H.old 0 (by kernel_rfl)).trans rfl
      exact step_value (i := 17) rfl (wanted_at (j := 13) (d := 27) (b := true) rfl (by kernel_rfl) t27) (run_op_move rfl t0) (later_refl _) rfl
    · intro listed a W H hw hd
      have t27 : a.tmps.getD 27 undef = .bool true := H.get 13 27 (by kernel_rfl) (dep_of hd 13 (by kernel_rfl))
      have t1 : a.tmps.getD 1 undef = .int .i64 k := (H.old 1 (by kernel_rfl)).trans rfl
      exact step_value (i := 18) rfl (wanted_at (j := 13) (d := 27) (b := true) rfl (by kernel_rfl) t27) (run_op_move rfl t1) (later_refl _) rfl
    · intro listed a W H hw hd
      have t27 : a.tmps.getD 27 undef = .bool true := H.get 13 27 (by kernel_rfl) (dep_of hd 13 (by kernel_rfl))
      have t31 : a.tmps.getD 31 undef = .slice A n c := H.get 17 31 (by kernel_rfl) (dep_of hd 17 (by kernel_rfl))
      have t32 : a.tmps.getD 32 undef = .int .i64 k := H.get 18 32 (by kernel_rfl) (dep_of hd 18 (by kernel_rfl))
      exact step_value (i := 19) rfl (wanted_at (j := 13) (d := 27) (b := true) rfl (by kernel_rfl) t27) (run_op_slice rfl (by show (Instr.sliceAt 24 (a.tmps.getD 31 undef) (some (a.tmps.getD 32 undef)) none none).run _ _ = _; rw [t31, t32]; rw [run_sliceAt_slice (h := under24)]; exact HS2.out W)) (later_refl _) rfl
    · intro listed a W H hw hd
      have t27 : a.tmps.getD 27 undef = .bool true := H.get 13 27 (by kernel_rfl) (dep_of hd 13 (by kernel_rfl))
      have t30 : a.tmps.getD 30 undef = .slice A1 k c := H.get 16 30 (by kernel_rfl) (dep_of hd 16 (by kernel_rfl))
      have t33 : a.tmps.getD 33 undef = .slice A2 (n - k) (c - k) := H.get 19 33 (by kernel_rfl) (dep_of hd 19 (by kernel_rfl))
      exact step_value (i := 20) rfl (wanted_at (j := 13) (d := 27) (b := true) rfl (by kernel_rfl) t27) (run_op_build rfl (by simp only [List.map_toArray, List.map_cons, List.map_nil]; show (Instr.buildSlice 22 3 #[(0, a.tmps.getD 30 undef), (1, .slice none 0 0), (2, a.tmps.getD 33 undef)]).run _ _ = _; rw [t30, t33]; exact run_build22_3 ..)) (later_alloc _ _) (row_made _ _ _ rfl)
    · intro listed a W H hw hd
      have t27 : a.tmps.getD 27 undef = .bool true := H.get 13 27 (by kernel_rfl) (dep_of hd 13 (by kernel_rfl))
      obtain ⟨g34, t34, c34⟩ := H.get 20 34 (by kernel_rfl) (dep_of hd 20 (by kernel_rfl))
      refine step_call (i := 21) rfl (wanted_at (j := 13) (d := 27) (b := true) rfl (by kernel_rfl) t27) (run_op_call (vs := #[.slice (some ⟨g34, 0, none⟩) 3 3]) Tryd.func11 (by kernel_rfl) (by kernel_rfl) rfl (by simp only [List.map_toArray, List.map_cons, List.map_nil]; show #[a.tmps.getD 34 undef] = _; rw [t34]; rfl)) ?_
      exact gives (K4.out _ _ hw (c34 0 _ rfl) (c34 1 _ rfl) (c34 2 _ rfl)) fun _ => rfl
    · intro listed a W H hw hd
      have t27 : a.tmps.getD 27 undef = .bool true := H.get 13 27 (by kernel_rfl) (dep_of hd 13 (by kernel_rfl))
      have t0 : a.tmps.getD 0 undef = .slice A n c := (H.old 0 (by kernel_rfl)).trans rfl
      exact step_value (i := 22) rfl (wanted_at (j := 13) (d := 27) (b := true) rfl (by kernel_rfl) t27) (run_op_move rfl t0) (later_refl _) rfl
    · intro listed a W H hw hd
      have t27 : a.tmps.getD 27 undef = .bool true := H.get 13 27 (by kernel_rfl) (dep_of hd 13 (by kernel_rfl))
      have t36 : a.tmps.getD 36 undef = .slice A n c := H.get 22 36 (by kernel_rfl) (dep_of hd 22 (by kernel_rfl))
      exact step_value (i := 23) rfl (wanted_at (j := 13) (d := 27) (b := true) rfl (by kernel_rfl) t27) (run_op_build rfl (by simp only [List.map_toArray, List.map_cons, List.map_nil]; show (Instr.buildSlice 22 1 #[(0, a.tmps.getD 36 undef)]).run _ _ = _; rw [t36]; exact run_build22_1 ..)) (later_alloc _ _) (row_made _ _ _ rfl)
    · intro listed a W H hw hd
      have t27 : a.tmps.getD 27 undef = .bool true := H.get 13 27 (by kernel_rfl) (dep_of hd 13 (by kernel_rfl))
      obtain ⟨g37, t37, c37⟩ := H.get 23 37 (by kernel_rfl) (dep_of hd 23 (by kernel_rfl))
      refine step_call (i := 24) rfl (wanted_at (j := 13) (d := 27) (b := true) rfl (by kernel_rfl) t27) (run_op_call (vs := #[.slice (some ⟨g37, 0, none⟩) 1 1]) Tryd.func11 (by kernel_rfl) (by kernel_rfl) rfl (by simp only [List.map_toArray, List.map_cons, List.map_nil]; show #[a.tmps.getD 37 undef] = _; rw [t37]; rfl)) ?_
      exact gives (K1.out _ _ hw (c37 0 _ rfl)) fun _ => rfl
    · intro listed a W H hw hd
      have t27 : a.tmps.getD 27 undef = .bool true := H.get 13 27 (by kernel_rfl) (dep_of hd 13 (by kernel_rfl))
      have t35 : a.tmps.getD 35 undef = .int .u32 z := H.get 21 35 (by kernel_rfl) (dep_of hd 21 (by kernel_rfl))
      have t38 : a.tmps.getD 38 undef = .int .u32 z := H.get 24 38 (by kernel_rfl) (dep_of hd 24 (by kernel_rfl))
      exact step_value (i := 25) rfl (wanted_at (j := 13) (d := 27) (b := true) rfl (by kernel_rfl) t27) (run_op_bin rfl t35 t38 (run_eql32 _ _ _ _ rfl _)) (later_refl _) rfl
    · intro listed a W H hw hd
      have t27 : a.tmps.getD 27 undef = .bool true := H.get 13 27 (by kernel_rfl) (dep_of hd 13 (by kernel_rfl))
      have t39 : a.tmps.getD 39 undef = .bool true := H.get 25 39 (by kernel_rfl) (dep_of hd 25 (by kernel_rfl))
      exact step_value (i := 26) rfl rfl (run_op_pick rfl t27 t39) (later_refl _) rfl
    · intro listed a W H hw hd
      have t40 : a.tmps.getD 40 undef = .bool true := H.get 26 40 (by kernel_rfl) (dep_of hd 26 (by kernel_rfl))
      exact step_value (i := 27) rfl rfl (run_op_move rfl t40) (later_refl _) rfl
    · intro listed a W H hw hd
      have t41 : a.tmps.getD 41 undef = .bool true := H.get 27 41 (by kernel_rfl) (dep_of hd 27 (by kernel_rfl))
      have t0 : a.tmps.getD 0 undef = .slice A n c := (H.old 0 (by kernel_rfl)).trans rfl
      exact step_value (i := 28) rfl (wanted_at (j := 27) (d := 41) (b := true) rfl (by kernel_rfl) t41) (run_op_move rfl t0) (later_refl _) rfl
    · intro listed a W H hw hd
      have t41 : a.tmps.getD 41 undef = .bool true := H.get 27 41 (by kernel_rfl) (dep_of hd 27 (by kernel_rfl))
      have t42 : a.tmps.getD 42 undef = .slice A n c := H.get 28 42 (by kernel_rfl) (dep_of hd 28 (by kernel_rfl))
      refine step_call (i := 29) rfl (wanted_at (j := 27) (d := 41) (b := true) rfl (by kernel_rfl) t41) (run_op_call (vs := #[.int .u32 0, .slice A n c]) Tryd.func13 (by kernel_rfl) (by kernel_rfl) rfl (by simp only [List.map_toArray, List.map_cons, List.map_nil]; show #[.int .u32 0, a.tmps.getD 42 undef] = _; rw [t42])) ?_
      exact gives (K5.out _ hw) fun _ => rfl
    · intro listed a W H hw hd
      have t41 : a.tmps.getD 41 undef = .bool true := H.get 27 41 (by kernel_rfl) (dep_of hd 27 (by kernel_rfl))
      have t0 : a.tmps.getD 0 undef = .slice A n c := (H.old 0 (by kernel_rfl)).trans rfl
      exact step_value (i := 30) rfl (wanted_at (j := 27) (d := 41) (b := true) rfl (by kernel_rfl) t41) (run_op_move rfl t0) (later_refl _) rfl
    · intro listed a W H hw hd
      have t41 : a.tmps.getD 41 undef = .bool true := H.get 27 41 (by kernel_rfl) (dep_of hd 27 (by kernel_rfl))
      have t44 : a.tmps.getD 44 undef = .slice A n c := H.get 30 44 (by kernel_rfl) (dep_of hd 30 (by kernel_rfl))
      exact step_value (i := 31) rfl (wanted_at (j := 27) (d := 41) (b := true) rfl (by kernel_rfl) t41) (run_op_build rfl (by simp only [List.map_toArray, List.map_cons, List.map_nil]; show (Instr.buildSlice 22 1 #[(0, a.tmps.getD 44 undef)]).run _ _ = _; rw [t44]; exact run_build22_1 ..)) (later_alloc _ _) (row_made _ _ _ rfl)
    · intro listed a W H hw hd
      have t41 : a.tmps.getD 41 undef = .bool true := H.get 27 41 (by kernel_rfl) (dep_of hd 27 (by kernel_rfl))
      obtain ⟨g45, t45, c45⟩ := H.get 31 45 (by kernel_rfl) (dep_of hd 31 (by kernel_rfl))
      refine step_call (i := 32) rfl (wanted_at (j := 27) (d := 41) (b := true) rfl (by kernel_rfl) t41) (run_op_call (vs := #[.slice (some ⟨g45, 0, none⟩) 1 1]) Tryd.func11 (by kernel_rfl) (by kernel_rfl) rfl (by simp only [List.map_toArray, List.map_cons, List.map_nil]; show #[a.tmps.getD 45 undef] = _; rw [t45]; rfl)) ?_
      exact gives (K1.out _ _ hw (c45 0 _ rfl)) fun _ => rfl
    · intro listed a W H hw hd
      have t41 : a.tmps.getD 41 undef = .bool true := H.get 27 41 (by kernel_rfl) (dep_of hd 27 (by kernel_rfl))
      have t43 : a.tmps.getD 43 undef = .int .u32 z := H.get 29 43 (by kernel_rfl) (dep_of hd 29 (by kernel_rfl))
      have t46 : a.tmps.getD 46 undef = .int .u32 z := H.get 32 46 (by kernel_rfl) (dep_of hd 32 (by kernel_rfl))
      exact step_value (i := 33) rfl (wanted_at (j := 27) (d := 41) (b := true) rfl (by kernel_rfl) t41) (run_op_bin rfl t43 t46 (run_eql32 _ _ _ _ rfl _)) (later_refl _) rfl
    · intro listed a W H hw hd
      have t41 : a.tmps.getD 41 undef = .bool true := H.get 27 41 (by kernel_rfl) (dep_of hd 27 (by kernel_rfl))
      have t47 : a.tmps.getD 47 undef = .bool true := H.get 33 47 (by kernel_rfl) (dep_of hd 33 (by kernel_rfl))
      exact step_value (i := 34) rfl rfl (run_op_pick rfl t41 t47) (later_refl _) rfl
    · intro listed a W H hw hd
      have t48 : a.tmps.getD 48 undef = .bool true := H.get 34 48 (by kernel_rfl) (dep_of hd 34 (by kernel_rfl))
      exact step_value (i := 35) rfl rfl (run_op_move rfl t48) (later_refl _) rfl
    · intro listed a W H hw hd
      have t49 : a.tmps.getD 49 undef = .bool true := H.get 35 49 (by kernel_rfl) (dep_of hd 35 (by kernel_rfl))
      refine step_call (i := 36) rfl (wanted_at (j := 35) (d := 49) (b := true) rfl (by kernel_rfl) t49) (run_op_call (vs := #[]) Tryd.func9 (by kernel_rfl) (by kernel_rfl) rfl (by simp)) ?_
      exact gives (K6.out _ hw) fun _ => rfl
    · intro listed a W H hw hd
      have t49 : a.tmps.getD 49 undef = .bool true := H.get 35 49 (by kernel_rfl) (dep_of hd 35 (by kernel_rfl))
      have t50 : a.tmps.getD 50 undef = .bool true := H.get 36 50 (by kernel_rfl) (dep_of hd 36 (by kernel_rfl))
      exact step_value (i := 37) rfl rfl (run_op_pick rfl t49 t50) (later_refl _) rfl
    · intro listed a W H hw hd
      have t51 : a.tmps.getD 51 undef = .bool true := H.get 37 51 (by kernel_rfl) (dep_of hd 37 (by kernel_rfl))
      exact step_value (i := 38) rfl rfl (run_op_assign rfl t51) (later_refl _) rfl) ?_
  intro a W hdef hsz hw hall
  have e : a.tmps.getD 4 undef = .bool true := hall 38 _ rfl
  go_wp2
  refine bodyPost_ret (results_tmp rfl a.tmps Tryd.prog W) hdef ?_
  exact ⟨congrArg Ending.returned e, (Below.refl _ _).drew.trans hw⟩
theorem parts_long (A : Option Addr) (n c : Nat) (x : Int) (w : World) (hT : Tabs w) (hn : n ≤ 9223372036854775807) (hl : 400 < n) :
    Calls Tryd.prog 4 #[.slice A n c, .int .i64 x] w fun e w' => e = .returned (.bool true) ∧ Below w.heap.size w w' := by
  have HT := Lib.hid hT
  clear hT
  go_enter Tryd.func4, Tryd.ntmps4
  go_wp2_with fail
  refine (awake_any _ HT.out).mono ?_
  rintro e w' ⟨rfl, hb⟩
  go_wp2_with fail
  go_ret
  exact ⟨rfl, hb⟩

/- the sum of slices of bytes that lie in a row at block g -/
theorem of_at {w W : World} (hS : Later w W) (hT : Tabs w) (g n : Nat) (c : Nat) (ps : List (List Nat)) (hl : ps.length = n) (hn : n ≤ 9223372036854775807)
    (h : ∀ k, k < n → ∃ A' n' c', W.cell? ⟨g, k, none⟩ = some (.slice A' n' c') ∧ n' ≤ 9223372036854775807 ∧ Bytes w w.heap.size A' n' (ps.getD k [])) :
    Gives 11 #[.slice (some ⟨g, 0, none⟩) n c] W (.int .u32 ((Crc.more 0#32 ps.flatten).toNat : Int)) := by
  have hp : Parts W W.heap.size (some ⟨g, 0, none⟩) n ps := ⟨hl, fun k hk => by
    obtain ⟨A', n', c', e1, e2, e3⟩ := h k hk
    exact ⟨_, A', n', c', rfl, (World.block_lt_of_cell? W ⟨g, k, none⟩ e1 : g < W.heap.size), by rw [add_zero_addr]; exact e1, e2, e3.since hS⟩⟩
  exact of_since (some ⟨g, 0, none⟩) n c ps W hn (hT.since hS) hp

theorem parts_law (A : Option Addr) (n c : Nat) (bs : List Nat) (x : Int) (hc : n ≤ c) (hn : n ≤ 9223372036854775807) (w : World) (hT0 : Tabs w) (hB0 : Bytes w w.heap.size A n bs) :
    Calls Tryd.prog 4 #[.slice A n c, .int .i64 x] w fun e w' => e = .returned (.bool true) ∧ Below w.heap.size w w' := by
  by_cases hl : 400 < n
  · exact parts_long A n c x w hT0 hn hl
  have hbd := lowM_bd x ((n : Int) + 1) (by omega)
  obtain ⟨k, hk, ek⟩ : ∃ k : Nat, k ≤ n ∧ lowM x ((n : Int) + 1) = k := ⟨(lowM x ((n : Int) + 1)).toNat, by omega, by omega⟩
  have hD : Below w.heap.size w w.drew := (Below.refl _ _).drew
  have hT : Tabs w.drew := hT0.since hD
  have hB : Bytes w.drew w.drew.heap.size A n bs := hB0.since hD
  have hF := hB.first hk
  have hR := hB.rest hk hc
  refine parts_core A n c x w (by omega) ((Crc.more 0#32 (bs.take k)).toNat : Int) ((Crc.more 0#32 bs).toNat : Int) A (if c = k then A else A.map (·.add (k * 1))) k hk (fun W => slice_to A n c k hk hc W) (fun W => slice_from A n c k hk W)
    ?_ ?_ ?_ ?_ ?_ ?_ ?_
  · intro W
    have := low_any x ((n : Int) + 1) (by omega) (by omega) W
    rwa [ek] at this
  · intro W g hS hcell
    have := of_at hS hT g 1 1 [bs] rfl (by omega) fun j hj => by
      obtain rfl : j = 0 := by omega
      exact ⟨A, n, c, hcell, hn, hB⟩
    rw [show ([bs] : List (List Nat)).flatten = bs by simp] at this
    exact this
  · intro W g hS hcell
    have := of_at hS hT g 1 1 [bs.take k] rfl (by omega) fun j hj => by
      obtain rfl : j = 0 := by omega
      exact ⟨A, k, c, hcell, by omega, hF⟩
    rw [show ([bs.take k] : List (List Nat)).flatten = bs.take k by simp] at this
    exact this
  · intro W hS
    have := more_since ((Crc.more 0#32 (bs.take k)).toNat : Int) (Crc.more 0#32 (bs.take k)) (if c = k then A else A.map (·.add (k * 1))) (n - k) (c - k) (bs.drop k) W (by omega) (bv_le _) rfl (by omega) (hT.since hS) (hR.since hS)
    rw [← Crc.more_append, List.take_append_drop] at this
    exact this
  · intro W g hS h0 h1 h2
    have := of_at hS hT g 3 3 [bs.take k, [], bs.drop k] rfl (by omega) fun j hj => by
      rcases (by omega : j = 0 ∨ j = 1 ∨ j = 2) with rfl | rfl | rfl
      · exact ⟨A, k, c, h0, by omega, hF⟩
      · exact ⟨none, 0, 0, h1, by omega, Bytes.none_⟩
      · exact ⟨_, _, _, h2, by omega, hR⟩
    rw [show ([bs.take k, [], bs.drop k] : List (List Nat)).flatten = bs by simp] at this
    exact this
  · intro W hS
    exact more_since 0 0#32 A n c bs W (by omega) (by omega) rfl (by omega) (hT.since hS) (hB.since hS)
  · intro W hS
    exact awake_any W (hT.since hS)
end Go.Proofs.YteglhfimmbphmaaDoor
