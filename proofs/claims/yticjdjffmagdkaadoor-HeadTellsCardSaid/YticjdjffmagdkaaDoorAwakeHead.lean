/- The statements' own awake: true. Conditions: what the listed variables hold. -/
import Derived.Test.YticjdjffmagdkaaDoorHeadRead
import Derived.Lib.QuietBelow
import Derived.BigQuiet
set_option linter.unusedVariables false
set_option linter.unusedSimpArgs false
namespace Go.Proofs.YticjdjffmagdkaaDoor
open Go.RowKit Go.Sort

theorem run_zeros (n : Nat) (hn : n ≤ 1000) (W : World) : (Instr.makeSlice 22 (.int .i64 (n : Int)) (.int .i64 (n : Int))).run Tryd.prog W =
    .ok (.slice (some ⟨W.heap.size, 0, none⟩) n n) (W.alloc (.cells (madeCells #[.int .u8 0] n) 5)) := by
  obtain ⟨i0, hi, hz0, hz1, hz2⟩ := info_parts info5
  have h := run_make (P := Tryd.prog) W 22 5 i0 _ Tryd.underlying22 hi hz0 .i64 .i64 (n : Int) (n : Int) (by omega) (by omega) (by rw [hz2]; omega) (by omega)
  rw [h, hz1, Nat.mul_one]
  rfl
theorem own_zeros {base : Nat} (W : World) (n : Nat) (hn : n ≤ 1000) (hb : base ≤ W.heap.size) : Own (W.alloc (.cells (madeCells #[.int .u8 0] n) 5)) base (some ⟨W.heap.size, 0, none⟩) n n (List.replicate n 0) := by
  refine ⟨?_, fun k => ?_⟩
  · have e : cellsOf (List.replicate n 0) = (madeCells #[.int .u8 0] n).toList := by
      apply List.ext_getElem
      · simp [cellsOf, madeCells]
      · intro k h1 h2
        simp [cellsOf, madeCells, Nat.mod_one]
    rw [e]
    exact World.ownsRow_lit W (madeCells #[.int .u8 0] n) n hb (by unfold maxLen; omega) (by simp [madeCells])
  · rw [List.getD_eq_getElem?_getD, List.getElem?_replicate]; split <;> simp
theorem zeros_any (n : Nat) (x : Int) (hx : x = (n : Int)) (hn : n ≤ 1000) (W : World) (base : Nat) (hb : base ≤ W.heap.size) : ∃ W', (Instr.makeSlice 22 (.int .i64 x) (.int .i64 x)).run Tryd.prog W = .ok (.slice (some ⟨W.heap.size, 0, none⟩) n n) W' ∧ Later W W' ∧ Own W' base (some ⟨W.heap.size, 0, none⟩) n n (List.replicate n 0) := by
  subst hx
  exact ⟨_, run_zeros n hn W, later_alloc _ _, own_zeros W n hn hb⟩
section
variable {P : Program} {a : Act} {o : Oper} {w w' : World}
theorem run_op_makeSlice {t : TypeId} {x y : Operand} {vx vy r : Value} (ho : o.op = .makeSlice t x y) (hx : a.eval x = vx) (hy : a.eval y = vy) (hrun : (Instr.makeSlice t vx vy).run P w = .ok r w') : (execOp a.eval o).run P w = .ok (.value r) w' := by
  unfold execOp
  simp only [ho, Sem.run_bind, hx, hy, hrun, Result.andThen_ok]
  rfl
end
def oneH : Hd.H := ⟨1, 5, 1, 0⟩
theorem oneH_ok : Hd.Ok oneH := ⟨by decide, by decide, by decide, by decide, by decide⟩
theorem one_lay : layO (List.replicate 128 0) 1 5 1 0 = some (Hd.page (List.replicate 128 0) oneH) := by
  rw [layO_yes (by rw [List.length_replicate]; decide) (by decide)]; rfl
theorem one_reads : Hd.Reads (Hd.page (List.replicate 128 0) oneH) (.valid (List.replicate 128 0) oneH) := Hd.Reads.page oneH_ok ⟨by rw [List.length_replicate]; omega, by rw [List.length_replicate]; omega⟩
set_option maxHeartbeats 8000000 in
theorem awake_with (ds ps : List Nat) (w : World) (hT : Tabs w) (hW : Wid w) (HDS : Hid (ds = List.replicate 128 0)) (HLAY : Hid (layO ds 1 5 1 0 = some ps)) (HRD : Hid (Hd.Reads ps (.valid ds oneH))) (HLEN : Hid (ps.length = 156)) : Calls Tryd.prog 8 #[] w fun e w' => e = .returned (.bool true) ∧ Hid (Below w.heap.size w w') := by
  have HT := Lib.hid hT
  have HW := Lib.hid hW
  clear hT hW
  go_enter Tryd.func8, Tryd.ntmps8
  go_wp2_with fail
  obtain ⟨W0, HW1⟩ : ∃ W0 : World, Hid (W0 = w.drew) := ⟨_, rfl⟩
  have S0 : Hid (Below w.heap.size w W0) := by rw [HW1.out]; exact (Below.refl _ _).drew
  have HT0 := Lib.hid (HT.out.since S0.out)
  have HW0 := Lib.hid (HW.out.since S0.out)
  obtain ⟨o, HO⟩ : ∃ o, Hid (o = layO ds 1 5 1 0) := ⟨_, rfl⟩
  refine region_of_steps2 (by kernel_rfl) (fact2Of [.own W0.heap.size 128 ds, .is (.agg #[.int .i64 1, .int .u64 5, .int .i64 1, .int .i64 0]), .that (OutT OutE W0.heap.size o) (fun _ _ _ h k => outTE_later h k), .that (OutT OutE W0.heap.size o) (fun _ _ _ h k => outTE_later h k), .that (OutS W0.heap.size o) (fun _ _ _ h k => outS_later h k), .that (OutE o) (fun _ _ _ h k => outE_later h k), .that (OutS W0.heap.size o) (fun _ _ _ h k => outS_later h k), .that (OutE o) (fun _ _ _ h k => outE_later h k)]) (deadOf []) Calm (fun W => Below W0.heap.size W0 W ∧ W0.heap.size ≤ W.heap.size) (by kernel_rfl)
    (fun i j v w w' hm hd hn h hR => fact2_calm _ i j v w w' h hR) (fun j w w' h k => calm_inv h k) ⟨by rw [HW1.out]; exact Below.refl _ _, by rw [HW1.out]; exact Nat.le_refl _⟩ ?_ ?_
  · refine Steps2.cons ?_ (Steps2.cons ?_ (Steps2.cons ?_ (Steps2.cons ?_ (Steps2.cons ?_ (Steps2.cons ?_ (Steps2.cons ?_ (Steps2.cons ?_ (Steps2.nil))))))))
    · intro listed a W H hw hl hd
      obtain ⟨W2, hr, hl2, ho⟩ := zeros_any 128 128 rfl (by omega) W W0.heap.size hw.2
      exact step2_value (i := 0) rfl rfl (run_op_makeSlice rfl rfl rfl hr) (calm_later hl2) ⟨_, _, rfl, ho.same HDS.out.symm⟩
    · intro listed a W H hw hl hd
      refine step2_call (i := 1) rfl rfl (run_op_call (vs := #[]) Tryd.func23 (by kernel_rfl) (by kernel_rfl) rfl (by simp)) ?_
      refine (one_any W).mono ?_
      rintro e W2 ⟨rfl, hb⟩
      exact ⟨_, rfl, calm_later hb.out, rfl⟩
    · intro listed a W H hw hl hd
      obtain ⟨A9, q9, t9, o9⟩ := H.get 0 9 (by kernel_rfl) (dep_of hd 0 (by kernel_rfl)) (alive_none (by kernel_rfl))
      have t10 : a.tmps.getD 10 undef = .agg #[.int .i64 1, .int .u64 5, .int .i64 1, .int .i64 0] := H.get 1 10 (by kernel_rfl) (dep_of hd 1 (by kernel_rfl)) (alive_none (by kernel_rfl))
      refine step2_call (i := 2) rfl rfl (run_op_call (vs := #[.slice A9 128 q9, .agg #[.int .i64 1, .int .u64 5, .int .i64 1, .int .i64 0]]) Tryd.func10 (by kernel_rfl) (by kernel_rfl) rfl (by simp only [List.map_toArray, List.map_cons, List.map_nil]; show #[a.tmps.getD 9 undef, a.tmps.getD 10 undef] = _; rw [t9, t10])) ?_
      refine (lay_any A9 128 q9 ds 1 5 1 0 W (HT0.out.since hw.1) (HW0.out.since hw.1) (by omega) o9.bytes (by omega) (by omega)).mono ?_
      rw [← HO.out]
      rintro e W2 ⟨v, rfl, ho, hb⟩
      exact ⟨_, rfl, calm_later hb.out, ho.elder hw.2⟩
    · intro listed a W H hw hl hd
      have T11 : (OutT OutE W0.heap.size o) (a.tmps.getD 11 undef) W := H.get 2 11 (by kernel_rfl) (dep_of hd 2 (by kernel_rfl)) (alive_none (by kernel_rfl))
      exact step2_value (i := 3) rfl rfl (run_op_move rfl rfl) (calm_refl _) T11
    · intro listed a W H hw hl hd
      have T8 : (OutT OutE W0.heap.size o) (a.tmps.getD 8 undef) W := H.get 3 8 (by kernel_rfl) (dep_of hd 3 (by kernel_rfl)) (alive_none (by kernel_rfl))
      obtain ⟨x12, y12, e12, s12, z12⟩ := T8
      exact step2_value (i := 4) rfl rfl (run_op_extract rfl e12 rfl) (calm_refl _) s12
    · intro listed a W H hw hl hd
      have T8 : (OutT OutE W0.heap.size o) (a.tmps.getD 8 undef) W := H.get 3 8 (by kernel_rfl) (dep_of hd 3 (by kernel_rfl)) (alive_none (by kernel_rfl))
      obtain ⟨x13, y13, e13, s13, z13⟩ := T8
      exact step2_value (i := 5) rfl rfl (run_op_extract rfl e13 rfl) (calm_refl _) z13
    · intro listed a W H hw hl hd
      have T12 : (OutS W0.heap.size o) (a.tmps.getD 12 undef) W := H.get 4 12 (by kernel_rfl) (dep_of hd 4 (by kernel_rfl)) (alive_none (by kernel_rfl))
      exact step2_value (i := 6) rfl rfl (run_op_assign rfl rfl) (calm_refl _) T12
    · intro listed a W H hw hl hd
      have T13 : (OutE o) (a.tmps.getD 13 undef) W := H.get 5 13 (by kernel_rfl) (dep_of hd 5 (by kernel_rfl)) (alive_none (by kernel_rfl))
      exact step2_value (i := 7) rfl rfl (run_op_assign rfl rfl) (calm_refl _) T13
  · intro a W hdef hsz hw hall hact
    have t1 : OutS W0.heap.size o (a.tmps.getD 1 undef) W := hall 6 _ rfl (by kernel_rfl)
    have t2 : OutE o (a.tmps.getD 2 undef) W := hall 7 _ rfl (by kernel_rfl)
    have S1 := Lib.hid (S0.out.trans (hw.1.mono S0.out.size))
    obtain ⟨u, hu⟩ : ∃ u : Nat → Value, ∀ k, a.tmps.getD k undef = u k := ⟨_, fun _ => rfl⟩
    simp only [hu] at hact t1 t2
    have hact' : a = ([9, 10, 11, 8, 12, 13, 1, 2] : List Nat).foldl (fun b k => b.put (some k) (u k)) _ := hact
    rw [HO.out, HLAY.out] at t1 t2
    obtain ⟨A1, n1, c1, e1, ho1⟩ := t1
    have e2 : u 2 = .nilIface := t2
    simp only [List.foldl, e1, e2] at hact'
    simp only [Act.put, List.setIfInBounds_toArray, List.set_cons_succ, List.set_cons_zero] at hact'
    have HACT := Lib.hid hact'
    have hn1 : n1 = 156 := by rw [← ho1.len, HLEN.out]
    subst hn1
    have O1 := Lib.hid ho1
    have HT1 := Lib.hid (HT.out.since S1.out)
    have HW2 := Lib.hid (HW.out.since S1.out)
    clear hu hact hact' t2 e1 e2 ho1 hall hdef hsz hw S0 HT0 HW0 HO
    rw [HACT.out]
    go_wp2_with fail
    refine (read_valid ds oneH 1 5 1 0 ⟨rfl, rfl, rfl, rfl⟩ A1 156 c1 _ W HT1.out HW2.out (by omega) O1.out.cap O1.out.bytes HRD.out).mono ?_
    rintro e W2 ⟨A2, n2, c2, rfl, HO2, HB2⟩
    have S2 := Lib.hid (below_chain S1.out HB2.out)
    clear HO2 HB2 O1 HT1 HW2 S1
    go_wp2_with fail
    refine (one_any _).mono ?_
    rintro e W3 ⟨rfl, hb3⟩
    have S3 := Lib.hid ((S2.out.alloc S2.out.size (.cells #[.int .i64 1, .int .u64 5, .int .i64 1, .int .i64 0] 25)).trans (hb3.out.mono (by have := S2.out.size; simp; omega)))
    have H3 := Lib.hid ((headAt_new W2 1 5 1 0 25).since hb3.out)
    clear S2 hb3
    go_wp2_with fail
    refine (lay_no none 0 0 1 5 1 0 _ (by omega) (fun h => absurd h.1 (by decide))).mono ?_
    rintro e W4 ⟨v, rfl, HBAD, hb4⟩
    have S4 := Lib.hid (below_chain S3.out hb4.out)
    have H4 := Lib.hid (H3.out.since hb4.out)
    clear S3 H3 hb4
    go_wp2_with fail
    have k0 := cell_regrown H4.out.k
    have k1 := cell_regrown H4.out.a
    have k2 := cell_regrown H4.out.s
    have k3 := cell_regrown H4.out.g
    have c1 := Lib.hid fun (d : Nat) (os : Array Obj) => Calls.regrown_of ((one_any (grow (redrawn W4 d) os)).mono fun e w' h => ⟨h.1, h.2.out⟩)
    have c2 := Lib.hid fun (d : Nat) (os : Array Obj) => Calls.regrown_of ((num_bad v (grow (redrawn W4 d) os) (HBAD.out.since (below_regrown W4 d os))).mono fun e w' h => ⟨h.1, h.2 ▸ Below.refl _ _⟩)
    have c3 := Lib.hid fun (d : Nat) (os : Array Obj) => Calls.regrown_of (v := .bool true) ((headmay_any 1 5 1 0 (grow (redrawn W4 d) os)).mono fun e w' h => ⟨h.1.trans (by rw [show mayB 1 5 1 0 = true by decide]), h.2.out⟩)
    have c4 := Lib.hid fun (d : Nat) (os : Array Obj) => Calls.regrown_of (v := .bool false) ((headmay_any 0 0 0 0 (grow (redrawn W4 d) os)).mono fun e w' h => ⟨h.1.trans (by rw [show mayB 0 0 0 0 = false by decide]), h.2.out⟩)
    refine wp_region_quiet_below (by kernel_rfl) (by kernel_rfl) ?_
    repeat (go_big_quiet_step (first | (go_at_call 23; exact c1.out _ _) | (go_at_call 15; exact c2.out _ _) | (go_at_call_of 16 (Value.int IntKind.u64 5); exact c3.out _ _) | (go_at_call 16; exact c4.out _ _)))
    refine wpQuiet_nil ?_
    intro _ hw'
    obtain ⟨⟨dq, osq⟩, hw''⟩ := hw'
    subst hw''
    go_wp2
    go_ret
    exact ⟨rfl, below_chain S4.out (below_regrown W4 dq osq)⟩
theorem awake_any (w : World) (hT : Tabs w) (hW : Wid w) : Calls Tryd.prog 8 #[] w fun e w' => e = .returned (.bool true) ∧ Hid (Below w.heap.size w w') :=
  awake_with (List.replicate 128 0) (Hd.page (List.replicate 128 0) oneH) w hT hW rfl one_lay one_reads (by show _ = _; rw [Hd.page_len, List.length_replicate])
end Go.Proofs.YticjdjffmagdkaaDoor
