/- The chip's begin and end: what counts an operation, and what takes the power. Conditions: the chip's cells; fewer than a million operations. -/
import Derived.Test.YtgamjffedlkbeaaNandLeaf
import Derived.Test.YtgamjffedlkbeaaNandIn
import Derived.Test.YtgamjffedlkbeaaJoint
import Derived.Test.YtgamjffedlkbeaaDevMish
set_option linter.unusedVariables false
set_option linter.unusedSimpArgs false
namespace Go.Proofs.Ytgamjffedlkbeaa
open Go.RowKit

theorem run_chip_ops (g : Nat) (w : World) : (Instr.fieldAt 58 (.pointer (some ⟨g, 0, none⟩)) 4).run Try.prog w = .ok (.pointer (some ⟨g, 6, none⟩)) w := by go_simp
theorem run_chip_ms (g : Nat) (w : World) : (Instr.fieldAt 58 (.pointer (some ⟨g, 0, none⟩)) 1).run Try.prog w = .ok (.pointer (some ⟨g, 3, none⟩)) w := by go_simp
theorem run_load_int (p : Addr) (z : Int) (w : World) (hc : w.cell? p = some (.int .i64 z)) : (Instr.loadAt 3 (.pointer (some p))).run Try.prog w = .ok (.int .i64 z) w := by go_simp
theorem run_load_ms (p : Addr) (A : Option Addr) (n c : Nat) (w : World) (hc : w.cell? p = some (.slice A n c)) : (Instr.loadAt 52 (.pointer (some p))).run Try.prog w = .ok (.slice A n c) w := by go_simp
theorem run_alloc_mish (w : World) : (Instr.alloc 45 true (.tuple #[])).run Try.prog w = .ok (.pointer (some ⟨w.heap.size, 0, none⟩)) (w.alloc (.cells #[.int .i64 0, .int .i64 0, .int .i64 0, .int .u8 0] 45)) := by go_simp
theorem run_store_mish {W : World} {g : Nat} {m0 : M} (h : RowM W g m0) (m : M) : (Instr.storeAt 45 (.pointer (some ⟨g, 0, none⟩)) (mishV m)).run Try.prog W = .ok () ((((W.setCell ⟨g, 0, none⟩ (.int .i64 m.at_)).setCell ⟨g, 1, none⟩ (.int .i64 m.kind)).setCell ⟨g, 2, none⟩ (.int .i64 m.bytes)).setCell ⟨g, 3, none⟩ (.int .u8 m.fill)) := by
  obtain ⟨c0, c1, c2, c3⟩ := h.at_
  have f0 := h.free 0
  have f1 := h.free 1
  have f2 := h.free 2
  have f3 := h.free 3
  unfold mishV
  go_simp
def BoxM (W0 : World) (v : Value) (W : World) : Prop := ∃ g, v = .pointer (some ⟨g, 0, none⟩) ∧ W0.heap.size ≤ g ∧ RowM W g M.zero
theorem boxM_since (W0 : World) (v : Value) (w w' : World) (h : BoxM W0 v w) (hb : Later w w') : BoxM W0 v w' := by
  obtain ⟨g, e, h1, h2⟩ := h
  exact ⟨g, e, h1, h2.since hb⟩
section
variable {w : World} {base g : Nat} {fp : Nat → Prop} {s : Chip} {L : CL}
/-- One operation more. -/
theorem Rep.tick (h : Rep w base fp g s L) : Rep (w.setCell ⟨g, 6, none⟩ (.int .i64 ((s.ops : Int) + 1))) base fp g s.tick L :=
  h.head h.wf.tick rfl rfl rfl rfl rfl (by simp [World.setCell, Array.getElem?_modify, h.row, chipRow, Chip.tick]) (fun b hb => setCell_heap _ _ _ _ _ hb) (by simp [World.setCell])
theorem bef_at (s : Chip) : ∃ f, atV (atM ((s.ops : Int) + 1) s.ms) = .tuple #[mishV s.bef, .bool f] := by
  have e : ((s.ops + 1 : Nat) : Int) = (s.ops : Int) + 1 := by omega
  unfold Chip.bef
  rw [e]
  cases atM ((s.ops : Int) + 1) s.ms with
  | none => exact ⟨false, rfl⟩
  | some m => exact ⟨true, rfl⟩
set_option maxHeartbeats 8000000 in
set_option maxRecDepth 20000 in
theorem begin_ok (st : ByteArray) (h : Rep w base fp g s L) (hon : s.on = true) (hops : s.ops < 1000000) :
    Calls Try.prog 31 #[.pointer (some ⟨g, 0, none⟩), .string st, .bool true] w (fun e w' => e = .returned (.tuple #[mishV s.bef, .nilIface]) ∧ Rep w' base fp g s.tick L ∧ Moves w fp w' fp) := by
  obtain ⟨f, hat⟩ := bef_at s
  have hml : s.ms.length ≤ 24 := (mayM_out h.wf.may).1
  have L1 := later_alloc w (.cells #[.int .i64 0, .int .i64 0, .int .i64 0, .int .u8 0] 45)
  have h1 := h.since L1
  obtain ⟨c0, c1, c2, c3, c4, c5, c6, c7, c8⟩ := h1.cells
  have f6 := h1.free 6
  have ht := h1.tick
  have H2 := Lib.hid ht
  have HG : Hid (RowM ((w.alloc (.cells #[.int .i64 0, .int .i64 0, .int .i64 0, .int .u8 0] 45)).setCell ⟨g, 6, none⟩ (.int .i64 ((s.ops : Int) + 1))) w.heap.size M.zero) :=
    ⟨(setCell_heap _ _ _ _ _ (by have := h.glt; omega)).trans (rowM_new w M.zero).row⟩
  have HM : Hid (Moves w fp ((w.alloc (.cells #[.int .i64 0, .int .i64 0, .int .i64 0, .int .u8 0] 45)).setCell ⟨g, 6, none⟩ (.int .i64 ((s.ops : Int) + 1))) fp) :=
    ⟨(Turn.of_below L1).trans (Turn.of_setCell (fp := fp) ⟨g, 6, none⟩ _ h.fg) fun b hb => Or.inl hb, fun b hb => Or.inl hb⟩
  obtain ⟨m, HMM⟩ : ∃ m, Hid (s.bef = m) := ⟨_, rfl⟩
  rw [HMM.out] at hat ⊢
  have HAT := Lib.hid hat
  obtain ⟨o, HO⟩ : ∃ o : Nat, Hid (s.ops = o) := ⟨_, rfl⟩
  rw [HO.out] at c6 H2 HG HM HAT hops
  rw [hon] at c5
  have HLT := Lib.hid h.lt
  clear h h1 L1 ht c0 c1 c2 c3 c4 c7 c8 hon hat
  go_enter Try.func31, Try.ntmps31
  go_wp2_with fail
  obtain ⟨WB, HWB⟩ : ∃ W, Hid (W = (w.alloc (.cells #[.int .i64 0, .int .i64 0, .int .i64 0, .int .u8 0] 45)).setCell ⟨g, 6, none⟩ (.int .i64 ((o : Int) + 1))) := ⟨_, rfl⟩
  rw [← HWB.out] at H2 HG HM ⊢
  clear HWB c5 c6 f6
  obtain ⟨WD, HWD⟩ : ∃ W, Hid (W = WB.drew) := ⟨_, rfl⟩
  have HDL : Hid (Later WB WD) := by rw [HWD.out]; exact (Below.refl _ _).drew
  have H3 := Lib.hid (H2.out.since HDL.out)
  have HG3 := Lib.hid (HG.out.since HDL.out)
  have HM3 := Lib.hid (HM.out.trans (Moves.of_below HDL.out))
  clear H2 HG HM HDL
  obtain ⟨C6, C3⟩ : Hid (WD.cell? ⟨g, 6, none⟩ = some (.int .i64 ((o : Int) + 1))) ∧ Hid (WD.cell? ⟨g, 3, none⟩ = some (.slice L.AM s.ms.length L.cM)) := by
    obtain ⟨c0, c1, c2, c3, c4, c5, c6, c7, c8⟩ := H3.out.cells
    refine ⟨?_, c3⟩
    show _ = _
    rw [c6]
    show some (Value.int .i64 ((s.ops + 1 : Nat) : Int)) = _
    rw [HO.out]; rfl
  have HMS := Lib.hid H3.out.ms
  have HMS2 : Hid (mishK.Row WD base L.AM s.ms.length L.cM s.ms) := HMS.out
  clear HMS
  have HMS := HMS2
  clear HMS2
  obtain ⟨l, HL⟩ : ∃ l : Nat, Hid (s.ms.length = l) := ⟨_, rfl⟩
  rw [HL.out] at HMS C3 hml
  refine region_of_steps5 (by kernel_rfl) (fact2Of [.is (.pointer (some ⟨g, 0, none⟩)), .is (.pointer (some ⟨g, 0, none⟩)), .is (.pointer (some ⟨g, 6, none⟩)), .is (.int .i64 ((o : Int) + 1)), .is (.pointer (some ⟨g, 0, none⟩)), .is (.pointer (some ⟨g, 0, none⟩)), .is (.pointer (some ⟨g, 3, none⟩)), .is (.slice L.AM l L.cM), .is (.tuple #[mishV m, .bool f]), .is (.tuple #[mishV m, .bool f]), .is (mishV m), .is (.bool f), .that (BoxM WD) (boxM_since _), .that (fun _ _ => True) (fun _ _ _ _ _ => trivial), .is (.bool f)]) (deadOf [(12, 13)]) (fun j a x y => BoxR 8 13 (fun W b => RowM W b m) WD a j x y) (BoxInv 8 12 13 (fun W b => RowM W b M.zero) (fun W b => RowM W b m) WD) (by kernel_rfl)
    (fun i j v a x y hm hd hn _ h hR => fact2_stays _ _ 13 0 [(12, 13)] (hds_of (by kernel_rfl)) i j v x y hm hd hn h (boxr_but hR))
    (fun listed j a x v y o ho hsz H h hs hl hR hv => boxinv_step (i0 := 12) (by kernel_rfl) (by kernel_rfl) (by decide) (by kernel_rfl) (fun _ _ _ h k => h.since k) (fun _ _ _ h k => h.since k) (fun _ _ h => h) ho hsz h hs hl hR hv H)
    (by rw [← HWD.out]; exact boxinv_start (Below.refl _ _) (by kernel_rfl)) ?_ ?_
  · refine Steps5.cons ?_ (Steps5.cons ?_ (Steps5.cons ?_ (Steps5.cons ?_ (Steps5.cons ?_ (Steps5.cons ?_ (Steps5.cons ?_ (Steps5.cons ?_ (Steps5.cons ?_ (Steps5.cons ?_ (Steps5.cons ?_ (Steps5.cons ?_ (Steps5.cons ?_ (Steps5.cons ?_ (Steps5.cons ?_ (Steps5.nil)))))))))))))))
    · intro listed a W H hw hl hd
      have t0 : a.tmps.getD 0 undef = .pointer (some ⟨g, 0, none⟩) := (H.old 0 (by kernel_rfl)).trans rfl
      exact step2_value (R := fun j x y => BoxR 8 13 (fun W b => RowM W b m) WD a j x y) (i := 0) rfl rfl (run_op_move rfl t0) (boxr_refl (by decide)) rfl
    · intro listed a W H hw hl hd
      have t39 : a.tmps.getD 39 undef = .pointer (some ⟨g, 0, none⟩) := H.get 0 39 (by kernel_rfl) (dep_of hd 0 (by kernel_rfl)) (alive_none (by kernel_rfl))
      exact step2_value (R := fun j x y => BoxR 8 13 (fun W b => RowM W b m) WD a j x y) (i := 1) rfl rfl (run_op_nilCheck rfl t39) (boxr_refl (by decide)) rfl
    · intro listed a W H hw hl hd
      have t40 : a.tmps.getD 40 undef = .pointer (some ⟨g, 0, none⟩) := H.get 1 40 (by kernel_rfl) (dep_of hd 1 (by kernel_rfl)) (alive_none (by kernel_rfl))
      exact step2_value (R := fun j x y => BoxR 8 13 (fun W b => RowM W b m) WD a j x y) (i := 2) rfl rfl (run_op_fieldAddr rfl t40 (run_chip_ops g W)) (boxr_refl (by decide)) rfl
    · intro listed a W H hw hl hd
      have t41 : a.tmps.getD 41 undef = .pointer (some ⟨g, 6, none⟩) := H.get 2 41 (by kernel_rfl) (dep_of hd 2 (by kernel_rfl)) (alive_none (by kernel_rfl))
      exact step2_value (R := fun j x y => BoxR 8 13 (fun W b => RowM W b m) WD a j x y) (i := 3) rfl rfl (run_op_load rfl t41 (run_load_int _ _ W (later_cell hw.below C6.out))) (boxr_refl (by decide)) rfl
    · intro listed a W H hw hl hd
      have t0 : a.tmps.getD 0 undef = .pointer (some ⟨g, 0, none⟩) := (H.old 0 (by kernel_rfl)).trans rfl
      exact step2_value (R := fun j x y => BoxR 8 13 (fun W b => RowM W b m) WD a j x y) (i := 4) rfl rfl (run_op_move rfl t0) (boxr_refl (by decide)) rfl
    · intro listed a W H hw hl hd
      have t43 : a.tmps.getD 43 undef = .pointer (some ⟨g, 0, none⟩) := H.get 4 43 (by kernel_rfl) (dep_of hd 4 (by kernel_rfl)) (alive_none (by kernel_rfl))
      exact step2_value (R := fun j x y => BoxR 8 13 (fun W b => RowM W b m) WD a j x y) (i := 5) rfl rfl (run_op_nilCheck rfl t43) (boxr_refl (by decide)) rfl
    · intro listed a W H hw hl hd
      have t44 : a.tmps.getD 44 undef = .pointer (some ⟨g, 0, none⟩) := H.get 5 44 (by kernel_rfl) (dep_of hd 5 (by kernel_rfl)) (alive_none (by kernel_rfl))
      exact step2_value (R := fun j x y => BoxR 8 13 (fun W b => RowM W b m) WD a j x y) (i := 6) rfl rfl (run_op_fieldAddr rfl t44 (run_chip_ms g W)) (boxr_refl (by decide)) rfl
    · intro listed a W H hw hl hd
      have t45 : a.tmps.getD 45 undef = .pointer (some ⟨g, 3, none⟩) := H.get 6 45 (by kernel_rfl) (dep_of hd 6 (by kernel_rfl)) (alive_none (by kernel_rfl))
      exact step2_value (R := fun j x y => BoxR 8 13 (fun W b => RowM W b m) WD a j x y) (i := 7) rfl rfl (run_op_load rfl t45 (run_load_ms _ _ _ _ W (later_cell hw.below C3.out))) (boxr_refl (by decide)) rfl
    · intro listed a W H hw hl hd
      have t42 : a.tmps.getD 42 undef = .int .i64 ((o : Int) + 1) := H.get 3 42 (by kernel_rfl) (dep_of hd 3 (by kernel_rfl)) (alive_none (by kernel_rfl))
      have t46 : a.tmps.getD 46 undef = .slice L.AM l L.cM := H.get 7 46 (by kernel_rfl) (dep_of hd 7 (by kernel_rfl)) (alive_none (by kernel_rfl))
      refine step2_call (R := fun j x y => BoxR 8 13 (fun W b => RowM W b m) WD a j x y) (i := 8) rfl rfl (run_op_call (vs := #[.int .i64 ((o : Int) + 1), .slice L.AM l L.cM]) Try.func41 (by kernel_rfl) (by kernel_rfl) rfl (by simp only [List.map_toArray, List.map_cons, List.map_nil]; show #[a.tmps.getD 42 undef, a.tmps.getD 46 undef] = _; rw [t42, t46])) ?_
      refine (at7_any ((o : Int) + 1) L.AM l L.cM s.ms W (by omega) ((HMS.out.lie).since hw.below)).mono ?_
      rintro e W2 ⟨rfl, hb⟩
      exact ⟨_, rfl, boxr_later (by decide) hb.out, HAT.out⟩
    · intro listed a W H hw hl hd
      have t47 : a.tmps.getD 47 undef = .tuple #[mishV m, .bool f] := H.get 8 47 (by kernel_rfl) (dep_of hd 8 (by kernel_rfl)) (alive_none (by kernel_rfl))
      exact step2_value (R := fun j x y => BoxR 8 13 (fun W b => RowM W b m) WD a j x y) (i := 9) rfl rfl (run_op_move rfl t47) (boxr_refl (by decide)) rfl
    · intro listed a W H hw hl hd
      have t38 : a.tmps.getD 38 undef = .tuple #[mishV m, .bool f] := H.get 9 38 (by kernel_rfl) (dep_of hd 9 (by kernel_rfl)) (alive_none (by kernel_rfl))
      exact step2_value (R := fun j x y => BoxR 8 13 (fun W b => RowM W b m) WD a j x y) (i := 10) rfl rfl (run_op_extract rfl t38 rfl) (boxr_refl (by decide)) rfl
    · intro listed a W H hw hl hd
      have t38 : a.tmps.getD 38 undef = .tuple #[mishV m, .bool f] := H.get 9 38 (by kernel_rfl) (dep_of hd 9 (by kernel_rfl)) (alive_none (by kernel_rfl))
      exact step2_value (R := fun j x y => BoxR 8 13 (fun W b => RowM W b m) WD a j x y) (i := 11) rfl rfl (run_op_extract rfl t38 rfl) (boxr_refl (by decide)) rfl
    · intro listed a W H hw hl hd
      exact step2_value (R := fun j x y => BoxR 8 13 (fun W b => RowM W b m) WD a j x y) (i := 12) rfl rfl (run_op_alloc rfl (run_alloc_mish W)) (boxr_later (by decide) (later_alloc _ _)) ⟨W.heap.size, rfl, hw.below.size, rowM_new W M.zero⟩
    · intro listed a W H hw hl hd
      have T8 : (BoxM WD) (a.tmps.getD 8 undef) W := H.get 12 8 (by kernel_rfl) (dep_of hd 12 (by kernel_rfl)) (alive_now (m := 13) (by kernel_rfl) (H.notyets 4 hl (by kernel_rfl)))
      have t48 : a.tmps.getD 48 undef = mishV m := H.get 10 48 (by kernel_rfl) (dep_of hd 10 (by kernel_rfl)) (alive_none (by kernel_rfl))
      clear T8
      obtain ⟨gb, e8, h8, p8, _⟩ := hw.made (dep_of hd 12 (by kernel_rfl))
      have hl13 : listed.getD 13 false = false := by
        have := H.len
        by_cases hh : 13 < listed.size
        · simp [hh] at hl ⊢; exact hl
        · simp [hh]
      exact step2_done (R := fun j x y => BoxR 8 13 (fun W b => RowM W b m) WD a j x y) (i := 13) rfl rfl rfl (run_op_store rfl e8 t48 (run_store_mish (p8 hl13) m)) ⟨fun _ => ⟨gb, e8, h8, put4_else _ _ _ _ _ _, (p8 hl13).put m⟩, fun e => absurd rfl e⟩ trivial
    · intro listed a W H hw hl hd
      have t49 : a.tmps.getD 49 undef = .bool f := H.get 11 49 (by kernel_rfl) (dep_of hd 11 (by kernel_rfl)) (alive_none (by kernel_rfl))
      exact step2_value (R := fun j x y => BoxR 8 13 (fun W b => RowM W b m) WD a j x y) (i := 14) rfl rfl (run_op_assign rfl t49) (boxr_refl (by decide)) rfl
  · intro a WC listed hdef hsz hinv hall0 hall hact
    obtain ⟨gb, e8, h8, _, p8⟩ := hinv.made (hall0 12 (by decide))
    have HR := Lib.hid (p8 (hall0 13 (by decide)))
    have HBL := Lib.hid hinv.below
    obtain ⟨u, hu⟩ : ∃ u : Nat → Value, ∀ k, a.tmps.getD k undef = u k := ⟨_, fun _ => rfl⟩
    rw [hu] at e8
    simp only [hu] at hact
    have hact' : a = ([39, 40, 41, 42, 43, 44, 45, 46, 47, 38, 48, 49, 8, 9] : List Nat).foldl (fun b k => b.put (some k) (u k)) _ := hact
    simp only [List.foldl] at hact'
    simp only [Act.put, List.setIfInBounds_toArray, List.set_cons_succ, List.set_cons_zero] at hact'
    rw [e8] at hact'
    have HAC := Lib.hid hact'
    have h9 : WD.heap.size ≤ gb := h8
    have HRV := Lib.hid (HG3.out.since HBL.out)
    have H9 := Lib.hid (H3.out.since HBL.out)
    have HM9 := Lib.hid (HM3.out.trans (Moves.of_below HBL.out))
    clear hu hact hact' hall hall0 hdef hsz hinv p8 e8 H3 HG3 HM3 HBL HMS C3 C6 HL
    obtain ⟨e0, e1, e2, e3⟩ := HR.out.at_
    obtain ⟨d0, d1, d2, d3⟩ := HRV.out.at_
    have f0 := HRV.out.free 0
    have f1 := HRV.out.free 1
    have f2 := HRV.out.free 2
    have f3 := HRV.out.free 3
    rw [HAC.out]
    go_wp2_with fail
    have R9 := Lib.hid (HRV.out.put m)
    have HK9 := Lib.hid (put4_else WC w.heap.size (.int .i64 m.at_) (.int .i64 m.kind) (.int .i64 m.bytes) (.int .u8 m.fill))
    obtain ⟨W9, HW9⟩ : ∃ W9, Hid (W9 = ((((WC.setCell ⟨w.heap.size, 0, none⟩ (.int .i64 m.at_)).setCell ⟨w.heap.size, 1, none⟩ (.int .i64 m.kind)).setCell ⟨w.heap.size, 2, none⟩ (.int .i64 m.bytes)).setCell ⟨w.heap.size, 3, none⟩ (.int .u8 m.fill))) := ⟨_, rfl⟩
    rw [← HW9.out] at R9 HK9 ⊢
    obtain ⟨r0, r1, r2, r3⟩ := R9.out.at_
    have hTw : Turn (fun b => b = w.heap.size) WC W9 := Turn.of_grown HK9.out fun b hb => (Option.some.inj hb).symm
    refine bodyPost_ret (v := .tuple #[mishV m, .nilIface]) (by simp [results, Try.results31, go_sem, r0, r1, r2, r3, mishV]) rfl ⟨rfl, H9.out.keep hTw (fun b hb hf => ?_), HM9.out.turn.trans hTw (fun b hb => Or.inr (Nat.le_of_eq hb.symm)), HM9.out.grows⟩
    have := HLT.out b hf
    omega
theorem ErrNew.mono_w {w w1 w' : World} {fp : Nat → Prop} {k : Int} {v : Value} (h : ErrNew w1 fp w' k v) (hs : w.heap.size ≤ w1.heap.size) : ErrNew w fp w' k v := by
  rcases h with h | ⟨h0, g, s, e, h1, h2, h3, h4⟩
  · exact Or.inl h
  · exact Or.inr ⟨h0, g, s, e, h1, h2, Nat.le_trans hs h3, h4⟩
set_option maxHeartbeats 4000000 in
theorem begin_no (st : ByteArray) (fits : Bool) (h : Rep w base fp g s L) (k : Int) (hk : (s.on = false ∧ k = 4) ∨ (s.on = true ∧ fits = false ∧ k = 2)) :
    Calls Try.prog 31 #[.pointer (some ⟨g, 0, none⟩), .string st, .bool fits] w (fun e w' => ∃ v, e = .returned (.tuple #[mishV M.zero, v]) ∧ ErrNew w fp w' k v ∧ Below w.heap.size w w') := by
  have L1 := later_alloc w (.cells #[.int .i64 0, .int .i64 0, .int .i64 0, .int .u8 0] 45)
  have h1 := h.since L1
  obtain ⟨c0, c1, c2, c3, c4, c5, c6, c7, c8⟩ := h1.cells
  have HLT := Lib.hid h1.lt
  have HLT0 := Lib.hid h.lt
  have HL1 := Lib.hid L1
  have HG := Lib.hid (rowM_new w M.zero)
  have HGLT : Hid (w.heap.size ≤ w.heap.size) := Nat.le_refl _
  obtain ⟨Wa, HWA⟩ : ∃ W, Hid (W = w.alloc (.cells #[.int .i64 0, .int .i64 0, .int .i64 0, .int .u8 0] 45)) := ⟨_, rfl⟩
  have HG' : Hid (RowM Wa w.heap.size M.zero) := by rw [HWA.out]; exact HG.out
  rw [← HWA.out] at c5 HLT HL1
  clear h h1 L1 c0 c1 c2 c3 c4 c6 c7 c8 HG
  rcases hk with ⟨hon, rfl⟩ | ⟨hon, rfl, rfl⟩
  all_goals
    rw [hon] at c5
    clear hon
    rw [HWA.out] at c5
    go_enter Try.func31, Try.ntmps31
    go_wp2_with fail
    rw [← HWA.out]
    refine (wrong_new st _ (by decide) Wa fp HLT.out).mono ?_
    rintro e Wb ⟨v, rfl, he, hb⟩
    have HR := Lib.hid (HG'.out.since hb)
    have HB := Lib.hid (below_chain HL1.out hb)
    have HE := Lib.hid he
    clear he hb
    obtain ⟨d0, d1, d2, d3⟩ := HR.out.at_
    have f0 := HR.out.free 0
    have f1 := HR.out.free 1
    have f2 := HR.out.free 2
    have f3 := HR.out.free 3
    go_wp2_with fail
    have R9 := Lib.hid (HR.out.put M.zero)
    have HK9 := Lib.hid (put4_else Wb w.heap.size (.int .i64 0) (.int .i64 0) (.int .i64 0) (.int .u8 0))
    unfold M.zero at R9
    dsimp only at R9
    obtain ⟨W9, HW9⟩ : ∃ W9, Hid (W9 = ((((Wb.setCell ⟨w.heap.size, 0, none⟩ (.int .i64 0)).setCell ⟨w.heap.size, 1, none⟩ (.int .i64 0)).setCell ⟨w.heap.size, 2, none⟩ (.int .i64 0)).setCell ⟨w.heap.size, 3, none⟩ (.int .u8 0))) := ⟨_, rfl⟩
    rw [← HW9.out] at R9 HK9 ⊢
    obtain ⟨r0, r1, r2, r3⟩ := R9.out.at_
    refine bodyPost_ret (v := .tuple #[mishV M.zero, v]) (by simp [results, Try.results31, go_sem, r0, r1, r2, r3, mishV, M.zero]) rfl ⟨v, rfl, ?_, HB.out.grown HK9.out HB.out.size fun q hq => by rw [← Option.some.inj hq]; exact Nat.le_refl _⟩
    rcases HE.out with ⟨hk0, _⟩ | ⟨k0, ge, se, e1, e2, e3, e4, e5⟩
    · exact absurd hk0 (by decide)
    · have hl : w.heap.size < Wa.heap.size := HG'.out.lt
      have hgb : ∀ p : Addr, p.block = ge → W9.cell? p = Wb.cell? p := fun p hp => same_cell (HK9.out.block ge (by have := World.block_lt_of_cell? Wb ⟨ge, 0, none⟩ e2; exact this) (fun e => by have := Option.some.inj e; omega)) hp
      exact Or.inr ⟨k0, ge, se, e1, (hgb _ rfl).trans e2, (hgb _ rfl).trans e3, by omega, e5⟩
set_option maxHeartbeats 4000000 in
theorem begin_nil (st : ByteArray) (fits : Bool) (w : World) :
    Calls Try.prog 31 #[.pointer none, .string st, .bool fits] w (fun e w' => ∃ v, e = .returned (.tuple #[mishV M.zero, v]) ∧ ErrAt (fun b => b < w.heap.size) w' 1 v ∧ Below w.heap.size w w') := by
  have HL1 := Lib.hid (later_alloc w (.cells #[.int .i64 0, .int .i64 0, .int .i64 0, .int .u8 0] 45))
  have HG := Lib.hid (rowM_new w M.zero)
  obtain ⟨Wa, HWA⟩ : ∃ W, Hid (W = w.alloc (.cells #[.int .i64 0, .int .i64 0, .int .i64 0, .int .u8 0] 45)) := ⟨_, rfl⟩
  have HG' : Hid (RowM Wa w.heap.size M.zero) := by rw [HWA.out]; exact HG.out
  rw [← HWA.out] at HL1
  clear HG
  go_enter Try.func31, Try.ntmps31
  go_wp2_with fail
  rw [← HWA.out]
  refine (wrong_new st 1 (by decide) Wa (fun b => b < Wa.heap.size) (fun b h => h)).mono ?_
  rintro e Wb ⟨v, rfl, he, hb⟩
  have HR := Lib.hid (HG'.out.since hb)
  have HB := Lib.hid (below_chain HL1.out hb)
  have HE := Lib.hid he
  clear he hb
  obtain ⟨d0, d1, d2, d3⟩ := HR.out.at_
  have f0 := HR.out.free 0
  have f1 := HR.out.free 1
  have f2 := HR.out.free 2
  have f3 := HR.out.free 3
  go_wp2_with fail
  have R9 := Lib.hid (HR.out.put M.zero)
  have HK9 := Lib.hid (put4_else Wb w.heap.size (.int .i64 0) (.int .i64 0) (.int .i64 0) (.int .u8 0))
  unfold M.zero at R9
  dsimp only at R9
  obtain ⟨W9, HW9⟩ : ∃ W9, Hid (W9 = ((((Wb.setCell ⟨w.heap.size, 0, none⟩ (.int .i64 0)).setCell ⟨w.heap.size, 1, none⟩ (.int .i64 0)).setCell ⟨w.heap.size, 2, none⟩ (.int .i64 0)).setCell ⟨w.heap.size, 3, none⟩ (.int .u8 0))) := ⟨_, rfl⟩
  rw [← HW9.out] at R9 HK9 ⊢
  obtain ⟨r0, r1, r2, r3⟩ := R9.out.at_
  refine bodyPost_ret (v := .tuple #[mishV M.zero, v]) (by simp [results, Try.results31, go_sem, r0, r1, r2, r3, mishV, M.zero]) rfl ⟨v, rfl, ?_, HB.out.grown HK9.out HB.out.size fun q hq => by rw [← Option.some.inj hq]; exact Nat.le_refl _⟩
  rcases HE.out with ⟨hk0, _⟩ | ⟨k0, ge, se, e1, e2, e3, e4, e5⟩
  · exact absurd hk0 (by decide)
  · have hl : w.heap.size < Wa.heap.size := HG'.out.lt
    have hgb : ∀ p : Addr, p.block = ge → W9.cell? p = Wb.cell? p := fun p hp => same_cell (HK9.out.block ge (by have := World.block_lt_of_cell? Wb ⟨ge, 0, none⟩ e2; exact this) (fun e => by have := Option.some.inj e; omega)) hp
    exact Or.inr ⟨k0, ge, se, e1, (hgb _ rfl).trans e2, (hgb _ rfl).trans e3, by omega⟩
set_option maxHeartbeats 4000000 in
theorem Rep.dark (h : Rep w base fp g s L) : Rep (w.setCell ⟨g, 5, none⟩ (.bool false)) base fp g s.off L :=
  h.head (h.wf.turn false) rfl rfl rfl rfl rfl (by simp [World.setCell, Array.getElem?_modify, h.row, chipRow, Chip.off]) (fun b hb => setCell_heap _ _ _ _ _ hb) (by simp [World.setCell])
theorem end_any (st : ByteArray) (m : M) (code : Int) (hcode : 0 ≤ code) (h : Rep w base fp g s L) :
    Calls Try.prog 33 #[.pointer (some ⟨g, 0, none⟩), .string st, mishV m, .int .i64 code] w (fun e w' => ∃ v, e = .returned v ∧ ErrNew w fp w' (Chip.endIn (s, code) m).2 v ∧ Rep w' base fp g (Chip.endIn (s, code) m).1 L ∧ Moves w fp w' fp) := by
  have L1 := later_alloc w (.cells #[.int .i64 m.at_, .int .i64 m.kind, .int .i64 m.bytes, .int .u8 m.fill] 45)
  have R1 := rowM_new w m
  have h1 := h.since L1
  obtain ⟨e0, e1, e2, e3⟩ := R1.at_
  have HLT := Lib.hid h1.lt
  by_cases hd : m.kind = 2
  · rw [show Chip.endIn (s, code) m = (s.off, 4) from if_pos hd]
    have hb2 : (m.kind == 2) = true := by simpa using hd
    obtain ⟨c0, c1, c2, c3, c4, c5, c6, c7, c8⟩ := h1.cells
    have f5 := h1.free 5
    have H2 := Lib.hid h1.dark
    have HM : Hid (Moves w fp ((w.alloc (.cells #[.int .i64 m.at_, .int .i64 m.kind, .int .i64 m.bytes, .int .u8 m.fill] 45)).setCell ⟨g, 5, none⟩ (.bool false)) fp) :=
      ⟨(Turn.of_below L1).trans (Turn.of_setCell (fp := fp) ⟨g, 5, none⟩ _ h.fg) fun b hb => Or.inl hb, fun b hb => Or.inl hb⟩
    clear h h1 L1 R1 c0 c1 c2 c3 c4 c6 c7 c8 hd e0 e2 e3
    unfold mishV
    go_enter Try.func33, Try.ntmps33
    go_wp2_with fail
    obtain ⟨WB, HWB⟩ : ∃ W, Hid (W = (w.alloc (.cells #[.int .i64 m.at_, .int .i64 m.kind, .int .i64 m.bytes, .int .u8 m.fill] 45)).setCell ⟨g, 5, none⟩ (.bool false)) := ⟨_, rfl⟩
    rw [← HWB.out] at H2 HM ⊢
    refine (wrong_new st 4 (by decide) WB fp H2.out.lt).mono ?_
    rintro e Wb ⟨v, rfl, he, hb⟩
    have H3 := Lib.hid (H2.out.since hb)
    have HE := Lib.hid he
    have HM3 := Lib.hid (HM.out.trans (Moves.of_below hb))
    have hsz := HM.out.size
    clear he hb H2 HM HWB
    go_wp2_with fail
    go_ret
    exact ⟨_, rfl, HE.out.mono_w hsz, H3.out, HM3.out⟩
  · rw [show Chip.endIn (s, code) m = (s, code) from if_neg hd]
    have hb2 : (m.kind == 2) = false := by simpa using hd
    have H1 := Lib.hid h1
    have HM := Lib.hid (Moves.of_below (fp := fp) L1)
    obtain ⟨WB, HWB⟩ : ∃ W, Hid (W = w.alloc (.cells #[.int .i64 m.at_, .int .i64 m.kind, .int .i64 m.bytes, .int .u8 m.fill] 45)) := ⟨_, rfl⟩
    by_cases hc : code = 0
    · subst hc
      rw [← HWB.out] at H1 HM
      clear h h1 L1 R1 hd e0 e2 e3 hcode
      unfold mishV
      go_enter Try.func33, Try.ntmps33
      go_wp2_with fail
      rw [← HWB.out]
      go_ret
      exact ⟨_, rfl, ErrNew.none_, H1.out, HM.out⟩
    · have hb3 : (code != 0) = true := by simpa using hc
      have hk1 : 1 ≤ code := by omega
      rw [← HWB.out] at H1 HM
      clear h h1 L1 R1 hd e0 e2 e3 hcode hc
      unfold mishV
      go_enter Try.func33, Try.ntmps33
      go_wp2_with fail
      rw [← HWB.out]
      refine (wrong_new st code hk1 WB fp H1.out.lt).mono ?_
      rintro e Wb ⟨v, rfl, he, hb⟩
      have H3 := Lib.hid (H1.out.since hb)
      have HE := Lib.hid he
      have HM3 := Lib.hid (HM.out.trans (Moves.of_below hb))
      have hsz := HM.out.size
      clear he hb H1 HM HWB
      go_wp2_with fail
      go_ret
      exact ⟨_, rfl, HE.out.mono_w hsz, H3.out, HM3.out⟩
end
end Go.Proofs.Ytgamjffedlkbeaa
