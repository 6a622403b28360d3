/- nand.New, where a mark may not be: there is none. Conditions: the slices' cells. -/
import Derived.Test.YthgkdnegnecnjaaGreatDoorSnande
set_option linter.unusedVariables false
set_option linter.unusedSimpArgs false
set_option maxRecDepth 20000
namespace Go.Proofs.YthgkdnegnecnjaaGreatDoor
open Go.RowKit

set_option maxHeartbeats 16000000 in
set_option maxRecDepth 20000 in
theorem new_no (nb np ns : Nat) (Am : Option Addr) (nm cm : Nat) (marks : List Int) (As : Option Addr) (ms_ cs : Nat) (ms : List M) (w : World) (h : Chip.mayNew nb np ns [] ms = true) (hbad : ∃ j, j < nm ∧ ¬ (0 ≤ marks.getD j 0 ∧ marks.getD j 0 < (nb : Int)))
    (hm : intK.Lie w w.heap.size Am nm marks) (hs : mishK.Lie w w.heap.size As ms_ ms) (hnm : nm ≤ 9223372036854775807) (hns_ : ms_ ≤ 9223372036854775807) :
    Calls Tryz.prog 13 #[.agg #[.int .i64 (nb : Int), .int .i64 (np : Int), .int .i64 (ns : Int)], .slice Am nm cm, .slice As ms_ cs] w
      (fun e w' => e = .returned (.pointer none) ∧ Below w.heap.size w w') := by
  have HBAD := Lib.hid hbad
  have HMAY := Lib.hid h
  have hlen := hs.len
  have hmlen := hm.len
  obtain ⟨hgeo, hmm⟩ : (1 ≤ nb ∧ nb ≤ 32 ∧ 1 ≤ np ∧ np ≤ 8 ∧ 128 ≤ ns ∧ ns ≤ 256) ∧ mayM ms = true := by
    unfold Chip.mayNew at h
    rw [Bool.and_eq_true, Bool.and_eq_true] at h
    have h1 := of_decide_eq_true h.1.1
    exact ⟨by omega, h.1.2⟩
  have hms24 : ms_ ≤ 24 := by have := (mayM_out hmm).1; omega
  have HGEO := Lib.hid hgeo
  -- the geometry's own cells
  obtain ⟨W1, HW1⟩ : ∃ W, Hid (W = w.alloc (.cells #[.int .i64 (nb : Int), .int .i64 (np : Int), .int .i64 (ns : Int)] 30)) := ⟨_, rfl⟩
  have L1 : Hid (Later w W1) := by rw [HW1.out]; exact later_alloc _ _
  have hg1 : NGeoAt W1 w.heap.size nb np ns := by rw [HW1.out]; exact ⟨by rw [cell_new]; rfl, by rw [cell_new]; rfl, by rw [cell_new]; rfl⟩
  have HG1 := Lib.hid hg1
  have HS1 := Lib.hid (hs.since L1.out)
  have HM0 := Lib.hid hm
  obtain ⟨c0, c1, c2⟩ := hg1
  rw [HW1.out] at c0 c1 c2
  clear h hm hs hgeo hbad
  go_enter Tryz.func13, Tryz.ntmps13
  go_wp2_with fail
  rw [← HW1.out]
  clear c0 c1 c2
  refine (maybe_yes nb np ns W1 HGEO.out).mono ?_
  rintro e W2 ⟨rfl, hb2⟩
  have L2 := Lib.hid (later_trans _ _ _ L1.out hb2.out)
  have HG2 := Lib.hid (HG1.out.since hb2.out)
  have HS2 := Lib.hid (HS1.out.since hb2.out)
  clear hb2 HG1 HS1 L1 HW1
  go_wp2_with fail
  have C3 := may7_any As ms_ cs ms W2 hns_ HS2.out
  rw [hmm] at C3
  refine C3.mono ?_
  rintro e W3 ⟨rfl, hb3⟩
  have L3 := Lib.hid (later_trans _ _ _ L2.out hb3.out)
  have HG3 := Lib.hid (HG2.out.since hb3.out)
  have HS3 := Lib.hid (HS2.out.since hb3.out)
  clear hb3 HG2 HS2 L2 C3
  go_wp2_with fail
  obtain ⟨gg, HGG⟩ : ∃ gg : Nat, Hid (w.heap.size = gg) := ⟨_, rfl⟩
  rw [HGG.out] at HG3 ⊢
  obtain ⟨s0, HL⟩ : ∃ s0, Hid (s0 = Chip.fresh nb np ns [] ms) := ⟨_, rfl⟩
  have hnb32 : nb ≤ 32 := HGEO.out.2.1
  obtain ⟨WD, HWD⟩ : ∃ W, Hid (W = W3.drew) := ⟨_, rfl⟩
  have HDL : Hid (Later W3 WD) := by rw [HWD.out]; exact (Below.refl _ _).drew
  have LD := Lib.hid (later_trans _ _ _ L3.out HDL.out)
  have HG := Lib.hid (HG3.out.since HDL.out)
  have HMS := Lib.hid (HS3.out.since HDL.out)
  have HSZ : Hid (w.heap.size ≤ WD.heap.size) := Below.size LD.out
  clear HG3 HS3 HDL L3
  refine region_of_steps4 (by kernel_rfl) (fact2Of [.is (.agg #[.int .i64 (nb : Int), .int .i64 (np : Int), .int .i64 (ns : Int)]), .is (.slice As ms_ cs), .that (CloneF w.heap.size ms) (cloneF_since _ _), .is (.pointer (some ⟨gg, 0, none⟩)), .is (.int .i64 (nb : Int)), .that (MadeF w.heap.size WD.heap.size nb) (madeF_since _ _ _), .that (BuildF w.heap.size WD.heap.size nb np ns ms) (buildF_since _ _ _ _ _ _), .that (BoxF w.heap.size WD.heap.size s0) (boxF_since _ _ _), .that (BoxF w.heap.size WD.heap.size s0) (boxF_since _ _ _)]) (deadOf []) (Turns []) (TillAll [] WD) (by kernel_rfl)
    (fun i j v w w' hm hd hn hdd h hR => turns_stays _ _ [] [] (by kernel_rfl) i j v w w' hm hd hn hdd h hR) (fun listed j w w' h hl k => tillall_step h hl k) (fun listed => by rw [← HWD.out]; exact tillall_start _ _ _) ?_ ?_
  · refine Steps3.cons ?_ (Steps3.cons ?_ (Steps3.cons ?_ (Steps3.cons ?_ (Steps3.cons ?_ (Steps3.cons ?_ (Steps3.cons ?_ (Steps3.cons ?_ (Steps3.cons ?_ (Steps3.nil)))))))))
    · intro listed a W H hw hl hd
      have t3 : a.tmps.getD 3 undef = .pointer (some ⟨gg, 0, none⟩) := (H.old 3 (by kernel_rfl)).trans rfl
      exact step2_value (i := 0) rfl rfl (run_op_load rfl t3 (run_load_geo W (HG.out.since (hw (fun m hm => by cases hm))))) (turns_refl _) rfl
    · intro listed a W H hw hl hd
      have t2 : a.tmps.getD 2 undef = .slice As ms_ cs := (H.old 2 (by kernel_rfl)).trans rfl
      exact step2_value (i := 1) rfl rfl (run_op_move rfl t2) (turns_refl _) rfl
    · intro listed a W H hw hl hd
      have t20 : a.tmps.getD 20 undef = .slice As ms_ cs := H.get 1 20 (by kernel_rfl) (dep_of hd 1 (by kernel_rfl)) (alive_none (by kernel_rfl))
      refine step2_call (i := 2) rfl rfl (run_op_call (vs := #[.slice As ms_ cs]) Tryz.func37 (by kernel_rfl) (by kernel_rfl) rfl (by simp only [List.map_toArray, List.map_cons, List.map_nil]; show #[a.tmps.getD 20 undef] = _; rw [t20])) ?_
      refine (cloneM_any As ms_ cs ms W (by omega) ((HMS.out).since (hw (fun m hm => by cases hm)))).mono ?_
      rintro e W2 ⟨A, n, c, rfl, ho, hb⟩
      have hnl : ms.length = n := ho.out.len
      exact ⟨_, rfl, turns_later hb.out, A, c, by rw [hnl], by rw [hnl]; exact ho.out.elder (Nat.le_trans HSZ.out (Below.size (hw (fun m hm => by cases hm))))⟩
    · intro listed a W H hw hl hd
      have t3 : a.tmps.getD 3 undef = .pointer (some ⟨gg, 0, none⟩) := (H.old 3 (by kernel_rfl)).trans rfl
      exact step2_value (i := 3) rfl rfl (run_op_fieldAddr rfl t3 (run_geo_blocks gg W)) (turns_refl _) rfl
    · intro listed a W H hw hl hd
      have t22 : a.tmps.getD 22 undef = .pointer (some ⟨gg, 0, none⟩) := H.get 3 22 (by kernel_rfl) (dep_of hd 3 (by kernel_rfl)) (alive_none (by kernel_rfl))
      exact step2_value (i := 4) rfl rfl (run_op_load rfl t22 (nrun_load_int _ _ W (HG.out.since (hw (fun m hm => by cases hm))).c0)) (turns_refl _) rfl
    · intro listed a W H hw hl hd
      have t23 : a.tmps.getD 23 undef = .int .i64 (nb : Int) := H.get 4 23 (by kernel_rfl) (dep_of hd 4 (by kernel_rfl)) (alive_none (by kernel_rfl))
      obtain ⟨W2, hr, hb, ho⟩ := Kind.made nblkK blk_made nb (nb : Int) rfl (by omega) W w.heap.size (Nat.le_trans HSZ.out (Below.size (hw (fun m hm => by cases hm))))
      exact step2_value (i := 5) rfl rfl (run_op_makeSlice rfl t23 t23 hr) (turns_later hb) ⟨W.heap.size, rfl, Below.size (hw (fun m hm => by cases hm)), ho⟩
    · intro listed a W H hw hl hd
      have t19 : a.tmps.getD 19 undef = .agg #[.int .i64 (nb : Int), .int .i64 (np : Int), .int .i64 (ns : Int)] := H.get 0 19 (by kernel_rfl) (dep_of hd 0 (by kernel_rfl)) (alive_none (by kernel_rfl))
      have T21 : (CloneF w.heap.size ms) (a.tmps.getD 21 undef) W := H.get 2 21 (by kernel_rfl) (dep_of hd 2 (by kernel_rfl)) (alive_none (by kernel_rfl))
      have T24 : (MadeF w.heap.size WD.heap.size nb) (a.tmps.getD 24 undef) W := H.get 5 24 (by kernel_rfl) (dep_of hd 5 (by kernel_rfl)) (alive_none (by kernel_rfl))
      obtain ⟨A21, n21, e21, h21⟩ := T21
      obtain ⟨b24, e24, l24, h24⟩ := T24
      exact step2_value (i := 6) rfl rfl (run_op_buildS rfl (by simp only [List.map_toArray, List.map_cons, List.map_nil]; show (Instr.build 83 #[(0, a.tmps.getD 19 undef), (1, a.tmps.getD 21 undef), (2, a.tmps.getD 24 undef), (3, .bool true)]).run _ _ = _; rw [t19, e21, e24]; exact run_build_chip _ _ _ _ _ _ _ _ _ _)) (turns_refl _) ⟨A21, n21, b24, rfl, l24, h21, h24⟩
    · intro listed a W H hw hl hd
      have T25 : (BuildF w.heap.size WD.heap.size nb np ns ms) (a.tmps.getD 25 undef) W := H.get 6 25 (by kernel_rfl) (dep_of hd 6 (by kernel_rfl)) (alive_none (by kernel_rfl))
      obtain ⟨A21, n21, b24, e25, l24, h21, h24⟩ := T25
      exact step2_value (i := 7) rfl rfl (run_op_box rfl e25 (run_box_chip _ _ _ _ _ _ _ _ _)) (turns_later (later_alloc _ _)) (box_new h21 h24 HL.out (Nat.le_trans HSZ.out (Below.size (hw (fun m hm => by cases hm)))) l24)
    · intro listed a W H hw hl hd
      have T26 : (BoxF w.heap.size WD.heap.size s0) (a.tmps.getD 26 undef) W := H.get 7 26 (by kernel_rfl) (dep_of hd 7 (by kernel_rfl)) (alive_none (by kernel_rfl))
      exact step2_value (i := 8) rfl rfl (run_op_assign rfl rfl) (turns_refl _) T26
  · intro a WC listed hdef hsz hw hall hact
    have hLC : Later WD WC := hw (fun m hm => by cases hm)
    obtain ⟨g, LL, bb, e7, hg7, hlo7, h7⟩ := hall 8 _ rfl (by kernel_rfl)
    have e7' : a.tmps.getD 7 undef = .pointer (some ⟨g, 0, none⟩) := e7
    obtain ⟨u, hu⟩ : ∃ u : Nat → Value, ∀ k, a.tmps.getD k undef = u k := ⟨_, fun _ => rfl⟩
    simp only [hu] at hact
    have hact' : a = ([19, 20, 21, 22, 23, 24, 25, 26, 7] : List Nat).foldl (fun b k => b.put (some k) (u k)) _ := hact
    simp only [List.foldl] at hact'
    simp only [Act.put, List.setIfInBounds_toArray, List.set_cons_succ, List.set_cons_zero] at hact'
    have hu7 : u 7 = .pointer (some ⟨g, 0, none⟩) := by rw [← hu 7]; exact e7'
    rw [hu7] at hact'
    have HAC := Lib.hid hact'
    have HR := Lib.hid h7
    have HB := Lib.hid (later_trans _ _ _ LD.out hLC)
    have HGC := Lib.hid (HG.out.since hLC)
    have HGL : Hid (w.heap.size ≤ g) := hg7
    have HGB : Hid (gg < bb) := Nat.lt_of_lt_of_le HG.out.lt hlo7
    clear hu hu7 hact hact' hall hdef hsz hw e7 e7' h7 hLC HG HMS LD HSZ hg7 hlo7 HWD
    rw [HAC.out]
    clear HAC
    have c4 : WC.cell? ⟨g, 4, none⟩ = some (.slice (some LL.ab) nb LL.cB) := by
      have := HR.out.cells.c4
      rw [show s0.nb = nb by rw [HL.out]; rfl] at this; exact this
    go_wp2_with fail
    clear c4
    obtain ⟨z, HZZ⟩ : ∃ z : Nat, Hid (ns + 28 = z) := ⟨_, rfl⟩
    obtain ⟨N, HNN⟩ : ∃ N : Nat, Hid (np * z = N) := ⟨_, rfl⟩
    have hN8 : N ≤ 8000 := by
      have h1 : np * z ≤ 8 * 284 := Nat.mul_le_mul HGEO.out.2.2.2.1 (by have := HZZ.out; have := HGEO.out.2.2.2.2.2; omega)
      rw [HNN.out] at h1; omega
    have HNZ : Hid ((np : Int) * (z : Int) = (N : Int)) := by show _ = _; rw [← HNN.out]; simp
    have HN : Hid (N = s0.np * (s0.ns + 28)) := by show _ = _; rw [HL.out, ← HNN.out, ← HZZ.out]; rfl
    have hns256 : ns ≤ 256 := HGEO.out.2.2.2.2.2
    go_loopw [32] (fun t32 wr => ∃ (i : Nat) (L : CL), t32 = .int .i64 i ∧ i ≤ nb ∧ Hid (NRep wr w.heap.size g i s0 L bb (fun _ => 255)) ∧ Hid (Below w.heap.size w wr) ∧ Hid (NGeoAt wr gg nb np ns)) (fun t32 _ => nb - (intOf t32).toNat)
    case atStart => exact ⟨0, LL, rfl, Nat.zero_le _, HR, HB, HGC⟩
    clear HR HB HGC
    case round =>
      obtain ⟨Wa, rfl⟩ : ∃ Wa, Wa = wr := ⟨_, rfl⟩
      obtain ⟨i, L, rfl, hi, HR, HB, HGA⟩ := hrel
      have i0 : (0 : Int) ≤ (i : Int) := by omega
      by_cases hlt0 : i < nb
      · have i1 : (i : Int) < (nb : Int) := by omega
        go_wp2_with fail
        obtain ⟨WD, HWD⟩ : ∃ W, Hid (W = Wa.drew) := ⟨_, rfl⟩
        have HDL : Hid (Later Wa WD) := by rw [HWD.out]; exact (Below.refl _ _).drew
        have HR2 := Lib.hid (HR.out.since HDL.out)
        have HB2 := Lib.hid (below_chain HB.out HDL.out)
        have HG := Lib.hid (HGA.out.since HDL.out)
        clear HR HB HGA HDL
        have HR := HR2
        have HB := HB2
        clear HR2 HB2
        have HSNB : Hid (s0.nb = nb) := by rw [HL.out]; rfl
        have hlt : i < s0.nb := by rw [HSNB.out]; exact hlt0
        have HCC : Hid (∀ W, Later WD W → W.cell? ⟨g, 4, none⟩ = some (.slice (some L.ab) nb L.cB) ∧ W.cell? ⟨g, 2, none⟩ = some (.int .i64 (ns : Int))) := fun W hW => by
          obtain ⟨c0, c1, c2, c3, c4, c5, c6, c7, c8⟩ := (HR.out.since hW).cells
          rw [HSNB.out] at c4
          rw [show s0.ns = ns by rw [HL.out]; rfl] at c2
          exact ⟨c4, c2⟩
        refine region_of_steps4 (by kernel_rfl) (fact2Of [.is (.pointer (some ⟨g, 0, none⟩)), .is (.pointer (some ⟨g, 0, none⟩)), .is (.pointer (some ⟨g, 4, none⟩)), .is (.slice (some L.ab) nb L.cB), .is (.int .i64 (i : Int)), .is (.pointer (some ⟨gg, 1, none⟩)), .is (.int .i64 (np : Int)), .is (.pointer (some ⟨g, 0, none⟩)), .is (.int .i64 (z : Int)), .is (.int .i64 (N : Int)), .that (RawF w.heap.size WD.heap.size N) (rawF_since _ _ _), .is (.pointer (some (L.ab.add (i * 5)))), .is (.pointer (some (L.ab.add (i * 5)))), .that (StoredF w WD g i N s0 L bb) (storedF_since _ _ _ _ _ _ _ _)]) (deadOf [(10, 13)]) (Turns [13]) (TillAll [13] WD) (by kernel_rfl)
          (fun i j v w w' hm hd hn hdd h hR => turns_stays _ _ [13] [(10, 13)] (by kernel_rfl) i j v w w' hm hd hn hdd h hR) (fun listed j w w' h hl k => tillall_step h hl k) (fun listed => by rw [← HWD.out]; exact tillall_start _ _ _) ?_ ?_
        · refine Steps3.cons ?_ (Steps3.cons ?_ (Steps3.cons ?_ (Steps3.cons ?_ (Steps3.cons ?_ (Steps3.cons ?_ (Steps3.cons ?_ (Steps3.cons ?_ (Steps3.cons ?_ (Steps3.cons ?_ (Steps3.cons ?_ (Steps3.cons ?_ (Steps3.cons ?_ (Steps3.cons ?_ (Steps3.nil))))))))))))))
          · intro listed a W H hw hl hd
            have t7 : a.tmps.getD 7 undef = .pointer (some ⟨g, 0, none⟩) := (H.old 7 (by kernel_rfl)).trans rfl
            exact step2_value (i := 0) rfl rfl (run_op_move rfl t7) (turns_refl _) rfl
          · intro listed a W H hw hl hd
            have t35 : a.tmps.getD 35 undef = .pointer (some ⟨g, 0, none⟩) := H.get 0 35 (by kernel_rfl) (dep_of hd 0 (by kernel_rfl)) (alive_none (by kernel_rfl))
            exact step2_value (i := 1) rfl rfl (run_op_nilCheck rfl t35) (turns_refl _) rfl
          · intro listed a W H hw hl hd
            have t36 : a.tmps.getD 36 undef = .pointer (some ⟨g, 0, none⟩) := H.get 1 36 (by kernel_rfl) (dep_of hd 1 (by kernel_rfl)) (alive_none (by kernel_rfl))
            exact step2_value (i := 2) rfl rfl (run_op_fieldAddr rfl t36 (run_chip_blocks g W)) (turns_refl _) rfl
          · intro listed a W H hw hl hd
            have t37 : a.tmps.getD 37 undef = .pointer (some ⟨g, 4, none⟩) := H.get 2 37 (by kernel_rfl) (dep_of hd 2 (by kernel_rfl)) (alive_none (by kernel_rfl))
            exact step2_value (i := 3) rfl rfl (run_op_load rfl t37 (run_load_blks _ _ _ _ W (HCC.out W (hw (H.nothing 4 hl (by kernel_rfl)))).1)) (turns_refl _) rfl
          · intro listed a W H hw hl hd
            have t8 : a.tmps.getD 8 undef = .int .i64 (i : Int) := (H.old 8 (by kernel_rfl)).trans rfl
            exact step2_value (i := 4) rfl rfl (run_op_move rfl t8) (turns_refl _) rfl
          · intro listed a W H hw hl hd
            have t3 : a.tmps.getD 3 undef = .pointer (some ⟨gg, 0, none⟩) := (H.old 3 (by kernel_rfl)).trans rfl
            exact step2_value (i := 5) rfl rfl (run_op_fieldAddr rfl t3 (run_geo_pages gg W)) (turns_refl _) rfl
          · intro listed a W H hw hl hd
            have t40 : a.tmps.getD 40 undef = .pointer (some ⟨gg, 1, none⟩) := H.get 5 40 (by kernel_rfl) (dep_of hd 5 (by kernel_rfl)) (alive_none (by kernel_rfl))
            exact step2_value (i := 6) rfl rfl (run_op_load rfl t40 (nrun_load_int _ _ W (HG.out.since (hw (H.nothing 4 hl (by kernel_rfl)))).c1)) (turns_refl _) rfl
          · intro listed a W H hw hl hd
            have t7 : a.tmps.getD 7 undef = .pointer (some ⟨g, 0, none⟩) := (H.old 7 (by kernel_rfl)).trans rfl
            exact step2_value (i := 7) rfl rfl (run_op_move rfl t7) (turns_refl _) rfl
          · intro listed a W H hw hl hd
            have t42 : a.tmps.getD 42 undef = .pointer (some ⟨g, 0, none⟩) := H.get 7 42 (by kernel_rfl) (dep_of hd 7 (by kernel_rfl)) (alive_none (by kernel_rfl))
            refine step2_call (i := 8) rfl rfl (run_op_call (vs := #[.pointer (some ⟨g, 0, none⟩)]) Tryz.func38 (by kernel_rfl) (by kernel_rfl) rfl (by simp only [List.map_toArray, List.map_cons, List.map_nil]; show #[a.tmps.getD 42 undef] = _; rw [t42])) ?_
            refine (width_cell g ns W (by omega) (HCC.out W (hw (H.nothing 4 hl (by kernel_rfl)))).2).mono ?_
            rintro e W2 ⟨rfl, rfl⟩
            exact ⟨_, rfl, turns_later (later_refl _), by rw [← HZZ.out]; rfl⟩
          · intro listed a W H hw hl hd
            have t41 : a.tmps.getD 41 undef = .int .i64 (np : Int) := H.get 6 41 (by kernel_rfl) (dep_of hd 6 (by kernel_rfl)) (alive_none (by kernel_rfl))
            have t43 : a.tmps.getD 43 undef = .int .i64 (z : Int) := H.get 8 43 (by kernel_rfl) (dep_of hd 8 (by kernel_rfl)) (alive_none (by kernel_rfl))
            exact step2_value (i := 9) rfl rfl (run_op_bin rfl t41 t43 (run_mul_i64 _ _ _ _ _ HNZ.out (by omega) (by omega) _)) (turns_refl _) rfl
          · intro listed a W H hw hl hd
            have t44 : a.tmps.getD 44 undef = .int .i64 (N : Int) := H.get 9 44 (by kernel_rfl) (dep_of hd 9 (by kernel_rfl)) (alive_none (by kernel_rfl))
            have hWD := hw (H.nothing 4 hl (by kernel_rfl))
            obtain ⟨W2, hr, hb, ho⟩ := made_any N (N : Int) rfl (by omega) W
            exact step2_value (i := 10) rfl rfl (run_op_makeSlice rfl t44 t44 hr) (turns_later hb) ⟨W.heap.size, rfl, ho.elder (Nat.le_trans HB.out.size (Below.size hWD)), Below.size hWD⟩
          · intro listed a W H hw hl hd
            have t38 : a.tmps.getD 38 undef = .slice (some L.ab) nb L.cB := H.get 3 38 (by kernel_rfl) (dep_of hd 3 (by kernel_rfl)) (alive_none (by kernel_rfl))
            have t39 : a.tmps.getD 39 undef = .int .i64 (i : Int) := H.get 4 39 (by kernel_rfl) (dep_of hd 4 (by kernel_rfl)) (alive_none (by kernel_rfl))
            exact step2_value (i := 11) rfl rfl (run_op_index rfl t38 t39 (run_index_blk _ _ _ _ hlt0 W)) (turns_refl _) rfl
          · intro listed a W H hw hl hd
            have t46 : a.tmps.getD 46 undef = .pointer (some (L.ab.add (i * 5))) := H.get 11 46 (by kernel_rfl) (dep_of hd 11 (by kernel_rfl)) (alive_none (by kernel_rfl))
            exact step2_value (i := 12) rfl rfl (run_op_fieldAddr rfl t46 (run_blk_raw _ W)) (turns_refl _) rfl
          · intro listed a W H hw hl hd
            have t47 : a.tmps.getD 47 undef = .pointer (some (L.ab.add (i * 5))) := H.get 12 47 (by kernel_rfl) (dep_of hd 12 (by kernel_rfl)) (alive_none (by kernel_rfl))
            have T45 : (RawF w.heap.size WD.heap.size N) (a.tmps.getD 45 undef) W := H.get 10 45 (by kernel_rfl) (dep_of hd 10 (by kernel_rfl)) (alive_now (m := 13) (by kernel_rfl) (H.notyets 4 hl (by kernel_rfl)))
            obtain ⟨r45, e45, h45, r45le⟩ := T45
            have hWD := hw (H.nothing 4 hl (by kernel_rfl))
            have hc := (HR.out.since hWD).block (k := i) hlt
            have hfr := (HR.out.since hWD).free5 i
            exact step2_done (i := 13) rfl rfl rfl (run_op_store rfl t47 e45 (run_store_slice _ _ _ _ N N rfl W hc.c0 hfr)) (turns_here (by decide)) ⟨r45, _, rfl, HR.out.store hlt hWD HN.out h45 r45le, (below_chain HB.out hWD).setCell (by rw [(HR.out.since hWD).place i]; exact Row.blk_ge HR.out.bl bb (by simp [blk])) _, r45le, (Turn.of_below hWD).trans (Turn.of_setCell (fp := fun b => b = bb) _ _ (by show (L.ab.add (i * 5)).block = bb; rw [HR.out.place i])) fun b hb => Or.inl hb⟩
        · intro a WC listed hdef hsz hw hall hact
          obtain ⟨r, L', hL', h13, hb13, hr13, ht13⟩ := hall 13 _ rfl (by kernel_rfl)
          obtain ⟨u, hu⟩ : ∃ u : Nat → Value, ∀ k, a.tmps.getD k undef = u k := ⟨_, fun _ => rfl⟩
          simp only [hu] at hact
          have hact' : a = ([35, 36, 37, 38, 39, 40, 41, 42, 43, 44, 45, 46, 47] : List Nat).foldl (fun b k => b.put (some k) (u k)) _ := hact
          simp only [List.foldl] at hact'
          simp only [Act.put, List.setIfInBounds_toArray, List.set_cons_succ, List.set_cons_zero] at hact'
          have HAC := Lib.hid hact'
          have HR3 := Lib.hid h13
          have HB3 := Lib.hid hb13
          have HAT : Hid ((L'.at_ i).a = some ⟨r, 0, none⟩ ∧ (L'.at_ i).n = N ∧ (L'.at_ i).c = N) := by
            have hvl : L.v.length = s0.nb := HR.out.bl.len
            have e : L'.at_ i = ⟨some ⟨r, 0, none⟩, N, N, 0, 0, false, false⟩ := by
              rw [hL']
              exact getD_set_self (by rw [hvl]; exact hlt) _ _
            rw [e]; exact ⟨rfl, rfl, rfl⟩
          have HGN : Hid (NGeoAt WC gg nb np ns) := HG.out.keep ht13 (by show ¬ gg = bb; have := HGB.out; omega)
          have HRG : Hid (gg ≠ r ∧ w.heap.size ≤ r) := ⟨by have := HG.out.lt; omega, Nat.le_trans HB.out.size hr13⟩
          clear hu hact hact' hall hdef hsz hw h13 hb13 HR HB HG HWD hL' HCC hr13 ht13
          rw [HAC.out]
          clear HAC
          have hc4 := HR3.out.cells.c4
          rw [HSNB.out] at hc4
          have CF : Hid (Calls Tryz.prog 39 #[.pointer (some (L'.ab.add (i * 5))), .int .u8 255] WC (fun e w' => e = .returned (.tuple #[]) ∧ Own w' w.heap.size (some ⟨r, 0, none⟩) N N (List.replicate N 255) ∧ Turn (fun b => b = r) WC w')) := by
            obtain ⟨g0, _⟩ := HR3.out.block (k := i) hlt
            rw [HAT.out.1, HAT.out.2.1, HAT.out.2.2] at g0
            have hd := (HR3.out.done i (by omega)).1
            rw [HAT.out.1, HAT.out.2.1, HAT.out.2.2, ← HN.out] at hd
            have hne := (HR3.out.not_own hd r (by simp [blk])).2.1
            exact cfill_any _ r N N 255 w.heap.size _ WC (by decide) g0 hd (by rw [HR3.out.place i]; exact hne) hN8
          go_wp2_with fail
          clear hc4
          refine CF.out.mono ?_
          rintro e W4 ⟨rfl, ho4, ht4⟩
          have HR4 : Hid (NRep W4 w.heap.size g (i + 1) s0 L' bb (fun _ => 255)) := (HR3.out.fill HN.out HAT.out.1 HAT.out.2.1 HAT.out.2.2 ho4 ht4).congr fun k hk => by
            by_cases e : k = i
            · rw [if_pos e]
            · rw [if_neg e, if_neg e]
          have HB4 : Hid (Below w.heap.size w W4) := ht4.chain HB3.out (fun b hb => by rw [hb]; exact HRG.out.2) HB3.out.size
          have HG4 : Hid (NGeoAt W4 gg nb np ns) := HGN.out.keep ht4 HRG.out.1
          clear ho4 ht4 CF HR3 HB3 HGN HAT HRG HSNB hlt
          go_wp2_with fail
          go_roundw
          case rel => exact ⟨i + 1, L', by go_num, by omega, HR4, HB4, HG4⟩
          case measure => simp [intOf]; omega
      · have HNB : Hid (i = nb) := by show i = nb; omega
        obtain ⟨fp, HFP⟩ : ∃ fp : Nat → Prop, Hid (fp = fun b => w.heap.size ≤ b ∧ b < Wa.heap.size) := ⟨_, rfl⟩
        have HRP : Hid (Rep Wa w.heap.size fp g (Chip.fresh nb np ns (marks.take 0) ms) L) := by
          have h1 := HR.out
          have e1 : s0.nb = nb := by rw [HL.out]; rfl
          rw [HNB.out, ← e1] at h1
          have h2 := h1.rep (fun _ _ => rfl) (by rw [HL.out]; exact Chip.fresh_wf HMAY.out []) (fun k hk => by
            rw [HL.out] at hk ⊢
            have hk' : k < nb := hk
            rw [Chip.fresh_nth hk']; rfl) HGL.out
          rw [HFP.out, List.take_zero, ← HL.out]
          exact h2
        clear HR HGA HNB
        go_wp2_with fail
        go_loopw [58] (fun t58 wr => ∃ (j : Nat) (L : CL), t58 = .int .i64 j ∧ j ≤ nm ∧ Hid (∀ i, i < j → 0 ≤ marks.getD i 0 ∧ marks.getD i 0 < (nb : Int)) ∧ Hid (Rep wr w.heap.size fp g (Chip.fresh nb np ns (marks.take j) ms) L) ∧ Hid (Below w.heap.size w wr)) (fun t58 _ => nm - (intOf t58).toNat)
        case atStart => exact ⟨0, L, rfl, Nat.zero_le _, (fun i hi => absurd hi (Nat.not_lt_zero i)), HRP, HB⟩
        clear HRP HB
        case round =>
          obtain ⟨Wb, rfl⟩ : ∃ Wb, Wb = wr := ⟨_, rfl⟩
          obtain ⟨j, L, rfl, hj, HIN, HR, HB⟩ := hrel
          have j0 : (0 : Int) ≤ (j : Int) := by omega
          by_cases hltj : j < nm
          · have j1 : (j : Int) < (nm : Int) := by omega
            obtain ⟨ad, hAm, hblk, e3⟩ := (HM0.out.below HB.out).each j hltj
            have c0 := intAt_of (show intK.At Wb (ad.add (j * 1)) (marks.getD j 0) from e3)
            by_cases hin : 0 ≤ marks.getD j 0 ∧ marks.getD j 0 < (nb : Int)
            · skip
              have HIN2 : Hid (∀ i, i < j + 1 → 0 ≤ marks.getD i 0 ∧ marks.getD i 0 < (nb : Int)) := fun i hi => by
                by_cases e : i < j
                · exact HIN.out i e
                · rw [show i = j by omega]; exact hin
              have HTK : Hid (marks.take (j + 1) = marks.take j ++ [marks.getD j 0]) := by
                show _ = _
                rw [List.take_add_one, List.getD_eq_getElem?_getD, List.getElem?_eq_getElem (by omega)]; rfl
              obtain ⟨k, HK⟩ : ∃ k : Nat, Hid (marks.getD j 0 = (k : Int)) := ⟨(marks.getD j 0).toNat, by show _ = _; omega⟩
              rw [HK.out, Nat.mul_one] at c0
              rw [HK.out] at HTK hin
              have hk : k < nb := by omega
              have i0k : (0 : Int) ≤ (k : Int) := by omega
              have i1k : (k : Int) < (nb : Int) := by omega
              have CH := has_any (k : Int) HR.out
              rw [show (Chip.fresh nb np ns (marks.take j) ms).has (k : Int) = true from decide_eq_true hin] at CH
              have HCH := Lib.hid CH
              have hkf : k < (Chip.fresh nb np ns (marks.take j) ms).nb := hk
              obtain ⟨L2, h2, a2, _, _⟩ := HR.out.setMarked hkf
              rw [Chip.fresh_mark hk, ← HTK.out] at h2
              have H2 := Lib.hid h2
              have HB2 : Hid (Below w.heap.size w (Wb.setCell ⟨(L.ab.add (k * 5)).block, (L.ab.add (k * 5)).off + 3, none⟩ (.bool true))) := (HR.out.mark_moves k 3 (.bool true)).below HB.out HR.out.ge HB.out.size
              obtain ⟨d1, d2, d3, d4⟩ := HR.out.cellsK hkf
              have f3 := HR.out.free5 k 3
              have c4 : Wb.cell? ⟨g, 4, none⟩ = some (.slice (some L.ab) nb L.cB) := HR.out.cells.c4
              obtain ⟨uu, hu3⟩ : ∃ uu, Wb.cell? ⟨(L.ab.add (k * 5)).block, (L.ab.add (k * 5)).off + 3, none⟩ = some uu := ⟨_, d3⟩
              have hAm' := Lib.hid hAm
              subst hAm
              clear e3 hin CH h2 HIN d1 d2 d4 HTK HK HR HB hblk hAm'
              go_wp2_with fail
              refine HCH.out.mono ?_
              rintro e W9 ⟨rfl, rfl⟩
              go_wp2_with fail
              go_roundw
              case rel => exact ⟨j + 1, L2, by go_num, by omega, HIN2, H2, HB2⟩
              case measure => simp [intOf]; omega
            · obtain ⟨v0, HV0⟩ : ∃ v0, Hid (marks.getD j 0 = v0) := ⟨_, rfl⟩
              rw [HV0.out, Nat.mul_one] at c0
              rw [HV0.out] at hin
              have CH := has_any v0 HR.out
              rw [show (Chip.fresh nb np ns (marks.take j) ms).has v0 = false from decide_eq_false hin] at CH
              have HCH := Lib.hid CH
              subst hAm
              clear e3 hin CH hblk HR HIN
              go_wp2_with fail
              refine HCH.out.mono ?_
              rintro e W9 ⟨rfl, rfl⟩
              go_wp2_with fail
              go_ret
              exact ⟨rfl, HB.out⟩
          · exfalso
            obtain ⟨i, hi, hb⟩ := HBAD.out
            exact hb (HIN.out i (by omega))
end Go.Proofs.YthgkdnegnecnjaaGreatDoor
