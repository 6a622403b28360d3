/- VictimOthers: true, whatever its arguments are. Conditions: the list's cells. -/
import Derived.Test.YtafnnpebdcnadaaVicAwake
import Derived.Test.YtafnnpebdcnadaaVicRun
set_option linter.unusedVariables false
set_option linter.unusedSimpArgs false
namespace Go.Proofs.Ytafnnpebdcnadaa
open Go.RowKit

/-- One that does not count changes nothing. -/
theorem ord_more {bs : List VB} {b : VB} {k : Nat} (h : cntV b = false) : ordV ((bs.take k ++ [b]) ++ bs.drop k) = ordV bs := by
  refine (ord_is _).one (ord_is bs) ?_
  rw [List.filter_append, List.filter_append, show List.filter cntV [b] = [] by simp [h], List.append_nil, ← List.filter_append, List.take_append_drop]
theorem idsV_len (o : List VB) : (idsV o).length = o.length := by simp [idsV]
set_option maxHeartbeats 32000000 in
set_option maxRecDepth 20000 in
theorem others_law (A : Option Addr) (n c : Nat) (bs : List VB) (x1 x2 x3 : Int) (w : World) (hc : n ≤ c) (hz : n ≤ 9223372036854775807) (h : vblkK.Lie w w.heap.size A n bs) : Calls Try.prog 6 #[.slice A n c, .int .i64 x1, .int .i64 x2, .int .i64 x3] w (SaysB w true) := by
  have H := Lib.hid h
  clear h
  by_cases hn : 20 < n
  · go_enter Try.func6, Try.ntmps6
    go_wp2_with fail
    refine (vawake_any _).mono ?_
    rintro e w1 ⟨rfl, hb1⟩
    go_wp2_with fail
    go_ret
    exact ⟨rfl, hb1⟩
  · obtain ⟨k, hk, HK⟩ := low_natV x1 (n + 1) (by omega)
    obtain ⟨r, hr, HR⟩ := low_natV x3 1000 (by omega)
    obtain ⟨q, hq, HQ⟩ := low_natV x2 4 (by omega)
    have C1 := Lib.hid (low_any x1 ((n : Int) + 1) (by omega) (by omega) w)
    rw [show ((n + 1 : Nat) : Int) = (n : Int) + 1 by omega] at HK
    rw [HK.out] at C1
    have C2 := Lib.hid (low_any x3 1000 (by omega) (by omega) w)
    rw [show lowM x3 1000 = (r : Int) from HR.out] at C2
    have C3 : Hid (∀ W, Calls Try.prog 18 #[.int .i64 x2, .int .i64 4] W fun e w' => e = .returned (.int .i64 (q : Int)) ∧ W = w') := fun W => by
      have := low_any x2 4 (by omega) (by omega) W
      rwa [show lowM x2 4 = (q : Int) from HQ.out] at this
    have HH : (n : Int) ≤ 20 := by omega
    have hkn : k ≤ n := by omega
    have h40 : n ≤ 40 := by omega
    obtain ⟨g, HG⟩ : ∃ g, Hid (w.heap.size = g) := ⟨_, rfl⟩
    go_enter Try.func6, Try.ntmps6
    go_wp2_with fail
    refine C1.out.mono ?_
    rintro e w1 ⟨rfl, rfl⟩
    go_wp2_with fail
    refine C2.out.mono ?_
    rintro e w1 ⟨rfl, rfl⟩
    go_wp2_with fail
    refine (C3.out _).mono ?_
    rintro e w1 ⟨rfl, rfl⟩
    clear C1 C2 C3
    obtain rfl | rfl | rfl | rfl : q = 0 ∨ q = 1 ∨ q = 2 ∨ q = 3 := by omega
    · obtain ⟨b, HBB⟩ : ∃ b : VB, Hid (b = ⟨7, 0, 0, 1 + (r : Int), 0⟩) := ⟨_, rfl⟩
      have HC : Hid (cntV b = false) := by
        rw [HBB.out]
        exact (by rw [← Bool.not_eq_true, cntV_yes]; rintro ⟨_, h⟩; dsimp only at h; omega)
      have HWF : Hid (VBWf b) := by
        rw [HBB.out]
        exact (by constructor <;> dsimp only <;> omega)
      have HGN : Hid (gainV 8 b = 0) := by show _ = _; unfold gainV; rw [HC.out]; rfl
      go_wp2_with fail
      obtain ⟨WE, HWE⟩ : ∃ W, Hid (W = (w.alloc (.cells #[.int .i64 7, .int .i64 0, .int .i64 0, .int .i64 (1 + (r : Int)), .int .i64 0] 34)).drew) := ⟨_, rfl⟩
      rw [HG.out]
      have HBE : Hid (Below w.heap.size w WE) := by rw [HWE.out]; exact below_drewN (later_alloc _ _) 1
      have HV : Hid (VBAt WE ⟨g, 0, none⟩ b) := by
        have := vb_new w b #[.int .i64 7, .int .i64 0, .int .i64 0, .int .i64 (1 + (r : Int)), .int .i64 0] (by rw [HBB.out]; rfl) 34
        rw [HWE.out, ← HG.out]; exact ⟨this.c0, this.c1, this.c2, this.c3, this.c4⟩
      have HGS : Hid (g < WE.heap.size) := by show _ < _; rw [HWE.out, ← HG.out]; show w.heap.size < (w.alloc _).heap.size; simp
      have HGL : Hid ((⟨g, 0, none⟩ : Addr).block < WE.heap.size) := HGS.out
      have HL : Hid (vblkK.Lie WE WE.heap.size A n bs) := H.out.since HBE.out
      have LT : Hid (vblkK.Lie WE WE.heap.size A k (bs.take k)) := HL.out.first hkn
      have LD : Hid (vblkK.Lie WE WE.heap.size (if c = k then A else A.map (·.add (k * vblkK.k))) (n - k) (bs.drop k)) := HL.out.rest hkn hc
      refine region_of_steps7 (by kernel_rfl) [some (.slice A n c), some (.int .i64 (k : Int)), some (.slice A k c), none, some (vblkV b), none, none, some (.slice A n c), some (.int .i64 (k : Int)), some (.slice (if c = k then A else A.map (·.add (k * vblkK.k))) (n - k) (c - k)), none, none] [3, 5, 6, 10, 11] [43, 45, 46, 50, 10] (InsA vblkK WE k n bs b) (by kernel_rfl) (by kernel_rfl) (by rw [← HWE.out]; exact InsA.start (by rw [slots_len]; rfl)) ?_ ?_
      · refine Steps7.cons ?_ (Steps7.cons ?_ (Steps7.cons ?_ (Steps7.cons ?_ (Steps7.cons ?_ (Steps7.cons ?_ (Steps7.cons ?_ (Steps7.cons ?_ (Steps7.cons ?_ (Steps7.cons ?_ (Steps7.cons ?_ (Steps7.cons ?_ (Steps7.nil))))))))))))
        · intro listed a W H hj hl hd
          have t0 : a.tmps.getD 0 undef = .slice A n c := (H.old 0 (by kernel_rfl)).trans rfl
          exact step7_value (i := 0) rfl rfl (run_op_move rfl t0) (calm7 (fun fs vs x y h hl => InsA.later h hl) (by kernel_rfl) (by kernel_rfl) hj (later_refl _)) rfl
        · intro listed a W H hj hl hd
          have t1 : a.tmps.getD 1 undef = .int .i64 (k : Int) := (H.old 1 (by kernel_rfl)).trans rfl
          exact step7_value (i := 1) rfl rfl (run_op_move rfl t1) (calm7 (fun fs vs x y h hl => InsA.later h hl) (by kernel_rfl) (by kernel_rfl) hj (later_refl _)) rfl
        · intro listed a W H hj hl hd
          have t40 : a.tmps.getD 40 undef = .slice A n c := H.get 0 40 (by kernel_rfl) (dep_of hd 0 (by kernel_rfl)) (fun _ h => by cases h)
          have t41 : a.tmps.getD 41 undef = .int .i64 (k : Int) := H.get 1 41 (by kernel_rfl) (dep_of hd 1 (by kernel_rfl)) (fun _ h => by cases h)
          exact step7_value (i := 2) rfl rfl (run_op_slice rfl (by show (Instr.sliceAt 22 (a.tmps.getD 40 undef) none (some (a.tmps.getD 41 undef)) none).run _ _ = _; rw [t40, t41]; rw [run_sliceAt_slice (h := Try.underlying22)]; exact (vblkK.slice_to A n c k hkn hc W))) (calm7 (fun fs vs x y h hl => InsA.later h hl) (by kernel_rfl) (by kernel_rfl) hj (later_refl _)) rfl
        · intro listed a W H hj hl hd
          have t42 : a.tmps.getD 42 undef = .slice A k c := H.get 2 42 (by kernel_rfl) (dep_of hd 2 (by kernel_rfl)) (fun _ h => by cases h)
          have f2 : (flags [3, 5, 6, 10, 11] listed).getD 2 false = false := H.notyets 4 hl (by kernel_rfl)
          obtain ⟨A9, c9, W9, hr, hk9⟩ := hj.first f2 LT.out (by omega)
          rw [← flags_put (m := 3) 0 rfl (by decide), ← slots_at (a := a) (d := 43) 0 rfl (by decide) (by rw [H.size]; exact of_decide_eq_true (by kernel_rfl))] at hk9
          exact step7_value (i := 3) rfl rfl (run_op_append rfl rfl t42 hr) hk9 trivial
        · intro listed a W H hj hl hd
          have t9 : a.tmps.getD 9 undef = .pointer (some ⟨g, 0, none⟩) := (H.old 9 (by kernel_rfl)).trans rfl
          exact step7_value (i := 4) rfl rfl (run_op_load rfl t9 (run_load_vb _ _ W (HV.out.since hj.below HGL.out))) (calm7 (fun fs vs x y h hl => InsA.later h hl) (by kernel_rfl) (by kernel_rfl) hj (later_refl _)) rfl
        · intro listed a W H hj hl hd
          have t44 : a.tmps.getD 44 undef = vblkV b := H.get 4 44 (by kernel_rfl) (dep_of hd 4 (by kernel_rfl)) (fun _ h => by cases h)
          have f2 : (flags [3, 5, 6, 10, 11] listed).getD 2 false = false := H.notyets 4 hl (by kernel_rfl)
          have hk9 := hj.build f2 HWF.out _ rfl
          rw [← flags_put (m := 5) 1 rfl (by decide), ← slots_at (a := a) (d := 45) 1 rfl (by decide) (by rw [H.size]; exact of_decide_eq_true (by kernel_rfl))] at hk9
          exact step7_value (i := 5) rfl rfl (run_op_build rfl (by simp only [List.map_toArray, List.map_cons, List.map_nil]; show (Instr.buildSlice 22 1 #[(0, a.tmps.getD 44 undef)]).run _ _ = _; rw [t44]; exact run_build_vb _ W)) hk9 trivial
        · intro listed a W H hj hl hd
          have d43 : listed.getD 3 false = true := dep_of hd 3 (by kernel_rfl)
          have d45 : listed.getD 5 false = true := dep_of hd 5 (by kernel_rfl)
          have f0 : (flags [3, 5, 6, 10, 11] listed).getD 0 false = true := done_true (dep_of hd 3 (by kernel_rfl))
          have f1 : (flags [3, 5, 6, 10, 11] listed).getD 1 false = true := done_true (dep_of hd 5 (by kernel_rfl))
          have f2 : (flags [3, 5, 6, 10, 11] listed).getD 2 false = false := hl
          have f3 : (flags [3, 5, 6, 10, 11] listed).getD 3 false = false := H.notyets 4 hl (by kernel_rfl)
          obtain ⟨A9, c9, W9, hr, hk9⟩ := hj.second f0 f1 f2 f3 (by omega)
          rw [← flags_put (m := 6) 2 rfl (by decide), ← slots_at (a := a) (d := 46) 2 rfl (by decide) (by rw [H.size]; exact of_decide_eq_true (by kernel_rfl))] at hk9
          exact step7_value (i := 6) rfl rfl (run_op_append rfl rfl rfl hr) hk9 trivial
        · intro listed a W H hj hl hd
          have t0 : a.tmps.getD 0 undef = .slice A n c := (H.old 0 (by kernel_rfl)).trans rfl
          exact step7_value (i := 7) rfl rfl (run_op_move rfl t0) (calm7 (fun fs vs x y h hl => InsA.later h hl) (by kernel_rfl) (by kernel_rfl) hj (later_refl _)) rfl
        · intro listed a W H hj hl hd
          have t1 : a.tmps.getD 1 undef = .int .i64 (k : Int) := (H.old 1 (by kernel_rfl)).trans rfl
          exact step7_value (i := 8) rfl rfl (run_op_move rfl t1) (calm7 (fun fs vs x y h hl => InsA.later h hl) (by kernel_rfl) (by kernel_rfl) hj (later_refl _)) rfl
        · intro listed a W H hj hl hd
          have t47 : a.tmps.getD 47 undef = .slice A n c := H.get 7 47 (by kernel_rfl) (dep_of hd 7 (by kernel_rfl)) (fun _ h => by cases h)
          have t48 : a.tmps.getD 48 undef = .int .i64 (k : Int) := H.get 8 48 (by kernel_rfl) (dep_of hd 8 (by kernel_rfl)) (fun _ h => by cases h)
          exact step7_value (i := 9) rfl rfl (run_op_slice rfl (by show (Instr.sliceAt 22 (a.tmps.getD 47 undef) (some (a.tmps.getD 48 undef)) none none).run _ _ = _; rw [t47, t48]; rw [run_sliceAt_slice (h := Try.underlying22)]; exact (vblkK.slice_from A n c k hkn W))) (calm7 (fun fs vs x y h hl => InsA.later h hl) (by kernel_rfl) (by kernel_rfl) hj (later_refl _)) rfl
        · intro listed a W H hj hl hd
          have d46 : listed.getD 6 false = true := dep_of hd 6 (by kernel_rfl)
          have t49 : a.tmps.getD 49 undef = .slice (if c = k then A else A.map (·.add (k * vblkK.k))) (n - k) (c - k) := H.get 9 49 (by kernel_rfl) (dep_of hd 9 (by kernel_rfl)) (fun _ h => by cases h)
          have f2 : (flags [3, 5, 6, 10, 11] listed).getD 2 false = true := done_true (dep_of hd 6 (by kernel_rfl))
          have f3 : (flags [3, 5, 6, 10, 11] listed).getD 3 false = false := hl
          have f4 : (flags [3, 5, 6, 10, 11] listed).getD 4 false = false := H.notyets 4 hl (by kernel_rfl)
          obtain ⟨A9, c9, W9, hr, hk9⟩ := hj.third f2 f3 f4 hkn LD.out (by omega)
          rw [← flags_put (m := 10) 3 rfl (by decide), ← slots_at (a := a) (d := 50) 3 rfl (by decide) (by rw [H.size]; exact of_decide_eq_true (by kernel_rfl))] at hk9
          exact step7_value (i := 10) rfl rfl (run_op_append rfl rfl t49 hr) hk9 trivial
        · intro listed a W H hj hl hd
          have d50 : listed.getD 10 false = true := dep_of hd 10 (by kernel_rfl)
          have hk9 := hj.assign
          rw [← flags_put (m := 11) 4 rfl (by decide), ← slots_at (a := a) (d := 10) 4 rfl (by decide) (by rw [H.size]; exact of_decide_eq_true (by kernel_rfl))] at hk9
          exact step7_value (i := 11) rfl rfl (run_op_assign rfl rfl) hk9 trivial
      · intro a WC hdef hsz hw hall hact
        obtain ⟨u, hu⟩ : ∃ u : Nat → Value, ∀ k, a.tmps.getD k undef = u k := ⟨_, fun _ => rfl⟩
        simp only [hu] at hact
        have hact' : a = ([40, 41, 42, 43, 44, 45, 46, 47, 48, 49, 50, 10] : List Nat).foldl (fun b k => b.put (some k) (u k)) _ := hact
        simp only [List.foldl] at hact'
        simp only [Act.put, List.setIfInBounds_toArray, List.set_cons_succ, List.set_cons_zero] at hact'
        have HAC := Lib.hid hact'
        have HX := Lib.hid hw
        clear hact hact' hall hdef hsz hw
        rw [HAC.out]
        have ea : u 10 = u 50 := by rw [← hu, ← hu]; exact HX.out.asg rfl
        obtain ⟨A6, c6, e6, r6⟩ := HX.out.a3 rfl
        have e59 : u 50 = .slice A6 (n + 1) c6 := by rw [← hu]; exact e6
        have HXB := Lib.hid HX.out.below
        have R6 := Lib.hid r6
        rw [ea, e59]
        clear HX e6 r6 ea e59 hu
        obtain ⟨ms, HMS⟩ : ∃ ms, Hid ((bs.take k ++ [b]) ++ bs.drop k = ms) := ⟨_, rfl⟩
        rw [HMS.out] at R6
        have HOM : Hid (ordV ms = ordV bs) := by rw [← HMS.out]; exact ord_more HC.out
        clear HMS
        have S1 := Lib.hid (below_chain HBE.out HXB.out)
        have HA1 := Lib.hid (HL.out.since HXB.out)
        have V1 := Lib.hid (HV.out.since HXB.out HGL.out)
        have HGC : Hid (g < WC.heap.size) := Nat.lt_of_lt_of_le HGS.out HXB.out.size
        clear HXB HL HV HBE HWE LT LD HGL HGS
        obtain ⟨o, HO⟩ : ∃ o, Hid (ordV bs = o) := ⟨_, rfl⟩
        rw [HO.out] at HOM
        have D1 := Lib.hid (vchoose_any A n c bs WC h40 HA1.out)
        rw [HO.out] at D1
        cases o with
        | nil =>
          have HF : Hid (firstV [] = (0, false)) := rfl
          rw [HF.out] at D1
          go_wp2_with fail
          refine D1.out.mono ?_
          rintro e w1 ⟨rfl, hb1⟩
          have B1 := hb1
          have D2 := Lib.hid (vchoose_any A6 (n + 1) c6 ms w1 (by omega) (R6.out.since B1.out).lie)
          rw [HOM.out, HF.out] at D2
          clear D1 hb1
          go_wp2_with fail
          refine D2.out.mono ?_
          rintro e w2 ⟨rfl, hb2⟩
          have B2 := Lib.hid (below_chain B1.out hb2.out)
          have D3 := Lib.hid (vorder_any A n c bs w2 h40 (HA1.out.since B2.out))
          rw [HO.out] at D3
          clear B1 D2 hb2
          go_wp2_with fail
          refine D3.out.mono ?_
          rintro e w3 ⟨A9, m9, c9, rfl, ho9, hb3⟩
          have B3 := Lib.hid (below_chain B2.out hb3.out)
          have hm9 := ho9.out.len
          rw [idsV_len] at hm9
          have D4 := Lib.hid (vorder_any A6 (n + 1) c6 ms w3 (by omega) (R6.out.since B3.out).lie)
          rw [HOM.out] at D4
          clear B2 D3 hb3
          obtain rfl : 0 = m9 := hm9
          go_wp2_with fail
          refine D4.out.mono ?_
          rintro e w4 ⟨A10, m10, c10, rfl, ho10, hb4⟩
          have B4 := Lib.hid (below_chain B3.out hb4.out)
          have O9 := Lib.hid (ho9.out.since hb4.out)
          have hm10 := ho10.out.len
          rw [idsV_len] at hm10
          obtain rfl : 0 = m10 := hm10
          have hsz : (0 : Nat) ≤ 9223372036854775807 := by omega
          have D5 := Lib.hid (sameints_yes A9 A10 _ c9 c10 (idsV []) w4 hsz O9.out.lie ho10.out.lie)
          clear B3 D4 hb4 ho9
          go_wp2_with fail
          refine D5.out.mono ?_
          rintro e w5 ⟨rfl, hb5⟩
          have B5 := Lib.hid (below_chain B4.out hb5)
          have V6 := V1.out.since B5.out HGC.out
          have v0 := V6.c0
          have v1 : w5.cell? ⟨g, 1, none⟩ = _ := V6.c1
          have v2 : w5.cell? ⟨g, 2, none⟩ = _ := V6.c2
          have v3 : w5.cell? ⟨g, 3, none⟩ = _ := V6.c3
          have v4 : w5.cell? ⟨g, 4, none⟩ = _ := V6.c4
          have D6 : Hid (Calls Try.prog 14 #[.int .i64 8, .agg #[.int .i64 b.id, .int .i64 b.cl, .int .i64 b.di, .int .i64 b.ot, .int .i64 b.we]] w5 (SaysI w5 0)) := by
            have := vgain_any 8 b w5 HWF.out
            rw [HGN.out] at this
            exact this
          clear B4 D5 hb5 O9 ho10 V6
          go_wp2_with fail
          refine D6.out.mono ?_
          rintro e w6 ⟨rfl, hb6⟩
          have B6 := Lib.hid (below_chain B5.out hb6.out)
          clear B5 D6 hb6 v0 v1 v2 v3 v4
          go_wp2_with fail
          refine (vawake_any w6).mono ?_
          rintro e w7 ⟨rfl, hb7⟩
          have S8 := Lib.hid (below_chain S1.out (below_chain B6.out hb7.out))
          go_wp2_with fail
          go_ret
          exact ⟨rfl, S8⟩
        | cons z zs =>
          have HF : Hid (firstV (z :: zs) = (z.id, true)) := rfl
          rw [HF.out] at D1
          go_wp2_with fail
          refine D1.out.mono ?_
          rintro e w1 ⟨rfl, hb1⟩
          have B1 := hb1
          have D2 := Lib.hid (vchoose_any A6 (n + 1) c6 ms w1 (by omega) (R6.out.since B1.out).lie)
          rw [HOM.out, HF.out] at D2
          clear D1 hb1
          go_wp2_with fail
          refine D2.out.mono ?_
          rintro e w2 ⟨rfl, hb2⟩
          have B2 := Lib.hid (below_chain B1.out hb2.out)
          have D3 := Lib.hid (vorder_any A n c bs w2 h40 (HA1.out.since B2.out))
          rw [HO.out] at D3
          clear B1 D2 hb2
          go_wp2_with fail
          refine D3.out.mono ?_
          rintro e w3 ⟨A9, m9, c9, rfl, ho9, hb3⟩
          have B3 := Lib.hid (below_chain B2.out hb3.out)
          have hm9 := ho9.out.len
          rw [idsV_len] at hm9
          have D4 := Lib.hid (vorder_any A6 (n + 1) c6 ms w3 (by omega) (R6.out.since B3.out).lie)
          rw [HOM.out] at D4
          clear B2 D3 hb3
          have h9 : (0 : Int) < (m9 : Int) := by rw [List.length_cons] at hm9; omega
          have h9d : decide ((0 : Int) < (m9 : Int)) = true := decide_eq_true h9
          have HM9 := Lib.hid hm9
          clear hm9
          go_wp2_with fail
          refine D4.out.mono ?_
          rintro e w4 ⟨A10, m10, c10, rfl, ho10, hb4⟩
          have B4 := Lib.hid (below_chain B3.out hb4.out)
          have O9 := Lib.hid (ho9.out.since hb4.out)
          have hm10 := ho10.out.len
          rw [idsV_len] at hm10
          obtain rfl : m9 = m10 := HM9.out.symm.trans hm10
          have hsz : m9 ≤ 9223372036854775807 := by
            have := ord_len (bs := bs) bs.length
            have e := H.out.len
            have e2 : (ordN bs bs.length).length = m9 := by rw [← HM9.out, ← HO.out]; rfl
            omega
          have D5 := Lib.hid (sameints_yes A9 A10 _ c9 c10 (idsV (z :: zs)) w4 hsz O9.out.lie ho10.out.lie)
          clear B3 D4 hb4 ho9 hm10
          go_wp2_with fail
          refine D5.out.mono ?_
          rintro e w5 ⟨rfl, hb5⟩
          have B5 := Lib.hid (below_chain B4.out hb5)
          have V6 := V1.out.since B5.out HGC.out
          have v0 := V6.c0
          have v1 : w5.cell? ⟨g, 1, none⟩ = _ := V6.c1
          have v2 : w5.cell? ⟨g, 2, none⟩ = _ := V6.c2
          have v3 : w5.cell? ⟨g, 3, none⟩ = _ := V6.c3
          have v4 : w5.cell? ⟨g, 4, none⟩ = _ := V6.c4
          have D6 : Hid (Calls Try.prog 14 #[.int .i64 8, .agg #[.int .i64 b.id, .int .i64 b.cl, .int .i64 b.di, .int .i64 b.ot, .int .i64 b.we]] w5 (SaysI w5 0)) := by
            have := vgain_any 8 b w5 HWF.out
            rw [HGN.out] at this
            exact this
          clear B4 D5 hb5 O9 ho10 V6
          go_wp2_with fail
          refine D6.out.mono ?_
          rintro e w6 ⟨rfl, hb6⟩
          have B6 := Lib.hid (below_chain B5.out hb6.out)
          clear B5 D6 hb6 v0 v1 v2 v3 v4
          go_wp2_with fail
          refine (vawake_any w6).mono ?_
          rintro e w7 ⟨rfl, hb7⟩
          have S8 := Lib.hid (below_chain S1.out (below_chain B6.out hb7.out))
          go_wp2_with fail
          go_ret
          exact ⟨rfl, S8⟩
    · obtain ⟨b, HBB⟩ : ∃ b : VB, Hid (b = ⟨7, 0, -1, 0, 0⟩) := ⟨_, rfl⟩
      have HC : Hid (cntV b = false) := by
        rw [HBB.out]
        exact (by show cntV _ = false; decide +kernel)
      have HWF : Hid (VBWf b) := by
        rw [HBB.out]
        exact ⟨by decide, by decide, by decide, by decide, by decide, by decide, by decide, by decide, by decide, by decide⟩
      have HGN : Hid (gainV 8 b = 0) := by show _ = _; unfold gainV; rw [HC.out]; rfl
      go_wp2_with fail
      obtain ⟨WE, HWE⟩ : ∃ W, Hid (W = (w.alloc (.cells #[.int .i64 7, .int .i64 0, .int .i64 (-1), .int .i64 0, .int .i64 0] 34)).drew) := ⟨_, rfl⟩
      rw [HG.out]
      have HBE : Hid (Below w.heap.size w WE) := by rw [HWE.out]; exact below_drewN (later_alloc _ _) 1
      have HV : Hid (VBAt WE ⟨g, 0, none⟩ b) := by
        have := vb_new w b #[.int .i64 7, .int .i64 0, .int .i64 (-1), .int .i64 0, .int .i64 0] (by rw [HBB.out]; rfl) 34
        rw [HWE.out, ← HG.out]; exact ⟨this.c0, this.c1, this.c2, this.c3, this.c4⟩
      have HGS : Hid (g < WE.heap.size) := by show _ < _; rw [HWE.out, ← HG.out]; show w.heap.size < (w.alloc _).heap.size; simp
      have HGL : Hid ((⟨g, 0, none⟩ : Addr).block < WE.heap.size) := HGS.out
      have HL : Hid (vblkK.Lie WE WE.heap.size A n bs) := H.out.since HBE.out
      have LT : Hid (vblkK.Lie WE WE.heap.size A k (bs.take k)) := HL.out.first hkn
      have LD : Hid (vblkK.Lie WE WE.heap.size (if c = k then A else A.map (·.add (k * vblkK.k))) (n - k) (bs.drop k)) := HL.out.rest hkn hc
      refine region_of_steps7 (by kernel_rfl) [some (.slice A n c), some (.int .i64 (k : Int)), some (.slice A k c), none, some (vblkV b), none, none, some (.slice A n c), some (.int .i64 (k : Int)), some (.slice (if c = k then A else A.map (·.add (k * vblkK.k))) (n - k) (c - k)), none, none] [3, 5, 6, 10, 11] [43, 45, 46, 50, 10] (InsA vblkK WE k n bs b) (by kernel_rfl) (by kernel_rfl) (by rw [← HWE.out]; exact InsA.start (by rw [slots_len]; rfl)) ?_ ?_
      · refine Steps7.cons ?_ (Steps7.cons ?_ (Steps7.cons ?_ (Steps7.cons ?_ (Steps7.cons ?_ (Steps7.cons ?_ (Steps7.cons ?_ (Steps7.cons ?_ (Steps7.cons ?_ (Steps7.cons ?_ (Steps7.cons ?_ (Steps7.cons ?_ (Steps7.nil))))))))))))
        · intro listed a W H hj hl hd
          have t0 : a.tmps.getD 0 undef = .slice A n c := (H.old 0 (by kernel_rfl)).trans rfl
          exact step7_value (i := 0) rfl rfl (run_op_move rfl t0) (calm7 (fun fs vs x y h hl => InsA.later h hl) (by kernel_rfl) (by kernel_rfl) hj (later_refl _)) rfl
        · intro listed a W H hj hl hd
          have t1 : a.tmps.getD 1 undef = .int .i64 (k : Int) := (H.old 1 (by kernel_rfl)).trans rfl
          exact step7_value (i := 1) rfl rfl (run_op_move rfl t1) (calm7 (fun fs vs x y h hl => InsA.later h hl) (by kernel_rfl) (by kernel_rfl) hj (later_refl _)) rfl
        · intro listed a W H hj hl hd
          have t40 : a.tmps.getD 40 undef = .slice A n c := H.get 0 40 (by kernel_rfl) (dep_of hd 0 (by kernel_rfl)) (fun _ h => by cases h)
          have t41 : a.tmps.getD 41 undef = .int .i64 (k : Int) := H.get 1 41 (by kernel_rfl) (dep_of hd 1 (by kernel_rfl)) (fun _ h => by cases h)
          exact step7_value (i := 2) rfl rfl (run_op_slice rfl (by show (Instr.sliceAt 22 (a.tmps.getD 40 undef) none (some (a.tmps.getD 41 undef)) none).run _ _ = _; rw [t40, t41]; rw [run_sliceAt_slice (h := Try.underlying22)]; exact (vblkK.slice_to A n c k hkn hc W))) (calm7 (fun fs vs x y h hl => InsA.later h hl) (by kernel_rfl) (by kernel_rfl) hj (later_refl _)) rfl
        · intro listed a W H hj hl hd
          have t42 : a.tmps.getD 42 undef = .slice A k c := H.get 2 42 (by kernel_rfl) (dep_of hd 2 (by kernel_rfl)) (fun _ h => by cases h)
          have f2 : (flags [3, 5, 6, 10, 11] listed).getD 2 false = false := H.notyets 4 hl (by kernel_rfl)
          obtain ⟨A9, c9, W9, hr, hk9⟩ := hj.first f2 LT.out (by omega)
          rw [← flags_put (m := 3) 0 rfl (by decide), ← slots_at (a := a) (d := 43) 0 rfl (by decide) (by rw [H.size]; exact of_decide_eq_true (by kernel_rfl))] at hk9
          exact step7_value (i := 3) rfl rfl (run_op_append rfl rfl t42 hr) hk9 trivial
        · intro listed a W H hj hl hd
          have t9 : a.tmps.getD 9 undef = .pointer (some ⟨g, 0, none⟩) := (H.old 9 (by kernel_rfl)).trans rfl
          exact step7_value (i := 4) rfl rfl (run_op_load rfl t9 (run_load_vb _ _ W (HV.out.since hj.below HGL.out))) (calm7 (fun fs vs x y h hl => InsA.later h hl) (by kernel_rfl) (by kernel_rfl) hj (later_refl _)) rfl
        · intro listed a W H hj hl hd
          have t44 : a.tmps.getD 44 undef = vblkV b := H.get 4 44 (by kernel_rfl) (dep_of hd 4 (by kernel_rfl)) (fun _ h => by cases h)
          have f2 : (flags [3, 5, 6, 10, 11] listed).getD 2 false = false := H.notyets 4 hl (by kernel_rfl)
          have hk9 := hj.build f2 HWF.out _ rfl
          rw [← flags_put (m := 5) 1 rfl (by decide), ← slots_at (a := a) (d := 45) 1 rfl (by decide) (by rw [H.size]; exact of_decide_eq_true (by kernel_rfl))] at hk9
          exact step7_value (i := 5) rfl rfl (run_op_build rfl (by simp only [List.map_toArray, List.map_cons, List.map_nil]; show (Instr.buildSlice 22 1 #[(0, a.tmps.getD 44 undef)]).run _ _ = _; rw [t44]; exact run_build_vb _ W)) hk9 trivial
        · intro listed a W H hj hl hd
          have d43 : listed.getD 3 false = true := dep_of hd 3 (by kernel_rfl)
          have d45 : listed.getD 5 false = true := dep_of hd 5 (by kernel_rfl)
          have f0 : (flags [3, 5, 6, 10, 11] listed).getD 0 false = true := done_true (dep_of hd 3 (by kernel_rfl))
          have f1 : (flags [3, 5, 6, 10, 11] listed).getD 1 false = true := done_true (dep_of hd 5 (by kernel_rfl))
          have f2 : (flags [3, 5, 6, 10, 11] listed).getD 2 false = false := hl
          have f3 : (flags [3, 5, 6, 10, 11] listed).getD 3 false = false := H.notyets 4 hl (by kernel_rfl)
          obtain ⟨A9, c9, W9, hr, hk9⟩ := hj.second f0 f1 f2 f3 (by omega)
          rw [← flags_put (m := 6) 2 rfl (by decide), ← slots_at (a := a) (d := 46) 2 rfl (by decide) (by rw [H.size]; exact of_decide_eq_true (by kernel_rfl))] at hk9
          exact step7_value (i := 6) rfl rfl (run_op_append rfl rfl rfl hr) hk9 trivial
        · intro listed a W H hj hl hd
          have t0 : a.tmps.getD 0 undef = .slice A n c := (H.old 0 (by kernel_rfl)).trans rfl
          exact step7_value (i := 7) rfl rfl (run_op_move rfl t0) (calm7 (fun fs vs x y h hl => InsA.later h hl) (by kernel_rfl) (by kernel_rfl) hj (later_refl _)) rfl
        · intro listed a W H hj hl hd
          have t1 : a.tmps.getD 1 undef = .int .i64 (k : Int) := (H.old 1 (by kernel_rfl)).trans rfl
          exact step7_value (i := 8) rfl rfl (run_op_move rfl t1) (calm7 (fun fs vs x y h hl => InsA.later h hl) (by kernel_rfl) (by kernel_rfl) hj (later_refl _)) rfl
        · intro listed a W H hj hl hd
          have t47 : a.tmps.getD 47 undef = .slice A n c := H.get 7 47 (by kernel_rfl) (dep_of hd 7 (by kernel_rfl)) (fun _ h => by cases h)
          have t48 : a.tmps.getD 48 undef = .int .i64 (k : Int) := H.get 8 48 (by kernel_rfl) (dep_of hd 8 (by kernel_rfl)) (fun _ h => by cases h)
          exact step7_value (i := 9) rfl rfl (run_op_slice rfl (by show (Instr.sliceAt 22 (a.tmps.getD 47 undef) (some (a.tmps.getD 48 undef)) none none).run _ _ = _; rw [t47, t48]; rw [run_sliceAt_slice (h := Try.underlying22)]; exact (vblkK.slice_from A n c k hkn W))) (calm7 (fun fs vs x y h hl => InsA.later h hl) (by kernel_rfl) (by kernel_rfl) hj (later_refl _)) rfl
        · intro listed a W H hj hl hd
          have d46 : listed.getD 6 false = true := dep_of hd 6 (by kernel_rfl)
          have t49 : a.tmps.getD 49 undef = .slice (if c = k then A else A.map (·.add (k * vblkK.k))) (n - k) (c - k) := H.get 9 49 (by kernel_rfl) (dep_of hd 9 (by kernel_rfl)) (fun _ h => by cases h)
          have f2 : (flags [3, 5, 6, 10, 11] listed).getD 2 false = true := done_true (dep_of hd 6 (by kernel_rfl))
          have f3 : (flags [3, 5, 6, 10, 11] listed).getD 3 false = false := hl
          have f4 : (flags [3, 5, 6, 10, 11] listed).getD 4 false = false := H.notyets 4 hl (by kernel_rfl)
          obtain ⟨A9, c9, W9, hr, hk9⟩ := hj.third f2 f3 f4 hkn LD.out (by omega)
          rw [← flags_put (m := 10) 3 rfl (by decide), ← slots_at (a := a) (d := 50) 3 rfl (by decide) (by rw [H.size]; exact of_decide_eq_true (by kernel_rfl))] at hk9
          exact step7_value (i := 10) rfl rfl (run_op_append rfl rfl t49 hr) hk9 trivial
        · intro listed a W H hj hl hd
          have d50 : listed.getD 10 false = true := dep_of hd 10 (by kernel_rfl)
          have hk9 := hj.assign
          rw [← flags_put (m := 11) 4 rfl (by decide), ← slots_at (a := a) (d := 10) 4 rfl (by decide) (by rw [H.size]; exact of_decide_eq_true (by kernel_rfl))] at hk9
          exact step7_value (i := 11) rfl rfl (run_op_assign rfl rfl) hk9 trivial
      · intro a WC hdef hsz hw hall hact
        obtain ⟨u, hu⟩ : ∃ u : Nat → Value, ∀ k, a.tmps.getD k undef = u k := ⟨_, fun _ => rfl⟩
        simp only [hu] at hact
        have hact' : a = ([40, 41, 42, 43, 44, 45, 46, 47, 48, 49, 50, 10] : List Nat).foldl (fun b k => b.put (some k) (u k)) _ := hact
        simp only [List.foldl] at hact'
        simp only [Act.put, List.setIfInBounds_toArray, List.set_cons_succ, List.set_cons_zero] at hact'
        have HAC := Lib.hid hact'
        have HX := Lib.hid hw
        clear hact hact' hall hdef hsz hw
        rw [HAC.out]
        have ea : u 10 = u 50 := by rw [← hu, ← hu]; exact HX.out.asg rfl
        obtain ⟨A6, c6, e6, r6⟩ := HX.out.a3 rfl
        have e59 : u 50 = .slice A6 (n + 1) c6 := by rw [← hu]; exact e6
        have HXB := Lib.hid HX.out.below
        have R6 := Lib.hid r6
        rw [ea, e59]
        clear HX e6 r6 ea e59 hu
        obtain ⟨ms, HMS⟩ : ∃ ms, Hid ((bs.take k ++ [b]) ++ bs.drop k = ms) := ⟨_, rfl⟩
        rw [HMS.out] at R6
        have HOM : Hid (ordV ms = ordV bs) := by rw [← HMS.out]; exact ord_more HC.out
        clear HMS
        have S1 := Lib.hid (below_chain HBE.out HXB.out)
        have HA1 := Lib.hid (HL.out.since HXB.out)
        have V1 := Lib.hid (HV.out.since HXB.out HGL.out)
        have HGC : Hid (g < WC.heap.size) := Nat.lt_of_lt_of_le HGS.out HXB.out.size
        clear HXB HL HV HBE HWE LT LD HGL HGS
        obtain ⟨o, HO⟩ : ∃ o, Hid (ordV bs = o) := ⟨_, rfl⟩
        rw [HO.out] at HOM
        have D1 := Lib.hid (vchoose_any A n c bs WC h40 HA1.out)
        rw [HO.out] at D1
        cases o with
        | nil =>
          have HF : Hid (firstV [] = (0, false)) := rfl
          rw [HF.out] at D1
          go_wp2_with fail
          refine D1.out.mono ?_
          rintro e w1 ⟨rfl, hb1⟩
          have B1 := hb1
          have D2 := Lib.hid (vchoose_any A6 (n + 1) c6 ms w1 (by omega) (R6.out.since B1.out).lie)
          rw [HOM.out, HF.out] at D2
          clear D1 hb1
          go_wp2_with fail
          refine D2.out.mono ?_
          rintro e w2 ⟨rfl, hb2⟩
          have B2 := Lib.hid (below_chain B1.out hb2.out)
          have D3 := Lib.hid (vorder_any A n c bs w2 h40 (HA1.out.since B2.out))
          rw [HO.out] at D3
          clear B1 D2 hb2
          go_wp2_with fail
          refine D3.out.mono ?_
          rintro e w3 ⟨A9, m9, c9, rfl, ho9, hb3⟩
          have B3 := Lib.hid (below_chain B2.out hb3.out)
          have hm9 := ho9.out.len
          rw [idsV_len] at hm9
          have D4 := Lib.hid (vorder_any A6 (n + 1) c6 ms w3 (by omega) (R6.out.since B3.out).lie)
          rw [HOM.out] at D4
          clear B2 D3 hb3
          obtain rfl : 0 = m9 := hm9
          go_wp2_with fail
          refine D4.out.mono ?_
          rintro e w4 ⟨A10, m10, c10, rfl, ho10, hb4⟩
          have B4 := Lib.hid (below_chain B3.out hb4.out)
          have O9 := Lib.hid (ho9.out.since hb4.out)
          have hm10 := ho10.out.len
          rw [idsV_len] at hm10
          obtain rfl : 0 = m10 := hm10
          have hsz : (0 : Nat) ≤ 9223372036854775807 := by omega
          have D5 := Lib.hid (sameints_yes A9 A10 _ c9 c10 (idsV []) w4 hsz O9.out.lie ho10.out.lie)
          clear B3 D4 hb4 ho9
          go_wp2_with fail
          refine D5.out.mono ?_
          rintro e w5 ⟨rfl, hb5⟩
          have B5 := Lib.hid (below_chain B4.out hb5)
          have V6 := V1.out.since B5.out HGC.out
          have v0 := V6.c0
          have v1 : w5.cell? ⟨g, 1, none⟩ = _ := V6.c1
          have v2 : w5.cell? ⟨g, 2, none⟩ = _ := V6.c2
          have v3 : w5.cell? ⟨g, 3, none⟩ = _ := V6.c3
          have v4 : w5.cell? ⟨g, 4, none⟩ = _ := V6.c4
          have D6 : Hid (Calls Try.prog 14 #[.int .i64 8, .agg #[.int .i64 b.id, .int .i64 b.cl, .int .i64 b.di, .int .i64 b.ot, .int .i64 b.we]] w5 (SaysI w5 0)) := by
            have := vgain_any 8 b w5 HWF.out
            rw [HGN.out] at this
            exact this
          clear B4 D5 hb5 O9 ho10 V6
          go_wp2_with fail
          refine D6.out.mono ?_
          rintro e w6 ⟨rfl, hb6⟩
          have B6 := Lib.hid (below_chain B5.out hb6.out)
          clear B5 D6 hb6 v0 v1 v2 v3 v4
          go_wp2_with fail
          refine (vawake_any w6).mono ?_
          rintro e w7 ⟨rfl, hb7⟩
          have S8 := Lib.hid (below_chain S1.out (below_chain B6.out hb7.out))
          go_wp2_with fail
          go_ret
          exact ⟨rfl, S8⟩
        | cons z zs =>
          have HF : Hid (firstV (z :: zs) = (z.id, true)) := rfl
          rw [HF.out] at D1
          go_wp2_with fail
          refine D1.out.mono ?_
          rintro e w1 ⟨rfl, hb1⟩
          have B1 := hb1
          have D2 := Lib.hid (vchoose_any A6 (n + 1) c6 ms w1 (by omega) (R6.out.since B1.out).lie)
          rw [HOM.out, HF.out] at D2
          clear D1 hb1
          go_wp2_with fail
          refine D2.out.mono ?_
          rintro e w2 ⟨rfl, hb2⟩
          have B2 := Lib.hid (below_chain B1.out hb2.out)
          have D3 := Lib.hid (vorder_any A n c bs w2 h40 (HA1.out.since B2.out))
          rw [HO.out] at D3
          clear B1 D2 hb2
          go_wp2_with fail
          refine D3.out.mono ?_
          rintro e w3 ⟨A9, m9, c9, rfl, ho9, hb3⟩
          have B3 := Lib.hid (below_chain B2.out hb3.out)
          have hm9 := ho9.out.len
          rw [idsV_len] at hm9
          have D4 := Lib.hid (vorder_any A6 (n + 1) c6 ms w3 (by omega) (R6.out.since B3.out).lie)
          rw [HOM.out] at D4
          clear B2 D3 hb3
          have h9 : (0 : Int) < (m9 : Int) := by rw [List.length_cons] at hm9; omega
          have h9d : decide ((0 : Int) < (m9 : Int)) = true := decide_eq_true h9
          have HM9 := Lib.hid hm9
          clear hm9
          go_wp2_with fail
          refine D4.out.mono ?_
          rintro e w4 ⟨A10, m10, c10, rfl, ho10, hb4⟩
          have B4 := Lib.hid (below_chain B3.out hb4.out)
          have O9 := Lib.hid (ho9.out.since hb4.out)
          have hm10 := ho10.out.len
          rw [idsV_len] at hm10
          obtain rfl : m9 = m10 := HM9.out.symm.trans hm10
          have hsz : m9 ≤ 9223372036854775807 := by
            have := ord_len (bs := bs) bs.length
            have e := H.out.len
            have e2 : (ordN bs bs.length).length = m9 := by rw [← HM9.out, ← HO.out]; rfl
            omega
          have D5 := Lib.hid (sameints_yes A9 A10 _ c9 c10 (idsV (z :: zs)) w4 hsz O9.out.lie ho10.out.lie)
          clear B3 D4 hb4 ho9 hm10
          go_wp2_with fail
          refine D5.out.mono ?_
          rintro e w5 ⟨rfl, hb5⟩
          have B5 := Lib.hid (below_chain B4.out hb5)
          have V6 := V1.out.since B5.out HGC.out
          have v0 := V6.c0
          have v1 : w5.cell? ⟨g, 1, none⟩ = _ := V6.c1
          have v2 : w5.cell? ⟨g, 2, none⟩ = _ := V6.c2
          have v3 : w5.cell? ⟨g, 3, none⟩ = _ := V6.c3
          have v4 : w5.cell? ⟨g, 4, none⟩ = _ := V6.c4
          have D6 : Hid (Calls Try.prog 14 #[.int .i64 8, .agg #[.int .i64 b.id, .int .i64 b.cl, .int .i64 b.di, .int .i64 b.ot, .int .i64 b.we]] w5 (SaysI w5 0)) := by
            have := vgain_any 8 b w5 HWF.out
            rw [HGN.out] at this
            exact this
          clear B4 D5 hb5 O9 ho10 V6
          go_wp2_with fail
          refine D6.out.mono ?_
          rintro e w6 ⟨rfl, hb6⟩
          have B6 := Lib.hid (below_chain B5.out hb6.out)
          clear B5 D6 hb6 v0 v1 v2 v3 v4
          go_wp2_with fail
          refine (vawake_any w6).mono ?_
          rintro e w7 ⟨rfl, hb7⟩
          have S8 := Lib.hid (below_chain S1.out (below_chain B6.out hb7.out))
          go_wp2_with fail
          go_ret
          exact ⟨rfl, S8⟩
    · obtain ⟨b, HBB⟩ : ∃ b : VB, Hid (b = ⟨7, 0, 0, 0, 1073741825⟩) := ⟨_, rfl⟩
      have HC : Hid (cntV b = false) := by
        rw [HBB.out]
        exact (by show cntV _ = false; decide +kernel)
      have HWF : Hid (VBWf b) := by
        rw [HBB.out]
        exact ⟨by decide, by decide, by decide, by decide, by decide, by decide, by decide, by decide, by decide, by decide⟩
      have HGN : Hid (gainV 8 b = 0) := by show _ = _; unfold gainV; rw [HC.out]; rfl
      go_wp2_with fail
      obtain ⟨WE, HWE⟩ : ∃ W, Hid (W = (w.alloc (.cells #[.int .i64 7, .int .i64 0, .int .i64 0, .int .i64 0, .int .i64 1073741825] 34)).drew) := ⟨_, rfl⟩
      rw [HG.out]
      have HBE : Hid (Below w.heap.size w WE) := by rw [HWE.out]; exact below_drewN (later_alloc _ _) 1
      have HV : Hid (VBAt WE ⟨g, 0, none⟩ b) := by
        have := vb_new w b #[.int .i64 7, .int .i64 0, .int .i64 0, .int .i64 0, .int .i64 1073741825] (by rw [HBB.out]; rfl) 34
        rw [HWE.out, ← HG.out]; exact ⟨this.c0, this.c1, this.c2, this.c3, this.c4⟩
      have HGS : Hid (g < WE.heap.size) := by show _ < _; rw [HWE.out, ← HG.out]; show w.heap.size < (w.alloc _).heap.size; simp
      have HGL : Hid ((⟨g, 0, none⟩ : Addr).block < WE.heap.size) := HGS.out
      have HL : Hid (vblkK.Lie WE WE.heap.size A n bs) := H.out.since HBE.out
      have LT : Hid (vblkK.Lie WE WE.heap.size A k (bs.take k)) := HL.out.first hkn
      have LD : Hid (vblkK.Lie WE WE.heap.size (if c = k then A else A.map (·.add (k * vblkK.k))) (n - k) (bs.drop k)) := HL.out.rest hkn hc
      refine region_of_steps7 (by kernel_rfl) [some (.slice A n c), some (.int .i64 (k : Int)), some (.slice A k c), none, some (vblkV b), none, none, some (.slice A n c), some (.int .i64 (k : Int)), some (.slice (if c = k then A else A.map (·.add (k * vblkK.k))) (n - k) (c - k)), none, none] [3, 5, 6, 10, 11] [43, 45, 46, 50, 10] (InsA vblkK WE k n bs b) (by kernel_rfl) (by kernel_rfl) (by rw [← HWE.out]; exact InsA.start (by rw [slots_len]; rfl)) ?_ ?_
      · refine Steps7.cons ?_ (Steps7.cons ?_ (Steps7.cons ?_ (Steps7.cons ?_ (Steps7.cons ?_ (Steps7.cons ?_ (Steps7.cons ?_ (Steps7.cons ?_ (Steps7.cons ?_ (Steps7.cons ?_ (Steps7.cons ?_ (Steps7.cons ?_ (Steps7.nil))))))))))))
        · intro listed a W H hj hl hd
          have t0 : a.tmps.getD 0 undef = .slice A n c := (H.old 0 (by kernel_rfl)).trans rfl
          exact step7_value (i := 0) rfl rfl (run_op_move rfl t0) (calm7 (fun fs vs x y h hl => InsA.later h hl) (by kernel_rfl) (by kernel_rfl) hj (later_refl _)) rfl
        · intro listed a W H hj hl hd
          have t1 : a.tmps.getD 1 undef = .int .i64 (k : Int) := (H.old 1 (by kernel_rfl)).trans rfl
          exact step7_value (i := 1) rfl rfl (run_op_move rfl t1) (calm7 (fun fs vs x y h hl => InsA.later h hl) (by kernel_rfl) (by kernel_rfl) hj (later_refl _)) rfl
        · intro listed a W H hj hl hd
          have t40 : a.tmps.getD 40 undef = .slice A n c := H.get 0 40 (by kernel_rfl) (dep_of hd 0 (by kernel_rfl)) (fun _ h => by cases h)
          have t41 : a.tmps.getD 41 undef = .int .i64 (k : Int) := H.get 1 41 (by kernel_rfl) (dep_of hd 1 (by kernel_rfl)) (fun _ h => by cases h)
          exact step7_value (i := 2) rfl rfl (run_op_slice rfl (by show (Instr.sliceAt 22 (a.tmps.getD 40 undef) none (some (a.tmps.getD 41 undef)) none).run _ _ = _; rw [t40, t41]; rw [run_sliceAt_slice (h := Try.underlying22)]; exact (vblkK.slice_to A n c k hkn hc W))) (calm7 (fun fs vs x y h hl => InsA.later h hl) (by kernel_rfl) (by kernel_rfl) hj (later_refl _)) rfl
        · intro listed a W H hj hl hd
          have t42 : a.tmps.getD 42 undef = .slice A k c := H.get 2 42 (by kernel_rfl) (dep_of hd 2 (by kernel_rfl)) (fun _ h => by cases h)
          have f2 : (flags [3, 5, 6, 10, 11] listed).getD 2 false = false := H.notyets 4 hl (by kernel_rfl)
          obtain ⟨A9, c9, W9, hr, hk9⟩ := hj.first f2 LT.out (by omega)
          rw [← flags_put (m := 3) 0 rfl (by decide), ← slots_at (a := a) (d := 43) 0 rfl (by decide) (by rw [H.size]; exact of_decide_eq_true (by kernel_rfl))] at hk9
          exact step7_value (i := 3) rfl rfl (run_op_append rfl rfl t42 hr) hk9 trivial
        · intro listed a W H hj hl hd
          have t9 : a.tmps.getD 9 undef = .pointer (some ⟨g, 0, none⟩) := (H.old 9 (by kernel_rfl)).trans rfl
          exact step7_value (i := 4) rfl rfl (run_op_load rfl t9 (run_load_vb _ _ W (HV.out.since hj.below HGL.out))) (calm7 (fun fs vs x y h hl => InsA.later h hl) (by kernel_rfl) (by kernel_rfl) hj (later_refl _)) rfl
        · intro listed a W H hj hl hd
          have t44 : a.tmps.getD 44 undef = vblkV b := H.get 4 44 (by kernel_rfl) (dep_of hd 4 (by kernel_rfl)) (fun _ h => by cases h)
          have f2 : (flags [3, 5, 6, 10, 11] listed).getD 2 false = false := H.notyets 4 hl (by kernel_rfl)
          have hk9 := hj.build f2 HWF.out _ rfl
          rw [← flags_put (m := 5) 1 rfl (by decide), ← slots_at (a := a) (d := 45) 1 rfl (by decide) (by rw [H.size]; exact of_decide_eq_true (by kernel_rfl))] at hk9
          exact step7_value (i := 5) rfl rfl (run_op_build rfl (by simp only [List.map_toArray, List.map_cons, List.map_nil]; show (Instr.buildSlice 22 1 #[(0, a.tmps.getD 44 undef)]).run _ _ = _; rw [t44]; exact run_build_vb _ W)) hk9 trivial
        · intro listed a W H hj hl hd
          have d43 : listed.getD 3 false = true := dep_of hd 3 (by kernel_rfl)
          have d45 : listed.getD 5 false = true := dep_of hd 5 (by kernel_rfl)
          have f0 : (flags [3, 5, 6, 10, 11] listed).getD 0 false = true := done_true (dep_of hd 3 (by kernel_rfl))
          have f1 : (flags [3, 5, 6, 10, 11] listed).getD 1 false = true := done_true (dep_of hd 5 (by kernel_rfl))
          have f2 : (flags [3, 5, 6, 10, 11] listed).getD 2 false = false := hl
          have f3 : (flags [3, 5, 6, 10, 11] listed).getD 3 false = false := H.notyets 4 hl (by kernel_rfl)
          obtain ⟨A9, c9, W9, hr, hk9⟩ := hj.second f0 f1 f2 f3 (by omega)
          rw [← flags_put (m := 6) 2 rfl (by decide), ← slots_at (a := a) (d := 46) 2 rfl (by decide) (by rw [H.size]; exact of_decide_eq_true (by kernel_rfl))] at hk9
          exact step7_value (i := 6) rfl rfl (run_op_append rfl rfl rfl hr) hk9 trivial
        · intro listed a W H hj hl hd
          have t0 : a.tmps.getD 0 undef = .slice A n c := (H.old 0 (by kernel_rfl)).trans rfl
          exact step7_value (i := 7) rfl rfl (run_op_move rfl t0) (calm7 (fun fs vs x y h hl => InsA.later h hl) (by kernel_rfl) (by kernel_rfl) hj (later_refl _)) rfl
        · intro listed a W H hj hl hd
          have t1 : a.tmps.getD 1 undef = .int .i64 (k : Int) := (H.old 1 (by kernel_rfl)).trans rfl
          exact step7_value (i := 8) rfl rfl (run_op_move rfl t1) (calm7 (fun fs vs x y h hl => InsA.later h hl) (by kernel_rfl) (by kernel_rfl) hj (later_refl _)) rfl
        · intro listed a W H hj hl hd
          have t47 : a.tmps.getD 47 undef = .slice A n c := H.get 7 47 (by kernel_rfl) (dep_of hd 7 (by kernel_rfl)) (fun _ h => by cases h)
          have t48 : a.tmps.getD 48 undef = .int .i64 (k : Int) := H.get 8 48 (by kernel_rfl) (dep_of hd 8 (by kernel_rfl)) (fun _ h => by cases h)
          exact step7_value (i := 9) rfl rfl (run_op_slice rfl (by show (Instr.sliceAt 22 (a.tmps.getD 47 undef) (some (a.tmps.getD 48 undef)) none none).run _ _ = _; rw [t47, t48]; rw [run_sliceAt_slice (h := Try.underlying22)]; exact (vblkK.slice_from A n c k hkn W))) (calm7 (fun fs vs x y h hl => InsA.later h hl) (by kernel_rfl) (by kernel_rfl) hj (later_refl _)) rfl
        · intro listed a W H hj hl hd
          have d46 : listed.getD 6 false = true := dep_of hd 6 (by kernel_rfl)
          have t49 : a.tmps.getD 49 undef = .slice (if c = k then A else A.map (·.add (k * vblkK.k))) (n - k) (c - k) := H.get 9 49 (by kernel_rfl) (dep_of hd 9 (by kernel_rfl)) (fun _ h => by cases h)
          have f2 : (flags [3, 5, 6, 10, 11] listed).getD 2 false = true := done_true (dep_of hd 6 (by kernel_rfl))
          have f3 : (flags [3, 5, 6, 10, 11] listed).getD 3 false = false := hl
          have f4 : (flags [3, 5, 6, 10, 11] listed).getD 4 false = false := H.notyets 4 hl (by kernel_rfl)
          obtain ⟨A9, c9, W9, hr, hk9⟩ := hj.third f2 f3 f4 hkn LD.out (by omega)
          rw [← flags_put (m := 10) 3 rfl (by decide), ← slots_at (a := a) (d := 50) 3 rfl (by decide) (by rw [H.size]; exact of_decide_eq_true (by kernel_rfl))] at hk9
          exact step7_value (i := 10) rfl rfl (run_op_append rfl rfl t49 hr) hk9 trivial
        · intro listed a W H hj hl hd
          have d50 : listed.getD 10 false = true := dep_of hd 10 (by kernel_rfl)
          have hk9 := hj.assign
          rw [← flags_put (m := 11) 4 rfl (by decide), ← slots_at (a := a) (d := 10) 4 rfl (by decide) (by rw [H.size]; exact of_decide_eq_true (by kernel_rfl))] at hk9
          exact step7_value (i := 11) rfl rfl (run_op_assign rfl rfl) hk9 trivial
      · intro a WC hdef hsz hw hall hact
        obtain ⟨u, hu⟩ : ∃ u : Nat → Value, ∀ k, a.tmps.getD k undef = u k := ⟨_, fun _ => rfl⟩
        simp only [hu] at hact
        have hact' : a = ([40, 41, 42, 43, 44, 45, 46, 47, 48, 49, 50, 10] : List Nat).foldl (fun b k => b.put (some k) (u k)) _ := hact
        simp only [List.foldl] at hact'
        simp only [Act.put, List.setIfInBounds_toArray, List.set_cons_succ, List.set_cons_zero] at hact'
        have HAC := Lib.hid hact'
        have HX := Lib.hid hw
        clear hact hact' hall hdef hsz hw
        rw [HAC.out]
        have ea : u 10 = u 50 := by rw [← hu, ← hu]; exact HX.out.asg rfl
        obtain ⟨A6, c6, e6, r6⟩ := HX.out.a3 rfl
        have e59 : u 50 = .slice A6 (n + 1) c6 := by rw [← hu]; exact e6
        have HXB := Lib.hid HX.out.below
        have R6 := Lib.hid r6
        rw [ea, e59]
        clear HX e6 r6 ea e59 hu
        obtain ⟨ms, HMS⟩ : ∃ ms, Hid ((bs.take k ++ [b]) ++ bs.drop k = ms) := ⟨_, rfl⟩
        rw [HMS.out] at R6
        have HOM : Hid (ordV ms = ordV bs) := by rw [← HMS.out]; exact ord_more HC.out
        clear HMS
        have S1 := Lib.hid (below_chain HBE.out HXB.out)
        have HA1 := Lib.hid (HL.out.since HXB.out)
        have V1 := Lib.hid (HV.out.since HXB.out HGL.out)
        have HGC : Hid (g < WC.heap.size) := Nat.lt_of_lt_of_le HGS.out HXB.out.size
        clear HXB HL HV HBE HWE LT LD HGL HGS
        obtain ⟨o, HO⟩ : ∃ o, Hid (ordV bs = o) := ⟨_, rfl⟩
        rw [HO.out] at HOM
        have D1 := Lib.hid (vchoose_any A n c bs WC h40 HA1.out)
        rw [HO.out] at D1
        cases o with
        | nil =>
          have HF : Hid (firstV [] = (0, false)) := rfl
          rw [HF.out] at D1
          go_wp2_with fail
          refine D1.out.mono ?_
          rintro e w1 ⟨rfl, hb1⟩
          have B1 := hb1
          have D2 := Lib.hid (vchoose_any A6 (n + 1) c6 ms w1 (by omega) (R6.out.since B1.out).lie)
          rw [HOM.out, HF.out] at D2
          clear D1 hb1
          go_wp2_with fail
          refine D2.out.mono ?_
          rintro e w2 ⟨rfl, hb2⟩
          have B2 := Lib.hid (below_chain B1.out hb2.out)
          have D3 := Lib.hid (vorder_any A n c bs w2 h40 (HA1.out.since B2.out))
          rw [HO.out] at D3
          clear B1 D2 hb2
          go_wp2_with fail
          refine D3.out.mono ?_
          rintro e w3 ⟨A9, m9, c9, rfl, ho9, hb3⟩
          have B3 := Lib.hid (below_chain B2.out hb3.out)
          have hm9 := ho9.out.len
          rw [idsV_len] at hm9
          have D4 := Lib.hid (vorder_any A6 (n + 1) c6 ms w3 (by omega) (R6.out.since B3.out).lie)
          rw [HOM.out] at D4
          clear B2 D3 hb3
          obtain rfl : 0 = m9 := hm9
          go_wp2_with fail
          refine D4.out.mono ?_
          rintro e w4 ⟨A10, m10, c10, rfl, ho10, hb4⟩
          have B4 := Lib.hid (below_chain B3.out hb4.out)
          have O9 := Lib.hid (ho9.out.since hb4.out)
          have hm10 := ho10.out.len
          rw [idsV_len] at hm10
          obtain rfl : 0 = m10 := hm10
          have hsz : (0 : Nat) ≤ 9223372036854775807 := by omega
          have D5 := Lib.hid (sameints_yes A9 A10 _ c9 c10 (idsV []) w4 hsz O9.out.lie ho10.out.lie)
          clear B3 D4 hb4 ho9
          go_wp2_with fail
          refine D5.out.mono ?_
          rintro e w5 ⟨rfl, hb5⟩
          have B5 := Lib.hid (below_chain B4.out hb5)
          have V6 := V1.out.since B5.out HGC.out
          have v0 := V6.c0
          have v1 : w5.cell? ⟨g, 1, none⟩ = _ := V6.c1
          have v2 : w5.cell? ⟨g, 2, none⟩ = _ := V6.c2
          have v3 : w5.cell? ⟨g, 3, none⟩ = _ := V6.c3
          have v4 : w5.cell? ⟨g, 4, none⟩ = _ := V6.c4
          have D6 : Hid (Calls Try.prog 14 #[.int .i64 8, .agg #[.int .i64 b.id, .int .i64 b.cl, .int .i64 b.di, .int .i64 b.ot, .int .i64 b.we]] w5 (SaysI w5 0)) := by
            have := vgain_any 8 b w5 HWF.out
            rw [HGN.out] at this
            exact this
          clear B4 D5 hb5 O9 ho10 V6
          go_wp2_with fail
          refine D6.out.mono ?_
          rintro e w6 ⟨rfl, hb6⟩
          have B6 := Lib.hid (below_chain B5.out hb6.out)
          clear B5 D6 hb6 v0 v1 v2 v3 v4
          go_wp2_with fail
          refine (vawake_any w6).mono ?_
          rintro e w7 ⟨rfl, hb7⟩
          have S8 := Lib.hid (below_chain S1.out (below_chain B6.out hb7.out))
          go_wp2_with fail
          go_ret
          exact ⟨rfl, S8⟩
        | cons z zs =>
          have HF : Hid (firstV (z :: zs) = (z.id, true)) := rfl
          rw [HF.out] at D1
          go_wp2_with fail
          refine D1.out.mono ?_
          rintro e w1 ⟨rfl, hb1⟩
          have B1 := hb1
          have D2 := Lib.hid (vchoose_any A6 (n + 1) c6 ms w1 (by omega) (R6.out.since B1.out).lie)
          rw [HOM.out, HF.out] at D2
          clear D1 hb1
          go_wp2_with fail
          refine D2.out.mono ?_
          rintro e w2 ⟨rfl, hb2⟩
          have B2 := Lib.hid (below_chain B1.out hb2.out)
          have D3 := Lib.hid (vorder_any A n c bs w2 h40 (HA1.out.since B2.out))
          rw [HO.out] at D3
          clear B1 D2 hb2
          go_wp2_with fail
          refine D3.out.mono ?_
          rintro e w3 ⟨A9, m9, c9, rfl, ho9, hb3⟩
          have B3 := Lib.hid (below_chain B2.out hb3.out)
          have hm9 := ho9.out.len
          rw [idsV_len] at hm9
          have D4 := Lib.hid (vorder_any A6 (n + 1) c6 ms w3 (by omega) (R6.out.since B3.out).lie)
          rw [HOM.out] at D4
          clear B2 D3 hb3
          have h9 : (0 : Int) < (m9 : Int) := by rw [List.length_cons] at hm9; omega
          have h9d : decide ((0 : Int) < (m9 : Int)) = true := decide_eq_true h9
          have HM9 := Lib.hid hm9
          clear hm9
          go_wp2_with fail
          refine D4.out.mono ?_
          rintro e w4 ⟨A10, m10, c10, rfl, ho10, hb4⟩
          have B4 := Lib.hid (below_chain B3.out hb4.out)
          have O9 := Lib.hid (ho9.out.since hb4.out)
          have hm10 := ho10.out.len
          rw [idsV_len] at hm10
          obtain rfl : m9 = m10 := HM9.out.symm.trans hm10
          have hsz : m9 ≤ 9223372036854775807 := by
            have := ord_len (bs := bs) bs.length
            have e := H.out.len
            have e2 : (ordN bs bs.length).length = m9 := by rw [← HM9.out, ← HO.out]; rfl
            omega
          have D5 := Lib.hid (sameints_yes A9 A10 _ c9 c10 (idsV (z :: zs)) w4 hsz O9.out.lie ho10.out.lie)
          clear B3 D4 hb4 ho9 hm10
          go_wp2_with fail
          refine D5.out.mono ?_
          rintro e w5 ⟨rfl, hb5⟩
          have B5 := Lib.hid (below_chain B4.out hb5)
          have V6 := V1.out.since B5.out HGC.out
          have v0 := V6.c0
          have v1 : w5.cell? ⟨g, 1, none⟩ = _ := V6.c1
          have v2 : w5.cell? ⟨g, 2, none⟩ = _ := V6.c2
          have v3 : w5.cell? ⟨g, 3, none⟩ = _ := V6.c3
          have v4 : w5.cell? ⟨g, 4, none⟩ = _ := V6.c4
          have D6 : Hid (Calls Try.prog 14 #[.int .i64 8, .agg #[.int .i64 b.id, .int .i64 b.cl, .int .i64 b.di, .int .i64 b.ot, .int .i64 b.we]] w5 (SaysI w5 0)) := by
            have := vgain_any 8 b w5 HWF.out
            rw [HGN.out] at this
            exact this
          clear B4 D5 hb5 O9 ho10 V6
          go_wp2_with fail
          refine D6.out.mono ?_
          rintro e w6 ⟨rfl, hb6⟩
          have B6 := Lib.hid (below_chain B5.out hb6.out)
          clear B5 D6 hb6 v0 v1 v2 v3 v4
          go_wp2_with fail
          refine (vawake_any w6).mono ?_
          rintro e w7 ⟨rfl, hb7⟩
          have S8 := Lib.hid (below_chain S1.out (below_chain B6.out hb7.out))
          go_wp2_with fail
          go_ret
          exact ⟨rfl, S8⟩
    · obtain ⟨b, HBB⟩ : ∃ b : VB, Hid (b = ⟨-7, 0, 0, 0, 0⟩) := ⟨_, rfl⟩
      have HC : Hid (cntV b = false) := by
        rw [HBB.out]
        exact (by show cntV _ = false; decide +kernel)
      have HWF : Hid (VBWf b) := by
        rw [HBB.out]
        exact ⟨by decide, by decide, by decide, by decide, by decide, by decide, by decide, by decide, by decide, by decide⟩
      have HGN : Hid (gainV 8 b = 0) := by show _ = _; unfold gainV; rw [HC.out]; rfl
      go_wp2_with fail
      obtain ⟨WE, HWE⟩ : ∃ W, Hid (W = (w.alloc (.cells #[.int .i64 (-7), .int .i64 0, .int .i64 0, .int .i64 0, .int .i64 0] 34)).drew) := ⟨_, rfl⟩
      rw [HG.out]
      have HBE : Hid (Below w.heap.size w WE) := by rw [HWE.out]; exact below_drewN (later_alloc _ _) 1
      have HV : Hid (VBAt WE ⟨g, 0, none⟩ b) := by
        have := vb_new w b #[.int .i64 (-7), .int .i64 0, .int .i64 0, .int .i64 0, .int .i64 0] (by rw [HBB.out]; rfl) 34
        rw [HWE.out, ← HG.out]; exact ⟨this.c0, this.c1, this.c2, this.c3, this.c4⟩
      have HGS : Hid (g < WE.heap.size) := by show _ < _; rw [HWE.out, ← HG.out]; show w.heap.size < (w.alloc _).heap.size; simp
      have HGL : Hid ((⟨g, 0, none⟩ : Addr).block < WE.heap.size) := HGS.out
      have HL : Hid (vblkK.Lie WE WE.heap.size A n bs) := H.out.since HBE.out
      have LT : Hid (vblkK.Lie WE WE.heap.size A k (bs.take k)) := HL.out.first hkn
      have LD : Hid (vblkK.Lie WE WE.heap.size (if c = k then A else A.map (·.add (k * vblkK.k))) (n - k) (bs.drop k)) := HL.out.rest hkn hc
      refine region_of_steps7 (by kernel_rfl) [some (.slice A n c), some (.int .i64 (k : Int)), some (.slice A k c), none, some (vblkV b), none, none, some (.slice A n c), some (.int .i64 (k : Int)), some (.slice (if c = k then A else A.map (·.add (k * vblkK.k))) (n - k) (c - k)), none, none] [3, 5, 6, 10, 11] [43, 45, 46, 50, 10] (InsA vblkK WE k n bs b) (by kernel_rfl) (by kernel_rfl) (by rw [← HWE.out]; exact InsA.start (by rw [slots_len]; rfl)) ?_ ?_
      · refine Steps7.cons ?_ (Steps7.cons ?_ (Steps7.cons ?_ (Steps7.cons ?_ (Steps7.cons ?_ (Steps7.cons ?_ (Steps7.cons ?_ (Steps7.cons ?_ (Steps7.cons ?_ (Steps7.cons ?_ (Steps7.cons ?_ (Steps7.cons ?_ (Steps7.nil))))))))))))
        · intro listed a W H hj hl hd
          have t0 : a.tmps.getD 0 undef = .slice A n c := (H.old 0 (by kernel_rfl)).trans rfl
          exact step7_value (i := 0) rfl rfl (run_op_move rfl t0) (calm7 (fun fs vs x y h hl => InsA.later h hl) (by kernel_rfl) (by kernel_rfl) hj (later_refl _)) rfl
        · intro listed a W H hj hl hd
          have t1 : a.tmps.getD 1 undef = .int .i64 (k : Int) := (H.old 1 (by kernel_rfl)).trans rfl
          exact step7_value (i := 1) rfl rfl (run_op_move rfl t1) (calm7 (fun fs vs x y h hl => InsA.later h hl) (by kernel_rfl) (by kernel_rfl) hj (later_refl _)) rfl
        · intro listed a W H hj hl hd
          have t40 : a.tmps.getD 40 undef = .slice A n c := H.get 0 40 (by kernel_rfl) (dep_of hd 0 (by kernel_rfl)) (fun _ h => by cases h)
          have t41 : a.tmps.getD 41 undef = .int .i64 (k : Int) := H.get 1 41 (by kernel_rfl) (dep_of hd 1 (by kernel_rfl)) (fun _ h => by cases h)
          exact step7_value (i := 2) rfl rfl (run_op_slice rfl (by show (Instr.sliceAt 22 (a.tmps.getD 40 undef) none (some (a.tmps.getD 41 undef)) none).run _ _ = _; rw [t40, t41]; rw [run_sliceAt_slice (h := Try.underlying22)]; exact (vblkK.slice_to A n c k hkn hc W))) (calm7 (fun fs vs x y h hl => InsA.later h hl) (by kernel_rfl) (by kernel_rfl) hj (later_refl _)) rfl
        · intro listed a W H hj hl hd
          have t42 : a.tmps.getD 42 undef = .slice A k c := H.get 2 42 (by kernel_rfl) (dep_of hd 2 (by kernel_rfl)) (fun _ h => by cases h)
          have f2 : (flags [3, 5, 6, 10, 11] listed).getD 2 false = false := H.notyets 4 hl (by kernel_rfl)
          obtain ⟨A9, c9, W9, hr, hk9⟩ := hj.first f2 LT.out (by omega)
          rw [← flags_put (m := 3) 0 rfl (by decide), ← slots_at (a := a) (d := 43) 0 rfl (by decide) (by rw [H.size]; exact of_decide_eq_true (by kernel_rfl))] at hk9
          exact step7_value (i := 3) rfl rfl (run_op_append rfl rfl t42 hr) hk9 trivial
        · intro listed a W H hj hl hd
          have t9 : a.tmps.getD 9 undef = .pointer (some ⟨g, 0, none⟩) := (H.old 9 (by kernel_rfl)).trans rfl
          exact step7_value (i := 4) rfl rfl (run_op_load rfl t9 (run_load_vb _ _ W (HV.out.since hj.below HGL.out))) (calm7 (fun fs vs x y h hl => InsA.later h hl) (by kernel_rfl) (by kernel_rfl) hj (later_refl _)) rfl
        · intro listed a W H hj hl hd
          have t44 : a.tmps.getD 44 undef = vblkV b := H.get 4 44 (by kernel_rfl) (dep_of hd 4 (by kernel_rfl)) (fun _ h => by cases h)
          have f2 : (flags [3, 5, 6, 10, 11] listed).getD 2 false = false := H.notyets 4 hl (by kernel_rfl)
          have hk9 := hj.build f2 HWF.out _ rfl
          rw [← flags_put (m := 5) 1 rfl (by decide), ← slots_at (a := a) (d := 45) 1 rfl (by decide) (by rw [H.size]; exact of_decide_eq_true (by kernel_rfl))] at hk9
          exact step7_value (i := 5) rfl rfl (run_op_build rfl (by simp only [List.map_toArray, List.map_cons, List.map_nil]; show (Instr.buildSlice 22 1 #[(0, a.tmps.getD 44 undef)]).run _ _ = _; rw [t44]; exact run_build_vb _ W)) hk9 trivial
        · intro listed a W H hj hl hd
          have d43 : listed.getD 3 false = true := dep_of hd 3 (by kernel_rfl)
          have d45 : listed.getD 5 false = true := dep_of hd 5 (by kernel_rfl)
          have f0 : (flags [3, 5, 6, 10, 11] listed).getD 0 false = true := done_true (dep_of hd 3 (by kernel_rfl))
          have f1 : (flags [3, 5, 6, 10, 11] listed).getD 1 false = true := done_true (dep_of hd 5 (by kernel_rfl))
          have f2 : (flags [3, 5, 6, 10, 11] listed).getD 2 false = false := hl
          have f3 : (flags [3, 5, 6, 10, 11] listed).getD 3 false = false := H.notyets 4 hl (by kernel_rfl)
          obtain ⟨A9, c9, W9, hr, hk9⟩ := hj.second f0 f1 f2 f3 (by omega)
          rw [← flags_put (m := 6) 2 rfl (by decide), ← slots_at (a := a) (d := 46) 2 rfl (by decide) (by rw [H.size]; exact of_decide_eq_true (by kernel_rfl))] at hk9
          exact step7_value (i := 6) rfl rfl (run_op_append rfl rfl rfl hr) hk9 trivial
        · intro listed a W H hj hl hd
          have t0 : a.tmps.getD 0 undef = .slice A n c := (H.old 0 (by kernel_rfl)).trans rfl
          exact step7_value (i := 7) rfl rfl (run_op_move rfl t0) (calm7 (fun fs vs x y h hl => InsA.later h hl) (by kernel_rfl) (by kernel_rfl) hj (later_refl _)) rfl
        · intro listed a W H hj hl hd
          have t1 : a.tmps.getD 1 undef = .int .i64 (k : Int) := (H.old 1 (by kernel_rfl)).trans rfl
          exact step7_value (i := 8) rfl rfl (run_op_move rfl t1) (calm7 (fun fs vs x y h hl => InsA.later h hl) (by kernel_rfl) (by kernel_rfl) hj (later_refl _)) rfl
        · intro listed a W H hj hl hd
          have t47 : a.tmps.getD 47 undef = .slice A n c := H.get 7 47 (by kernel_rfl) (dep_of hd 7 (by kernel_rfl)) (fun _ h => by cases h)
          have t48 : a.tmps.getD 48 undef = .int .i64 (k : Int) := H.get 8 48 (by kernel_rfl) (dep_of hd 8 (by kernel_rfl)) (fun _ h => by cases h)
          exact step7_value (i := 9) rfl rfl (run_op_slice rfl (by show (Instr.sliceAt 22 (a.tmps.getD 47 undef) (some (a.tmps.getD 48 undef)) none none).run _ _ = _; rw [t47, t48]; rw [run_sliceAt_slice (h := Try.underlying22)]; exact (vblkK.slice_from A n c k hkn W))) (calm7 (fun fs vs x y h hl => InsA.later h hl) (by kernel_rfl) (by kernel_rfl) hj (later_refl _)) rfl
        · intro listed a W H hj hl hd
          have d46 : listed.getD 6 false = true := dep_of hd 6 (by kernel_rfl)
          have t49 : a.tmps.getD 49 undef = .slice (if c = k then A else A.map (·.add (k * vblkK.k))) (n - k) (c - k) := H.get 9 49 (by kernel_rfl) (dep_of hd 9 (by kernel_rfl)) (fun _ h => by cases h)
          have f2 : (flags [3, 5, 6, 10, 11] listed).getD 2 false = true := done_true (dep_of hd 6 (by kernel_rfl))
          have f3 : (flags [3, 5, 6, 10, 11] listed).getD 3 false = false := hl
          have f4 : (flags [3, 5, 6, 10, 11] listed).getD 4 false = false := H.notyets 4 hl (by kernel_rfl)
          obtain ⟨A9, c9, W9, hr, hk9⟩ := hj.third f2 f3 f4 hkn LD.out (by omega)
          rw [← flags_put (m := 10) 3 rfl (by decide), ← slots_at (a := a) (d := 50) 3 rfl (by decide) (by rw [H.size]; exact of_decide_eq_true (by kernel_rfl))] at hk9
          exact step7_value (i := 10) rfl rfl (run_op_append rfl rfl t49 hr) hk9 trivial
        · intro listed a W H hj hl hd
          have d50 : listed.getD 10 false = true := dep_of hd 10 (by kernel_rfl)
          have hk9 := hj.assign
          rw [← flags_put (m := 11) 4 rfl (by decide), ← slots_at (a := a) (d := 10) 4 rfl (by decide) (by rw [H.size]; exact of_decide_eq_true (by kernel_rfl))] at hk9
          exact step7_value (i := 11) rfl rfl (run_op_assign rfl rfl) hk9 trivial
      · intro a WC hdef hsz hw hall hact
        obtain ⟨u, hu⟩ : ∃ u : Nat → Value, ∀ k, a.tmps.getD k undef = u k := ⟨_, fun _ => rfl⟩
        simp only [hu] at hact
        have hact' : a = ([40, 41, 42, 43, 44, 45, 46, 47, 48, 49, 50, 10] : List Nat).foldl (fun b k => b.put (some k) (u k)) _ := hact
        simp only [List.foldl] at hact'
        simp only [Act.put, List.setIfInBounds_toArray, List.set_cons_succ, List.set_cons_zero] at hact'
        have HAC := Lib.hid hact'
        have HX := Lib.hid hw
        clear hact hact' hall hdef hsz hw
        rw [HAC.out]
        have ea : u 10 = u 50 := by rw [← hu, ← hu]; exact HX.out.asg rfl
        obtain ⟨A6, c6, e6, r6⟩ := HX.out.a3 rfl
        have e59 : u 50 = .slice A6 (n + 1) c6 := by rw [← hu]; exact e6
        have HXB := Lib.hid HX.out.below
        have R6 := Lib.hid r6
        rw [ea, e59]
        clear HX e6 r6 ea e59 hu
        obtain ⟨ms, HMS⟩ : ∃ ms, Hid ((bs.take k ++ [b]) ++ bs.drop k = ms) := ⟨_, rfl⟩
        rw [HMS.out] at R6
        have HOM : Hid (ordV ms = ordV bs) := by rw [← HMS.out]; exact ord_more HC.out
        clear HMS
        have S1 := Lib.hid (below_chain HBE.out HXB.out)
        have HA1 := Lib.hid (HL.out.since HXB.out)
        have V1 := Lib.hid (HV.out.since HXB.out HGL.out)
        have HGC : Hid (g < WC.heap.size) := Nat.lt_of_lt_of_le HGS.out HXB.out.size
        clear HXB HL HV HBE HWE LT LD HGL HGS
        obtain ⟨o, HO⟩ : ∃ o, Hid (ordV bs = o) := ⟨_, rfl⟩
        rw [HO.out] at HOM
        have D1 := Lib.hid (vchoose_any A n c bs WC h40 HA1.out)
        rw [HO.out] at D1
        cases o with
        | nil =>
          have HF : Hid (firstV [] = (0, false)) := rfl
          rw [HF.out] at D1
          go_wp2_with fail
          refine D1.out.mono ?_
          rintro e w1 ⟨rfl, hb1⟩
          have B1 := hb1
          have D2 := Lib.hid (vchoose_any A6 (n + 1) c6 ms w1 (by omega) (R6.out.since B1.out).lie)
          rw [HOM.out, HF.out] at D2
          clear D1 hb1
          go_wp2_with fail
          refine D2.out.mono ?_
          rintro e w2 ⟨rfl, hb2⟩
          have B2 := Lib.hid (below_chain B1.out hb2.out)
          have D3 := Lib.hid (vorder_any A n c bs w2 h40 (HA1.out.since B2.out))
          rw [HO.out] at D3
          clear B1 D2 hb2
          go_wp2_with fail
          refine D3.out.mono ?_
          rintro e w3 ⟨A9, m9, c9, rfl, ho9, hb3⟩
          have B3 := Lib.hid (below_chain B2.out hb3.out)
          have hm9 := ho9.out.len
          rw [idsV_len] at hm9
          have D4 := Lib.hid (vorder_any A6 (n + 1) c6 ms w3 (by omega) (R6.out.since B3.out).lie)
          rw [HOM.out] at D4
          clear B2 D3 hb3
          obtain rfl : 0 = m9 := hm9
          go_wp2_with fail
          refine D4.out.mono ?_
          rintro e w4 ⟨A10, m10, c10, rfl, ho10, hb4⟩
          have B4 := Lib.hid (below_chain B3.out hb4.out)
          have O9 := Lib.hid (ho9.out.since hb4.out)
          have hm10 := ho10.out.len
          rw [idsV_len] at hm10
          obtain rfl : 0 = m10 := hm10
          have hsz : (0 : Nat) ≤ 9223372036854775807 := by omega
          have D5 := Lib.hid (sameints_yes A9 A10 _ c9 c10 (idsV []) w4 hsz O9.out.lie ho10.out.lie)
          clear B3 D4 hb4 ho9
          go_wp2_with fail
          refine D5.out.mono ?_
          rintro e w5 ⟨rfl, hb5⟩
          have B5 := Lib.hid (below_chain B4.out hb5)
          have V6 := V1.out.since B5.out HGC.out
          have v0 := V6.c0
          have v1 : w5.cell? ⟨g, 1, none⟩ = _ := V6.c1
          have v2 : w5.cell? ⟨g, 2, none⟩ = _ := V6.c2
          have v3 : w5.cell? ⟨g, 3, none⟩ = _ := V6.c3
          have v4 : w5.cell? ⟨g, 4, none⟩ = _ := V6.c4
          have D6 : Hid (Calls Try.prog 14 #[.int .i64 8, .agg #[.int .i64 b.id, .int .i64 b.cl, .int .i64 b.di, .int .i64 b.ot, .int .i64 b.we]] w5 (SaysI w5 0)) := by
            have := vgain_any 8 b w5 HWF.out
            rw [HGN.out] at this
            exact this
          clear B4 D5 hb5 O9 ho10 V6
          go_wp2_with fail
          refine D6.out.mono ?_
          rintro e w6 ⟨rfl, hb6⟩
          have B6 := Lib.hid (below_chain B5.out hb6.out)
          clear B5 D6 hb6 v0 v1 v2 v3 v4
          go_wp2_with fail
          refine (vawake_any w6).mono ?_
          rintro e w7 ⟨rfl, hb7⟩
          have S8 := Lib.hid (below_chain S1.out (below_chain B6.out hb7.out))
          go_wp2_with fail
          go_ret
          exact ⟨rfl, S8⟩
        | cons z zs =>
          have HF : Hid (firstV (z :: zs) = (z.id, true)) := rfl
          rw [HF.out] at D1
          go_wp2_with fail
          refine D1.out.mono ?_
          rintro e w1 ⟨rfl, hb1⟩
          have B1 := hb1
          have D2 := Lib.hid (vchoose_any A6 (n + 1) c6 ms w1 (by omega) (R6.out.since B1.out).lie)
          rw [HOM.out, HF.out] at D2
          clear D1 hb1
          go_wp2_with fail
          refine D2.out.mono ?_
          rintro e w2 ⟨rfl, hb2⟩
          have B2 := Lib.hid (below_chain B1.out hb2.out)
          have D3 := Lib.hid (vorder_any A n c bs w2 h40 (HA1.out.since B2.out))
          rw [HO.out] at D3
          clear B1 D2 hb2
          go_wp2_with fail
          refine D3.out.mono ?_
          rintro e w3 ⟨A9, m9, c9, rfl, ho9, hb3⟩
          have B3 := Lib.hid (below_chain B2.out hb3.out)
          have hm9 := ho9.out.len
          rw [idsV_len] at hm9
          have D4 := Lib.hid (vorder_any A6 (n + 1) c6 ms w3 (by omega) (R6.out.since B3.out).lie)
          rw [HOM.out] at D4
          clear B2 D3 hb3
          have h9 : (0 : Int) < (m9 : Int) := by rw [List.length_cons] at hm9; omega
          have h9d : decide ((0 : Int) < (m9 : Int)) = true := decide_eq_true h9
          have HM9 := Lib.hid hm9
          clear hm9
          go_wp2_with fail
          refine D4.out.mono ?_
          rintro e w4 ⟨A10, m10, c10, rfl, ho10, hb4⟩
          have B4 := Lib.hid (below_chain B3.out hb4.out)
          have O9 := Lib.hid (ho9.out.since hb4.out)
          have hm10 := ho10.out.len
          rw [idsV_len] at hm10
          obtain rfl : m9 = m10 := HM9.out.symm.trans hm10
          have hsz : m9 ≤ 9223372036854775807 := by
            have := ord_len (bs := bs) bs.length
            have e := H.out.len
            have e2 : (ordN bs bs.length).length = m9 := by rw [← HM9.out, ← HO.out]; rfl
            omega
          have D5 := Lib.hid (sameints_yes A9 A10 _ c9 c10 (idsV (z :: zs)) w4 hsz O9.out.lie ho10.out.lie)
          clear B3 D4 hb4 ho9 hm10
          go_wp2_with fail
          refine D5.out.mono ?_
          rintro e w5 ⟨rfl, hb5⟩
          have B5 := Lib.hid (below_chain B4.out hb5)
          have V6 := V1.out.since B5.out HGC.out
          have v0 := V6.c0
          have v1 : w5.cell? ⟨g, 1, none⟩ = _ := V6.c1
          have v2 : w5.cell? ⟨g, 2, none⟩ = _ := V6.c2
          have v3 : w5.cell? ⟨g, 3, none⟩ = _ := V6.c3
          have v4 : w5.cell? ⟨g, 4, none⟩ = _ := V6.c4
          have D6 : Hid (Calls Try.prog 14 #[.int .i64 8, .agg #[.int .i64 b.id, .int .i64 b.cl, .int .i64 b.di, .int .i64 b.ot, .int .i64 b.we]] w5 (SaysI w5 0)) := by
            have := vgain_any 8 b w5 HWF.out
            rw [HGN.out] at this
            exact this
          clear B4 D5 hb5 O9 ho10 V6
          go_wp2_with fail
          refine D6.out.mono ?_
          rintro e w6 ⟨rfl, hb6⟩
          have B6 := Lib.hid (below_chain B5.out hb6.out)
          clear B5 D6 hb6 v0 v1 v2 v3 v4
          go_wp2_with fail
          refine (vawake_any w6).mono ?_
          rintro e w7 ⟨rfl, hb7⟩
          have S8 := Lib.hid (below_chain S1.out (below_chain B6.out hb7.out))
          go_wp2_with fail
          go_ret
          exact ⟨rfl, S8⟩
end Go.Proofs.Ytafnnpebdcnadaa
