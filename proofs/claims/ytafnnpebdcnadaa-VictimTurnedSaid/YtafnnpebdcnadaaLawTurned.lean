/- VictimTurned: true, whatever its arguments are. Conditions: the list's cells. -/
import Derived.Test.YtafnnpebdcnadaaLawOthers
set_option linter.unusedVariables false
set_option linter.unusedSimpArgs false
namespace Go.Proofs.Ytafnnpebdcnadaa
open Go.RowKit Go.Sort

/-- The blocks that VictimTurned makes. -/
def turnV (bs : List VB) (i : Nat) : VB := ⟨100 - (i : Int), lowM (bs.getD i VB.zero).cl 4, lowM (bs.getD i VB.zero).di 4, 0, lowM (bs.getD i VB.zero).we 3⟩
def turnL (bs : List VB) (n : Nat) : List VB := (List.range n).map (turnV bs)
theorem turnL_len (bs : List VB) (n : Nat) : (turnL bs n).length = n := by simp [turnL]
theorem turnL_next (bs : List VB) (n : Nat) : turnL bs (n + 1) = turnL bs n ++ [turnV bs n] := by unfold turnL; rw [List.range_succ, List.map_append]; rfl
theorem turnL_at (bs : List VB) {n i : Nat} (h : i < n) : (turnL bs n).getD i VB.zero = turnV bs i := by
  unfold turnL
  rw [List.getD_eq_getElem?_getD, List.getElem?_map, List.getElem?_range h]; rfl
theorem turnV_cnt (bs : List VB) {i : Nat} (h : i < 31) : cntV (turnV bs i) = true := by
  have h1 := lowM_bd (bs.getD i VB.zero).cl 4 (by omega)
  have h2 := lowM_bd (bs.getD i VB.zero).di 4 (by omega)
  have h3 := lowM_bd (bs.getD i VB.zero).we 3 (by omega)
  rw [cntV_yes, mayV_yes]
  unfold turnV
  dsimp only
  refine ⟨⟨⟨by omega, by omega⟩, ⟨by omega, by omega⟩, ⟨by omega, by omega⟩, ⟨by omega, by omega⟩, by omega, by omega⟩, rfl⟩
theorem turnV_wf (bs : List VB) {i : Nat} (h : i < 31) : VBWf (turnV bs i) := by
  have := mayV_yes.1 (cntV_yes.1 (turnV_cnt bs h)).1
  obtain ⟨⟨a1, a2⟩, ⟨b1, b2⟩, ⟨c1, c2⟩, ⟨d1, d2⟩, e1, e2⟩ := this
  exact ⟨by omega, by omega, by omega, by omega, by omega, by omega, by omega, by omega, by omega, by omega⟩
theorem turnV_gain (bs : List VB) {i : Nat} (h : i < 31) : gainV 8 (turnV bs i) = 8 - (turnV bs i).di := by
  have h2 := lowM_bd (bs.getD i VB.zero).di 4 (by omega)
  unfold gainV
  rw [if_pos ⟨turnV_cnt bs h, by decide⟩, if_neg]
  show ¬ 8 - lowM (bs.getD i VB.zero).di 4 < 0
  omega
theorem turnL_all {bs : List VB} {n : Nat} (h : n ≤ 30) : ∀ x ∈ turnL bs n, cntV x = true := fun x hx => by
  unfold turnL at hx
  rw [List.mem_map] at hx
  obtain ⟨i, hi, rfl⟩ := hx
  rw [List.mem_range] at hi
  exact turnV_cnt bs (by omega)
theorem ord_turned (l : List VB) (k : Nat) : ordV (l.drop k ++ l.take k) = ordV l := by
  refine (ord_is _).one (ord_is l) ?_
  refine List.Perm.filter _ ?_
  conv => rhs; rw [← List.take_append_drop k l]
  exact List.perm_append_comm
theorem ord_all_len {l : List VB} (h : ∀ x ∈ l, cntV x = true) : (ordV l).length = l.length := by
  rw [(ord_is l).perm.length_eq, List.filter_eq_self.2 h]
set_option maxHeartbeats 32000000 in
set_option maxRecDepth 20000 in
theorem turned_law (A : Option Addr) (n c : Nat) (bs : List VB) (x1 : Int) (w : World) (hz : n ≤ 9223372036854775807) (h : vblkK.Lie w w.heap.size A n bs) : Calls Try.prog 5 #[.slice A n c, .int .i64 x1] w (SaysB w true) := by
  have H := Lib.hid h
  clear h
  by_cases hn : 30 < n
  · have h1 : (30 : Int) < (n : Int) := by omega
    have h1d : decide ((30 : Int) < (n : Int)) = true := decide_eq_true h1
    go_enter Try.func5, Try.ntmps5
    go_wp2_with fail
    refine (vawake_any _).mono ?_
    rintro e w1 ⟨rfl, hb1⟩
    go_wp2_with fail
    go_ret
    exact ⟨rfl, hb1⟩
  by_cases hn0 : n = 0
  · subst hn0
    go_enter Try.func5, Try.ntmps5
    go_wp2_with fail
    refine (vawake_any _).mono ?_
    rintro e w1 ⟨rfl, hb1⟩
    go_wp2_with fail
    go_ret
    exact ⟨rfl, hb1⟩
  have hn30 : n ≤ 30 := by omega
  have hpos : 0 < n := by omega
  have h1 : ¬ (30 : Int) < (n : Int) := by omega
  have h1d : decide ((30 : Int) < (n : Int)) = false := decide_eq_false h1
  have h2 : ((n : Int) == 0) = false := by simp; omega
  obtain ⟨k, hk, HK⟩ := low_natV x1 n hpos
  go_enter Try.func5, Try.ntmps5
  go_wp2_with fail
  clear h1 h1d h2 hn hn0
  go_loopw [5, 6] (fun t5 t6 wr => ∃ (i : Nat) (A5 : Option Addr) (c5 : Nat), t5 = .slice A5 i c5 ∧ t6 = .int .i64 i ∧ i ≤ n ∧ Hid (vblkK.Row wr w.heap.size A5 i c5 (turnL bs i)) ∧ Hid (Below w.heap.size w wr)) (fun _ t6 _ => n - (intOf t6).toNat)
  case atStart => exact ⟨0, none, 0, rfl, rfl, Nat.zero_le _, Kind.Row.none_, Below.refl _ _⟩
  case round =>
    obtain ⟨Wa, rfl⟩ : ∃ Wa, Wa = wr := ⟨_, rfl⟩
    obtain ⟨i, A5, c5, rfl, rfl, hi, HR, HB⟩ := hrel
    have i0 : (0 : Int) ≤ (i : Int) := by omega
    by_cases hlt : i < n
    · have i1 : (i : Int) < (n : Int) := by omega
      obtain ⟨ad, eA, _, hv, _⟩ := vb_cells (H.out.since HB.out) hlt
      subst eA
      obtain ⟨b, HBV⟩ : ∃ b, Hid (bs.getD i VB.zero = b) := ⟨_, rfl⟩
      rw [HBV.out] at hv
      obtain ⟨d0, d1, d2, d3, d4⟩ := hv
      obtain ⟨gb, HGB⟩ : ∃ gb, Hid (Wa.heap.size = gb) := ⟨_, rfl⟩
      obtain ⟨WE, HWE⟩ : ∃ W, Hid (W = (Wa.alloc (.cells #[.int .i64 b.id, .int .i64 b.cl, .int .i64 b.di, .int .i64 b.ot, .int .i64 b.we] 34)).drew) := ⟨_, rfl⟩
      have HLW : Hid (Below Wa.heap.size Wa WE) := by rw [HWE.out]; exact below_drewN (later_alloc _ _) 1
      have HVB : Hid (VBAt WE ⟨gb, 0, none⟩ b) := by
        have := vb_new Wa b #[.int .i64 b.id, .int .i64 b.cl, .int .i64 b.di, .int .i64 b.ot, .int .i64 b.we] rfl 34
        rw [HWE.out, ← HGB.out]; exact ⟨this.c0, this.c1, this.c2, this.c3, this.c4⟩
      have HGS : Hid (gb < WE.heap.size) := by show _ < _; rw [HWE.out, ← HGB.out]; show Wa.heap.size < (Wa.alloc _).heap.size; simp
      have RE := Lib.hid (HR.out.since HLW.out)
      have BE := Lib.hid (below_chain HB.out HLW.out)
      obtain ⟨q1, HQ1⟩ : ∃ q, Hid (lowM b.cl 4 = q) := ⟨_, rfl⟩
      obtain ⟨q2, HQ2⟩ : ∃ q, Hid (lowM b.di 4 = q) := ⟨_, rfl⟩
      obtain ⟨q3, HQ3⟩ : ∃ q, Hid (lowM b.we 3 = q) := ⟨_, rfl⟩
      have HXV : Hid ((⟨100 - (i : Int), q1, q2, 0, q3⟩ : VB) = turnV bs i) := by show _ = _; unfold turnV; rw [HBV.out, HQ1.out, HQ2.out, HQ3.out]
      have HXW : Hid (VBWf (⟨100 - (i : Int), q1, q2, 0, q3⟩ : VB)) := by show VBWf _; rw [HXV.out]; exact turnV_wf bs (by omega)
      have HSZ : Hid (w.heap.size ≤ WE.heap.size) := BE.out.size
      clear HR HB
      go_wp2_with fail
      rw [HGB.out]
      clear d0 d1 d2 d3 d4
      refine region_of_steps7 (by kernel_rfl) [some (.slice A5 i c5), some (.int .i64 (i : Int)), some (.int .i64 (100 - (i : Int))), some (.pointer (some ⟨gb, 1, none⟩)), some (.int .i64 b.cl), some (.int .i64 q1), some (.pointer (some ⟨gb, 2, none⟩)), some (.int .i64 b.di), some (.int .i64 q2), some (.pointer (some ⟨gb, 4, none⟩)), some (.int .i64 b.we), some (.int .i64 q3), some (vblkV ⟨100 - (i : Int), q1, q2, 0, q3⟩), none, none, none] [13, 14, 15] [43, 44, 5] (AppA vblkK w.heap.size WE w.heap.size i (turnL bs i) (⟨100 - (i : Int), q1, q2, 0, q3⟩ : VB)) (by kernel_rfl) (by kernel_rfl) (by rw [← HWE.out]; exact AppA.start (by rw [slots_len]; rfl)) ?_ ?_
      · refine Steps7.cons ?_ (Steps7.cons ?_ (Steps7.cons ?_ (Steps7.cons ?_ (Steps7.cons ?_ (Steps7.cons ?_ (Steps7.cons ?_ (Steps7.cons ?_ (Steps7.cons ?_ (Steps7.cons ?_ (Steps7.cons ?_ (Steps7.cons ?_ (Steps7.cons ?_ (Steps7.cons ?_ (Steps7.cons ?_ (Steps7.cons ?_ (Steps7.nil))))))))))))))))
        · intro listed a W H hj hl hd
          have t5 : a.tmps.getD 5 undef = .slice A5 i c5 := (H.before 5 15 0 (by kernel_rfl) (by kernel_rfl) hl).trans rfl
          exact step7_value (i := 0) rfl rfl (run_op_move rfl t5) (calm7 (fun fs vs x y h hl => AppA.later HSZ.out h hl) (by kernel_rfl) (by kernel_rfl) hj (later_refl _)) rfl
        · intro listed a W H hj hl hd
          have t6 : a.tmps.getD 6 undef = .int .i64 (i : Int) := (H.old 6 (by kernel_rfl)).trans rfl
          exact step7_value (i := 1) rfl rfl (run_op_move rfl t6) (calm7 (fun fs vs x y h hl => AppA.later HSZ.out h hl) (by kernel_rfl) (by kernel_rfl) hj (later_refl _)) rfl
        · intro listed a W H hj hl hd
          have t31 : a.tmps.getD 31 undef = .int .i64 (i : Int) := H.get 1 31 (by kernel_rfl) (dep_of hd 1 (by kernel_rfl)) (fun _ h => by cases h)
          exact step7_value (i := 2) rfl rfl (run_op_bin rfl rfl t31 (bin_sub _ _ _ 100 (i : Int) (100 - (i : Int)) rfl (by omega) (by omega))) (calm7 (fun fs vs x y h hl => AppA.later HSZ.out h hl) (by kernel_rfl) (by kernel_rfl) hj (later_refl _)) rfl
        · intro listed a W H hj hl hd
          have t7 : a.tmps.getD 7 undef = .pointer (some ⟨gb, 0, none⟩) := (H.old 7 (by kernel_rfl)).trans rfl
          exact step7_value (i := 3) rfl rfl (run_op_fieldAddr rfl t7 (by go_simp)) (calm7 (fun fs vs x y h hl => AppA.later HSZ.out h hl) (by kernel_rfl) (by kernel_rfl) hj (later_refl _)) rfl
        · intro listed a W H hj hl hd
          have t33 : a.tmps.getD 33 undef = .pointer (some ⟨gb, 1, none⟩) := H.get 3 33 (by kernel_rfl) (dep_of hd 3 (by kernel_rfl)) (fun _ h => by cases h)
          exact step7_value (i := 4) rfl rfl (run_op_load rfl t33 (run_load_i _ _ W ((HVB.out.since (hj.early (show (flags [13, 14, 15] listed).getD 1 false = false from H.notyets 4 hl (by kernel_rfl))) HGS.out).c1))) (calm7 (fun fs vs x y h hl => AppA.later HSZ.out h hl) (by kernel_rfl) (by kernel_rfl) hj (later_refl _)) rfl
        · intro listed a W H hj hl hd
          have t34 : a.tmps.getD 34 undef = .int .i64 b.cl := H.get 4 34 (by kernel_rfl) (dep_of hd 4 (by kernel_rfl)) (fun _ h => by cases h)
          refine step7_call (i := 5) rfl rfl (run_op_call (vs := #[.int .i64 b.cl, .int .i64 4]) Try.func18 (by kernel_rfl) (by kernel_rfl) rfl (by simp only [List.map_toArray, List.map_cons, List.map_nil]; show #[a.tmps.getD 34 undef, .int .i64 4] = _; rw [t34])) ?_
          refine (low_any _ _ (by omega) (by omega) W).mono ?_
          rintro e w' ⟨rfl, rfl⟩
          refine ⟨_, rfl, (calm7 (fun fs vs x y h hl => AppA.later HSZ.out h hl) (by kernel_rfl) (by kernel_rfl) hj (later_refl _)), ?_⟩
          show Value.int IntKind.i64 _ = _; rw [HQ1.out]
        · intro listed a W H hj hl hd
          have t7 : a.tmps.getD 7 undef = .pointer (some ⟨gb, 0, none⟩) := (H.old 7 (by kernel_rfl)).trans rfl
          exact step7_value (i := 6) rfl rfl (run_op_fieldAddr rfl t7 (by go_simp)) (calm7 (fun fs vs x y h hl => AppA.later HSZ.out h hl) (by kernel_rfl) (by kernel_rfl) hj (later_refl _)) rfl
        · intro listed a W H hj hl hd
          have t36 : a.tmps.getD 36 undef = .pointer (some ⟨gb, 2, none⟩) := H.get 6 36 (by kernel_rfl) (dep_of hd 6 (by kernel_rfl)) (fun _ h => by cases h)
          exact step7_value (i := 7) rfl rfl (run_op_load rfl t36 (run_load_i _ _ W ((HVB.out.since (hj.early (show (flags [13, 14, 15] listed).getD 1 false = false from H.notyets 4 hl (by kernel_rfl))) HGS.out).c2))) (calm7 (fun fs vs x y h hl => AppA.later HSZ.out h hl) (by kernel_rfl) (by kernel_rfl) hj (later_refl _)) rfl
        · intro listed a W H hj hl hd
          have t37 : a.tmps.getD 37 undef = .int .i64 b.di := H.get 7 37 (by kernel_rfl) (dep_of hd 7 (by kernel_rfl)) (fun _ h => by cases h)
          refine step7_call (i := 8) rfl rfl (run_op_call (vs := #[.int .i64 b.di, .int .i64 4]) Try.func18 (by kernel_rfl) (by kernel_rfl) rfl (by simp only [List.map_toArray, List.map_cons, List.map_nil]; show #[a.tmps.getD 37 undef, .int .i64 4] = _; rw [t37])) ?_
          refine (low_any _ _ (by omega) (by omega) W).mono ?_
          rintro e w' ⟨rfl, rfl⟩
          refine ⟨_, rfl, (calm7 (fun fs vs x y h hl => AppA.later HSZ.out h hl) (by kernel_rfl) (by kernel_rfl) hj (later_refl _)), ?_⟩
          show Value.int IntKind.i64 _ = _; rw [HQ2.out]
        · intro listed a W H hj hl hd
          have t7 : a.tmps.getD 7 undef = .pointer (some ⟨gb, 0, none⟩) := (H.old 7 (by kernel_rfl)).trans rfl
          exact step7_value (i := 9) rfl rfl (run_op_fieldAddr rfl t7 (by go_simp)) (calm7 (fun fs vs x y h hl => AppA.later HSZ.out h hl) (by kernel_rfl) (by kernel_rfl) hj (later_refl _)) rfl
        · intro listed a W H hj hl hd
          have t39 : a.tmps.getD 39 undef = .pointer (some ⟨gb, 4, none⟩) := H.get 9 39 (by kernel_rfl) (dep_of hd 9 (by kernel_rfl)) (fun _ h => by cases h)
          exact step7_value (i := 10) rfl rfl (run_op_load rfl t39 (run_load_i _ _ W ((HVB.out.since (hj.early (show (flags [13, 14, 15] listed).getD 1 false = false from H.notyets 4 hl (by kernel_rfl))) HGS.out).c4))) (calm7 (fun fs vs x y h hl => AppA.later HSZ.out h hl) (by kernel_rfl) (by kernel_rfl) hj (later_refl _)) rfl
        · intro listed a W H hj hl hd
          have t40 : a.tmps.getD 40 undef = .int .i64 b.we := H.get 10 40 (by kernel_rfl) (dep_of hd 10 (by kernel_rfl)) (fun _ h => by cases h)
          refine step7_call (i := 11) rfl rfl (run_op_call (vs := #[.int .i64 b.we, .int .i64 3]) Try.func18 (by kernel_rfl) (by kernel_rfl) rfl (by simp only [List.map_toArray, List.map_cons, List.map_nil]; show #[a.tmps.getD 40 undef, .int .i64 3] = _; rw [t40])) ?_
          refine (low_any _ _ (by omega) (by omega) W).mono ?_
          rintro e w' ⟨rfl, rfl⟩
          refine ⟨_, rfl, (calm7 (fun fs vs x y h hl => AppA.later HSZ.out h hl) (by kernel_rfl) (by kernel_rfl) hj (later_refl _)), ?_⟩
          show Value.int IntKind.i64 _ = _; rw [HQ3.out]
        · intro listed a W H hj hl hd
          have t32 : a.tmps.getD 32 undef = .int .i64 (100 - (i : Int)) := H.get 2 32 (by kernel_rfl) (dep_of hd 2 (by kernel_rfl)) (fun _ h => by cases h)
          have t35 : a.tmps.getD 35 undef = .int .i64 q1 := H.get 5 35 (by kernel_rfl) (dep_of hd 5 (by kernel_rfl)) (fun _ h => by cases h)
          have t38 : a.tmps.getD 38 undef = .int .i64 q2 := H.get 8 38 (by kernel_rfl) (dep_of hd 8 (by kernel_rfl)) (fun _ h => by cases h)
          have t41 : a.tmps.getD 41 undef = .int .i64 q3 := H.get 11 41 (by kernel_rfl) (dep_of hd 11 (by kernel_rfl)) (fun _ h => by cases h)
          exact step7_value (i := 12) rfl rfl (run_op_buildV rfl (by simp only [List.map_toArray, List.map_cons, List.map_nil]; show (Instr.build 34 #[(0, a.tmps.getD 32 undef), (1, a.tmps.getD 35 undef), (2, a.tmps.getD 38 undef), (4, a.tmps.getD 41 undef)]).run _ _ = _; rw [t32, t35, t38, t41]; exact run_build_vb4 _ _ _ _ W)) (calm7 (fun fs vs x y h hl => AppA.later HSZ.out h hl) (by kernel_rfl) (by kernel_rfl) hj (later_refl _)) rfl
        · intro listed a W H hj hl hd
          have t42 : a.tmps.getD 42 undef = vblkV ⟨100 - (i : Int), q1, q2, 0, q3⟩ := H.get 12 42 (by kernel_rfl) (dep_of hd 12 (by kernel_rfl)) (fun _ h => by cases h)
          have f1 : (flags [13, 14, 15] listed).getD 1 false = false := H.notyets 4 hl (by kernel_rfl)
          have hk9 := hj.build HSZ.out f1 HXW.out _ rfl
          rw [← flags_put (m := 13) 0 rfl (by decide), ← slots_at (a := a) (d := 43) 0 rfl (by decide) (by rw [H.size]; exact of_decide_eq_true (by kernel_rfl))] at hk9
          exact step7_value (i := 13) rfl rfl (run_op_build rfl (by simp only [List.map_toArray, List.map_cons, List.map_nil]; show (Instr.buildSlice 22 1 #[(0, a.tmps.getD 42 undef)]).run _ _ = _; rw [t42]; exact run_build_vb _ W)) hk9 trivial
        · intro listed a W H hj hl hd
          have t30 : a.tmps.getD 30 undef = .slice A5 i c5 := H.get 0 30 (by kernel_rfl) (dep_of hd 0 (by kernel_rfl)) (fun _ h => by cases h)
          have d43 : listed.getD 13 false = true := dep_of hd 13 (by kernel_rfl)
          have f0 : (flags [13, 14, 15] listed).getD 0 false = true := done_true (dep_of hd 13 (by kernel_rfl))
          have f1 : (flags [13, 14, 15] listed).getD 1 false = false := hl
          have f2 : (flags [13, 14, 15] listed).getD 2 false = false := H.notyets 4 hl (by kernel_rfl)
          obtain ⟨A9, c9, W9, hr, hk9⟩ := hj.append (Nat.le_refl _) HSZ.out f0 f1 f2 RE.out (by omega)
          rw [← flags_put (m := 14) 1 rfl (by decide), ← slots_at (a := a) (d := 44) 1 rfl (by decide) (by rw [H.size]; exact of_decide_eq_true (by kernel_rfl))] at hk9
          exact step7_value (i := 14) rfl rfl (run_op_append rfl t30 rfl hr) hk9 trivial
        · intro listed a W H hj hl hd
          have d44 : listed.getD 14 false = true := dep_of hd 14 (by kernel_rfl)
          have hk9 := hj.assign
          rw [← flags_put (m := 15) 2 rfl (by decide), ← slots_at (a := a) (d := 5) 2 rfl (by decide) (by rw [H.size]; exact of_decide_eq_true (by kernel_rfl))] at hk9
          exact step7_value (i := 15) rfl rfl (run_op_assign rfl rfl) hk9 trivial
      · intro a WC hdef hsz hw hall hact
        obtain ⟨u, hu⟩ : ∃ u : Nat → Value, ∀ k, a.tmps.getD k undef = u k := ⟨_, fun _ => rfl⟩
        simp only [hu] at hact
        have hact' : a = ([30, 31, 32, 33, 34, 35, 36, 37, 38, 39, 40, 41, 42, 43, 44, 5] : List Nat).foldl (fun b k => b.put (some k) (u k)) _ := hact
        simp only [List.foldl] at hact'
        simp only [Act.put, List.setIfInBounds_toArray, List.set_cons_succ, List.set_cons_zero] at hact'
        have HAC := Lib.hid hact'
        have HX := Lib.hid hw
        clear hact hact' hall hdef hsz hw
        rw [HAC.out]
        have ea : u 5 = u 44 := by rw [← hu, ← hu]; exact HX.out.asg rfl
        obtain ⟨A6, c6, e6, r6⟩ := HX.out.app rfl
        have e59 : u 44 = .slice A6 (i + 1) c6 := by rw [← hu]; exact e6
        have R6 := Lib.hid (r6.same (show turnL bs i ++ [(⟨100 - (i : Int), q1, q2, 0, q3⟩ : VB)] = turnL bs (i + 1) by rw [turnL_next, HXV.out]))
        have B6 := Lib.hid (BE.out.trans HX.out.old)
        rw [ea, e59]
        clear RE BE HX HWE hu e6 r6 ea e59 HVB HGS HLW HXV HXW HQ1 HQ2 HQ3 HBV HSZ HGB
        go_wp2_with fail
        go_roundw
        case rel => exact ⟨i + 1, A6, c6, rfl, by go_num, by omega, R6, B6⟩
        case measure => simp [intOf]; omega
    · obtain rfl : i = n := by omega
      have C1 := Lib.hid (low_any x1 (i : Int) (by omega) (by omega) Wa)
      rw [HK.out] at C1
      go_wp2_with fail
      refine C1.out.mono ?_
      rintro e w1 ⟨rfl, rfl⟩
      clear C1
      obtain ⟨es, HAS⟩ : ∃ es, Hid (turnL bs i = es) := ⟨_, rfl⟩
      have HAL : Hid (es.length = i) := by rw [← HAS.out]; exact turnL_len bs i
      rw [HAS.out] at HR
      have hcap := HR.out.cap
      have hki : k ≤ i := by omega
      go_wp2_with fail
      obtain ⟨WE, HWE⟩ : ∃ W, Hid (W = Wa.drew) := ⟨_, rfl⟩
      have HLW : Hid (Below Wa.heap.size Wa WE) := by rw [HWE.out]; exact (Below.refl _ _).drew
      have RE := Lib.hid (HR.out.since HLW.out)
      have BE := Lib.hid (below_chain HB.out HLW.out)
      have LD : Hid (vblkK.Lie WE WE.heap.size (if c5 = k then A5 else A5.map (·.add (k * vblkK.k))) (i - k) (es.drop k)) := RE.out.lie.rest hki hcap
      have LT : Hid (vblkK.Lie WE WE.heap.size A5 k (es.take k)) := RE.out.lie.first hki
      clear HR HB
      refine region_of_steps7 (by kernel_rfl) [some (.slice A5 i c5), some (.int .i64 (k : Int)), some (.slice (if c5 = k then A5 else A5.map (·.add (k * vblkK.k))) (i - k) (c5 - k)), none, some (.slice A5 i c5), some (.int .i64 (k : Int)), some (.slice A5 k c5), none, none] [3, 7, 8] [52, 56, 8] (CatA vblkK WE (i - k) k (es.drop k) (es.take k)) (by kernel_rfl) (by kernel_rfl) (by rw [← HWE.out]; exact CatA.start (by rw [slots_len]; rfl)) ?_ ?_
      · refine Steps7.cons ?_ (Steps7.cons ?_ (Steps7.cons ?_ (Steps7.cons ?_ (Steps7.cons ?_ (Steps7.cons ?_ (Steps7.cons ?_ (Steps7.cons ?_ (Steps7.cons ?_ (Steps7.nil)))))))))
        · intro listed a W H hj hl hd
          have t5 : a.tmps.getD 5 undef = .slice A5 i c5 := (H.old 5 (by kernel_rfl)).trans rfl
          exact step7_value (i := 0) rfl rfl (run_op_move rfl t5) (calm7 (fun fs vs x y h hl => CatA.later h hl) (by kernel_rfl) (by kernel_rfl) hj (later_refl _)) rfl
        · intro listed a W H hj hl hd
          have t1 : a.tmps.getD 1 undef = .int .i64 (k : Int) := (H.old 1 (by kernel_rfl)).trans rfl
          exact step7_value (i := 1) rfl rfl (run_op_move rfl t1) (calm7 (fun fs vs x y h hl => CatA.later h hl) (by kernel_rfl) (by kernel_rfl) hj (later_refl _)) rfl
        · intro listed a W H hj hl hd
          have t49 : a.tmps.getD 49 undef = .slice A5 i c5 := H.get 0 49 (by kernel_rfl) (dep_of hd 0 (by kernel_rfl)) (fun _ h => by cases h)
          have t50 : a.tmps.getD 50 undef = .int .i64 (k : Int) := H.get 1 50 (by kernel_rfl) (dep_of hd 1 (by kernel_rfl)) (fun _ h => by cases h)
          exact step7_value (i := 2) rfl rfl (run_op_slice rfl (by show (Instr.sliceAt 22 (a.tmps.getD 49 undef) (some (a.tmps.getD 50 undef)) none none).run _ _ = _; rw [t49, t50]; rw [run_sliceAt_slice (h := Try.underlying22)]; exact (vblkK.slice_from A5 i c5 k hki W))) (calm7 (fun fs vs x y h hl => CatA.later h hl) (by kernel_rfl) (by kernel_rfl) hj (later_refl _)) rfl
        · intro listed a W H hj hl hd
          have t51 : a.tmps.getD 51 undef = .slice (if c5 = k then A5 else A5.map (·.add (k * vblkK.k))) (i - k) (c5 - k) := H.get 2 51 (by kernel_rfl) (dep_of hd 2 (by kernel_rfl)) (fun _ h => by cases h)
          have f1 : (flags [3, 7, 8] listed).getD 1 false = false := H.notyets 4 hl (by kernel_rfl)
          have f2 : (flags [3, 7, 8] listed).getD 2 false = false := H.notyets 4 hl (by kernel_rfl)
          obtain ⟨A9, c9, W9, hr, hk9⟩ := hj.first f1 f2 LD.out (by omega)
          rw [← flags_put (m := 3) 0 rfl (by decide), ← slots_at (a := a) (d := 52) 0 rfl (by decide) (by rw [H.size]; exact of_decide_eq_true (by kernel_rfl))] at hk9
          exact step7_value (i := 3) rfl rfl (run_op_append rfl rfl t51 hr) hk9 trivial
        · intro listed a W H hj hl hd
          have t5 : a.tmps.getD 5 undef = .slice A5 i c5 := (H.old 5 (by kernel_rfl)).trans rfl
          exact step7_value (i := 4) rfl rfl (run_op_move rfl t5) (calm7 (fun fs vs x y h hl => CatA.later h hl) (by kernel_rfl) (by kernel_rfl) hj (later_refl _)) rfl
        · intro listed a W H hj hl hd
          have t1 : a.tmps.getD 1 undef = .int .i64 (k : Int) := (H.old 1 (by kernel_rfl)).trans rfl
          exact step7_value (i := 5) rfl rfl (run_op_move rfl t1) (calm7 (fun fs vs x y h hl => CatA.later h hl) (by kernel_rfl) (by kernel_rfl) hj (later_refl _)) rfl
        · intro listed a W H hj hl hd
          have t53 : a.tmps.getD 53 undef = .slice A5 i c5 := H.get 4 53 (by kernel_rfl) (dep_of hd 4 (by kernel_rfl)) (fun _ h => by cases h)
          have t54 : a.tmps.getD 54 undef = .int .i64 (k : Int) := H.get 5 54 (by kernel_rfl) (dep_of hd 5 (by kernel_rfl)) (fun _ h => by cases h)
          exact step7_value (i := 6) rfl rfl (run_op_slice rfl (by show (Instr.sliceAt 22 (a.tmps.getD 53 undef) none (some (a.tmps.getD 54 undef)) none).run _ _ = _; rw [t53, t54]; rw [run_sliceAt_slice (h := Try.underlying22)]; exact (vblkK.slice_to A5 i c5 k hki hcap W))) (calm7 (fun fs vs x y h hl => CatA.later h hl) (by kernel_rfl) (by kernel_rfl) hj (later_refl _)) rfl
        · intro listed a W H hj hl hd
          have d52 : listed.getD 3 false = true := dep_of hd 3 (by kernel_rfl)
          have t55 : a.tmps.getD 55 undef = .slice A5 k c5 := H.get 6 55 (by kernel_rfl) (dep_of hd 6 (by kernel_rfl)) (fun _ h => by cases h)
          have f0 : (flags [3, 7, 8] listed).getD 0 false = true := done_true (dep_of hd 3 (by kernel_rfl))
          have f1 : (flags [3, 7, 8] listed).getD 1 false = false := hl
          have f2 : (flags [3, 7, 8] listed).getD 2 false = false := H.notyets 4 hl (by kernel_rfl)
          obtain ⟨A9, c9, W9, hr, hk9⟩ := hj.second f0 f1 f2 LT.out (by omega)
          rw [← flags_put (m := 7) 1 rfl (by decide), ← slots_at (a := a) (d := 56) 1 rfl (by decide) (by rw [H.size]; exact of_decide_eq_true (by kernel_rfl))] at hk9
          exact step7_value (i := 7) rfl rfl (run_op_append rfl rfl t55 hr) hk9 trivial
        · intro listed a W H hj hl hd
          have d56 : listed.getD 7 false = true := dep_of hd 7 (by kernel_rfl)
          have hk9 := hj.assign
          rw [← flags_put (m := 8) 2 rfl (by decide), ← slots_at (a := a) (d := 8) 2 rfl (by decide) (by rw [H.size]; exact of_decide_eq_true (by kernel_rfl))] at hk9
          exact step7_value (i := 8) rfl rfl (run_op_assign rfl rfl) hk9 trivial
      · intro a WC hdef hsz hw hall hact
        obtain ⟨u, hu⟩ : ∃ u : Nat → Value, ∀ k, a.tmps.getD k undef = u k := ⟨_, fun _ => rfl⟩
        simp only [hu] at hact
        have hact' : a = ([49, 50, 51, 52, 53, 54, 55, 56, 8] : List Nat).foldl (fun b k => b.put (some k) (u k)) _ := hact
        simp only [List.foldl] at hact'
        simp only [Act.put, List.setIfInBounds_toArray, List.set_cons_succ, List.set_cons_zero] at hact'
        have HAC := Lib.hid hact'
        have HX := Lib.hid hw
        clear hact hact' hall hdef hsz hw
        rw [HAC.out]
        have ea : u 8 = u 56 := by rw [← hu, ← hu]; exact HX.out.asg rfl
        obtain ⟨A6, c6, e6, r6⟩ := HX.out.a2 rfl
        have e59 : u 56 = .slice A6 (i - k + k) c6 := by rw [← hu]; exact e6
        rw [show i - k + k = i by omega] at e59 r6
        have R6 := Lib.hid r6
        have HXB := Lib.hid HX.out.below
        rw [ea, e59]
        clear HX HWE hu e6 r6 ea e59 LD LT HLW
        have HA1 := Lib.hid (RE.out.lie.since HXB.out)
        have S1 := Lib.hid (below_chain BE.out HXB.out)
        have HOM : Hid (ordV (es.drop k ++ es.take k) = ordV es) := ord_turned es k
        obtain ⟨ms, HMS⟩ : ∃ ms, Hid (es.drop k ++ es.take k = ms) := ⟨_, rfl⟩
        rw [HMS.out] at R6 HOM
        clear RE BE HXB HMS
        obtain ⟨o, HO⟩ : ∃ o, Hid (ordV es = o) := ⟨_, rfl⟩
        have HOL : Hid (o.length = i) := by show _ = _; rw [← HO.out, ord_all_len (by rw [← HAS.out]; exact turnL_all hn30), HAL.out]
        rw [HO.out] at HOM
        have D1 := Lib.hid (vorder_any A5 i c5 es WC (by omega) HA1.out)
        rw [HO.out] at D1
        go_wp2_with fail
        refine D1.out.mono ?_
        rintro e w1 ⟨A9, m9, c9, rfl, ho9, hb1⟩
        have B1 := hb1
        obtain rfl : i = m9 := by have := ho9.out.len; rw [idsV_len] at this; exact HOL.out.symm.trans this
        have D2 := Lib.hid (vorder_any A6 i c6 ms w1 (by omega) (R6.out.since B1.out).lie)
        rw [HOM.out] at D2
        clear D1 hb1
        go_wp2_with fail
        refine D2.out.mono ?_
        rintro e w2 ⟨A10, m10, c10, rfl, ho10, hb2⟩
        have B2 := Lib.hid (below_chain B1.out hb2.out)
        obtain rfl : i = m10 := by have := ho10.out.len; rw [idsV_len] at this; exact HOL.out.symm.trans this
        have D3 := Lib.hid (sameints_yes A9 A10 _ c9 c10 (idsV o) w2 hz (ho9.out.since hb2.out).lie ho10.out.lie)
        clear D2 hb2 B1 ho9 ho10
        go_wp2_with fail
        refine D3.out.mono ?_
        rintro e w3 ⟨rfl, hb3⟩
        have B3 := Lib.hid (below_chain B2.out hb3)
        have HA3 := Lib.hid (HA1.out.since B3.out)
        have S3 := Lib.hid (below_chain S1.out B3.out)
        clear B2 D3 hb3 HA1 S1 R6 HOM
        go_wp2_with fail
        go_loopw [10] (fun t10 wr => ∃ j : Nat, t10 = .int .i64 j ∧ j ≤ i ∧ Hid (Below w3.heap.size w3 wr)) (fun t10 _ => i - (intOf t10).toNat)
        case atStart => exact ⟨0, rfl, Nat.zero_le _, Below.refl _ _⟩
        case round =>
          obtain ⟨Wb, rfl⟩ : ∃ Wb, Wb = wr := ⟨_, rfl⟩
          obtain ⟨j, rfl, hj, HBJ⟩ := hrel
          by_cases hlt2 : j < i
          · have j0 : (0 : Int) ≤ (j : Int) := by omega
            have j1 : (j : Int) < (i : Int) := by omega
            obtain ⟨ad, eA, _, hv, _⟩ := vb_cells (HA3.out.since HBJ.out) hlt2
            subst eA
            obtain ⟨b, HBV⟩ : ∃ b, Hid (es.getD j VB.zero = b) := ⟨_, rfl⟩
            rw [HBV.out] at hv
            have HBT : Hid (b = turnV bs j) := by rw [← HBV.out, ← HAS.out]; exact turnL_at bs hlt2
            have HBW : Hid (VBWf b) := by rw [HBT.out]; exact turnV_wf bs (by omega)
            have HBG : Hid (gainV 8 b = 8 - b.di) := by rw [HBT.out]; exact turnV_gain bs (by omega)
            have HBM : Hid (mayV b = true) := by rw [HBT.out]; exact (cntV_yes.1 (turnV_cnt bs (by omega))).1
            have hbd : 0 ≤ b.di ∧ b.di ≤ 1073741824 := (mayV_yes.1 HBM.out).2.2.1
            obtain ⟨d0, d1, d2, d3, d4⟩ := hv
            have e0 := cell_regrown d0
            have e1 := cell_regrown d1
            have e2 := cell_regrown d2
            have e3 := cell_regrown d3
            have e4 := cell_regrown d4
            clear d0 d1 d2 d3 d4
            have c1 : Hid (∀ (d : Nat) (os : Array Obj), Calls Try.prog 14 #[.int .i64 8, .agg #[.int .i64 b.id, .int .i64 b.cl, .int .i64 b.di, .int .i64 b.ot, .int .i64 b.we]] (grow (redrawn Wb d) os) fun e w'' => e = .returned (.int .i64 (8 - b.di)) ∧ ∃ p : Regrown, w'' = grow (redrawn Wb p.d) p.os) := fun d os => quiet_saysi (by have := vgain_any 8 b (grow (redrawn Wb d) os) HBW.out; rw [HBG.out] at this; exact this)
            have c2 : Hid (∀ (d : Nat) (os : Array Obj), Calls Try.prog 17 #[.agg #[.int .i64 b.id, .int .i64 b.cl, .int .i64 b.di, .int .i64 b.ot, .int .i64 b.we]] (grow (redrawn Wb d) os) fun e w'' => e = .returned (.int .i64 b.di) ∧ ∃ p : Regrown, w'' = grow (redrawn Wb p.d) p.os) := fun d os => quiet_saysi (vcost_any b (grow (redrawn Wb d) os) HBM.out)
            have hsum : (8 - b.di) + b.di = 8 := by omega
            go_wp2_with fail
            refine wp_region_quiet_below (by kernel_rfl) (by kernel_rfl) ?_
            repeat (go_big_quiet_step (first | (go_at_call 14; exact c1.out _ _) | (go_at_call 17; exact c2.out _ _)))
            refine wpQuiet_nil ?_
            intro W2 hw'
            have S2 : Hid (Below w3.heap.size w3 W2) := by obtain ⟨⟨dq, osq⟩, hw''⟩ := hw'; rw [hw'']; exact below_chain HBJ.out (below_regrown _ _ _)
            clear hw' e0 e1 e2 e3 e4 c1 c2
            go_wp2_with fail
            go_roundw
            case rel => exact ⟨j + 1, by go_num, by omega, S2⟩
            case measure => simp [intOf]; omega
          · obtain rfl : j = i := by omega
            go_wp2_with fail
            refine (vawake_any _).mono ?_
            rintro e w7 ⟨rfl, hb7⟩
            have S8 := Lib.hid (below_chain S3.out (below_chain HBJ.out hb7.out))
            go_wp2_with fail
            go_ret
            exact ⟨rfl, S8⟩
end Go.Proofs.Ytafnnpebdcnadaa
