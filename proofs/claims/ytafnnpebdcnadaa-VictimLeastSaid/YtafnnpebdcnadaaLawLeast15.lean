/- VictimLeast: true, whatever its arguments are. Conditions: the list's cells. -/
import Derived.Test.YtafnnpebdcnadaaLawOthers
set_option linter.unusedVariables false
set_option linter.unusedSimpArgs false
namespace Go.Proofs.Ytafnnpebdcnadaa
open Go.RowKit Go.Sort

/-- The blocks that VictimLeast makes. -/
def leastV (bs : List VB) (i : Nat) : VB := ⟨(i : Int), lowM (bs.getD i VB.zero).cl 9, lowM (bs.getD i VB.zero).di 9, (lowM (bs.getD i VB.zero).ot 3).tdiv 2, lowM (bs.getD i VB.zero).we 100⟩
def leastL (bs : List VB) (n : Nat) : List VB := (List.range n).map (leastV bs)
theorem leastL_len (bs : List VB) (n : Nat) : (leastL bs n).length = n := by simp [leastL]
theorem leastL_next (bs : List VB) (n : Nat) : leastL bs (n + 1) = leastL bs n ++ [leastV bs n] := by unfold leastL; rw [List.range_succ, List.map_append]; rfl
theorem leastL_at (bs : List VB) {n i : Nat} (h : i < n) : (leastL bs n).getD i VB.zero = leastV bs i := by
  unfold leastL
  rw [List.getD_eq_getElem?_getD, List.getElem?_map, List.getElem?_range h]; rfl
theorem tdiv_bd (x : Int) (h0 : 0 ≤ x) (h1 : x < 3) : 0 ≤ x.tdiv 2 ∧ x.tdiv 2 ≤ 1 := by
  obtain rfl | rfl | rfl : x = 0 ∨ x = 1 ∨ x = 2 := by omega
  all_goals decide
theorem leastV_may (bs : List VB) {i : Nat} (h : i < 50) : mayV (leastV bs i) = true := by
  have h1 := lowM_bd (bs.getD i VB.zero).cl 9 (by omega)
  have h2 := lowM_bd (bs.getD i VB.zero).di 9 (by omega)
  have h3 := lowM_bd (bs.getD i VB.zero).we 100 (by omega)
  have h4 := lowM_bd (bs.getD i VB.zero).ot 3 (by omega)
  have h5 := tdiv_bd _ h4.1 h4.2
  rw [mayV_yes]
  unfold leastV
  dsimp only
  exact ⟨⟨by omega, by omega⟩, ⟨by omega, by omega⟩, ⟨by omega, by omega⟩, ⟨by omega, by omega⟩, by omega, by omega⟩
theorem leastV_wf (bs : List VB) {i : Nat} (h : i < 50) : VBWf (leastV bs i) := by
  obtain ⟨⟨a1, a2⟩, ⟨b1, b2⟩, ⟨c1, c2⟩, ⟨d1, d2⟩, e1, e2⟩ := mayV_yes.1 (leastV_may bs h)
  exact ⟨by omega, by omega, by omega, by omega, by omega, by omega, by omega, by omega, by omega, by omega⟩
theorem leastV_di (bs : List VB) (i : Nat) : 0 ≤ (leastV bs i).di ∧ (leastV bs i).di ≤ 8 := by
  have h2 := lowM_bd (bs.getD i VB.zero).di 9 (by omega)
  show 0 ≤ lowM (bs.getD i VB.zero).di 9 ∧ lowM (bs.getD i VB.zero).di 9 ≤ 8
  omega
theorem leastV_cnt (bs : List VB) {i : Nat} (h : i < 50) (h0 : (leastV bs i).ot = 0) : cntV (leastV bs i) = true := cntV_yes.2 ⟨leastV_may bs h, h0⟩
/-- Is there one of the first n that is not other's? -/
def someV (bs : List VB) : Nat → Bool
  | 0 => false
  | n + 1 => someV bs n || ((leastV bs n).ot == 0)
theorem someV_no {bs : List VB} : ∀ {n : Nat}, (∀ i, i < n → (leastV bs i).ot ≠ 0) → someV bs n = false
  | 0, _ => rfl
  | n + 1, h => by
    unfold someV
    rw [someV_no (fun i hi => h i (by omega))]
    have := h n (by omega)
    simpa using this
/-- Where none counts none is. -/
theorem least_none15 {bs : List VB} {n : Nat} (hn : n ≤ 40) (h : ordV (leastL bs n) = []) : someV bs n = false := someV_no fun i hi h0 => by
  have h1 := (ord_is (leastL bs n)).perm
  rw [h] at h1
  have h2 : leastV bs i ∈ List.filter cntV (leastL bs n) := List.mem_filter.2 ⟨List.mem_map.2 ⟨i, List.mem_range.2 hi, rfl⟩, leastV_cnt bs (by omega) h0⟩
  rw [← h1.mem_iff] at h2
  cases h2
/-- The first one: none that counts is ahead of it. -/
theorem least_first15 {bs : List VB} {n : Nat} {z : VB} {zs : List VB} (hn : n ≤ 40) (h : ordV (leastL bs n) = z :: zs) : ∃ a : Nat, a < n ∧ z = leastV bs a ∧ z.id = (a : Int) ∧ z.ot = 0 ∧ ∀ j, j < n → (leastV bs j).ot = 0 → ¬ aheadV (leastV bs j) z := by
  have h1 := ord_is (leastL bs n)
  rw [h] at h1
  have hz := List.mem_filter.1 (h1.perm.mem_iff.1 (show z ∈ z :: zs by simp))
  obtain ⟨a, ha, rfl⟩ := List.mem_map.1 hz.1
  rw [List.mem_range] at ha
  refine ⟨a, ha, rfl, rfl, (cntV_yes.1 hz.2).2, fun j hj h0 => ?_⟩
  have hm : leastV bs j ∈ leastV bs a :: zs := h1.perm.mem_iff.2 (List.mem_filter.2 ⟨List.mem_map.2 ⟨j, List.mem_range.2 hj, rfl⟩, leastV_cnt bs (by omega) h0⟩)
  rcases List.mem_cons.1 hm with e | hm
  · rw [e]; exact ahead_irr
  · exact (List.pairwise_cons.1 h1.up).1 _ hm
theorem min_of15 (ts : Array TypeId) (ty : TypeId) (p q m : Int) (h : (p ≤ q ∧ m = p) ∨ (q ≤ p ∧ m = q)) (w : World) : (Builtin.min_ ts ty #[.int .i64 p, .int .i64 q]).run Try.prog w = .ok (.int .i64 m) w := by
  simp only [Builtin.min_]
  rcases h with ⟨h, rfl⟩ | ⟨h, rfl⟩
  · simp [Builtin.min2]; omega
  · simp [Builtin.min2]; omega
set_option maxHeartbeats 32000000 in
set_option maxRecDepth 20000 in
theorem least_law (A : Option Addr) (n c : Nat) (bs : List VB) (w : World) (hz : n ≤ 9223372036854775807) (h : vblkK.Lie w w.heap.size A n bs) : Calls Try.prog 4 #[.slice A n c] w (SaysB w true) := by
  have H := Lib.hid h
  clear h
  by_cases hn : 40 < n
  · go_enter Try.func4, Try.ntmps4
    go_wp2_with fail
    refine (vawake_any _).mono ?_
    rintro e w1 ⟨rfl, hb1⟩
    go_wp2_with fail
    go_ret
    exact ⟨rfl, hb1⟩
  have hn40 : n ≤ 40 := by omega
  have h1 : ¬ (40 : Int) < (n : Int) := by omega
  go_enter Try.func4, Try.ntmps4
  go_wp2_with fail
  clear h1 hn
  go_loopw [3, 4] (fun t3 t4 wr => ∃ (i : Nat) (A5 : Option Addr) (c5 : Nat), t3 = .slice A5 i c5 ∧ t4 = .int .i64 i ∧ i ≤ n ∧ Hid (vblkK.Row wr w.heap.size A5 i c5 (leastL bs i)) ∧ Hid (Below w.heap.size w wr)) (fun _ t4 _ => n - (intOf t4).toNat)
  case atStart => exact ⟨0, none, 0, rfl, rfl, Nat.zero_le _, Kind.Row.none_, Below.refl _ _⟩
  case round =>
    obtain ⟨Wa, rfl⟩ : ∃ Wa, Wa = wr := ⟨_, rfl⟩
    obtain ⟨i, A5, c5, rfl, rfl, hi, HR, HB⟩ := hrel
    have i0 : (0 : Int) ≤ (i : Int) := by omega
    by_cases hlt : i < n
    · have i1 : (i : Int) < (n : Int) := by omega
      obtain ⟨ad, eA, _, hv, _⟩ := vb_cells (H.out.since HB.out) hlt
      subst eA
      obtain ⟨b, HBV⟩ : ∃ b, Hid (bs.getD i VB.zero = b) := ⟨_, rfl⟩
      rw [HBV.out] at hv
      obtain ⟨d0, d1, d2, d3, d4⟩ := hv
      obtain ⟨gb, HGB⟩ : ∃ gb, Hid (Wa.heap.size = gb) := ⟨_, rfl⟩
      obtain ⟨WE, HWE⟩ : ∃ W, Hid (W = (Wa.alloc (.cells #[.int .i64 b.id, .int .i64 b.cl, .int .i64 b.di, .int .i64 b.ot, .int .i64 b.we] 34)).drew) := ⟨_, rfl⟩
      have HLW : Hid (Below Wa.heap.size Wa WE) := by rw [HWE.out]; exact below_drewN (later_alloc _ _) 1
      have HVB : Hid (VBAt WE ⟨gb, 0, none⟩ b) := by
        have := vb_new Wa b #[.int .i64 b.id, .int .i64 b.cl, .int .i64 b.di, .int .i64 b.ot, .int .i64 b.we] rfl 34
        rw [HWE.out, ← HGB.out]; exact ⟨this.c0, this.c1, this.c2, this.c3, this.c4⟩
      have HGS : Hid (gb < WE.heap.size) := by show _ < _; rw [HWE.out, ← HGB.out]; show Wa.heap.size < (Wa.alloc _).heap.size; simp
      have RE := Lib.hid (HR.out.since HLW.out)
      have BE := Lib.hid (below_chain HB.out HLW.out)
      obtain ⟨q1, HQ1⟩ : ∃ q, Hid (lowM b.cl 9 = q) := ⟨_, rfl⟩
      obtain ⟨q2, HQ2⟩ : ∃ q, Hid (lowM b.di 9 = q) := ⟨_, rfl⟩
      obtain ⟨q3, HQ3⟩ : ∃ q, Hid (lowM b.ot 3 = q) := ⟨_, rfl⟩
      obtain ⟨q4, HQ4⟩ : ∃ q, Hid (lowM b.we 100 = q) := ⟨_, rfl⟩
      obtain ⟨q5, HQ5⟩ : ∃ q, Hid (q3.tdiv 2 = q) := ⟨_, rfl⟩
      have HXV : Hid ((⟨(i : Int), q1, q2, q5, q4⟩ : VB) = leastV bs i) := by show _ = _; unfold leastV; rw [HBV.out, HQ1.out, HQ2.out, HQ3.out, HQ4.out, HQ5.out]
      have HXW : Hid (VBWf (⟨(i : Int), q1, q2, q5, q4⟩ : VB)) := by show VBWf _; rw [HXV.out]; exact leastV_wf bs (by omega)
      have HQD : Hid (∀ x y W, (do eqGuard .quo 3 x y (.int .i64 q3) (.int .i64 2); binOp .quo 3 (.int .i64 q3) (.int .i64 2)).run Try.prog W = .ok (.int .i64 q5) W) := fun x y W => by
        have h4 := lowM_bd b.ot 3 (by omega)
        rw [HQ3.out] at h4
        have h5 := tdiv_bd q3 h4.1 h4.2
        have h6 : IntKind.i64.wrap (q3.tdiv 2) = q3.tdiv 2 := by rw [IntKind.wrap_i64]; omega
        rw [← HQ5.out]
        go_simp
      have HSZ : Hid (w.heap.size ≤ WE.heap.size) := BE.out.size
      clear HR HB
      go_wp2_with fail
      rw [HGB.out]
      clear d0 d1 d2 d3 d4
      refine region_of_steps7 (by kernel_rfl) [some (.slice A5 i c5), some (.int .i64 (i : Int)), some (.pointer (some ⟨gb, 1, none⟩)), some (.int .i64 b.cl), some (.int .i64 q1), some (.pointer (some ⟨gb, 2, none⟩)), some (.int .i64 b.di), some (.int .i64 q2), some (.pointer (some ⟨gb, 3, none⟩)), some (.int .i64 b.ot), some (.int .i64 q3), some (.int .i64 q5), some (.pointer (some ⟨gb, 4, none⟩)), some (.int .i64 b.we), some (.int .i64 q4), some (vblkV ⟨(i : Int), q1, q2, q5, q4⟩), none, none, none] [16, 17, 18] [43, 44, 3] (AppA vblkK w.heap.size WE w.heap.size i (leastL bs i) (⟨(i : Int), q1, q2, q5, q4⟩ : VB)) (by kernel_rfl) (by kernel_rfl) (by rw [← HWE.out]; exact AppA.start (by rw [slots_len]; rfl)) ?_ ?_
      · refine Steps7.cons ?_ (Steps7.cons ?_ (Steps7.cons ?_ (Steps7.cons ?_ (Steps7.cons ?_ (Steps7.cons ?_ (Steps7.cons ?_ (Steps7.cons ?_ (Steps7.cons ?_ (Steps7.cons ?_ (Steps7.cons ?_ (Steps7.cons ?_ (Steps7.cons ?_ (Steps7.cons ?_ (Steps7.cons ?_ (Steps7.cons ?_ (Steps7.cons ?_ (Steps7.cons ?_ (Steps7.cons ?_ (Steps7.nil)))))))))))))))))))
        · intro listed a W H hj hl hd
          have t3 : a.tmps.getD 3 undef = .slice A5 i c5 := (H.before 3 18 0 (by kernel_rfl) (by kernel_rfl) hl).trans rfl
          exact step7_value (i := 0) rfl rfl (run_op_move rfl t3) (calm7 (fun fs vs x y h hl => AppA.later HSZ.out h hl) (by kernel_rfl) (by kernel_rfl) hj (later_refl _)) rfl
        · intro listed a W H hj hl hd
          have t4 : a.tmps.getD 4 undef = .int .i64 (i : Int) := (H.old 4 (by kernel_rfl)).trans rfl
          exact step7_value (i := 1) rfl rfl (run_op_move rfl t4) (calm7 (fun fs vs x y h hl => AppA.later HSZ.out h hl) (by kernel_rfl) (by kernel_rfl) hj (later_refl _)) rfl
        · intro listed a W H hj hl hd
          have t5 : a.tmps.getD 5 undef = .pointer (some ⟨gb, 0, none⟩) := (H.old 5 (by kernel_rfl)).trans rfl
          exact step7_value (i := 2) rfl rfl (run_op_fieldAddr rfl t5 (by go_simp)) (calm7 (fun fs vs x y h hl => AppA.later HSZ.out h hl) (by kernel_rfl) (by kernel_rfl) hj (later_refl _)) rfl
        · intro listed a W H hj hl hd
          have t29 : a.tmps.getD 29 undef = .pointer (some ⟨gb, 1, none⟩) := H.get 2 29 (by kernel_rfl) (dep_of hd 2 (by kernel_rfl)) (fun _ h => by cases h)
          exact step7_value (i := 3) rfl rfl (run_op_load rfl t29 (run_load_i _ _ W ((HVB.out.since (hj.early (show (flags [16, 17, 18] listed).getD 1 false = false from H.notyets 4 hl (by kernel_rfl))) HGS.out).c1))) (calm7 (fun fs vs x y h hl => AppA.later HSZ.out h hl) (by kernel_rfl) (by kernel_rfl) hj (later_refl _)) rfl
        · intro listed a W H hj hl hd
          have t30 : a.tmps.getD 30 undef = .int .i64 b.cl := H.get 3 30 (by kernel_rfl) (dep_of hd 3 (by kernel_rfl)) (fun _ h => by cases h)
          refine step7_call (i := 4) rfl rfl (run_op_call (vs := #[.int .i64 b.cl, .int .i64 9]) Try.func18 (by kernel_rfl) (by kernel_rfl) rfl (by simp only [List.map_toArray, List.map_cons, List.map_nil]; show #[a.tmps.getD 30 undef, .int .i64 9] = _; rw [t30])) ?_
          refine (low_any _ _ (by omega) (by omega) W).mono ?_
          rintro e w' ⟨rfl, rfl⟩
          refine ⟨_, rfl, (calm7 (fun fs vs x y h hl => AppA.later HSZ.out h hl) (by kernel_rfl) (by kernel_rfl) hj (later_refl _)), ?_⟩
          show Value.int IntKind.i64 _ = _; rw [HQ1.out]
        · intro listed a W H hj hl hd
          have t5 : a.tmps.getD 5 undef = .pointer (some ⟨gb, 0, none⟩) := (H.old 5 (by kernel_rfl)).trans rfl
          exact step7_value (i := 5) rfl rfl (run_op_fieldAddr rfl t5 (by go_simp)) (calm7 (fun fs vs x y h hl => AppA.later HSZ.out h hl) (by kernel_rfl) (by kernel_rfl) hj (later_refl _)) rfl
        · intro listed a W H hj hl hd
          have t32 : a.tmps.getD 32 undef = .pointer (some ⟨gb, 2, none⟩) := H.get 5 32 (by kernel_rfl) (dep_of hd 5 (by kernel_rfl)) (fun _ h => by cases h)
          exact step7_value (i := 6) rfl rfl (run_op_load rfl t32 (run_load_i _ _ W ((HVB.out.since (hj.early (show (flags [16, 17, 18] listed).getD 1 false = false from H.notyets 4 hl (by kernel_rfl))) HGS.out).c2))) (calm7 (fun fs vs x y h hl => AppA.later HSZ.out h hl) (by kernel_rfl) (by kernel_rfl) hj (later_refl _)) rfl
        · intro listed a W H hj hl hd
          have t33 : a.tmps.getD 33 undef = .int .i64 b.di := H.get 6 33 (by kernel_rfl) (dep_of hd 6 (by kernel_rfl)) (fun _ h => by cases h)
          refine step7_call (i := 7) rfl rfl (run_op_call (vs := #[.int .i64 b.di, .int .i64 9]) Try.func18 (by kernel_rfl) (by kernel_rfl) rfl (by simp only [List.map_toArray, List.map_cons, List.map_nil]; show #[a.tmps.getD 33 undef, .int .i64 9] = _; rw [t33])) ?_
          refine (low_any _ _ (by omega) (by omega) W).mono ?_
          rintro e w' ⟨rfl, rfl⟩
          refine ⟨_, rfl, (calm7 (fun fs vs x y h hl => AppA.later HSZ.out h hl) (by kernel_rfl) (by kernel_rfl) hj (later_refl _)), ?_⟩
          show Value.int IntKind.i64 _ = _; rw [HQ2.out]
        · intro listed a W H hj hl hd
          have t5 : a.tmps.getD 5 undef = .pointer (some ⟨gb, 0, none⟩) := (H.old 5 (by kernel_rfl)).trans rfl
          exact step7_value (i := 8) rfl rfl (run_op_fieldAddr rfl t5 (by go_simp)) (calm7 (fun fs vs x y h hl => AppA.later HSZ.out h hl) (by kernel_rfl) (by kernel_rfl) hj (later_refl _)) rfl
        · intro listed a W H hj hl hd
          have t35 : a.tmps.getD 35 undef = .pointer (some ⟨gb, 3, none⟩) := H.get 8 35 (by kernel_rfl) (dep_of hd 8 (by kernel_rfl)) (fun _ h => by cases h)
          exact step7_value (i := 9) rfl rfl (run_op_load rfl t35 (run_load_i _ _ W ((HVB.out.since (hj.early (show (flags [16, 17, 18] listed).getD 1 false = false from H.notyets 4 hl (by kernel_rfl))) HGS.out).c3))) (calm7 (fun fs vs x y h hl => AppA.later HSZ.out h hl) (by kernel_rfl) (by kernel_rfl) hj (later_refl _)) rfl
        · intro listed a W H hj hl hd
          have t36 : a.tmps.getD 36 undef = .int .i64 b.ot := H.get 9 36 (by kernel_rfl) (dep_of hd 9 (by kernel_rfl)) (fun _ h => by cases h)
          refine step7_call (i := 10) rfl rfl (run_op_call (vs := #[.int .i64 b.ot, .int .i64 3]) Try.func18 (by kernel_rfl) (by kernel_rfl) rfl (by simp only [List.map_toArray, List.map_cons, List.map_nil]; show #[a.tmps.getD 36 undef, .int .i64 3] = _; rw [t36])) ?_
          refine (low_any _ _ (by omega) (by omega) W).mono ?_
          rintro e w' ⟨rfl, rfl⟩
          refine ⟨_, rfl, (calm7 (fun fs vs x y h hl => AppA.later HSZ.out h hl) (by kernel_rfl) (by kernel_rfl) hj (later_refl _)), ?_⟩
          show Value.int IntKind.i64 _ = _; rw [HQ3.out]
        · intro listed a W H hj hl hd
          have t37 : a.tmps.getD 37 undef = .int .i64 q3 := H.get 10 37 (by kernel_rfl) (dep_of hd 10 (by kernel_rfl)) (fun _ h => by cases h)
          exact step7_value (i := 11) rfl rfl (run_op_bin rfl t37 rfl (HQD.out _ _ _)) (calm7 (fun fs vs x y h hl => AppA.later HSZ.out h hl) (by kernel_rfl) (by kernel_rfl) hj (later_refl _)) rfl
        · intro listed a W H hj hl hd
          have t5 : a.tmps.getD 5 undef = .pointer (some ⟨gb, 0, none⟩) := (H.old 5 (by kernel_rfl)).trans rfl
          exact step7_value (i := 12) rfl rfl (run_op_fieldAddr rfl t5 (by go_simp)) (calm7 (fun fs vs x y h hl => AppA.later HSZ.out h hl) (by kernel_rfl) (by kernel_rfl) hj (later_refl _)) rfl
        · intro listed a W H hj hl hd
          have t39 : a.tmps.getD 39 undef = .pointer (some ⟨gb, 4, none⟩) := H.get 12 39 (by kernel_rfl) (dep_of hd 12 (by kernel_rfl)) (fun _ h => by cases h)
          exact step7_value (i := 13) rfl rfl (run_op_load rfl t39 (run_load_i _ _ W ((HVB.out.since (hj.early (show (flags [16, 17, 18] listed).getD 1 false = false from H.notyets 4 hl (by kernel_rfl))) HGS.out).c4))) (calm7 (fun fs vs x y h hl => AppA.later HSZ.out h hl) (by kernel_rfl) (by kernel_rfl) hj (later_refl _)) rfl
        · intro listed a W H hj hl hd
          have t40 : a.tmps.getD 40 undef = .int .i64 b.we := H.get 13 40 (by kernel_rfl) (dep_of hd 13 (by kernel_rfl)) (fun _ h => by cases h)
          refine step7_call (i := 14) rfl rfl (run_op_call (vs := #[.int .i64 b.we, .int .i64 100]) Try.func18 (by kernel_rfl) (by kernel_rfl) rfl (by simp only [List.map_toArray, List.map_cons, List.map_nil]; show #[a.tmps.getD 40 undef, .int .i64 100] = _; rw [t40])) ?_
          refine (low_any _ _ (by omega) (by omega) W).mono ?_
          rintro e w' ⟨rfl, rfl⟩
          refine ⟨_, rfl, (calm7 (fun fs vs x y h hl => AppA.later HSZ.out h hl) (by kernel_rfl) (by kernel_rfl) hj (later_refl _)), ?_⟩
          show Value.int IntKind.i64 _ = _; rw [HQ4.out]
        · intro listed a W H hj hl hd
          have t28 : a.tmps.getD 28 undef = .int .i64 (i : Int) := H.get 1 28 (by kernel_rfl) (dep_of hd 1 (by kernel_rfl)) (fun _ h => by cases h)
          have t31 : a.tmps.getD 31 undef = .int .i64 q1 := H.get 4 31 (by kernel_rfl) (dep_of hd 4 (by kernel_rfl)) (fun _ h => by cases h)
          have t34 : a.tmps.getD 34 undef = .int .i64 q2 := H.get 7 34 (by kernel_rfl) (dep_of hd 7 (by kernel_rfl)) (fun _ h => by cases h)
          have t38 : a.tmps.getD 38 undef = .int .i64 q5 := H.get 11 38 (by kernel_rfl) (dep_of hd 11 (by kernel_rfl)) (fun _ h => by cases h)
          have t41 : a.tmps.getD 41 undef = .int .i64 q4 := H.get 14 41 (by kernel_rfl) (dep_of hd 14 (by kernel_rfl)) (fun _ h => by cases h)
          exact step7_value (i := 15) rfl rfl (run_op_buildV rfl (by simp only [List.map_toArray, List.map_cons, List.map_nil]; show (Instr.build 34 #[(0, a.tmps.getD 28 undef), (1, a.tmps.getD 31 undef), (2, a.tmps.getD 34 undef), (3, a.tmps.getD 38 undef), (4, a.tmps.getD 41 undef)]).run _ _ = _; rw [t28, t31, t34, t38, t41]; exact run_build_vb5 _ _ _ _ _ W)) (calm7 (fun fs vs x y h hl => AppA.later HSZ.out h hl) (by kernel_rfl) (by kernel_rfl) hj (later_refl _)) rfl
        · intro listed a W H hj hl hd
          have t42 : a.tmps.getD 42 undef = vblkV ⟨(i : Int), q1, q2, q5, q4⟩ := H.get 15 42 (by kernel_rfl) (dep_of hd 15 (by kernel_rfl)) (fun _ h => by cases h)
          have f1 : (flags [16, 17, 18] listed).getD 1 false = false := H.notyets 4 hl (by kernel_rfl)
          have hk9 := hj.build HSZ.out f1 HXW.out _ rfl
          rw [← flags_put (m := 16) 0 rfl (by decide), ← slots_at (a := a) (d := 43) 0 rfl (by decide) (by rw [H.size]; exact of_decide_eq_true (by kernel_rfl))] at hk9
          exact step7_value (i := 16) rfl rfl (run_op_build rfl (by simp only [List.map_toArray, List.map_cons, List.map_nil]; show (Instr.buildSlice 22 1 #[(0, a.tmps.getD 42 undef)]).run _ _ = _; rw [t42]; exact run_build_vb _ W)) hk9 trivial
        · intro listed a W H hj hl hd
          have t27 : a.tmps.getD 27 undef = .slice A5 i c5 := H.get 0 27 (by kernel_rfl) (dep_of hd 0 (by kernel_rfl)) (fun _ h => by cases h)
          have d43 : listed.getD 16 false = true := dep_of hd 16 (by kernel_rfl)
          have f0 : (flags [16, 17, 18] listed).getD 0 false = true := done_true (dep_of hd 16 (by kernel_rfl))
          have f1 : (flags [16, 17, 18] listed).getD 1 false = false := hl
          have f2 : (flags [16, 17, 18] listed).getD 2 false = false := H.notyets 4 hl (by kernel_rfl)
          obtain ⟨A9, c9, W9, hr, hk9⟩ := hj.append (Nat.le_refl _) HSZ.out f0 f1 f2 RE.out (by omega)
          rw [← flags_put (m := 17) 1 rfl (by decide), ← slots_at (a := a) (d := 44) 1 rfl (by decide) (by rw [H.size]; exact of_decide_eq_true (by kernel_rfl))] at hk9
          exact step7_value (i := 17) rfl rfl (run_op_append rfl t27 rfl hr) hk9 trivial
        · intro listed a W H hj hl hd
          have d44 : listed.getD 17 false = true := dep_of hd 17 (by kernel_rfl)
          have hk9 := hj.assign
          rw [← flags_put (m := 18) 2 rfl (by decide), ← slots_at (a := a) (d := 3) 2 rfl (by decide) (by rw [H.size]; exact of_decide_eq_true (by kernel_rfl))] at hk9
          exact step7_value (i := 18) rfl rfl (run_op_assign rfl rfl) hk9 trivial
      · intro a WC hdef hsz hw hall hact
        obtain ⟨u, hu⟩ : ∃ u : Nat → Value, ∀ k, a.tmps.getD k undef = u k := ⟨_, fun _ => rfl⟩
        simp only [hu] at hact
        have hact' : a = ([27, 28, 29, 30, 31, 32, 33, 34, 35, 36, 37, 38, 39, 40, 41, 42, 43, 44, 3] : List Nat).foldl (fun b k => b.put (some k) (u k)) _ := hact
        simp only [List.foldl] at hact'
        simp only [Act.put, List.setIfInBounds_toArray, List.set_cons_succ, List.set_cons_zero] at hact'
        have HAC := Lib.hid hact'
        have HX := Lib.hid hw
        clear hact hact' hall hdef hsz hw
        rw [HAC.out]
        have ea : u 3 = u 44 := by rw [← hu, ← hu]; exact HX.out.asg rfl
        obtain ⟨A6, c6, e6, r6⟩ := HX.out.app rfl
        have e59 : u 44 = .slice A6 (i + 1) c6 := by rw [← hu]; exact e6
        have R6 := Lib.hid (r6.same (show leastL bs i ++ [(⟨(i : Int), q1, q2, q5, q4⟩ : VB)] = leastL bs (i + 1) by rw [leastL_next, HXV.out]))
        have B6 := Lib.hid (BE.out.trans HX.out.old)
        rw [ea, e59]
        clear RE BE HX HWE hu e6 r6 ea e59 HVB HGS HLW HXV HXW HQ1 HQ2 HQ3 HQ4 HQ5 HQD HBV HSZ HGB
        go_wp2_with fail
        go_roundw
        case rel => exact ⟨i + 1, A6, c6, rfl, by go_num, by omega, R6, B6⟩
        case measure => simp [intOf]; omega
    · obtain rfl : i = n := by omega
      obtain ⟨es, HES⟩ : ∃ es, Hid (leastL bs i = es) := ⟨_, rfl⟩
      have HAT : Hid (∀ j, j < i → es.getD j VB.zero = leastV bs j) := fun j hj => by rw [← HES.out]; exact leastL_at bs hj
      rw [HES.out] at HR
      obtain ⟨o, HO⟩ : ∃ o, Hid (ordV es = o) := ⟨_, rfl⟩
      have D1 := Lib.hid (vchoose_any A5 i c5 es Wa (by omega) HR.out.lie)
      rw [HO.out] at D1
      obtain ⟨ra, rb, HRV⟩ : ∃ ra rb, Hid (firstV o = (ra, rb)) := ⟨_, _, rfl⟩
      rw [HRV.out] at D1
      go_wp2_with fail
      refine D1.out.mono ?_
      rintro e w1 ⟨rfl, hb1⟩
      have R1 := Lib.hid (HR.out.since hb1.out)
      have B1 := Lib.hid (below_chain HB.out hb1.out)
      clear D1 hb1 HR HB
      go_wp2_with fail
      go_loopw [8, 9] (fun t8 t9 wr => ∃ (j : Nat), t8 = .bool (someV bs j) ∧ t9 = .int .i64 j ∧ j ≤ i ∧ wr = w1) (fun _ t9 _ => i - (intOf t9).toNat)
      case atStart => exact ⟨0, rfl, rfl, Nat.zero_le _, rfl⟩
      case round =>
        obtain ⟨Wc, rfl⟩ : ∃ Wc, Wc = wr := ⟨_, rfl⟩
        obtain ⟨j, rfl, rfl, hj, hwr⟩ := hrel
        subst hwr
        have j0 : (0 : Int) ≤ (j : Int) := by omega
        by_cases hlt2 : j < i
        · have j1 : (j : Int) < (i : Int) := by omega
          obtain ⟨ao, eA, _, hv, _⟩ := vb_cells R1.out.lie hlt2
          subst eA
          rw [HAT.out j hlt2] at hv
          have d3 := hv.c3
          obtain ⟨y, HY⟩ : ∃ y, Hid ((leastV bs j).ot = y) := ⟨_, rfl⟩
          rw [HY.out] at d3
          obtain ⟨s, HS⟩ : ∃ s, Hid (someV bs j = s) := ⟨_, rfl⟩
          have HN : Hid (someV bs (j + 1) = (s || (y == 0))) := by show _ = _; rw [← HS.out, ← HY.out]; rfl
          rw [HS.out]
          clear hv
          cases s with
          | true =>
            have HN2 : Hid (someV bs (j + 1) = true) := HN.out
            go_wp2_with fail
            go_roundw
            case rel => exact ⟨j + 1, by rw [HN2.out], by go_num, by omega, by first | rfl | trivial⟩
            case measure => simp [intOf]; omega
          | false =>
            obtain ⟨q, HQ⟩ : ∃ q, Hid ((y == 0) = q) := ⟨_, rfl⟩
            have hq := HQ.out
            have HN2 : Hid (someV bs (j + 1) = q) := by rw [HN.out, HQ.out]; cases q <;> rfl
            go_wp2_with fail
            go_roundw
            case rel => exact ⟨j + 1, by rw [HN2.out], by go_num, by omega, by first | rfl | trivial⟩
            case measure => simp [intOf]; omega
        · obtain rfl : j = i := by omega
          cases o with
          | nil =>
            have HSN : Hid (someV bs j = false) := least_none15 hn40 (by rw [HES.out]; exact HO.out)
            rw [HSN.out]
            obtain ⟨rfl, rfl⟩ : ra = 0 ∧ rb = false := by have := HRV.out; unfold firstV at this; injection this with h1 h2; exact ⟨h1.symm, h2.symm⟩
            go_wp2_with fail
            refine (vawake_any _).mono ?_
            rintro e w7 ⟨rfl, hb7⟩
            have S8 := Lib.hid (below_chain B1.out hb7.out)
            go_wp2_with fail
            go_ret
            exact ⟨rfl, S8⟩
          | cons z zs =>
            obtain ⟨a, ha, hza, hzi, hzo, hzl⟩ := least_first15 hn40 (show ordV (leastL bs j) = z :: zs by rw [HES.out]; exact HO.out)
            have hrr : ra = (a : Int) ∧ rb = true := by have := HRV.out; unfold firstV at this; injection this with h1 h2; exact ⟨h1.symm.trans hzi, h2.symm⟩
            obtain ⟨rfl, rfl⟩ := hrr
            have HZA := Lib.hid hza
            have HZO := Lib.hid hzo
            have HZL := Lib.hid hzl
            have HZM : Hid (mayV z = true) := by rw [hza]; exact leastV_may bs (by omega)
            have HZW : Hid (VBWf z) := by rw [hza]; exact leastV_wf bs (by omega)
            have HZD : Hid (0 ≤ z.di ∧ z.di ≤ 8) := by rw [hza]; exact leastV_di bs a
            clear hza hzi hzo hzl HRV
            have a0 : (0 : Int) ≤ (a : Int) := by omega
            have a1 : (a : Int) < (j : Int) := by omega
            have a2 : ¬ (a : Int) < 0 := by omega
            have a3 : ¬ (j : Int) ≤ (a : Int) := by omega
            obtain ⟨ao, eA, _, hv, _⟩ := vb_cells R1.out.lie ha
            subst eA
            rw [HAT.out a ha, ← HZA.out] at hv
            obtain ⟨z0, z1, z2, z3, z4⟩ := hv
            obtain ⟨W2, HW2⟩ : ∃ W, Hid (W = Wc.alloc (.cells #[.int .i64 z.id, .int .i64 z.cl, .int .i64 z.di, .int .i64 z.ot, .int .i64 z.we] 34)) := ⟨_, rfl⟩
            have L2 : Hid (Below Wc.heap.size Wc W2) := by rw [HW2.out]; exact later_alloc _ _
            have VZ : Hid (VBAt W2 ⟨Wc.heap.size, 0, none⟩ z) := by rw [HW2.out]; exact vb_new Wc z _ rfl _
            have HGZ : Hid (Wc.heap.size < W2.heap.size) := by show _ < _; rw [HW2.out]; simp
            go_wp2_with fail
            clear z0 z1 z2 z3 z4
            rw [← HW2.out]
            obtain ⟨gz, HGZE⟩ : ∃ g, Hid (Wc.heap.size = g) := ⟨_, rfl⟩
            rw [HGZE.out] at VZ HGZ ⊢
            go_wp2_with fail
            go_loopw [11] (fun t11 wr2 => ∃ (k : Nat), t11 = .int .i64 k ∧ k ≤ j ∧ Hid (Below W2.heap.size W2 wr2)) (fun t11 _ => j - (intOf t11).toNat)
            case atStart => exact ⟨0, rfl, Nat.zero_le _, Below.refl _ _⟩
            case round =>
              obtain ⟨Wd, rfl⟩ : ∃ Wd, Wd = wr := ⟨_, rfl⟩
              obtain ⟨k, rfl, hk, HBK⟩ := hrel
              have k0 : (0 : Int) ≤ (k : Int) := by omega
              by_cases hlt3 : k < j
              · have k1 : (k : Int) < (j : Int) := by omega
                obtain ⟨ao2, eA2, _, hv, _⟩ := vb_cells (R1.out.since (below_chain L2.out HBK.out)).lie hlt3
                obtain rfl := Option.some.inj eA2
                obtain ⟨b, HBV⟩ : ∃ b, Hid (leastV bs k = b) := ⟨_, rfl⟩
                rw [HAT.out k hlt3, HBV.out] at hv
                have HBL : Hid (b.ot = 0 → ¬ aheadV b z) := fun h0 => by rw [← HBV.out]; exact HZL.out k hlt3 (by rw [HBV.out]; exact h0)
                obtain ⟨d0, d1, d2, d3, d4⟩ := hv
                obtain ⟨W3, HW3⟩ : ∃ W, Hid (W = Wd.alloc (.cells #[.int .i64 b.id, .int .i64 b.cl, .int .i64 b.di, .int .i64 b.ot, .int .i64 b.we] 34)) := ⟨_, rfl⟩
                have L3 : Hid (Below Wd.heap.size Wd W3) := by rw [HW3.out]; exact later_alloc _ _
                have vb : VBAt W3 ⟨Wd.heap.size, 0, none⟩ b := by rw [HW3.out]; exact vb_new Wd b _ rfl _
                have HBK2 := Lib.hid (below_chain HBK.out L3.out)
                have vz := VZ.out.since HBK2.out HGZ.out
                have y1 : W3.cell? ⟨gz, 1, none⟩ = _ := vz.c1
                have y2 : W3.cell? ⟨gz, 2, none⟩ = _ := vz.c2
                have HBK3 : Hid (Below W2.heap.size W2 (Wd.alloc (.cells #[.int .i64 b.id, .int .i64 b.cl, .int .i64 b.di, .int .i64 b.ot, .int .i64 b.we] 34))) := by have := HBK2.out; rw [HW3.out] at this; exact this
                rw [HW3.out] at y1 y2
                obtain ⟨bi, bc, bd, bo, bw⟩ := b
                obtain ⟨zi, zc, zd, zo, zw⟩ := z
                dsimp only at y1 y2 d0 d1 d2 d3 d4 HBK3 ⊢
                clear vb vz HW3 HBK2 L3
                by_cases ho : bo = 0
                · have hnl := HBL.out ho
                  unfold aheadV at hnl
                  dsimp only at hnl
                  have o1 : (bo == 0) = true := by simp [ho]
                  have l1 : decide (bd < zd) = false := decide_eq_false (by omega)
                  have l1n : ¬ bd < zd := by omega
                  clear ho
                  by_cases he : bd = zd
                  · have l3 : decide (zc < bc) = false := decide_eq_false (by omega)
                    have l3n : ¬ zc < bc := by omega
                    have l2 : (bd == zd) = true := by simp [he]
                    clear hnl he
                    go_wp2_with fail
                    go_roundw
                    case rel => exact ⟨k + 1, by go_num, by omega, HBK3⟩
                    case measure => simp [intOf]; omega
                  · have l2 : (bd == zd) = false := by simp [he]
                    clear hnl he
                    go_wp2_with fail
                    go_roundw
                    case rel => exact ⟨k + 1, by go_num, by omega, HBK3⟩
                    case measure => simp [intOf]; omega
                · have o1 : (bo == 0) = false := by simp [ho]
                  clear ho
                  go_wp2_with fail
                  go_roundw
                  case rel => exact ⟨k + 1, by go_num, by omega, HBK3⟩
                  case measure => simp [intOf]; omega
              · have k1 : ¬ (k : Int) < (j : Int) := by omega
                have vz := VZ.out.since HBK.out HGZ.out
                have y0 := vz.c0
                have y1 : Wd.cell? ⟨gz, 1, none⟩ = _ := vz.c1
                have y2 : Wd.cell? ⟨gz, 2, none⟩ = _ := vz.c2
                have y3 : Wd.cell? ⟨gz, 3, none⟩ = _ := vz.c3
                have y4 : Wd.cell? ⟨gz, 4, none⟩ = _ := vz.c4
                have HGN : Hid (gainV 8 z = 8 - z.di) := by
                  show _ = _
                  unfold gainV
                  rw [if_pos ⟨cntV_yes.2 ⟨HZM.out, HZO.out⟩, by decide⟩, if_neg]
                  have := HZD.out.2
                  omega
                have hmin : ∀ ts ty w, (Builtin.min_ ts ty #[.int .i64 z.di, .int .i64 8]).run Try.prog w = .ok (.int .i64 z.di) w := fun ts ty w => min_of15 ts ty _ _ _ (Or.inl ⟨HZD.out.2, rfl⟩) w
                have o1 : (z.ot == 0) = true := by rw [HZO.out]; rfl
                have hzd := HZD.out
                have c1 : Hid (∀ (d : Nat) (os : Array Obj), Calls Try.prog 14 #[.int .i64 8, .agg #[.int .i64 z.id, .int .i64 z.cl, .int .i64 z.di, .int .i64 z.ot, .int .i64 z.we]] (grow (redrawn Wd d) os) fun e w'' => e = .returned (.int .i64 (8 - z.di)) ∧ ∃ p : Regrown, w'' = grow (redrawn Wd p.d) p.os) := fun d os => quiet_saysi (by have := vgain_any 8 z (grow (redrawn Wd d) os) HZW.out; rw [HGN.out] at this; exact this)
                have c2 : Hid (∀ (d : Nat) (os : Array Obj), Calls Try.prog 7 #[] (grow (redrawn Wd d) os) fun e w'' => e = .returned (.bool true) ∧ ∃ p : Regrown, w'' = grow (redrawn Wd p.d) p.os) := fun d os => quiet_says (vawake_any _)
                have e0 := cell_regrown y0
                have e1 := cell_regrown y1
                have e2 := cell_regrown y2
                have e3 := cell_regrown y3
                have e4 := cell_regrown y4
                have S3 := Lib.hid (below_chain B1.out (below_chain L2.out HBK.out))
                clear y0 y1 y2 y3 y4 vz
                go_wp2_with fail
                refine wp_region_quiet_below (by kernel_rfl) (by kernel_rfl) ?_
                repeat (go_big_quiet_step (first | (go_at_call 14; exact c1.out _ _) | (go_at_call 7; exact c2.out _ _)))
                refine wpQuiet_nil ?_
                intro W9 hw'
                have S9 : Hid (Below w.heap.size w W9) := by obtain ⟨⟨dq, osq⟩, hw''⟩ := hw'; rw [hw'']; exact below_chain S3.out (below_regrown _ _ _)
                clear hw' e0 e1 e2 e3 e4 c1 c2
                go_wp2_with fail
                go_ret
                exact ⟨rfl, S9⟩
end Go.Proofs.Ytafnnpebdcnadaa
