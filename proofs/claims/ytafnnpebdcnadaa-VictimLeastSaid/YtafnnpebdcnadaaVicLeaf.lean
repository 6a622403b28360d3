/- The landed victim's small functions: mayBe, isMovable, Cost, Gain, cmp.Compare, cmp.Or, compare. Conditions: the numbers' bounds. -/
import Derived.Test.YtafnnpebdcnadaaVicRun
import Derived.Test.YtafnnpebdcnadaaQuiet
import Derived.Shelf.SlSortCmp.QuietGrown
set_option linter.unusedVariables false
set_option linter.unusedSimpArgs false
namespace Go.Proofs.Ytafnnpebdcnadaa
open Go.RowKit Go.Sort

/-- New blocks alone, and draws. -/
def Gro (x y : World) : Prop := ∃ q os, y = grow (x.drewN q) os
theorem gro_refl (x : World) : Gro x x := ⟨0, #[], by rw [grow_empty]; rfl⟩
theorem gro_alloc (x : World) (o : Obj) : Gro x (x.alloc o) := ⟨0, #[o], by rw [alloc_eq_grow]; rfl⟩
theorem gro_drew (x : World) : Gro x x.drew := ⟨1, #[], by rw [grow_empty]; rfl⟩
theorem Gro.trans {x y z : World} (h : Gro x y) (k : Gro y z) : Gro x z := by
  obtain ⟨q, os, rfl⟩ := h
  obtain ⟨q2, os2, rfl⟩ := k
  exact ⟨q + q2, os ++ os2, by
    show grow (grow ((x.drewN q).drewN q2) os) os2 = _
    rw [grow_grow, World.drewN_drewN]⟩
theorem Gro.later {x y : World} (h : Gro x y) : Later x y := by
  obtain ⟨q, os, rfl⟩ := h
  exact ⟨rfl, rfl, rfl, by show x.heap.size ≤ (x.heap ++ os).size; rw [Array.size_append]; omega, fun j hj => by
    show (x.heap ++ os)[j]? = x.heap[j]?
    rw [Array.getElem?_append_left hj]⟩
theorem calm7g {ms ks : List Nat} {J : List Bool → List Value → World → Prop} {i : Nat} {listed : Array Bool} {a : Act} {d : Option Nat} {v : Value} {w w' : World} (hJ : ∀ fs vs x y, J fs vs x → Gro x y → J fs vs y) (hm : ms.contains i = false) (hk : (match d with | some k => ks.contains k | none => false) = false) (h : J (flags ms listed) (slots ks a) w) (hl : Gro w w') :
    J (flags ms (listed.setIfInBounds i true)) (slots ks (a.put d v)) w' := by
  rw [flags_other hm, slots_put (fun k e => by rw [e] at hk; exact hk)]
  exact hJ _ _ _ _ h hl
/- numbers -/
theorem vmay_any (x : Int) (w : World) : Calls Try.prog 24 #[.int .i64 x] w fun e w' => e = .returned (.bool (fineI x)) ∧ w' = w := by
  by_cases h0 : x < 0
  · rw [fineI_no.2 (Or.inl h0)]
    have d0 : decide (0 ≤ x) = false := decide_eq_false (by omega)
    go_enter Try.func24, Try.ntmps24
    go_wp2_with fail
    go_ret
    exact ⟨rfl, rfl⟩
  · have d0 : decide (0 ≤ x) = true := decide_eq_true (by omega)
    by_cases h1 : 1073741824 < x
    · rw [fineI_no.2 (Or.inr h1)]
      have d1 : decide (x ≤ 1073741824) = false := decide_eq_false (by omega)
      go_enter Try.func24, Try.ntmps24
      go_wp2_with fail
      go_ret
      exact ⟨rfl, rfl⟩
    · rw [fineI_yes.2 ⟨by omega, by omega⟩]
      have d1 : decide (x ≤ 1073741824) = true := decide_eq_true (by omega)
      go_enter Try.func24, Try.ntmps24
      go_wp2_with fail
      go_ret
      exact ⟨rfl, rfl⟩
def cmpI (x y : Int) : Int := if x < y then -1 else if y < x then 1 else 0
theorem cmpI_neg (x y : Int) : cmpI x y < 0 ↔ x < y := by
  unfold cmpI
  by_cases h : x < y
  · rw [if_pos h]; exact ⟨fun _ => h, fun _ => by decide⟩
  · rw [if_neg h]
    by_cases k : y < x
    · rw [if_pos k]; exact ⟨fun h => absurd h (by decide), fun h => by omega⟩
    · rw [if_neg k]; exact ⟨fun h => absurd h (by decide), fun h => by omega⟩
theorem cmpI_zero (x y : Int) : cmpI x y = 0 ↔ x = y := by
  unfold cmpI
  by_cases h : x < y
  · rw [if_pos h]; exact ⟨fun h => absurd h (by decide), fun h => by omega⟩
  · rw [if_neg h]
    by_cases k : y < x
    · rw [if_pos k]; exact ⟨fun h => absurd h (by decide), fun h => by omega⟩
    · rw [if_neg k]; exact ⟨fun h => by omega, fun _ => rfl⟩
theorem cmpI_bd (x y : Int) : -1 ≤ cmpI x y ∧ cmpI x y ≤ 1 := by
  unfold cmpI
  split
  · exact ⟨by decide, by decide⟩
  · split
    · exact ⟨by decide, by decide⟩
    · exact ⟨by decide, by decide⟩
theorem isnan_any (x : Int) (w : World) : Calls Try.prog 41 #[.int .i64 x] w fun e w' => e = .returned (.bool false) ∧ w' = w := by
  go_enter Try.func41, Try.ntmps41
  go_wp2_with fail
  go_ret
  exact ⟨rfl, rfl⟩
theorem compare_any (x y : Int) (w : World) : Calls Try.prog 30 #[.int .i64 x, .int .i64 y] w fun e w' => e = .returned (.int .i64 (cmpI x y)) ∧ w' = w := by
  have C1 := Lib.hid (isnan_any x w)
  have C2 := Lib.hid (isnan_any y w)
  by_cases h0 : x < y
  · rw [show cmpI x y = -1 from if_pos h0]
    go_enter Try.func30, Try.ntmps30
    go_wp2_with fail
    refine C1.out.mono ?_
    rintro e w' ⟨rfl, rfl⟩
    go_wp2_with fail
    refine C2.out.mono ?_
    rintro e w' ⟨rfl, rfl⟩
    go_wp2_with fail
    go_ret
    exact ⟨rfl, rfl⟩
  · by_cases h1 : y < x
    · rw [show cmpI x y = 1 by unfold cmpI; rw [if_neg h0, if_pos h1]]
      go_enter Try.func30, Try.ntmps30
      go_wp2_with fail
      refine C1.out.mono ?_
      rintro e w' ⟨rfl, rfl⟩
      go_wp2_with fail
      refine C2.out.mono ?_
      rintro e w' ⟨rfl, rfl⟩
      go_wp2_with fail
      go_ret
      exact ⟨rfl, rfl⟩
    · rw [show cmpI x y = 0 by unfold cmpI; rw [if_neg h0, if_neg h1]]
      go_enter Try.func30, Try.ntmps30
      go_wp2_with fail
      refine C1.out.mono ?_
      rintro e w' ⟨rfl, rfl⟩
      go_wp2_with fail
      refine C2.out.mono ?_
      rintro e w' ⟨rfl, rfl⟩
      go_wp2_with fail
      go_ret
      exact ⟨rfl, rfl⟩
/-- The first of four numbers that is not 0. -/
def orI (rs : List Int) : Int := match rs with
  | [] => 0
  | r :: rs => if r ≠ 0 then r else orI rs
theorem orI_at : ∀ {rs : List Int} {j : Nat}, (∀ i, i < j → rs.getD i 0 = 0) → j < rs.length → rs.getD j 0 ≠ 0 → orI rs = rs.getD j 0
  | [], j, _, h, _ => by simp at h
  | r :: rs, 0, _, _, h => by
    unfold orI
    rw [if_pos (by simpa using h)]; rfl
  | r :: rs, j + 1, h0, h1, h2 => by
    have e : r = 0 := h0 0 (by omega)
    unfold orI
    rw [if_neg (by simpa using e), orI_at (rs := rs) (j := j) (fun i hi => by simpa using h0 (i + 1) (by omega)) (by simpa using h1) (by simpa using h2)]
    rfl
theorem orI_none : ∀ {rs : List Int}, (∀ i, i < rs.length → rs.getD i 0 = 0) → orI rs = 0
  | [], _ => rfl
  | r :: rs, h => by
    have e : r = 0 := h 0 (by simp)
    unfold orI
    rw [if_neg (by simpa using e), orI_none (rs := rs) fun i hi => by simpa using h (i + 1) (by simpa using hi)]
set_option maxHeartbeats 2000000 in
theorem vor_any (A : Option Addr) (n c : Nat) (rs : List Int) (w : World) (hn : n ≤ 8000) (h : intK.Lie w w.heap.size A n rs) : Calls Try.prog 29 #[.slice A n c] w fun e w' => e = .returned (.int .i64 (orI rs)) ∧ w' = w := by
  have H := Lib.hid h
  clear h
  go_enter Try.func29, Try.ntmps29
  go_wp2_with fail
  go_loopw [8] (fun t8 wr => ∃ j : Nat, t8 = .int .i64 j ∧ j ≤ n ∧ Hid (∀ i, i < j → rs.getD i 0 = 0) ∧ wr = w) (fun t8 _ => n - (intOf t8).toNat)
  case atStart => exact ⟨0, rfl, Nat.zero_le _, fun i hi => absurd hi (Nat.not_lt_zero i), rfl⟩
  case round =>
    obtain ⟨j, rfl, hj, HZ, rfl⟩ := hrel
    by_cases hlt : j < n
    · obtain ⟨ad, rfl, _, c0⟩ := int_at H.out hlt
      obtain ⟨x, HX⟩ : ∃ x, Hid (rs.getD j 0 = x) := ⟨_, rfl⟩
      rw [HX.out] at c0
      have i0 : (0 : Int) ≤ (j : Int) := by omega
      have i1 : (j : Int) < (n : Int) := by omega
      rcases hx : (x != 0) with _ | _
      · have HN : Hid (∀ i, i < j + 1 → rs.getD i 0 = 0) := fun i hi => by
          by_cases e : i = j
          · rw [e, HX.out]; simpa using hx
          · exact HZ.out i (by omega)
        go_wp2_with fail
        go_roundw
        case rel => exact ⟨j + 1, by go_num, by omega, HN, trivial⟩
        case measure => simp [intOf]; omega
      · have HR : Hid (orI rs = x) := by
          rw [← HX.out]
          exact orI_at HZ.out (by rw [H.out.len]; exact hlt) (by rw [HX.out]; simpa using hx)
        go_wp2_with fail
        go_ret
        exact ⟨by rw [HR.out]; rfl, rfl⟩
    · obtain rfl : j = n := by omega
      have HR : Hid (orI rs = 0) := orI_none fun i hi => HZ.out i (by rw [← H.out.len]; exact hi)
      go_wp2_with fail
      go_ret
      exact ⟨by rw [HR.out]; rfl, rfl⟩
/- blocks -/
theorem vcost_gro (b : VB) (w : World) : Calls Try.prog 17 #[vblkV b] w fun e w' => e = .returned (.int .i64 b.di) ∧ Gro w w' := by
  rcases b with ⟨bi, bc, bd, bo, bw⟩
  show Calls _ _ #[.agg #[.int .i64 bi, .int .i64 bc, .int .i64 bd, .int .i64 bo, .int .i64 bw]] _ _
  go_enter Try.func17, Try.ntmps17
  go_wp2_with fail
  go_ret
  exact ⟨rfl, gro_alloc _ _⟩
theorem vcost_any (b : VB) (w : World) (h : mayV b = true) : Calls Try.prog 17 #[vblkV b] w (SaysI w b.di) :=
  (vcost_gro b w).mono fun e w' h => ⟨h.1, h.2.later⟩
/-- What the landed code asks of a block. -/
theorem cntV_landed (b : VB) : (fineI b.id && fineI b.cl && fineI b.di && (b.ot == 0) && fineI b.we) = cntV b := by
  rw [Bool.eq_iff_iff, cntV_yes, mayV_yes]
  simp only [Bool.and_eq_true, fineI_yes, beq_iff_eq]
  omega
set_option maxHeartbeats 2000000 in
theorem vmov_any (b : VB) (w : World) : Calls Try.prog 25 #[vblkV b] w fun e w' => e = .returned (.bool (cntV b)) ∧ Gro w w' := by
  rw [← cntV_landed]
  rcases b with ⟨bi, bc, bd, bo, bw⟩
  have HE : Hid (∀ x W, Calls Try.prog 24 #[.int .i64 x] W fun e w' => e = .returned (.bool (fineI x)) ∧ w' = W) := vmay_any
  show Calls _ _ #[.agg #[.int .i64 bi, .int .i64 bc, .int .i64 bd, .int .i64 bo, .int .i64 bw]] _ fun e w' => e = .returned (.bool (fineI bi && fineI bc && fineI bd && (bo == 0) && fineI bw)) ∧ Gro w w'
  obtain ⟨r, HRR⟩ : ∃ r, Hid ((fineI bi && fineI bc && fineI bd && (bo == 0) && fineI bw) = r) := ⟨_, rfl⟩
  rw [HRR.out]
  rcases T0 : fineI bi with _ | _
  · have C0 := Lib.hid (HE.out bi); simp only [T0] at C0
    have HV : r = false := by rw [← HRR.out, T0]; rfl
    rw [HV]
    clear HV HRR
    go_enter Try.func25, Try.ntmps25
    go_wp2_with fail
    refine (C0.out _).mono ?_
    rintro e w' ⟨rfl, rfl⟩
    go_wp2_with fail
    go_ret
    exact ⟨rfl, gro_alloc _ _⟩
  · have C0 := Lib.hid (HE.out bi); simp only [T0] at C0
    rcases T1 : fineI bc with _ | _
    · have C1 := Lib.hid (HE.out bc); simp only [T1] at C1
      have HV : r = false := by rw [← HRR.out, T0, T1]; simp
      rw [HV]
      clear HV HRR
      go_enter Try.func25, Try.ntmps25
      go_wp2_with fail
      refine (C0.out _).mono ?_
      rintro e w' ⟨rfl, rfl⟩
      go_wp2_with fail
      refine (C1.out _).mono ?_
      rintro e w' ⟨rfl, rfl⟩
      go_wp2_with fail
      go_ret
      exact ⟨rfl, gro_alloc _ _⟩
    · have C1 := Lib.hid (HE.out bc); simp only [T1] at C1
      rcases T2 : fineI bd with _ | _
      · have C2 := Lib.hid (HE.out bd); simp only [T2] at C2
        have HV : r = false := by rw [← HRR.out, T0, T1, T2]; simp
        rw [HV]
        clear HV HRR
        go_enter Try.func25, Try.ntmps25
        go_wp2_with fail
        refine (C0.out _).mono ?_
        rintro e w' ⟨rfl, rfl⟩
        go_wp2_with fail
        refine (C1.out _).mono ?_
        rintro e w' ⟨rfl, rfl⟩
        go_wp2_with fail
        refine (C2.out _).mono ?_
        rintro e w' ⟨rfl, rfl⟩
        go_wp2_with fail
        go_ret
        exact ⟨rfl, gro_alloc _ _⟩
      · have C2 := Lib.hid (HE.out bd); simp only [T2] at C2
        rcases T3 : (bo == 0) with _ | _
        · have HV : r = false := by rw [← HRR.out, T0, T1, T2, T3]; simp
          rw [HV]
          clear HV HRR
          go_enter Try.func25, Try.ntmps25
          go_wp2_with fail
          refine (C0.out _).mono ?_
          rintro e w' ⟨rfl, rfl⟩
          go_wp2_with fail
          refine (C1.out _).mono ?_
          rintro e w' ⟨rfl, rfl⟩
          go_wp2_with fail
          refine (C2.out _).mono ?_
          rintro e w' ⟨rfl, rfl⟩
          go_wp2_with fail
          go_ret
          exact ⟨rfl, gro_alloc _ _⟩
        · have _ := T3
          rcases T4 : fineI bw with _ | _
          · have C4 := Lib.hid (HE.out bw); simp only [T4] at C4
            have HV : r = false := by rw [← HRR.out, T0, T1, T2, T3, T4]; simp
            rw [HV]
            clear HV HRR
            go_enter Try.func25, Try.ntmps25
            go_wp2_with fail
            refine (C0.out _).mono ?_
            rintro e w' ⟨rfl, rfl⟩
            go_wp2_with fail
            refine (C1.out _).mono ?_
            rintro e w' ⟨rfl, rfl⟩
            go_wp2_with fail
            refine (C2.out _).mono ?_
            rintro e w' ⟨rfl, rfl⟩
            go_wp2_with fail
            refine (C4.out _).mono ?_
            rintro e w' ⟨rfl, rfl⟩
            go_wp2_with fail
            go_ret
            exact ⟨rfl, gro_alloc _ _⟩
          · have C4 := Lib.hid (HE.out bw); simp only [T4] at C4
            have HV : r = true := by rw [← HRR.out, T0, T1, T2, T3, T4]; rfl
            rw [HV]
            clear HV HRR
            go_enter Try.func25, Try.ntmps25
            go_wp2_with fail
            refine (C0.out _).mono ?_
            rintro e w' ⟨rfl, rfl⟩
            go_wp2_with fail
            refine (C1.out _).mono ?_
            rintro e w' ⟨rfl, rfl⟩
            go_wp2_with fail
            refine (C2.out _).mono ?_
            rintro e w' ⟨rfl, rfl⟩
            go_wp2_with fail
            refine (C4.out _).mono ?_
            rintro e w' ⟨rfl, rfl⟩
            go_wp2_with fail
            go_ret
            exact ⟨rfl, gro_alloc _ _⟩
/- two blocks compared -/
def cfB (x y : VB) : Int := orI [cmpI x.di y.di, cmpI y.cl x.cl, cmpI x.we y.we, cmpI x.id y.id]
theorem cfB_neg (x y : VB) : cfB x y < 0 ↔ aheadV x y := by
  unfold cfB aheadV
  simp only [orI]
  by_cases h1 : cmpI x.di y.di = 0
  · have e1 := (cmpI_zero _ _).1 h1
    rw [if_neg (by simpa using h1)]
    by_cases h2 : cmpI y.cl x.cl = 0
    · have e2 := (cmpI_zero _ _).1 h2
      rw [if_neg (by simpa using h2)]
      by_cases h3 : cmpI x.we y.we = 0
      · have e3 := (cmpI_zero _ _).1 h3
        rw [if_neg (by simpa using h3)]
        by_cases h4 : cmpI x.id y.id = 0
        · have e4 := (cmpI_zero _ _).1 h4
          rw [if_neg (by simpa using h4)]; omega
        · have e4 : ¬ x.id = y.id := fun e => h4 ((cmpI_zero _ _).2 e)
          rw [if_pos h4, cmpI_neg]; omega
      · have e3 : ¬ x.we = y.we := fun e => h3 ((cmpI_zero _ _).2 e)
        rw [if_pos h3, cmpI_neg]; omega
    · have e2 : ¬ y.cl = x.cl := fun e => h2 ((cmpI_zero _ _).2 e)
      rw [if_pos h2, cmpI_neg]; omega
  · have e1 : ¬ x.di = y.di := fun e => h1 ((cmpI_zero _ _).2 e)
    rw [if_pos h1, cmpI_neg]; omega
theorem run_build_i4 (p q r s : Int) (w : World) : (Instr.buildSlice 24 4 #[(0, .int .i64 p), (1, .int .i64 q), (2, .int .i64 r), (3, .int .i64 s)]).run Try.prog w = .ok (.slice (some ⟨w.heap.size, 0, none⟩) 4 4) (w.alloc (.cells #[.int .i64 p, .int .i64 q, .int .i64 r, .int .i64 s] 3)) := by go_simp
/-- The four comparisons are laid in a row. -/
structure CmpJ (WD : World) (rs : List Int) (fs : List Bool) (vs : List Value) (W : World) : Prop where
  lf : fs.length = 1
  lv : vs.length = 1
  gro : Gro WD W
  row : fs.getD 0 false = true → ∃ A, vs.getD 0 undef = .slice A 4 4 ∧ intK.Lie W W.heap.size A 4 rs
section
variable {WD W W' : World} {rs : List Int} {fs : List Bool} {vs : List Value}
theorem CmpJ.later (h : CmpJ WD rs fs vs W) (hl : Gro W W') : CmpJ WD rs fs vs W' :=
  ⟨h.lf, h.lv, h.gro.trans hl, fun e => by
    obtain ⟨A, h1, h2⟩ := h.row e
    exact ⟨A, h1, h2.since hl.later⟩⟩
theorem CmpJ.build (h : CmpJ WD rs fs vs W) {p q r s : Int} (hr : rs = [p, q, r, s]) (hwf : ∀ v ∈ rs, intK.wf v) : CmpJ WD rs (fs.set 0 true) (vs.set 0 (.slice (some ⟨W.heap.size, 0, none⟩) 4 4)) (W.alloc (.cells #[.int .i64 p, .int .i64 q, .int .i64 r, .int .i64 s] 3)) := by
  have lf := h.lf
  have lv := h.lv
  subst hr
  exact ⟨by simpa using lf, by simpa using lv, h.gro.trans (gro_alloc _ _), fun _ => ⟨_, gs_self (by omega), lie_lit intK W [p, q, r, s] hwf _ rfl 4 rfl⟩⟩
theorem CmpJ.start (hv : vs.length = 1) : CmpJ WD rs [false] vs WD := ⟨rfl, hv, gro_refl _, fun e => (by cases e)⟩
end
set_option maxRecDepth 20000 in
set_option maxHeartbeats 4000000 in
theorem vcompare_gro (x y : VB) (w : World) : Calls Try.prog 21 #[vblkV x, vblkV y] w fun e w' => e = .returned (.int .i64 (cfB x y)) ∧ Gro w w' := by
  obtain ⟨z, HZ⟩ : ∃ z, Hid (cfB x y = z) := ⟨_, rfl⟩
  obtain ⟨r1, H1⟩ : ∃ r, Hid (cmpI x.di y.di = r) := ⟨_, rfl⟩
  obtain ⟨r2, H2⟩ : ∃ r, Hid (cmpI y.cl x.cl = r) := ⟨_, rfl⟩
  obtain ⟨r3, H3⟩ : ∃ r, Hid (cmpI x.we y.we = r) := ⟨_, rfl⟩
  obtain ⟨r4, H4⟩ : ∃ r, Hid (cmpI x.id y.id = r) := ⟨_, rfl⟩
  have HOR : Hid (orI [r1, r2, r3, r4] = z) := by show _ = _; rw [← HZ.out, ← H1.out, ← H2.out, ← H3.out, ← H4.out]; rfl
  have HWF : Hid (∀ v ∈ [r1, r2, r3, r4], intK.wf v) := by
    have b1 := cmpI_bd x.di y.di; rw [H1.out] at b1
    have b2 := cmpI_bd y.cl x.cl; rw [H2.out] at b2
    have b3 := cmpI_bd x.we y.we; rw [H3.out] at b3
    have b4 := cmpI_bd x.id y.id; rw [H4.out] at b4
    intro v hv
    simp only [List.mem_cons, List.not_mem_nil, or_false] at hv
    rcases hv with rfl | rfl | rfl | rfl
    · exact ⟨by omega, by omega⟩
    · exact ⟨by omega, by omega⟩
    · exact ⟨by omega, by omega⟩
    · exact ⟨by omega, by omega⟩
  rw [HZ.out]
  obtain ⟨W2, HW2⟩ : ∃ W, Hid (W = (w.alloc (.cells (vblkCells x).toArray 34)).alloc (.cells (vblkCells y).toArray 34)) := ⟨_, rfl⟩
  have HG2 : Hid (Gro w W2) := by show Gro _ _; rw [HW2.out]; exact (gro_alloc _ _).trans (gro_alloc _ _)
  have hs1 : (w.alloc (.cells (vblkCells x).toArray 34)).heap.size = w.heap.size + 1 := by simp
  obtain ⟨g1, HG1⟩ : ∃ g, Hid (w.heap.size = g) := ⟨_, rfl⟩
  obtain ⟨g3, HG3⟩ : ∃ g, Hid (w.heap.size + 1 = g) := ⟨_, rfl⟩
  have hs2 : W2.heap.size = w.heap.size + 2 := by rw [HW2.out]; simp
  have HX : Hid (VBAt W2 ⟨g1, 0, none⟩ x) := by
    rw [← HG1.out, HW2.out]
    exact VBAt.since (vb_new w x _ rfl _) ((Below.refl _ _).alloc (Nat.le_refl _) _) (by rw [hs1]; show w.heap.size < _; omega)
  have HY : Hid (VBAt W2 ⟨g3, 0, none⟩ y) := by
    have := vb_new (w.alloc (.cells (vblkCells x).toArray 34)) y _ rfl 34
    rw [hs1] at this
    rw [← HG3.out, HW2.out]
    exact this
  have HPX : Hid (g1 < W2.heap.size) := by show _ < _; rw [hs2, ← HG1.out]; omega
  have HPY : Hid (g3 < W2.heap.size) := by show _ < _; rw [hs2, ← HG3.out]; omega
  clear hs1 hs2
  rcases x with ⟨xi, xc, xd, xo, xw⟩
  rcases y with ⟨yi, yc, yd, yo, yw⟩
  show Calls _ _ #[.agg #[.int .i64 xi, .int .i64 xc, .int .i64 xd, .int .i64 xo, .int .i64 xw], .agg #[.int .i64 yi, .int .i64 yc, .int .i64 yd, .int .i64 yo, .int .i64 yw]] _ _
  go_enter Try.func21, Try.ntmps21
  go_wp2_with fail
  rw [show (w.alloc (.cells #[.int .i64 xi, .int .i64 xc, .int .i64 xd, .int .i64 xo, .int .i64 xw] 34)).alloc (.cells #[.int .i64 yi, .int .i64 yc, .int .i64 yd, .int .i64 yo, .int .i64 yw] 34) = W2 from HW2.out.symm, HG3.out, HG1.out]
  obtain ⟨WD, HWD⟩ : ∃ W, Hid (W = W2.drew) := ⟨_, rfl⟩
  have HDG : Hid (Gro W2 WD) := by show Gro _ _; rw [HWD.out]; exact gro_drew _
  have HXD : Hid (VBAt WD ⟨g1, 0, none⟩ ⟨xi, xc, xd, xo, xw⟩) := HX.out.since HDG.out.later HPX.out
  have HYD : Hid (VBAt WD ⟨g3, 0, none⟩ ⟨yi, yc, yd, yo, yw⟩) := HY.out.since HDG.out.later HPY.out
  have HPXD : Hid (g1 < WD.heap.size) := Nat.lt_of_lt_of_le HPX.out HDG.out.later.size
  have HPYD : Hid (g3 < WD.heap.size) := Nat.lt_of_lt_of_le HPY.out HDG.out.later.size
  refine region_of_steps7 (by kernel_rfl) [some (vblkV ⟨xi, xc, xd, xo, xw⟩), some (.int .i64 xd), some (vblkV ⟨yi, yc, yd, yo, yw⟩), some (.int .i64 yd), some (.int .i64 r1), some (.pointer (some ⟨g3, 1, none⟩)), some (.int .i64 yc), some (.pointer (some ⟨g1, 1, none⟩)), some (.int .i64 xc), some (.int .i64 r2), some (.pointer (some ⟨g1, 4, none⟩)), some (.int .i64 xw), some (.pointer (some ⟨g3, 4, none⟩)), some (.int .i64 yw), some (.int .i64 r3), some (.pointer (some ⟨g1, 0, none⟩)), some (.int .i64 xi), some (.pointer (some ⟨g3, 0, none⟩)), some (.int .i64 yi), some (.int .i64 r4), none, some (.int .i64 z), some (.int .i64 z)] [20] [25] (CmpJ WD [r1, r2, r3, r4]) (by kernel_rfl) (by kernel_rfl) (by show CmpJ WD [r1, r2, r3, r4] [false] _ _; rw [← HWD.out]; exact CmpJ.start (by rw [slots_len]; rfl)) ?_ ?_
  · refine Steps7.cons ?_ (Steps7.cons ?_ (Steps7.cons ?_ (Steps7.cons ?_ (Steps7.cons ?_ (Steps7.cons ?_ (Steps7.cons ?_ (Steps7.cons ?_ (Steps7.cons ?_ (Steps7.cons ?_ (Steps7.cons ?_ (Steps7.cons ?_ (Steps7.cons ?_ (Steps7.cons ?_ (Steps7.cons ?_ (Steps7.cons ?_ (Steps7.cons ?_ (Steps7.cons ?_ (Steps7.cons ?_ (Steps7.cons ?_ (Steps7.cons ?_ (Steps7.cons ?_ (Steps7.cons ?_ (Steps7.nil)))))))))))))))))))))))
    · intro listed a W H hj hl hd
      have t2 : a.tmps.getD 2 undef = .pointer (some ⟨g1, 0, none⟩) := (H.old 2 (by kernel_rfl)).trans rfl
      exact step7_value (i := 0) rfl rfl (run_op_load rfl t2 (run_load_vb _ _ W (HXD.out.since hj.gro.later HPXD.out))) (calm7g (fun fs vs x y h hl => CmpJ.later h hl) (by kernel_rfl) (by kernel_rfl) hj (gro_refl _)) rfl
    · intro listed a W H hj hl hd
      have t5 : a.tmps.getD 5 undef = vblkV ⟨xi, xc, xd, xo, xw⟩ := H.get 0 5 (by kernel_rfl) (dep_of hd 0 (by kernel_rfl)) (fun _ h => by cases h)
      refine step7_call (i := 1) rfl rfl (run_op_call (vs := #[vblkV ⟨xi, xc, xd, xo, xw⟩]) Try.func17 (by kernel_rfl) (by kernel_rfl) rfl (by simp only [List.map_toArray, List.map_cons, List.map_nil]; show #[a.tmps.getD 5 undef] = _; rw [t5])) ?_
      exact (vcost_gro ⟨xi, xc, xd, xo, xw⟩ W).mono fun e w' hq => ⟨_, hq.1, (calm7g (fun fs vs x y h hl => CmpJ.later h hl) (by kernel_rfl) (by kernel_rfl) hj hq.2), rfl⟩
    · intro listed a W H hj hl hd
      have t3 : a.tmps.getD 3 undef = .pointer (some ⟨g3, 0, none⟩) := (H.old 3 (by kernel_rfl)).trans rfl
      exact step7_value (i := 2) rfl rfl (run_op_load rfl t3 (run_load_vb _ _ W (HYD.out.since hj.gro.later HPYD.out))) (calm7g (fun fs vs x y h hl => CmpJ.later h hl) (by kernel_rfl) (by kernel_rfl) hj (gro_refl _)) rfl
    · intro listed a W H hj hl hd
      have t7 : a.tmps.getD 7 undef = vblkV ⟨yi, yc, yd, yo, yw⟩ := H.get 2 7 (by kernel_rfl) (dep_of hd 2 (by kernel_rfl)) (fun _ h => by cases h)
      refine step7_call (i := 3) rfl rfl (run_op_call (vs := #[vblkV ⟨yi, yc, yd, yo, yw⟩]) Try.func17 (by kernel_rfl) (by kernel_rfl) rfl (by simp only [List.map_toArray, List.map_cons, List.map_nil]; show #[a.tmps.getD 7 undef] = _; rw [t7])) ?_
      exact (vcost_gro ⟨yi, yc, yd, yo, yw⟩ W).mono fun e w' hq => ⟨_, hq.1, (calm7g (fun fs vs x y h hl => CmpJ.later h hl) (by kernel_rfl) (by kernel_rfl) hj hq.2), rfl⟩
    · intro listed a W H hj hl hd
      have t6 : a.tmps.getD 6 undef = .int .i64 xd := H.get 1 6 (by kernel_rfl) (dep_of hd 1 (by kernel_rfl)) (fun _ h => by cases h)
      have t8 : a.tmps.getD 8 undef = .int .i64 yd := H.get 3 8 (by kernel_rfl) (dep_of hd 3 (by kernel_rfl)) (fun _ h => by cases h)
      refine step7_call (i := 4) rfl rfl (run_op_call (vs := #[.int .i64 xd, .int .i64 yd]) Try.func30 (by kernel_rfl) (by kernel_rfl) rfl (by simp only [List.map_toArray, List.map_cons, List.map_nil]; show #[a.tmps.getD 6 undef, a.tmps.getD 8 undef] = _; rw [t6, t8])) ?_
      have CQ := compare_any xd yd W
      rw [show cmpI xd yd = _ from H1.out] at CQ
      exact CQ.mono fun e w' hq => ⟨_, hq.1, (by rw [hq.2]; exact (calm7g (fun fs vs x y h hl => CmpJ.later h hl) (by kernel_rfl) (by kernel_rfl) hj (gro_refl _))), rfl⟩
    · intro listed a W H hj hl hd
      have t3 : a.tmps.getD 3 undef = .pointer (some ⟨g3, 0, none⟩) := (H.old 3 (by kernel_rfl)).trans rfl
      exact step7_value (i := 5) rfl rfl (run_op_fieldAddr rfl t3 (by go_simp)) (calm7g (fun fs vs x y h hl => CmpJ.later h hl) (by kernel_rfl) (by kernel_rfl) hj (gro_refl _)) rfl
    · intro listed a W H hj hl hd
      have t10 : a.tmps.getD 10 undef = .pointer (some ⟨g3, 1, none⟩) := H.get 5 10 (by kernel_rfl) (dep_of hd 5 (by kernel_rfl)) (fun _ h => by cases h)
      exact step7_value (i := 6) rfl rfl (run_op_load rfl t10 (run_load_i _ _ W (HYD.out.since hj.gro.later HPYD.out).c1)) (calm7g (fun fs vs x y h hl => CmpJ.later h hl) (by kernel_rfl) (by kernel_rfl) hj (gro_refl _)) rfl
    · intro listed a W H hj hl hd
      have t2 : a.tmps.getD 2 undef = .pointer (some ⟨g1, 0, none⟩) := (H.old 2 (by kernel_rfl)).trans rfl
      exact step7_value (i := 7) rfl rfl (run_op_fieldAddr rfl t2 (by go_simp)) (calm7g (fun fs vs x y h hl => CmpJ.later h hl) (by kernel_rfl) (by kernel_rfl) hj (gro_refl _)) rfl
    · intro listed a W H hj hl hd
      have t12 : a.tmps.getD 12 undef = .pointer (some ⟨g1, 1, none⟩) := H.get 7 12 (by kernel_rfl) (dep_of hd 7 (by kernel_rfl)) (fun _ h => by cases h)
      exact step7_value (i := 8) rfl rfl (run_op_load rfl t12 (run_load_i _ _ W (HXD.out.since hj.gro.later HPXD.out).c1)) (calm7g (fun fs vs x y h hl => CmpJ.later h hl) (by kernel_rfl) (by kernel_rfl) hj (gro_refl _)) rfl
    · intro listed a W H hj hl hd
      have t11 : a.tmps.getD 11 undef = .int .i64 yc := H.get 6 11 (by kernel_rfl) (dep_of hd 6 (by kernel_rfl)) (fun _ h => by cases h)
      have t13 : a.tmps.getD 13 undef = .int .i64 xc := H.get 8 13 (by kernel_rfl) (dep_of hd 8 (by kernel_rfl)) (fun _ h => by cases h)
      refine step7_call (i := 9) rfl rfl (run_op_call (vs := #[.int .i64 yc, .int .i64 xc]) Try.func30 (by kernel_rfl) (by kernel_rfl) rfl (by simp only [List.map_toArray, List.map_cons, List.map_nil]; show #[a.tmps.getD 11 undef, a.tmps.getD 13 undef] = _; rw [t11, t13])) ?_
      have CQ := compare_any yc xc W
      rw [show cmpI yc xc = _ from H2.out] at CQ
      exact CQ.mono fun e w' hq => ⟨_, hq.1, (by rw [hq.2]; exact (calm7g (fun fs vs x y h hl => CmpJ.later h hl) (by kernel_rfl) (by kernel_rfl) hj (gro_refl _))), rfl⟩
    · intro listed a W H hj hl hd
      have t2 : a.tmps.getD 2 undef = .pointer (some ⟨g1, 0, none⟩) := (H.old 2 (by kernel_rfl)).trans rfl
      exact step7_value (i := 10) rfl rfl (run_op_fieldAddr rfl t2 (by go_simp)) (calm7g (fun fs vs x y h hl => CmpJ.later h hl) (by kernel_rfl) (by kernel_rfl) hj (gro_refl _)) rfl
    · intro listed a W H hj hl hd
      have t15 : a.tmps.getD 15 undef = .pointer (some ⟨g1, 4, none⟩) := H.get 10 15 (by kernel_rfl) (dep_of hd 10 (by kernel_rfl)) (fun _ h => by cases h)
      exact step7_value (i := 11) rfl rfl (run_op_load rfl t15 (run_load_i _ _ W (HXD.out.since hj.gro.later HPXD.out).c4)) (calm7g (fun fs vs x y h hl => CmpJ.later h hl) (by kernel_rfl) (by kernel_rfl) hj (gro_refl _)) rfl
    · intro listed a W H hj hl hd
      have t3 : a.tmps.getD 3 undef = .pointer (some ⟨g3, 0, none⟩) := (H.old 3 (by kernel_rfl)).trans rfl
      exact step7_value (i := 12) rfl rfl (run_op_fieldAddr rfl t3 (by go_simp)) (calm7g (fun fs vs x y h hl => CmpJ.later h hl) (by kernel_rfl) (by kernel_rfl) hj (gro_refl _)) rfl
    · intro listed a W H hj hl hd
      have t17 : a.tmps.getD 17 undef = .pointer (some ⟨g3, 4, none⟩) := H.get 12 17 (by kernel_rfl) (dep_of hd 12 (by kernel_rfl)) (fun _ h => by cases h)
      exact step7_value (i := 13) rfl rfl (run_op_load rfl t17 (run_load_i _ _ W (HYD.out.since hj.gro.later HPYD.out).c4)) (calm7g (fun fs vs x y h hl => CmpJ.later h hl) (by kernel_rfl) (by kernel_rfl) hj (gro_refl _)) rfl
    · intro listed a W H hj hl hd
      have t16 : a.tmps.getD 16 undef = .int .i64 xw := H.get 11 16 (by kernel_rfl) (dep_of hd 11 (by kernel_rfl)) (fun _ h => by cases h)
      have t18 : a.tmps.getD 18 undef = .int .i64 yw := H.get 13 18 (by kernel_rfl) (dep_of hd 13 (by kernel_rfl)) (fun _ h => by cases h)
      refine step7_call (i := 14) rfl rfl (run_op_call (vs := #[.int .i64 xw, .int .i64 yw]) Try.func30 (by kernel_rfl) (by kernel_rfl) rfl (by simp only [List.map_toArray, List.map_cons, List.map_nil]; show #[a.tmps.getD 16 undef, a.tmps.getD 18 undef] = _; rw [t16, t18])) ?_
      have CQ := compare_any xw yw W
      rw [show cmpI xw yw = _ from H3.out] at CQ
      exact CQ.mono fun e w' hq => ⟨_, hq.1, (by rw [hq.2]; exact (calm7g (fun fs vs x y h hl => CmpJ.later h hl) (by kernel_rfl) (by kernel_rfl) hj (gro_refl _))), rfl⟩
    · intro listed a W H hj hl hd
      have t2 : a.tmps.getD 2 undef = .pointer (some ⟨g1, 0, none⟩) := (H.old 2 (by kernel_rfl)).trans rfl
      exact step7_value (i := 15) rfl rfl (run_op_fieldAddr rfl t2 (by go_simp)) (calm7g (fun fs vs x y h hl => CmpJ.later h hl) (by kernel_rfl) (by kernel_rfl) hj (gro_refl _)) rfl
    · intro listed a W H hj hl hd
      have t20 : a.tmps.getD 20 undef = .pointer (some ⟨g1, 0, none⟩) := H.get 15 20 (by kernel_rfl) (dep_of hd 15 (by kernel_rfl)) (fun _ h => by cases h)
      exact step7_value (i := 16) rfl rfl (run_op_load rfl t20 (run_load_i _ _ W (HXD.out.since hj.gro.later HPXD.out).c0)) (calm7g (fun fs vs x y h hl => CmpJ.later h hl) (by kernel_rfl) (by kernel_rfl) hj (gro_refl _)) rfl
    · intro listed a W H hj hl hd
      have t3 : a.tmps.getD 3 undef = .pointer (some ⟨g3, 0, none⟩) := (H.old 3 (by kernel_rfl)).trans rfl
      exact step7_value (i := 17) rfl rfl (run_op_fieldAddr rfl t3 (by go_simp)) (calm7g (fun fs vs x y h hl => CmpJ.later h hl) (by kernel_rfl) (by kernel_rfl) hj (gro_refl _)) rfl
    · intro listed a W H hj hl hd
      have t22 : a.tmps.getD 22 undef = .pointer (some ⟨g3, 0, none⟩) := H.get 17 22 (by kernel_rfl) (dep_of hd 17 (by kernel_rfl)) (fun _ h => by cases h)
      exact step7_value (i := 18) rfl rfl (run_op_load rfl t22 (run_load_i _ _ W (HYD.out.since hj.gro.later HPYD.out).c0)) (calm7g (fun fs vs x y h hl => CmpJ.later h hl) (by kernel_rfl) (by kernel_rfl) hj (gro_refl _)) rfl
    · intro listed a W H hj hl hd
      have t21 : a.tmps.getD 21 undef = .int .i64 xi := H.get 16 21 (by kernel_rfl) (dep_of hd 16 (by kernel_rfl)) (fun _ h => by cases h)
      have t23 : a.tmps.getD 23 undef = .int .i64 yi := H.get 18 23 (by kernel_rfl) (dep_of hd 18 (by kernel_rfl)) (fun _ h => by cases h)
      refine step7_call (i := 19) rfl rfl (run_op_call (vs := #[.int .i64 xi, .int .i64 yi]) Try.func30 (by kernel_rfl) (by kernel_rfl) rfl (by simp only [List.map_toArray, List.map_cons, List.map_nil]; show #[a.tmps.getD 21 undef, a.tmps.getD 23 undef] = _; rw [t21, t23])) ?_
      have CQ := compare_any xi yi W
      rw [show cmpI xi yi = _ from H4.out] at CQ
      exact CQ.mono fun e w' hq => ⟨_, hq.1, (by rw [hq.2]; exact (calm7g (fun fs vs x y h hl => CmpJ.later h hl) (by kernel_rfl) (by kernel_rfl) hj (gro_refl _))), rfl⟩
    · intro listed a W H hj hl hd
      have t9 : a.tmps.getD 9 undef = .int .i64 r1 := H.get 4 9 (by kernel_rfl) (dep_of hd 4 (by kernel_rfl)) (fun _ h => by cases h)
      have t14 : a.tmps.getD 14 undef = .int .i64 r2 := H.get 9 14 (by kernel_rfl) (dep_of hd 9 (by kernel_rfl)) (fun _ h => by cases h)
      have t19 : a.tmps.getD 19 undef = .int .i64 r3 := H.get 14 19 (by kernel_rfl) (dep_of hd 14 (by kernel_rfl)) (fun _ h => by cases h)
      have t24 : a.tmps.getD 24 undef = .int .i64 r4 := H.get 19 24 (by kernel_rfl) (dep_of hd 19 (by kernel_rfl)) (fun _ h => by cases h)
      have hk9 := hj.build (p := r1) (q := r2) (r := r3) (s := r4) rfl HWF.out
      rw [← flags_put (m := 20) 0 rfl (by decide), ← slots_at (a := a) (d := 25) 0 rfl (by decide) (by rw [H.size]; exact of_decide_eq_true (by kernel_rfl))] at hk9
      exact step7_value (i := 20) rfl rfl (run_op_build rfl (by simp only [List.map_toArray, List.map_cons, List.map_nil]; show (Instr.buildSlice 24 4 #[(0, a.tmps.getD 9 undef), (1, a.tmps.getD 14 undef), (2, a.tmps.getD 19 undef), (3, a.tmps.getD 24 undef)]).run _ _ = _; rw [t9, t14, t19, t24]; exact run_build_i4 _ _ _ _ W)) hk9 trivial
    · intro listed a W H hj hl hd
      have d25 : listed.getD 20 false = true := dep_of hd 20 (by kernel_rfl)
      refine step7_call (i := 21) rfl rfl (run_op_call (vs := #[a.tmps.getD 25 undef]) Try.func29 (by kernel_rfl) (by kernel_rfl) rfl (by simp only [List.map_toArray, List.map_cons, List.map_nil]; show #[a.tmps.getD 25 undef] = _; rfl)) ?_
      obtain ⟨A9, e9, r9⟩ := hj.row (done_true (dep_of hd 20 (by kernel_rfl)))
      have e9b : a.tmps.getD 25 undef = .slice A9 4 4 := e9
      rw [e9b]
      have CQ := vor_any A9 4 4 _ W (by omega) r9
      rw [HOR.out] at CQ
      exact CQ.mono fun e w' hq => ⟨_, hq.1, (by rw [hq.2]; exact (calm7g (fun fs vs x y h hl => CmpJ.later h hl) (by kernel_rfl) (by kernel_rfl) hj (gro_refl _))), rfl⟩
    · intro listed a W H hj hl hd
      have t26 : a.tmps.getD 26 undef = .int .i64 z := H.get 21 26 (by kernel_rfl) (dep_of hd 21 (by kernel_rfl)) (fun _ h => by cases h)
      exact step7_value (i := 22) rfl rfl (run_op_assign rfl t26) (calm7g (fun fs vs x y h hl => CmpJ.later h hl) (by kernel_rfl) (by kernel_rfl) hj (gro_refl _)) rfl
  · intro a WC hdef hsz hw hall hact
    obtain ⟨u, hu⟩ : ∃ u : Nat → Value, ∀ k, a.tmps.getD k undef = u k := ⟨_, fun _ => rfl⟩
    have h4 : u 4 = .int .i64 z := by rw [← hu]; exact hall 22 _ rfl
    simp only [hu] at hact
    have hact' : a = ([5, 6, 7, 8, 9, 10, 11, 12, 13, 14, 15, 16, 17, 18, 19, 20, 21, 22, 23, 24, 25, 26, 4] : List Nat).foldl (fun b k => b.put (some k) (u k)) _ := hact
    simp only [List.foldl] at hact'
    simp only [Act.put, List.setIfInBounds_toArray, List.set_cons_succ, List.set_cons_zero] at hact'
    have HAC := Lib.hid hact'
    have HX := Lib.hid hw
    clear hact hact' hall hdef hsz hw
    rw [h4] at HAC
    rw [HAC.out]
    have HE9 := Lib.hid ((HG2.out.trans HDG.out).trans HX.out.gro)
    clear HX
    go_wp2_with fail
    go_ret
    exact ⟨rfl, HE9.out⟩
/- what is gained -/
theorem max_of15 (ts : Array TypeId) (ty : TypeId) (p q m : Int) (h : (q ≤ p ∧ m = p) ∨ (p ≤ q ∧ m = q)) (w : World) : (Builtin.max_ ts ty #[.int .i64 p, .int .i64 q]).run Try.prog w = .ok (.int .i64 m) w := by
  simp only [Builtin.max_]
  rcases h with ⟨h, rfl⟩ | ⟨h, rfl⟩
  · simp [Builtin.max2]; omega
  · simp [Builtin.max2]; omega
set_option maxHeartbeats 2000000 in
theorem vgain_any (p : Int) (b : VB) (w : World) (hb : VBWf b) : Calls Try.prog 14 #[.int .i64 p, vblkV b] w (SaysI w (gainV p b)) := by
  rcases TF : fineI p with _ | _
  · have HC := Lib.hid (vmay_any p); simp only [TF] at HC
    rw [show gainV p b = 0 by unfold gainV; rw [if_neg (by rw [TF]; simp)]]
    rcases b with ⟨bi, bc, bd, bo, bw⟩
    show Calls _ _ #[_, .agg #[.int .i64 bi, .int .i64 bc, .int .i64 bd, .int .i64 bo, .int .i64 bw]] _ _
    go_enter Try.func14, Try.ntmps14
    go_wp2_with fail
    refine (HC.out _).mono ?_
    rintro e w' ⟨rfl, rfl⟩
    go_wp2_with fail
    go_ret
    exact ⟨rfl, (gro_alloc _ _).later⟩
  have HC := Lib.hid (vmay_any p); simp only [TF] at HC
  have HM := Lib.hid (vmov_any b)
  rcases TM : cntV b with _ | _
  · simp only [TM] at HM
    rw [show gainV p b = 0 by unfold gainV; rw [if_neg (by rw [TM]; simp)]]
    rcases b with ⟨bi, bc, bd, bo, bw⟩
    show Calls _ _ #[_, .agg #[.int .i64 bi, .int .i64 bc, .int .i64 bd, .int .i64 bo, .int .i64 bw]] _ _
    go_enter Try.func14, Try.ntmps14
    go_wp2_with fail
    refine (HC.out _).mono ?_
    rintro e w' ⟨rfl, rfl⟩
    go_wp2_with fail
    refine (HM.out _).mono ?_
    rintro e w2 ⟨rfl, hg2⟩
    have HG := Lib.hid ((gro_alloc w _).trans hg2)
    clear hg2
    go_wp2_with fail
    go_ret
    exact ⟨rfl, HG.out.later⟩
  · simp only [TM] at HM
    have HK := Lib.hid (vcost_gro b)
    have hd0 := (mayV_yes.1 (cntV_yes.1 TM).1).2.2.1
    have hp := fineI_yes.1 TF
    rw [show gainV p b = max (p - b.di) 0 by unfold gainV; rw [if_pos ⟨TM, TF⟩]; by_cases h : p - b.di < 0 <;> simp only [h, if_true, if_false] <;> omega]
    have h8 : b.di ≤ 1073741824 := hd0.2
    have h9 : 0 ≤ b.di := hd0.1
    rcases b with ⟨bi, bc, bd, bo, bw⟩
    have h8' : bd ≤ 1073741824 := h8
    have h9' : 0 ≤ bd := h9
    obtain ⟨r, HR⟩ : ∃ r, Hid (max (p - bd) 0 = r) := ⟨_, rfl⟩
    have HMX : Hid (∀ ts ty W, (Builtin.max_ ts ty #[.int .i64 (p - bd), .int .i64 0]).run Try.prog W = .ok (.int .i64 r) W) := fun ts ty W => max_of15 ts ty _ _ _ (by rw [← HR.out]; omega) W
    show Calls _ _ #[_, .agg #[.int .i64 bi, .int .i64 bc, .int .i64 bd, .int .i64 bo, .int .i64 bw]] _ (SaysI w (max (p - bd) 0))
    rw [HR.out]
    clear hd0 h8 h9 TM
    go_enter Try.func14, Try.ntmps14
    go_wp2_with fail
    refine (HC.out _).mono ?_
    rintro e w' ⟨rfl, rfl⟩
    go_wp2_with fail
    refine (HM.out _).mono ?_
    rintro e w2 ⟨rfl, hg2⟩
    have HG := Lib.hid hg2
    have HB2 := VBAt.since (vb_new w ⟨bi, bc, bd, bo, bw⟩ _ rfl 34) hg2.later (by show w.heap.size < (w.alloc _).heap.size; simp)
    have c0 : w2.cell? ⟨w.heap.size, 0, none⟩ = some (.int .i64 bi) := HB2.c0
    have c1 : w2.cell? ⟨w.heap.size, 1, none⟩ = some (.int .i64 bc) := HB2.c1
    have c2 : w2.cell? ⟨w.heap.size, 2, none⟩ = some (.int .i64 bd) := HB2.c2
    have c3 : w2.cell? ⟨w.heap.size, 3, none⟩ = some (.int .i64 bo) := HB2.c3
    have c4 : w2.cell? ⟨w.heap.size, 4, none⟩ = some (.int .i64 bw) := HB2.c4
    clear hg2 HB2
    go_wp2_with fail
    refine (HK.out _).mono ?_
    rintro e w3 ⟨rfl, hg3⟩
    have HG3 := Lib.hid (((gro_alloc w _).trans HG.out).trans hg3)
    clear hg3 HG
    have hw : IntKind.i64.wrap (p - bd) = p - bd := by rw [IntKind.wrap_i64]; omega
    have HW := Lib.hid hw
    clear hw
    have hmx := HMX.out
    go_wp2_with fail
    go_ret
    exact ⟨rfl, HG3.out.later⟩
end Go.Proofs.Ytafnnpebdcnadaa
