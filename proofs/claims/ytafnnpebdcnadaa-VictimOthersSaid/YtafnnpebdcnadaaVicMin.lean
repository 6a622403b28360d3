/- The landed victim: which blocks may be moved, the first of them, their order, what is gained. Conditions: the list's cells; at most 40 blocks. -/
import Derived.Test.YtafnnpebdcnadaaVicSort
import Derived.Test.YtafnnpebdcnadaaRowC
set_option linter.unusedVariables false
set_option linter.unusedSimpArgs false
namespace Go.Proofs.Ytafnnpebdcnadaa
open Go.RowKit

/-- What a call that answers a new row of blocks leaves. -/
def GivesV (w : World) (o : List VB) (e : Ending) (w' : World) : Prop := ∃ A n c, e = .returned (.slice A n c) ∧ Hid (vblkK.Row w' w.heap.size A n c o) ∧ Hid (Below w.heap.size w w')
def cntTo (bs : List VB) (k : Nat) : List VB := (bs.take k).filter cntV
theorem cntTo_len (bs : List VB) (k : Nat) : (cntTo bs k).length ≤ k := Nat.le_trans (List.length_filter_le _ _) (by rw [List.length_take]; omega)
theorem cntTo_next {bs : List VB} {k : Nat} (hk : k < bs.length) : cntTo bs (k + 1) = cntTo bs k ++ (if cntV (bs.getD k VB.zero) = true then [bs.getD k VB.zero] else []) := by
  unfold cntTo
  have e : bs.take (k + 1) = bs.take k ++ [bs.getD k VB.zero] := by
    rw [List.take_succ_eq_append_getElem hk, List.getD_eq_getElem?_getD, List.getElem?_eq_getElem hk]; rfl
  rw [e, List.filter_append]
  by_cases hc : cntV (bs.getD k VB.zero) = true
  · rw [if_pos hc, show List.filter cntV [bs.getD k VB.zero] = [bs.getD k VB.zero] by simp only [List.filter_cons, hc, if_true, List.filter_nil]]
  · rw [if_neg hc, show List.filter cntV [bs.getD k VB.zero] = [] by simp only [List.filter_cons, hc, if_false, List.filter_nil]; rfl]
set_option maxHeartbeats 2000000 in
theorem vmovable_any (A : Option Addr) (n c : Nat) (bs : List VB) (w : World) (hn : n ≤ 7000) (h : vblkK.Lie w w.heap.size A n bs) : Calls Try.prog 19 #[.slice A n c] w (GivesV w (bs.filter cntV)) := by
  have H := Lib.hid h
  have S0 := Lib.hid (Below.refl w.heap.size w)
  clear h
  go_enter Try.func19, Try.ntmps19
  go_wp2_with fail
  go_loopw [3, 8] (fun t3 t8 wr => ∃ (k m : Nat) (A3 : Option Addr) (c3 : Nat), t8 = .int .i64 k ∧ k ≤ n ∧ t3 = .slice A3 m c3 ∧ Hid (vblkK.Row wr w.heap.size A3 m c3 (cntTo bs k)) ∧ Hid (Below w.heap.size w wr)) (fun _ t8 _ => n - (intOf t8).toNat)
  case atStart => exact ⟨0, 0, none, 0, rfl, Nat.zero_le _, rfl, Kind.Row.none_, S0⟩
  case round =>
    obtain ⟨k, m, A3, c3, rfl, hk, rfl, HR, HB⟩ := hrel
    by_cases hlt : k < n
    · obtain ⟨ad, rfl, _, ha, hwf⟩ := vb_cells (H.out.since HB.out) hlt
      have hm : m ≤ k := by rw [← HR.out.len]; exact cntTo_len _ _
      have HN : Hid (cntTo bs (k + 1) = cntTo bs k ++ (if cntV (bs.getD k VB.zero) = true then [bs.getD k VB.zero] else [])) := cntTo_next (by rw [H.out.len]; exact hlt)
      obtain ⟨b, HBK⟩ : ∃ b, Hid (bs.getD k VB.zero = b) := ⟨_, rfl⟩
      rw [HBK.out] at ha hwf HN
      have HV := Lib.hid (vmov_any b)
      have HWF := Lib.hid hwf
      obtain ⟨d0, d1, d2, d3, d4⟩ := ha
      obtain ⟨cb, HCB⟩ : ∃ cb, Hid (cntV b = cb) := ⟨_, rfl⟩
      rw [HCB.out] at HN HV
      clear hwf HBK
      rcases b with ⟨xi, xc, xd, xo, xw⟩
      have i0 : (0 : Int) ≤ (k : Int) := by omega
      have i1 : (k : Int) < (n : Int) := by omega
      have HX1 : Hid (VBAt (wr.alloc (.cells #[.int .i64 xi, .int .i64 xc, .int .i64 xd, .int .i64 xo, .int .i64 xw] 34)) ⟨wr.heap.size, 0, none⟩ ⟨xi, xc, xd, xo, xw⟩) := vb_new wr ⟨xi, xc, xd, xo, xw⟩ _ rfl _
      have B1 := Lib.hid (below_chain HB.out (gro_alloc wr (.cells #[.int .i64 xi, .int .i64 xc, .int .i64 xd, .int .i64 xo, .int .i64 xw] 34)).later)
      have R1 := Lib.hid (HR.out.since (gro_alloc wr (.cells #[.int .i64 xi, .int .i64 xc, .int .i64 xd, .int .i64 xo, .int .i64 xw] 34)).later)
      have hs1 : (wr.alloc (.cells #[.int .i64 xi, .int .i64 xc, .int .i64 xd, .int .i64 xo, .int .i64 xw] 34)).heap.size = wr.heap.size + 1 := by simp
      have HS1 := Lib.hid hs1
      clear hs1
      go_wp2_with fail
      refine (HV.out _).mono ?_
      rintro e w2 ⟨rfl, hg2⟩
      have X2 := HX1.out.since hg2.later (by rw [HS1.out]; show wr.heap.size < _; omega)
      have c0 : w2.cell? ⟨wr.heap.size, 0, none⟩ = some (.int .i64 xi) := X2.c0
      have c1 : w2.cell? ⟨wr.heap.size, 1, none⟩ = some (.int .i64 xc) := X2.c1
      have c2 : w2.cell? ⟨wr.heap.size, 2, none⟩ = some (.int .i64 xd) := X2.c2
      have c3' : w2.cell? ⟨wr.heap.size, 3, none⟩ = some (.int .i64 xo) := X2.c3
      have c4 : w2.cell? ⟨wr.heap.size, 4, none⟩ = some (.int .i64 xw) := X2.c4
      have B2 := Lib.hid (below_chain B1.out hg2.later)
      have R2 := Lib.hid (R1.out.since hg2.later)
      clear hg2 X2 HX1 HS1 B1 R1 HV
      cases cb with
      | true =>
        have HF : Hid (cntTo bs (k + 1) = cntTo bs k ++ [⟨xi, xc, xd, xo, xw⟩]) := by show _ = _; rw [HN.out]; rfl
        obtain ⟨A4, c5, W4, hr4, ho4, hb4, _⟩ := Kind.append_one (K := vblkK) B2.out R2.out ⟨xi, xc, xd, xo, xw⟩ HWF.out #[.int .i64 xi, .int .i64 xc, .int .i64 xd, .int .i64 xo, .int .i64 xw] rfl (by omega)
        have R4 := Lib.hid (ho4.same HF.out.symm)
        have B4 := Lib.hid hb4
        have HR4 := Lib.hid hr4
        clear ho4 hb4 hr4 HN
        go_wp2_with (at_builtin; refine wpList_append_run rfl (.tmp 14) (.tmp 16) 22 rfl rfl rfl HR4.out ?_)
        go_roundw
        case rel => exact ⟨k + 1, m + 1, A4, c5, by go_num, by omega, rfl, R4, B4⟩
        case measure => simp [intOf]; omega
      | false =>
        have HF : Hid (cntTo bs (k + 1) = cntTo bs k) := by show _ = _; rw [HN.out]; simp
        have R3 := Lib.hid (R2.out.same HF.out.symm)
        clear HN
        go_wp2_with fail
        go_roundw
        case rel => exact ⟨k + 1, m, A3, c3, by go_num, by omega, rfl, R3, B2⟩
        case measure => simp [intOf]; omega
    · obtain rfl : k = n := by omega
      have HF : Hid (cntTo bs k = bs.filter cntV) := by
        show _ = _
        unfold cntTo
        rw [List.take_of_length_le (by rw [H.out.len]; exact Nat.le_refl _)]
      have R3 := Lib.hid (HR.out.same HF.out)
      go_wp2_with fail
      go_ret
      exact ⟨A3, m, c3, rfl, R3, HB⟩
/- the best one -/
theorem row_vb {w : World} {g : Nat} {xi xc xd xo xw : Int} (h : RowC w g #[.int .i64 xi, .int .i64 xc, .int .i64 xd, .int .i64 xo, .int .i64 xw] 34) : VBAt w ⟨g, 0, none⟩ ⟨xi, xc, xd, xo, xw⟩ := ⟨h.cell 0, h.cell 1, h.cell 2, h.cell 3, h.cell 4⟩
section
variable {P : Program} {o : Oper} {a : Act} {w : World}
theorem run_op_callv {f : FuncId} {x : Operand} {args : Array Operand} {ts : Array TypeId} {vs : Array Value} (ho : o.op = .call { callee := .value x, args := args, argTypes := ts }) (hx : a.eval x = .func (.func f) #[] #[]) (hc : (callFunc f vs).run P w = .ok (.enter f vs) w) (hv : args.map a.eval = vs) : (execOp a.eval o).run P w = .ok (.enter f vs) w := by
  unfold execOp
  simp only [ho, resolve, invoke, hv, hx]
  simp [Deferred.ofValue, hc]
end
/-- Nothing turns. -/
structure JB (WD : World) (fs : List Bool) (vs : List Value) (W : World) : Prop where
  below : Below WD.heap.size WD W
theorem JB.later {WD W W' : World} {fs fs' : List Bool} {vs vs' : List Value} (h : JB WD fs vs W) (hl : Later W W') : JB WD fs' vs' W' := ⟨below_chain h.below hl⟩
theorem JB.start {WD : World} {fs : List Bool} {vs : List Value} : JB WD fs vs WD := ⟨Below.refl _ _⟩
/-- Of the first k none is ahead of m, which is one of them. -/
structure Least15 (s : List VB) (k : Nat) (m : VB) : Prop where
  mem : m ∈ s
  up : ∀ j, j < k → keptV m (s.getD j VB.zero)
theorem Least15.start {s : List VB} (h : 0 < s.length) : Least15 s 1 (s.getD 0 VB.zero) :=
  ⟨by rw [List.getD_eq_getElem?_getD, List.getElem?_eq_getElem h]; exact List.getElem_mem _, fun j hj => by
    obtain rfl : j = 0 := by omega
    exact ahead_irr⟩
theorem Least15.keep {s : List VB} {k : Nat} {m : VB} (h : Least15 s k m) (hx : ¬ aheadV (s.getD k VB.zero) m) : Least15 s (k + 1) m :=
  ⟨h.mem, fun j hj => by
    by_cases e : j = k
    · rw [e]; exact hx
    · exact h.up j (by omega)⟩
theorem Least15.take {s : List VB} {k : Nat} {m : VB} (h : Least15 s k m) (hk : k < s.length) (hx : aheadV (s.getD k VB.zero) m) : Least15 s (k + 1) (s.getD k VB.zero) :=
  ⟨by rw [List.getD_eq_getElem?_getD, List.getElem?_eq_getElem hk]; exact List.getElem_mem _, fun j hj => by
    by_cases e : j = k
    · rw [e]; exact ahead_irr
    · exact kept_trans (ahead_kept hx) (h.up j (by omega))⟩
theorem Least15.all {s : List VB} {m : VB} (h : Least15 s s.length m) : ∀ y ∈ s, keptV m y := fun y hy => by
  obtain ⟨j, hj, rfl⟩ := List.mem_iff_getElem.1 hy
  have := h.up j hj
  rwa [List.getD_eq_getElem?_getD, List.getElem?_eq_getElem hj] at this
set_option maxRecDepth 20000 in
set_option maxHeartbeats 4000000 in
theorem vmin_any (A : Option Addr) (n c : Nat) (s : List VB) (w : World) (hn0 : 0 < n) (hn : n ≤ 8000) (h : vblkK.Lie w w.heap.size A n s) :
    Calls Try.prog 23 #[.slice A n c, .func (.func 21) #[] #[]] w fun e w' =>
      ∃ m, e = .returned (vblkV m) ∧ Least15 s s.length m ∧ Hid (Below w.heap.size w w') := by
  have H := Lib.hid h
  obtain ⟨ad, rfl, _, ha, _⟩ := vb_cells h hn0
  have HST : Hid (Least15 s 1 (s.getD 0 VB.zero)) := Least15.start (by rw [h.len]; exact hn0)
  obtain ⟨m0, HM0⟩ : ∃ m, Hid (s.getD 0 VB.zero = m) := ⟨_, rfl⟩
  rw [HM0.out] at ha HST
  rcases m0 with ⟨zi, zc, zd, zo, zw⟩
  obtain ⟨d0, d1, d2, d3, d4⟩ := ha
  rw [Nat.zero_mul, add_none] at d0 d1 d2 d3 d4
  have hent : ∀ args W, (callFunc 21 args).run Try.prog W = .ok (.enter 21 args) W := enters_of Try.func21 (by kernel_rfl) rfl
  have nlt : ¬ (n : Int) < 1 := by omega
  obtain ⟨g4, HG4⟩ : ∃ g, Hid (w.heap.size = g) := ⟨_, rfl⟩
  obtain ⟨g5, HG5⟩ : ∃ g, Hid (w.heap.size + 1 = g) := ⟨_, rfl⟩
  obtain ⟨W1, HW1⟩ : ∃ W, Hid (W = (w.alloc (.cells #[.int .i64 0, .int .i64 0, .int .i64 0, .int .i64 0, .int .i64 0] 34)).alloc (.cells #[.int .i64 zi, .int .i64 zc, .int .i64 zd, .int .i64 zo, .int .i64 zw] 34)) := ⟨_, rfl⟩
  have hs1 : (w.alloc (.cells #[.int .i64 0, .int .i64 0, .int .i64 0, .int .i64 0, .int .i64 0] 34)).heap.size = w.heap.size + 1 := by simp
  have HB1 : Hid (Below w.heap.size w W1) := by rw [HW1.out]; exact ((gro_alloc _ _).trans (gro_alloc _ _)).later
  have HR4 : Hid (RowC W1 g4 #[.int .i64 0, .int .i64 0, .int .i64 0, .int .i64 0, .int .i64 0] 34) := by
    rw [HW1.out, ← HG4.out]
    exact (RowC.new w _ _).since ((Below.refl _ _).alloc (Nat.le_refl _) _)
  have HR5 : Hid (RowC W1 g5 #[.int .i64 zi, .int .i64 zc, .int .i64 zd, .int .i64 zo, .int .i64 zw] 34) := by
    rw [HW1.out, ← HG5.out, ← hs1]
    exact RowC.new _ _ _
  have h45 : g4 ≠ g5 := by rw [← HG4.out, ← HG5.out]; omega
  have HNE := Lib.hid h45
  have HGB : Hid (w.heap.size ≤ g4 ∧ w.heap.size ≤ g5) := ⟨by rw [← HG4.out]; exact Nat.le_refl _, by rw [← HG5.out]; omega⟩
  clear h hs1 h45
  go_enter Try.func23, Try.ntmps23
  go_wp2_with fail
  rw [show (w.alloc (.cells #[.int .i64 0, .int .i64 0, .int .i64 0, .int .i64 0, .int .i64 0] 34)).alloc (.cells #[.int .i64 zi, .int .i64 zc, .int .i64 zd, .int .i64 zo, .int .i64 zw] 34) = W1 from HW1.out.symm, HG5.out, HG4.out]
  go_loopw [6] (fun t6 wr => ∃ (k : Nat) (mi mc md mo mw : Int), t6 = .int .i64 k ∧ 1 ≤ k ∧ k ≤ n ∧ Hid (Least15 s k ⟨mi, mc, md, mo, mw⟩) ∧ Hid (RowC wr g4 #[.int .i64 0, .int .i64 0, .int .i64 0, .int .i64 0, .int .i64 0] 34) ∧ Hid (RowC wr g5 #[.int .i64 mi, .int .i64 mc, .int .i64 md, .int .i64 mo, .int .i64 mw] 34) ∧ Hid (Below w.heap.size w wr)) (fun t6 _ => n - (intOf t6).toNat)
  case atStart => exact ⟨1, zi, zc, zd, zo, zw, rfl, Nat.le_refl _, hn0, HST, HR4, HR5, HB1⟩
  case round =>
    clear HST HR4 HR5 HB1 HM0 d0 d1 d2 d3 d4 HW1
    obtain ⟨k, mi, mc, md, mo, mw, rfl, hk1, hk, HL, R4, R5, HB⟩ := hrel
    by_cases hlt : k < n
    · obtain ⟨ad2, e2, hadb, ha, hwf⟩ := vb_cells (H.out.since HB.out) hlt
      obtain rfl := Option.some.inj e2
      obtain ⟨x, HXK⟩ : ∃ x, Hid (s.getD k VB.zero = x) := ⟨_, rfl⟩
      rw [HXK.out] at ha
      have HA := Lib.hid ha
      have HP := Lib.hid hadb
      obtain ⟨dv, HDV⟩ : ∃ dv, Hid (decide (cfB x ⟨mi, mc, md, mo, mw⟩ < 0) = dv) := ⟨_, rfl⟩
      have HLT := Lib.hid hlt
      clear ha hwf hadb e2
      go_wp2_with fail
      obtain ⟨WD, HWD⟩ : ∃ W, Hid (W = wr.drew) := ⟨_, rfl⟩
      have HDL : Hid (Later wr WD) := by rw [HWD.out]; exact (gro_drew wr).later
      have HAD : Hid (VBAt WD (ad.add (k * 5)) x) := HA.out.since HDL.out (by rw [addr_block]; exact HP.out)
      have HPD : Hid ((ad.add (k * 5)).block < WD.heap.size) := Nat.lt_of_lt_of_le (by rw [addr_block]; exact HP.out) HDL.out.size
      have R5D := Lib.hid (R5.out.since HDL.out)
      refine region_of_steps7 (by kernel_rfl) [some (.func (.func 21) #[] #[]), some (.slice (some ad) n c), some (.int .i64 (k : Int)), some (.pointer (some (ad.add (k * 5)))), some (vblkV x), some (vblkV ⟨mi, mc, md, mo, mw⟩), some (.int .i64 (cfB x ⟨mi, mc, md, mo, mw⟩)), some (.bool dv)] [] [] (JB WD) (by kernel_rfl) (by kernel_rfl) (by rw [← HWD.out]; exact JB.start) ?_ ?_
      · refine Steps7.cons ?_ (Steps7.cons ?_ (Steps7.cons ?_ (Steps7.cons ?_ (Steps7.cons ?_ (Steps7.cons ?_ (Steps7.cons ?_ (Steps7.cons ?_ (Steps7.nil))))))))
        · intro listed a W H hj hl hd
          have t1 : a.tmps.getD 1 undef = .func (.func 21) #[] #[] := (H.old 1 (by kernel_rfl)).trans rfl
          exact step7_value (i := 0) rfl rfl (run_op_move rfl t1) (calm7 (fun fs vs x y h hl => JB.later h hl) (by kernel_rfl) (by kernel_rfl) hj (later_refl _)) rfl
        · intro listed a W H hj hl hd
          have t0 : a.tmps.getD 0 undef = .slice (some ad) n c := (H.old 0 (by kernel_rfl)).trans rfl
          exact step7_value (i := 1) rfl rfl (run_op_move rfl t0) (calm7 (fun fs vs x y h hl => JB.later h hl) (by kernel_rfl) (by kernel_rfl) hj (later_refl _)) rfl
        · intro listed a W H hj hl hd
          have t6 : a.tmps.getD 6 undef = .int .i64 (k : Int) := (H.old 6 (by kernel_rfl)).trans rfl
          exact step7_value (i := 2) rfl rfl (run_op_move rfl t6) (calm7 (fun fs vs x y h hl => JB.later h hl) (by kernel_rfl) (by kernel_rfl) hj (later_refl _)) rfl
        · intro listed a W H hj hl hd
          have t21 : a.tmps.getD 21 undef = .slice (some ad) n c := H.get 1 21 (by kernel_rfl) (dep_of hd 1 (by kernel_rfl)) (fun _ h => by cases h)
          have t22 : a.tmps.getD 22 undef = .int .i64 (k : Int) := H.get 2 22 (by kernel_rfl) (dep_of hd 2 (by kernel_rfl)) (fun _ h => by cases h)
          exact step7_value (i := 3) rfl rfl (run_op_index rfl t21 t22 (run_index_vb ad n c k HLT.out W)) (calm7 (fun fs vs x y h hl => JB.later h hl) (by kernel_rfl) (by kernel_rfl) hj (later_refl _)) rfl
        · intro listed a W H hj hl hd
          have t23 : a.tmps.getD 23 undef = .pointer (some (ad.add (k * 5))) := H.get 3 23 (by kernel_rfl) (dep_of hd 3 (by kernel_rfl)) (fun _ h => by cases h)
          exact step7_value (i := 4) rfl rfl (run_op_load rfl t23 (run_load_vb _ x W (HAD.out.since hj.below HPD.out))) (calm7 (fun fs vs x y h hl => JB.later h hl) (by kernel_rfl) (by kernel_rfl) hj (later_refl _)) rfl
        · intro listed a W H hj hl hd
          have t5 : a.tmps.getD 5 undef = .pointer (some ⟨g5, 0, none⟩) := (H.old 5 (by kernel_rfl)).trans rfl
          exact step7_value (i := 5) rfl rfl (run_op_load rfl t5 (run_load_vb ⟨g5, 0, none⟩ ⟨mi, mc, md, mo, mw⟩ W (row_vb (R5D.out.since hj.below)))) (calm7 (fun fs vs x y h hl => JB.later h hl) (by kernel_rfl) (by kernel_rfl) hj (later_refl _)) rfl
        · intro listed a W H hj hl hd
          have t20 : a.tmps.getD 20 undef = .func (.func 21) #[] #[] := H.get 0 20 (by kernel_rfl) (dep_of hd 0 (by kernel_rfl)) (fun _ h => by cases h)
          have t24 : a.tmps.getD 24 undef = vblkV x := H.get 4 24 (by kernel_rfl) (dep_of hd 4 (by kernel_rfl)) (fun _ h => by cases h)
          have t25 : a.tmps.getD 25 undef = vblkV ⟨mi, mc, md, mo, mw⟩ := H.get 5 25 (by kernel_rfl) (dep_of hd 5 (by kernel_rfl)) (fun _ h => by cases h)
          refine step7_call (i := 6) rfl rfl (run_op_callv rfl t20 (hent _ _) (vs := #[vblkV x, vblkV ⟨mi, mc, md, mo, mw⟩]) (by simp only [List.map_toArray, List.map_cons, List.map_nil]; show #[a.tmps.getD 24 undef, a.tmps.getD 25 undef] = _; rw [t24, t25])) ?_
          refine (vcompare_gro x ⟨mi, mc, md, mo, mw⟩ W).mono ?_
          rintro e W9 ⟨rfl, hb9⟩
          exact ⟨_, rfl, JB.later hj hb9.later, rfl⟩
        · intro listed a W H hj hl hd
          have t26 : a.tmps.getD 26 undef = .int .i64 (cfB x ⟨mi, mc, md, mo, mw⟩) := H.get 6 26 (by kernel_rfl) (dep_of hd 6 (by kernel_rfl)) (fun _ h => by cases h)
          exact step7_value (i := 7) rfl rfl (run_op_bin rfl t26 rfl (bin_lss _ _ _ (cfB x ⟨mi, mc, md, mo, mw⟩) 0 dv HDV.out)) (calm7 (fun fs vs x y h hl => JB.later h hl) (by kernel_rfl) (by kernel_rfl) hj (later_refl _)) rfl
      · intro a WC hdef hsz hw hall hact
        obtain ⟨u, hu⟩ : ∃ u : Nat → Value, ∀ k, a.tmps.getD k undef = u k := ⟨_, fun _ => rfl⟩
        have h27 : u 27 = .bool dv := by rw [← hu]; exact hall 7 _ rfl
        simp only [hu] at hact
        have hact' : a = ([20, 21, 22, 23, 24, 25, 26, 27] : List Nat).foldl (fun b k => b.put (some k) (u k)) _ := hact
        simp only [List.foldl] at hact'
        simp only [Act.put, List.setIfInBounds_toArray, List.set_cons_succ, List.set_cons_zero] at hact'
        have HAC := Lib.hid hact'
        have HX := Lib.hid hw
        clear hact hact' hall hdef hsz hw
        rw [h27] at HAC
        rw [HAC.out]
        have BC := Lib.hid (below_chain HB.out (HDL.out.trans (HX.out.below.mono HDL.out.size)))
        have R4C := Lib.hid ((R4.out.since HDL.out).since HX.out.below)
        have R5C := Lib.hid (R5D.out.since HX.out.below)
        have HAC := Lib.hid (HAD.out.since HX.out.below HPD.out)
        clear HX R4 R5 R5D HB HAD HPD HDL HWD hu
        cases dv with
        | false =>
          have HL2 : Hid (Least15 s (k + 1) ⟨mi, mc, md, mo, mw⟩) := HL.out.keep (by rw [HXK.out, ← cfB_neg]; exact of_decide_eq_false HDV.out)
          clear HL HA HP
          go_wp2_with fail
          go_roundw
          case rel => exact ⟨k + 1, mi, mc, md, mo, mw, by go_num, by omega, by omega, HL2, R4C, R5C, BC⟩
          case measure => simp [intOf]; omega
        | true =>
          have HL2 : Hid (Least15 s (k + 1) x) := HXK.out ▸ HL.out.take (by rw [H.out.len]; exact HLT.out) (by rw [HXK.out, ← cfB_neg]; exact of_decide_eq_true HDV.out)
          have i0 : (0 : Int) ≤ (k : Int) := by omega
          have i1 : (k : Int) < (n : Int) := by omega
          clear HL HA HP HDV HXK
          rcases x with ⟨xi, xc, xd, xo, xw⟩
          obtain ⟨d0, d1, d2, d3, d4⟩ := HAC.out
          have s0 : WC.cell? ⟨g5, 0, none⟩ = some (.int .i64 mi) := R5C.out.cell 0
          have f0 : WC.frozen? ⟨g5, 0, none⟩ = false := R5C.out.free 0
          have s1 : (WC.setCell ⟨g5, 0, none⟩ (.int .i64 xi)).cell? ⟨g5, 1, none⟩ = some (.int .i64 mc) := (R5C.out.put 0 (.int .i64 xi)).cell 1
          have f1 : (WC.setCell ⟨g5, 0, none⟩ (.int .i64 xi)).frozen? ⟨g5, 1, none⟩ = false := (R5C.out.put 0 (.int .i64 xi)).free 1
          have s2 : ((WC.setCell ⟨g5, 0, none⟩ (.int .i64 xi)).setCell ⟨g5, 1, none⟩ (.int .i64 xc)).cell? ⟨g5, 2, none⟩ = some (.int .i64 md) := ((R5C.out.put 0 (.int .i64 xi)).put 1 (.int .i64 xc)).cell 2
          have f2 : ((WC.setCell ⟨g5, 0, none⟩ (.int .i64 xi)).setCell ⟨g5, 1, none⟩ (.int .i64 xc)).frozen? ⟨g5, 2, none⟩ = false := ((R5C.out.put 0 (.int .i64 xi)).put 1 (.int .i64 xc)).free 2
          have s3 : (((WC.setCell ⟨g5, 0, none⟩ (.int .i64 xi)).setCell ⟨g5, 1, none⟩ (.int .i64 xc)).setCell ⟨g5, 2, none⟩ (.int .i64 xd)).cell? ⟨g5, 3, none⟩ = some (.int .i64 mo) := (((R5C.out.put 0 (.int .i64 xi)).put 1 (.int .i64 xc)).put 2 (.int .i64 xd)).cell 3
          have f3 : (((WC.setCell ⟨g5, 0, none⟩ (.int .i64 xi)).setCell ⟨g5, 1, none⟩ (.int .i64 xc)).setCell ⟨g5, 2, none⟩ (.int .i64 xd)).frozen? ⟨g5, 3, none⟩ = false := (((R5C.out.put 0 (.int .i64 xi)).put 1 (.int .i64 xc)).put 2 (.int .i64 xd)).free 3
          have s4 : ((((WC.setCell ⟨g5, 0, none⟩ (.int .i64 xi)).setCell ⟨g5, 1, none⟩ (.int .i64 xc)).setCell ⟨g5, 2, none⟩ (.int .i64 xd)).setCell ⟨g5, 3, none⟩ (.int .i64 xo)).cell? ⟨g5, 4, none⟩ = some (.int .i64 mw) := ((((R5C.out.put 0 (.int .i64 xi)).put 1 (.int .i64 xc)).put 2 (.int .i64 xd)).put 3 (.int .i64 xo)).cell 4
          have f4 : ((((WC.setCell ⟨g5, 0, none⟩ (.int .i64 xi)).setCell ⟨g5, 1, none⟩ (.int .i64 xc)).setCell ⟨g5, 2, none⟩ (.int .i64 xd)).setCell ⟨g5, 3, none⟩ (.int .i64 xo)).frozen? ⟨g5, 4, none⟩ = false := ((((R5C.out.put 0 (.int .i64 xi)).put 1 (.int .i64 xc)).put 2 (.int .i64 xd)).put 3 (.int .i64 xo)).free 4
          have BE := Lib.hid (BC.out |>.setCell (p := ⟨g5, 0, none⟩) HGB.out.2 (.int .i64 xi) |>.setCell (p := ⟨g5, 1, none⟩) HGB.out.2 (.int .i64 xc) |>.setCell (p := ⟨g5, 2, none⟩) HGB.out.2 (.int .i64 xd) |>.setCell (p := ⟨g5, 3, none⟩) HGB.out.2 (.int .i64 xo) |>.setCell (p := ⟨g5, 4, none⟩) HGB.out.2 (.int .i64 xw))
          have R4E := Lib.hid ((((((R4C.out.other HNE.out 0 (.int .i64 xi)).other HNE.out 1 (.int .i64 xc)).other HNE.out 2 (.int .i64 xd)).other HNE.out 3 (.int .i64 xo)).other HNE.out 4 (.int .i64 xw)))
          have R5E : Hid (RowC (((((WC.setCell ⟨g5, 0, none⟩ (.int .i64 xi)).setCell ⟨g5, 1, none⟩ (.int .i64 xc)).setCell ⟨g5, 2, none⟩ (.int .i64 xd)).setCell ⟨g5, 3, none⟩ (.int .i64 xo)).setCell ⟨g5, 4, none⟩ (.int .i64 xw)) g5 #[.int .i64 xi, .int .i64 xc, .int .i64 xd, .int .i64 xo, .int .i64 xw] 34) := (((((R5C.out.put 0 (.int .i64 xi)).put 1 (.int .i64 xc)).put 2 (.int .i64 xd)).put 3 (.int .i64 xo)).put 4 (.int .i64 xw))
          clear BC R4C R5C HAC
          go_wp2_with fail
          go_roundw
          case rel => exact ⟨k + 1, xi, xc, xd, xo, xw, by go_num, by omega, by omega, HL2, R4E, R5E, BE⟩
          case measure => simp [intOf]; omega
    · obtain rfl : k = n := by omega
      have c0 : wr.cell? ⟨g5, 0, none⟩ = some (.int .i64 mi) := R5.out.cell 0
      have c1 : wr.cell? ⟨g5, 1, none⟩ = some (.int .i64 mc) := R5.out.cell 1
      have c2 : wr.cell? ⟨g5, 2, none⟩ = some (.int .i64 md) := R5.out.cell 2
      have c3 : wr.cell? ⟨g5, 3, none⟩ = some (.int .i64 mo) := R5.out.cell 3
      have c4 : wr.cell? ⟨g5, 4, none⟩ = some (.int .i64 mw) := R5.out.cell 4
      have s0 : wr.cell? ⟨g4, 0, none⟩ = some (.int .i64 0) := R4.out.cell 0
      have f0 : wr.frozen? ⟨g4, 0, none⟩ = false := R4.out.free 0
      have s1 : (wr.setCell ⟨g4, 0, none⟩ (.int .i64 mi)).cell? ⟨g4, 1, none⟩ = some (.int .i64 0) := (R4.out.put 0 (.int .i64 mi)).cell 1
      have f1 : (wr.setCell ⟨g4, 0, none⟩ (.int .i64 mi)).frozen? ⟨g4, 1, none⟩ = false := (R4.out.put 0 (.int .i64 mi)).free 1
      have s2 : ((wr.setCell ⟨g4, 0, none⟩ (.int .i64 mi)).setCell ⟨g4, 1, none⟩ (.int .i64 mc)).cell? ⟨g4, 2, none⟩ = some (.int .i64 0) := ((R4.out.put 0 (.int .i64 mi)).put 1 (.int .i64 mc)).cell 2
      have f2 : ((wr.setCell ⟨g4, 0, none⟩ (.int .i64 mi)).setCell ⟨g4, 1, none⟩ (.int .i64 mc)).frozen? ⟨g4, 2, none⟩ = false := ((R4.out.put 0 (.int .i64 mi)).put 1 (.int .i64 mc)).free 2
      have s3 : (((wr.setCell ⟨g4, 0, none⟩ (.int .i64 mi)).setCell ⟨g4, 1, none⟩ (.int .i64 mc)).setCell ⟨g4, 2, none⟩ (.int .i64 md)).cell? ⟨g4, 3, none⟩ = some (.int .i64 0) := (((R4.out.put 0 (.int .i64 mi)).put 1 (.int .i64 mc)).put 2 (.int .i64 md)).cell 3
      have f3 : (((wr.setCell ⟨g4, 0, none⟩ (.int .i64 mi)).setCell ⟨g4, 1, none⟩ (.int .i64 mc)).setCell ⟨g4, 2, none⟩ (.int .i64 md)).frozen? ⟨g4, 3, none⟩ = false := (((R4.out.put 0 (.int .i64 mi)).put 1 (.int .i64 mc)).put 2 (.int .i64 md)).free 3
      have s4 : ((((wr.setCell ⟨g4, 0, none⟩ (.int .i64 mi)).setCell ⟨g4, 1, none⟩ (.int .i64 mc)).setCell ⟨g4, 2, none⟩ (.int .i64 md)).setCell ⟨g4, 3, none⟩ (.int .i64 mo)).cell? ⟨g4, 4, none⟩ = some (.int .i64 0) := ((((R4.out.put 0 (.int .i64 mi)).put 1 (.int .i64 mc)).put 2 (.int .i64 md)).put 3 (.int .i64 mo)).cell 4
      have f4 : ((((wr.setCell ⟨g4, 0, none⟩ (.int .i64 mi)).setCell ⟨g4, 1, none⟩ (.int .i64 mc)).setCell ⟨g4, 2, none⟩ (.int .i64 md)).setCell ⟨g4, 3, none⟩ (.int .i64 mo)).frozen? ⟨g4, 4, none⟩ = false := ((((R4.out.put 0 (.int .i64 mi)).put 1 (.int .i64 mc)).put 2 (.int .i64 md)).put 3 (.int .i64 mo)).free 4
      have HLL : Hid (Least15 s s.length ⟨mi, mc, md, mo, mw⟩) := by rw [H.out.len]; exact HL.out
      go_wp2_with fail
      obtain ⟨W9, HW9⟩ : ∃ W9, Hid (W9 = (((((wr.setCell ⟨g4, 0, none⟩ (.int .i64 mi)).setCell ⟨g4, 1, none⟩ (.int .i64 mc)).setCell ⟨g4, 2, none⟩ (.int .i64 md)).setCell ⟨g4, 3, none⟩ (.int .i64 mo)).setCell ⟨g4, 4, none⟩ (.int .i64 mw))) := ⟨_, rfl⟩
      have S9 := Lib.hid (HB.out |>.setCell (p := ⟨g4, 0, none⟩) HGB.out.1 (.int .i64 mi) |>.setCell (p := ⟨g4, 1, none⟩) HGB.out.1 (.int .i64 mc) |>.setCell (p := ⟨g4, 2, none⟩) HGB.out.1 (.int .i64 md) |>.setCell (p := ⟨g4, 3, none⟩) HGB.out.1 (.int .i64 mo) |>.setCell (p := ⟨g4, 4, none⟩) HGB.out.1 (.int .i64 mw))
      have R9 := Lib.hid ((((((R4.out.put 0 (.int .i64 mi)).put 1 (.int .i64 mc)).put 2 (.int .i64 md)).put 3 (.int .i64 mo)).put 4 (.int .i64 mw)))
      rw [← HW9.out] at S9 R9 ⊢
      have r0 : W9.cell? ⟨g4, 0, none⟩ = some (.int .i64 mi) := R9.out.cell 0
      have r1 : W9.cell? ⟨g4, 1, none⟩ = some (.int .i64 mc) := R9.out.cell 1
      have r2 : W9.cell? ⟨g4, 2, none⟩ = some (.int .i64 md) := R9.out.cell 2
      have r3 : W9.cell? ⟨g4, 3, none⟩ = some (.int .i64 mo) := R9.out.cell 3
      have r4 : W9.cell? ⟨g4, 4, none⟩ = some (.int .i64 mw) := R9.out.cell 4
      exact bodyPost_ret (v := vblkV ⟨mi, mc, md, mo, mw⟩) (by simp [results, Try.results23, go_sem, r0, r1, r2, r3, r4, vblkV]) rfl ⟨⟨mi, mc, md, mo, mw⟩, rfl, HLL.out, S9⟩
end Go.Proofs.Ytafnnpebdcnadaa
