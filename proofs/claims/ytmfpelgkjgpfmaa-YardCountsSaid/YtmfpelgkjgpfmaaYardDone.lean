/- Both yards, the landed one and the document's own, of one state: the statements' 'done' is true, and leaves them so. Conditions: both are yards. -/
import Derived.Test.YtmfpelgkjgpfmaaYardFace
import Derived.Test.YtmfpelgkjgpfmaaRefYard2
import Derived.Test.YtmfpelgkjgpfmaaRefYardNew
import Derived.Test.YtmfpelgkjgpfmaaRunBin
import Derived.Test.YtmfpelgkjgpfmaaActs11
set_option linter.unusedVariables false
set_option linter.unusedSimpArgs false
namespace Go.Proofs.Ytmfpelgkjgpfmaa
open Go.RowKit

structure BothY (w : World) (base : Nat) (fY fR : Nat → Prop) (gY gR : Nat) (s : Yd) : Prop where
  y : YardAt w base fY gY s
  r : RefY w base fR gR s
  two : Two fY fR
def actY (s : Yd) (x : A11) : Yd :=
  if x.do_ = 0 then (openY s x.b).1 else if x.do_ = 1 then (nextY s x.b).1 else if x.do_ = 2 then (sealY s x.b).1 else if x.do_ = 3 then (freeY s x.b).1 else if x.do_ = 4 then (retireY s x.b).1
  else if x.do_ = 5 then (wantY s x.b x.p x.dirty).1 else if x.do_ = 6 then (dropY s x.b x.p).1 else if x.do_ = 7 then (washY s x.b x.p).1 else s
def DoneY (w : World) (base : Nat) (fY fR : Nat → Prop) (gY gR : Nat) (s' : Yd) (e : Ending) (w' : World) : Prop :=
  e = .returned (.bool true) ∧ ∃ fY' fR', BothY w' base fY' fR' gY gR s' ∧ Moves w (Or2 fY fR) w' (Or2 fY' fR')
theorem run_int_load (p : Addr) (x : Int) (w : World) (hc : w.cell? p = some (.int .i64 x)) : (Instr.loadAt 3 (.pointer (some p))).run Try.prog w = .ok (.int .i64 x) w := by go_simp
theorem run_bool_load (p : Addr) (x : Bool) (w : World) (hc : w.cell? p = some (.bool x)) : (Instr.loadAt 4 (.pointer (some p))).run Try.prog w = .ok (.bool x) w := by go_simp
theorem run_field_a (g k : Nat) (hk : k < 4) (w : World) : (Instr.fieldAt 45 (.pointer (some ⟨g, 0, none⟩)) k).run Try.prog w = .ok (.pointer (some ⟨g, k, none⟩)) w := by
  rcases (by omega : k = 0 ∨ k = 1 ∨ k = 2 ∨ k = 3) with rfl | rfl | rfl | rfl <;> go_simp
section
variable {w W W' WD : World} {base gY gR : Nat} {fY fR : Nat → Prop} {s s2 : Yd} {q : Int} {fs : List Bool} {vs : List Value}
theorem BothY.since (h : BothY w base fY fR gY gR s) (hb : Below w.heap.size w W) : BothY W base fY fR gY gR s := ⟨h.y.since hb, h.r.since hb, h.two⟩
theorem BothY.lt (h : BothY w base fY fR gY gR s) : ∀ b, Or2 fY fR b → b < w.heap.size := fun b hb => hb.elim (h.y.lt b) (h.r.lt b)
/-- What holds while both are asked, in whatever order. -/
def JD (WD : World) (base : Nat) (fY fR : Nat → Prop) (gY gR : Nat) (s s2 : Yd) (q : Int) (fs : List Bool) (vs : List Value) (W : World) : Prop :=
  ∃ fY' fR', YardAt W base fY' gY (if fs.getD 0 false = true then s2 else s) ∧ RefY W base fR' gR (if fs.getD 1 false = true then s2 else s) ∧ Two fY' fR' ∧ Moves WD (Or2 fY fR) W (Or2 fY' fR') ∧ (fs.getD 0 false = true → ErrAt (Or2 fY' fR') W q (vs.getD 0 undef))
theorem jd_later (fs : List Bool) (vs : List Value) (x y : World) (h : JD WD base fY fR gY gR s s2 q fs vs x) (hb : Later x y) : JD WD base fY fR gY gR s s2 q fs vs y := by
  obtain ⟨fY', fR', h1, h2, h3, h4, h5⟩ := h
  exact ⟨fY', fR', h1.since hb, h2.since hb, h3, h4.trans (Moves.of_below hb), fun e => (h5 e).step (Moves.of_below hb)⟩
set_option maxHeartbeats 8000000 in
set_option maxRecDepth 20000 in
theorem done_open (xb xp : Int) (xd : Bool) (h : BothY w base fY fR gY gR s) : Calls Try.prog 22 #[.pointer (some ⟨gY, 0, none⟩), .pointer (some ⟨gR, 0, none⟩), .agg #[.int .i64 0, .int .i64 xb, .int .i64 xp, .bool xd]] w (DoneY w base fY fR gY gR (openY s xb).1) := by
  obtain ⟨W0, HW0⟩ : ∃ W0, Hid (W0 = w.alloc (.cells #[.int .i64 0, .int .i64 xb, .int .i64 xp, .bool xd] 45)) := ⟨_, rfl⟩
  have P0 : RestC (Or2 fY fR) W0 w.heap.size #[.int .i64 0, .int .i64 xb, .int .i64 xp, .bool xd] 45 := by rw [HW0.out]; exact RestC.new w _ _ h.lt
  have L0 : Below w.heap.size w W0 := by rw [HW0.out]; exact later_alloc _ _
  have B0 := Lib.hid (h.since L0)
  have HL0 := Lib.hid L0
  have HP0 := Lib.hid P0
  have c0 := P0.cell 0
  have c1 := P0.cell 1
  have c2 := P0.cell 2
  have c3 := P0.cell 3
  obtain ⟨gx, HGX⟩ : ∃ gx, Hid (w.heap.size = gx) := ⟨_, rfl⟩
  obtain ⟨s2, q, HS⟩ : ∃ s2 q, Hid (openY s xb = (s2, q)) := ⟨_, _, rfl⟩
  rw [HS.out]
  rw [HW0.out] at c0 c1 c2 c3
  clear P0 L0 h
  go_enter Try.func22, Try.ntmps22
  go_wp2_with fail
  rw [← HW0.out, HGX.out]
  rw [HGX.out] at HP0
  clear c0 c1 c2 c3
  obtain ⟨WD, HWD⟩ : ∃ W, Hid (W = W0.drew) := ⟨_, rfl⟩
  have HDL : Hid (Later W0 WD) := by rw [HWD.out]; exact (Below.refl _ _).drew
  have BD := Lib.hid (B0.out.since HDL.out)
  have PD := Lib.hid (HP0.out.since HDL.out)
  refine region_of_steps7 (by kernel_rfl) [some (.pointer (some ⟨gY, 0, none⟩)), some (.pointer (some ⟨gx, 1, none⟩)), some (.int .i64 xb), none, some (.int .i64 q), some (.pointer (some ⟨gR, 0, none⟩)), some (.pointer (some ⟨gx, 1, none⟩)), some (.int .i64 xb), some (.int .i64 q), some (.bool true), some (.bool true)] [3, 8] [18] (JD WD base fY fR gY gR s s2 q) (by kernel_rfl) (by kernel_rfl) (by rw [← HWD.out]; exact ⟨fY, fR, BD.out.y, BD.out.r, BD.out.two, Moves.refl _ _, fun e => (by cases e)⟩) ?_ ?_
  · refine Steps7.cons ?_ (Steps7.cons ?_ (Steps7.cons ?_ (Steps7.cons ?_ (Steps7.cons ?_ (Steps7.cons ?_ (Steps7.cons ?_ (Steps7.cons ?_ (Steps7.cons ?_ (Steps7.cons ?_ (Steps7.cons ?_ (Steps7.nil)))))))))))
    · intro listed a W H hj hl hd
      have t0 : a.tmps.getD 0 undef = .pointer (some ⟨gY, 0, none⟩) := (H.old 0 (by kernel_rfl)).trans rfl
      exact step7_value (i := 0) rfl rfl (run_op_move rfl t0) (calm7 (fun fs vs x y h hb => jd_later fs vs x y h hb) (by kernel_rfl) (by kernel_rfl) hj (later_refl _)) rfl
    · intro listed a W H hj hl hd
      have t5 : a.tmps.getD 5 undef = .pointer (some ⟨gx, 0, none⟩) := (H.old 5 (by kernel_rfl)).trans rfl
      exact step7_value (i := 1) rfl rfl (run_op_fieldAddr rfl t5 (run_field_a gx 1 (by decide) W)) (calm7 (fun fs vs x y h hb => jd_later fs vs x y h hb) (by kernel_rfl) (by kernel_rfl) hj (later_refl _)) rfl
    · intro listed a W H hj hl hd
      have t16 : a.tmps.getD 16 undef = .pointer (some ⟨gx, 1, none⟩) := H.get 1 16 (by kernel_rfl) (dep_of hd 1 (by kernel_rfl)) (fun _ h => by cases h)
      exact step7_value (i := 2) rfl rfl (run_op_load rfl t16 (by obtain ⟨fY1, fR1, h1, h2, h3, h4, h5⟩ := hj; exact run_int_load _ xb W (((PD.out.step h4).cell 1).trans rfl))) (calm7 (fun fs vs x y h hb => jd_later fs vs x y h hb) (by kernel_rfl) (by kernel_rfl) hj (later_refl _)) rfl
    · intro listed a W H hj hl hd
      have t15 : a.tmps.getD 15 undef = .pointer (some ⟨gY, 0, none⟩) := H.get 0 15 (by kernel_rfl) (dep_of hd 0 (by kernel_rfl)) (fun _ h => by cases h)
      have t17 : a.tmps.getD 17 undef = .int .i64 xb := H.get 2 17 (by kernel_rfl) (dep_of hd 2 (by kernel_rfl)) (fun _ h => by cases h)
      refine step7_call (i := 3) rfl rfl (run_op_call (vs := #[.pointer (some ⟨gY, 0, none⟩), .int .i64 xb]) Try.func9 (by kernel_rfl) (by kernel_rfl) rfl (by simp only [List.map_toArray, List.map_cons, List.map_nil]; show #[a.tmps.getD 15 undef, a.tmps.getD 17 undef] = _; rw [t15, t17])) ?_
      obtain ⟨fY1, fR1, h1, h2, h3, h4, h5⟩ := hj
      have hl0 : (flags [3, 8] listed).getD 0 false = false := hl
      rw [hl0, if_neg (by decide)] at h1
      refine (yopen_any xb h1).mono ?_
      rw [HS.out]
      rintro e W2 ⟨v2, fY2, rfl, he, hc, hs⟩
      have h2b := h2.keep hs.turn h3
      refine ⟨v2, rfl, ⟨fY2, fR1, ?_, ?_, h3.left hs h2.lt, h4.trans (hs.orL fR1), fun _ => ?_⟩, trivial⟩
      · have e : (flags [3, 8] (listed.setIfInBounds 3 true)).getD 0 false = true := set_self7 listed 3
        rw [e, if_pos rfl]; exact hc
      · have e : (flags [3, 8] (listed.setIfInBounds 3 true)).getD 1 false = (flags [3, 8] listed).getD 1 false := getD_set_ne true (by decide)
        rw [e]; exact h2b
      · have e : (slots [18] (a.put (some 18) v2)).getD 0 undef = v2 := put_self7 a 18 v2 (by rw [H.size]; exact of_decide_eq_true (by kernel_rfl))
        have e2 := he.or_ (fq := fR1) h2.lt
        rw [← e] at e2
        exact e2
    · intro listed a W H hj hl hd
      have d18 : listed.getD 3 false = true := dep_of hd 3 (by kernel_rfl)
      refine step7_call (i := 4) rfl rfl (run_op_call (vs := #[a.tmps.getD 18 undef]) Try.func10 (by kernel_rfl) (by kernel_rfl) rfl (by simp only [List.map_toArray, List.map_cons, List.map_nil]; show #[a.tmps.getD 18 undef] = _; rfl)) ?_
      have f0 : (flags [3, 8] listed).getD 0 false = true := done_true (dep_of hd 3 (by kernel_rfl))
      have hj0 := hj
      obtain ⟨fY1, fR1, h1, h2, h3, h4, h5⟩ := hj
      refine (err_num (h5 f0)).mono ?_
      rintro e w' ⟨rfl, rfl⟩
      exact ⟨_, rfl, (calm7 (fun fs vs x y h hb => jd_later fs vs x y h hb) (by kernel_rfl) (by kernel_rfl) hj0 (later_refl _)), rfl⟩
    · intro listed a W H hj hl hd
      have t1 : a.tmps.getD 1 undef = .pointer (some ⟨gR, 0, none⟩) := (H.old 1 (by kernel_rfl)).trans rfl
      exact step7_value (i := 5) rfl rfl (run_op_move rfl t1) (calm7 (fun fs vs x y h hb => jd_later fs vs x y h hb) (by kernel_rfl) (by kernel_rfl) hj (later_refl _)) rfl
    · intro listed a W H hj hl hd
      have t5 : a.tmps.getD 5 undef = .pointer (some ⟨gx, 0, none⟩) := (H.old 5 (by kernel_rfl)).trans rfl
      exact step7_value (i := 6) rfl rfl (run_op_fieldAddr rfl t5 (run_field_a gx 1 (by decide) W)) (calm7 (fun fs vs x y h hb => jd_later fs vs x y h hb) (by kernel_rfl) (by kernel_rfl) hj (later_refl _)) rfl
    · intro listed a W H hj hl hd
      have t21 : a.tmps.getD 21 undef = .pointer (some ⟨gx, 1, none⟩) := H.get 6 21 (by kernel_rfl) (dep_of hd 6 (by kernel_rfl)) (fun _ h => by cases h)
      exact step7_value (i := 7) rfl rfl (run_op_load rfl t21 (by obtain ⟨fY1, fR1, h1, h2, h3, h4, h5⟩ := hj; exact run_int_load _ xb W (((PD.out.step h4).cell 1).trans rfl))) (calm7 (fun fs vs x y h hb => jd_later fs vs x y h hb) (by kernel_rfl) (by kernel_rfl) hj (later_refl _)) rfl
    · intro listed a W H hj hl hd
      have t20 : a.tmps.getD 20 undef = .pointer (some ⟨gR, 0, none⟩) := H.get 5 20 (by kernel_rfl) (dep_of hd 5 (by kernel_rfl)) (fun _ h => by cases h)
      have t22 : a.tmps.getD 22 undef = .int .i64 xb := H.get 7 22 (by kernel_rfl) (dep_of hd 7 (by kernel_rfl)) (fun _ h => by cases h)
      refine step7_call (i := 8) rfl rfl (run_op_call (vs := #[.pointer (some ⟨gR, 0, none⟩), .int .i64 xb]) Try.func37 (by kernel_rfl) (by kernel_rfl) rfl (by simp only [List.map_toArray, List.map_cons, List.map_nil]; show #[a.tmps.getD 20 undef, a.tmps.getD 22 undef] = _; rw [t20, t22])) ?_
      obtain ⟨fY1, fR1, h1, h2, h3, h4, h5⟩ := hj
      have hl0 : (flags [3, 8] listed).getD 1 false = false := hl
      rw [hl0, if_neg (by decide)] at h2
      refine (ropen_any xb h2).mono ?_
      rw [HS.out]
      rintro e W2 ⟨rfl, hc, hs⟩
      have h1b := h1.keep hs.turn h3.flip
      have e1 : (flags [3, 8] (listed.setIfInBounds 8 true)).getD 0 false = (flags [3, 8] listed).getD 0 false := getD_set_ne true (by decide)
      refine ⟨_, rfl, ⟨fY1, fR1, ?_, ?_, h3, h4.trans (hs.orR fY1), fun h => ?_⟩, rfl⟩
      · rw [e1]; exact h1b
      · have e : (flags [3, 8] (listed.setIfInBounds 8 true)).getD 1 false = true := set_self7 listed 8
        rw [e, if_pos rfl]; exact hc
      · have e2 : slots [18] (a.put (some 23) (.int .i64 q)) = slots [18] a := slots_put (fun k e => by cases e; rfl)
        have e3 := (h5 (e1.symm.trans h)).step (hs.orR fY1)
        rw [← e2] at e3
        exact e3
    · intro listed a W H hj hl hd
      have t19 : a.tmps.getD 19 undef = .int .i64 q := H.get 4 19 (by kernel_rfl) (dep_of hd 4 (by kernel_rfl)) (fun _ h => by cases h)
      have t23 : a.tmps.getD 23 undef = .int .i64 q := H.get 8 23 (by kernel_rfl) (dep_of hd 8 (by kernel_rfl)) (fun _ h => by cases h)
      exact step7_value (i := 9) rfl rfl (run_op_bin rfl t19 t23 (bin_eql _ _ _ q q true (by first | rfl | (simp; done) | (simp; omega) | decide))) (calm7 (fun fs vs x y h hb => jd_later fs vs x y h hb) (by kernel_rfl) (by kernel_rfl) hj (later_refl _)) rfl
    · intro listed a W H hj hl hd
      have t24 : a.tmps.getD 24 undef = .bool true := H.get 9 24 (by kernel_rfl) (dep_of hd 9 (by kernel_rfl)) (fun _ h => by cases h)
      exact step7_value (i := 10) rfl rfl (run_op_assign rfl t24) (calm7 (fun fs vs x y h hb => jd_later fs vs x y h hb) (by kernel_rfl) (by kernel_rfl) hj (later_refl _)) rfl
  · intro a WC hdef hsz hw hall hact
    obtain ⟨u, hu⟩ : ∃ u : Nat → Value, ∀ k, a.tmps.getD k undef = u k := ⟨_, fun _ => rfl⟩
    have h6 : u 6 = .bool true := by rw [← hu]; exact hall 10 _ rfl
    simp only [hu] at hact
    have hact' : a = ([15, 16, 17, 18, 19, 20, 21, 22, 23, 24, 6] : List Nat).foldl (fun b k => b.put (some k) (u k)) _ := hact
    simp only [List.foldl] at hact'
    simp only [Act.put, List.setIfInBounds_toArray, List.set_cons_succ, List.set_cons_zero] at hact'
    have HAC := Lib.hid hact'
    have HX := Lib.hid hw
    clear hact hact' hall hdef hsz hw
    rw [h6] at HAC
    rw [HAC.out]
    clear hu
    go_wp2_with fail
    go_ret
    obtain ⟨fY2, fR2, k1, k2, k3, k4, _⟩ := HX.out
    exact ⟨rfl, fY2, fR2, ⟨k1, k2, k3⟩, ((Moves.of_below HL0.out).trans (Moves.of_below HDL.out)).trans k4⟩
set_option maxHeartbeats 8000000 in
set_option maxRecDepth 20000 in
theorem done_seal (xb xp : Int) (xd : Bool) (h : BothY w base fY fR gY gR s) : Calls Try.prog 22 #[.pointer (some ⟨gY, 0, none⟩), .pointer (some ⟨gR, 0, none⟩), .agg #[.int .i64 2, .int .i64 xb, .int .i64 xp, .bool xd]] w (DoneY w base fY fR gY gR (sealY s xb).1) := by
  obtain ⟨W0, HW0⟩ : ∃ W0, Hid (W0 = w.alloc (.cells #[.int .i64 2, .int .i64 xb, .int .i64 xp, .bool xd] 45)) := ⟨_, rfl⟩
  have P0 : RestC (Or2 fY fR) W0 w.heap.size #[.int .i64 2, .int .i64 xb, .int .i64 xp, .bool xd] 45 := by rw [HW0.out]; exact RestC.new w _ _ h.lt
  have L0 : Below w.heap.size w W0 := by rw [HW0.out]; exact later_alloc _ _
  have B0 := Lib.hid (h.since L0)
  have HL0 := Lib.hid L0
  have HP0 := Lib.hid P0
  have c0 := P0.cell 0
  have c1 := P0.cell 1
  have c2 := P0.cell 2
  have c3 := P0.cell 3
  obtain ⟨gx, HGX⟩ : ∃ gx, Hid (w.heap.size = gx) := ⟨_, rfl⟩
  obtain ⟨s2, q, HS⟩ : ∃ s2 q, Hid (sealY s xb = (s2, q)) := ⟨_, _, rfl⟩
  rw [HS.out]
  rw [HW0.out] at c0 c1 c2 c3
  clear P0 L0 h
  go_enter Try.func22, Try.ntmps22
  go_wp2_with fail
  rw [← HW0.out, HGX.out]
  rw [HGX.out] at HP0
  clear c0 c1 c2 c3
  obtain ⟨WD, HWD⟩ : ∃ W, Hid (W = W0.drew) := ⟨_, rfl⟩
  have HDL : Hid (Later W0 WD) := by rw [HWD.out]; exact (Below.refl _ _).drew
  have BD := Lib.hid (B0.out.since HDL.out)
  have PD := Lib.hid (HP0.out.since HDL.out)
  refine region_of_steps7 (by kernel_rfl) [some (.pointer (some ⟨gY, 0, none⟩)), some (.pointer (some ⟨gx, 1, none⟩)), some (.int .i64 xb), none, some (.int .i64 q), some (.pointer (some ⟨gR, 0, none⟩)), some (.pointer (some ⟨gx, 1, none⟩)), some (.int .i64 xb), some (.int .i64 q), some (.bool true), some (.bool true)] [3, 8] [55] (JD WD base fY fR gY gR s s2 q) (by kernel_rfl) (by kernel_rfl) (by rw [← HWD.out]; exact ⟨fY, fR, BD.out.y, BD.out.r, BD.out.two, Moves.refl _ _, fun e => (by cases e)⟩) ?_ ?_
  · refine Steps7.cons ?_ (Steps7.cons ?_ (Steps7.cons ?_ (Steps7.cons ?_ (Steps7.cons ?_ (Steps7.cons ?_ (Steps7.cons ?_ (Steps7.cons ?_ (Steps7.cons ?_ (Steps7.cons ?_ (Steps7.cons ?_ (Steps7.nil)))))))))))
    · intro listed a W H hj hl hd
      have t0 : a.tmps.getD 0 undef = .pointer (some ⟨gY, 0, none⟩) := (H.old 0 (by kernel_rfl)).trans rfl
      exact step7_value (i := 0) rfl rfl (run_op_move rfl t0) (calm7 (fun fs vs x y h hb => jd_later fs vs x y h hb) (by kernel_rfl) (by kernel_rfl) hj (later_refl _)) rfl
    · intro listed a W H hj hl hd
      have t5 : a.tmps.getD 5 undef = .pointer (some ⟨gx, 0, none⟩) := (H.old 5 (by kernel_rfl)).trans rfl
      exact step7_value (i := 1) rfl rfl (run_op_fieldAddr rfl t5 (run_field_a gx 1 (by decide) W)) (calm7 (fun fs vs x y h hb => jd_later fs vs x y h hb) (by kernel_rfl) (by kernel_rfl) hj (later_refl _)) rfl
    · intro listed a W H hj hl hd
      have t53 : a.tmps.getD 53 undef = .pointer (some ⟨gx, 1, none⟩) := H.get 1 53 (by kernel_rfl) (dep_of hd 1 (by kernel_rfl)) (fun _ h => by cases h)
      exact step7_value (i := 2) rfl rfl (run_op_load rfl t53 (by obtain ⟨fY1, fR1, h1, h2, h3, h4, h5⟩ := hj; exact run_int_load _ xb W (((PD.out.step h4).cell 1).trans rfl))) (calm7 (fun fs vs x y h hb => jd_later fs vs x y h hb) (by kernel_rfl) (by kernel_rfl) hj (later_refl _)) rfl
    · intro listed a W H hj hl hd
      have t52 : a.tmps.getD 52 undef = .pointer (some ⟨gY, 0, none⟩) := H.get 0 52 (by kernel_rfl) (dep_of hd 0 (by kernel_rfl)) (fun _ h => by cases h)
      have t54 : a.tmps.getD 54 undef = .int .i64 xb := H.get 2 54 (by kernel_rfl) (dep_of hd 2 (by kernel_rfl)) (fun _ h => by cases h)
      refine step7_call (i := 3) rfl rfl (run_op_call (vs := #[.pointer (some ⟨gY, 0, none⟩), .int .i64 xb]) Try.func12 (by kernel_rfl) (by kernel_rfl) rfl (by simp only [List.map_toArray, List.map_cons, List.map_nil]; show #[a.tmps.getD 52 undef, a.tmps.getD 54 undef] = _; rw [t52, t54])) ?_
      obtain ⟨fY1, fR1, h1, h2, h3, h4, h5⟩ := hj
      have hl0 : (flags [3, 8] listed).getD 0 false = false := hl
      rw [hl0, if_neg (by decide)] at h1
      refine (yseal_any xb h1).mono ?_
      rw [HS.out]
      rintro e W2 ⟨v2, fY2, rfl, he, hc, hs⟩
      have h2b := h2.keep hs.turn h3
      refine ⟨v2, rfl, ⟨fY2, fR1, ?_, ?_, h3.left hs h2.lt, h4.trans (hs.orL fR1), fun _ => ?_⟩, trivial⟩
      · have e : (flags [3, 8] (listed.setIfInBounds 3 true)).getD 0 false = true := set_self7 listed 3
        rw [e, if_pos rfl]; exact hc
      · have e : (flags [3, 8] (listed.setIfInBounds 3 true)).getD 1 false = (flags [3, 8] listed).getD 1 false := getD_set_ne true (by decide)
        rw [e]; exact h2b
      · have e : (slots [55] (a.put (some 55) v2)).getD 0 undef = v2 := put_self7 a 55 v2 (by rw [H.size]; exact of_decide_eq_true (by kernel_rfl))
        have e2 := he.or_ (fq := fR1) h2.lt
        rw [← e] at e2
        exact e2
    · intro listed a W H hj hl hd
      have d55 : listed.getD 3 false = true := dep_of hd 3 (by kernel_rfl)
      refine step7_call (i := 4) rfl rfl (run_op_call (vs := #[a.tmps.getD 55 undef]) Try.func10 (by kernel_rfl) (by kernel_rfl) rfl (by simp only [List.map_toArray, List.map_cons, List.map_nil]; show #[a.tmps.getD 55 undef] = _; rfl)) ?_
      have f0 : (flags [3, 8] listed).getD 0 false = true := done_true (dep_of hd 3 (by kernel_rfl))
      have hj0 := hj
      obtain ⟨fY1, fR1, h1, h2, h3, h4, h5⟩ := hj
      refine (err_num (h5 f0)).mono ?_
      rintro e w' ⟨rfl, rfl⟩
      exact ⟨_, rfl, (calm7 (fun fs vs x y h hb => jd_later fs vs x y h hb) (by kernel_rfl) (by kernel_rfl) hj0 (later_refl _)), rfl⟩
    · intro listed a W H hj hl hd
      have t1 : a.tmps.getD 1 undef = .pointer (some ⟨gR, 0, none⟩) := (H.old 1 (by kernel_rfl)).trans rfl
      exact step7_value (i := 5) rfl rfl (run_op_move rfl t1) (calm7 (fun fs vs x y h hb => jd_later fs vs x y h hb) (by kernel_rfl) (by kernel_rfl) hj (later_refl _)) rfl
    · intro listed a W H hj hl hd
      have t5 : a.tmps.getD 5 undef = .pointer (some ⟨gx, 0, none⟩) := (H.old 5 (by kernel_rfl)).trans rfl
      exact step7_value (i := 6) rfl rfl (run_op_fieldAddr rfl t5 (run_field_a gx 1 (by decide) W)) (calm7 (fun fs vs x y h hb => jd_later fs vs x y h hb) (by kernel_rfl) (by kernel_rfl) hj (later_refl _)) rfl
    · intro listed a W H hj hl hd
      have t58 : a.tmps.getD 58 undef = .pointer (some ⟨gx, 1, none⟩) := H.get 6 58 (by kernel_rfl) (dep_of hd 6 (by kernel_rfl)) (fun _ h => by cases h)
      exact step7_value (i := 7) rfl rfl (run_op_load rfl t58 (by obtain ⟨fY1, fR1, h1, h2, h3, h4, h5⟩ := hj; exact run_int_load _ xb W (((PD.out.step h4).cell 1).trans rfl))) (calm7 (fun fs vs x y h hb => jd_later fs vs x y h hb) (by kernel_rfl) (by kernel_rfl) hj (later_refl _)) rfl
    · intro listed a W H hj hl hd
      have t57 : a.tmps.getD 57 undef = .pointer (some ⟨gR, 0, none⟩) := H.get 5 57 (by kernel_rfl) (dep_of hd 5 (by kernel_rfl)) (fun _ h => by cases h)
      have t59 : a.tmps.getD 59 undef = .int .i64 xb := H.get 7 59 (by kernel_rfl) (dep_of hd 7 (by kernel_rfl)) (fun _ h => by cases h)
      refine step7_call (i := 8) rfl rfl (run_op_call (vs := #[.pointer (some ⟨gR, 0, none⟩), .int .i64 xb]) Try.func39 (by kernel_rfl) (by kernel_rfl) rfl (by simp only [List.map_toArray, List.map_cons, List.map_nil]; show #[a.tmps.getD 57 undef, a.tmps.getD 59 undef] = _; rw [t57, t59])) ?_
      obtain ⟨fY1, fR1, h1, h2, h3, h4, h5⟩ := hj
      have hl0 : (flags [3, 8] listed).getD 1 false = false := hl
      rw [hl0, if_neg (by decide)] at h2
      refine (rseal_any xb h2).mono ?_
      rw [HS.out]
      rintro e W2 ⟨rfl, hc, hs⟩
      have h1b := h1.keep hs.turn h3.flip
      have e1 : (flags [3, 8] (listed.setIfInBounds 8 true)).getD 0 false = (flags [3, 8] listed).getD 0 false := getD_set_ne true (by decide)
      refine ⟨_, rfl, ⟨fY1, fR1, ?_, ?_, h3, h4.trans (hs.orR fY1), fun h => ?_⟩, rfl⟩
      · rw [e1]; exact h1b
      · have e : (flags [3, 8] (listed.setIfInBounds 8 true)).getD 1 false = true := set_self7 listed 8
        rw [e, if_pos rfl]; exact hc
      · have e2 : slots [55] (a.put (some 60) (.int .i64 q)) = slots [55] a := slots_put (fun k e => by cases e; rfl)
        have e3 := (h5 (e1.symm.trans h)).step (hs.orR fY1)
        rw [← e2] at e3
        exact e3
    · intro listed a W H hj hl hd
      have t56 : a.tmps.getD 56 undef = .int .i64 q := H.get 4 56 (by kernel_rfl) (dep_of hd 4 (by kernel_rfl)) (fun _ h => by cases h)
      have t60 : a.tmps.getD 60 undef = .int .i64 q := H.get 8 60 (by kernel_rfl) (dep_of hd 8 (by kernel_rfl)) (fun _ h => by cases h)
      exact step7_value (i := 9) rfl rfl (run_op_bin rfl t56 t60 (bin_eql _ _ _ q q true (by first | rfl | (simp; done) | (simp; omega) | decide))) (calm7 (fun fs vs x y h hb => jd_later fs vs x y h hb) (by kernel_rfl) (by kernel_rfl) hj (later_refl _)) rfl
    · intro listed a W H hj hl hd
      have t61 : a.tmps.getD 61 undef = .bool true := H.get 9 61 (by kernel_rfl) (dep_of hd 9 (by kernel_rfl)) (fun _ h => by cases h)
      exact step7_value (i := 10) rfl rfl (run_op_assign rfl t61) (calm7 (fun fs vs x y h hb => jd_later fs vs x y h hb) (by kernel_rfl) (by kernel_rfl) hj (later_refl _)) rfl
  · intro a WC hdef hsz hw hall hact
    obtain ⟨u, hu⟩ : ∃ u : Nat → Value, ∀ k, a.tmps.getD k undef = u k := ⟨_, fun _ => rfl⟩
    have h6 : u 6 = .bool true := by rw [← hu]; exact hall 10 _ rfl
    simp only [hu] at hact
    have hact' : a = ([52, 53, 54, 55, 56, 57, 58, 59, 60, 61, 6] : List Nat).foldl (fun b k => b.put (some k) (u k)) _ := hact
    simp only [List.foldl] at hact'
    simp only [Act.put, List.setIfInBounds_toArray, List.set_cons_succ, List.set_cons_zero] at hact'
    have HAC := Lib.hid hact'
    have HX := Lib.hid hw
    clear hact hact' hall hdef hsz hw
    rw [h6] at HAC
    rw [HAC.out]
    clear hu
    go_wp2_with fail
    go_ret
    obtain ⟨fY2, fR2, k1, k2, k3, k4, _⟩ := HX.out
    exact ⟨rfl, fY2, fR2, ⟨k1, k2, k3⟩, ((Moves.of_below HL0.out).trans (Moves.of_below HDL.out)).trans k4⟩
set_option maxHeartbeats 8000000 in
set_option maxRecDepth 20000 in
theorem done_free (xb xp : Int) (xd : Bool) (h : BothY w base fY fR gY gR s) : Calls Try.prog 22 #[.pointer (some ⟨gY, 0, none⟩), .pointer (some ⟨gR, 0, none⟩), .agg #[.int .i64 3, .int .i64 xb, .int .i64 xp, .bool xd]] w (DoneY w base fY fR gY gR (freeY s xb).1) := by
  obtain ⟨W0, HW0⟩ : ∃ W0, Hid (W0 = w.alloc (.cells #[.int .i64 3, .int .i64 xb, .int .i64 xp, .bool xd] 45)) := ⟨_, rfl⟩
  have P0 : RestC (Or2 fY fR) W0 w.heap.size #[.int .i64 3, .int .i64 xb, .int .i64 xp, .bool xd] 45 := by rw [HW0.out]; exact RestC.new w _ _ h.lt
  have L0 : Below w.heap.size w W0 := by rw [HW0.out]; exact later_alloc _ _
  have B0 := Lib.hid (h.since L0)
  have HL0 := Lib.hid L0
  have HP0 := Lib.hid P0
  have c0 := P0.cell 0
  have c1 := P0.cell 1
  have c2 := P0.cell 2
  have c3 := P0.cell 3
  obtain ⟨gx, HGX⟩ : ∃ gx, Hid (w.heap.size = gx) := ⟨_, rfl⟩
  obtain ⟨s2, q, HS⟩ : ∃ s2 q, Hid (freeY s xb = (s2, q)) := ⟨_, _, rfl⟩
  rw [HS.out]
  rw [HW0.out] at c0 c1 c2 c3
  clear P0 L0 h
  go_enter Try.func22, Try.ntmps22
  go_wp2_with fail
  rw [← HW0.out, HGX.out]
  rw [HGX.out] at HP0
  clear c0 c1 c2 c3
  obtain ⟨WD, HWD⟩ : ∃ W, Hid (W = W0.drew) := ⟨_, rfl⟩
  have HDL : Hid (Later W0 WD) := by rw [HWD.out]; exact (Below.refl _ _).drew
  have BD := Lib.hid (B0.out.since HDL.out)
  have PD := Lib.hid (HP0.out.since HDL.out)
  refine region_of_steps7 (by kernel_rfl) [some (.pointer (some ⟨gY, 0, none⟩)), some (.pointer (some ⟨gx, 1, none⟩)), some (.int .i64 xb), none, some (.int .i64 q), some (.pointer (some ⟨gR, 0, none⟩)), some (.pointer (some ⟨gx, 1, none⟩)), some (.int .i64 xb), some (.int .i64 q), some (.bool true), some (.bool true)] [3, 8] [67] (JD WD base fY fR gY gR s s2 q) (by kernel_rfl) (by kernel_rfl) (by rw [← HWD.out]; exact ⟨fY, fR, BD.out.y, BD.out.r, BD.out.two, Moves.refl _ _, fun e => (by cases e)⟩) ?_ ?_
  · refine Steps7.cons ?_ (Steps7.cons ?_ (Steps7.cons ?_ (Steps7.cons ?_ (Steps7.cons ?_ (Steps7.cons ?_ (Steps7.cons ?_ (Steps7.cons ?_ (Steps7.cons ?_ (Steps7.cons ?_ (Steps7.cons ?_ (Steps7.nil)))))))))))
    · intro listed a W H hj hl hd
      have t0 : a.tmps.getD 0 undef = .pointer (some ⟨gY, 0, none⟩) := (H.old 0 (by kernel_rfl)).trans rfl
      exact step7_value (i := 0) rfl rfl (run_op_move rfl t0) (calm7 (fun fs vs x y h hb => jd_later fs vs x y h hb) (by kernel_rfl) (by kernel_rfl) hj (later_refl _)) rfl
    · intro listed a W H hj hl hd
      have t5 : a.tmps.getD 5 undef = .pointer (some ⟨gx, 0, none⟩) := (H.old 5 (by kernel_rfl)).trans rfl
      exact step7_value (i := 1) rfl rfl (run_op_fieldAddr rfl t5 (run_field_a gx 1 (by decide) W)) (calm7 (fun fs vs x y h hb => jd_later fs vs x y h hb) (by kernel_rfl) (by kernel_rfl) hj (later_refl _)) rfl
    · intro listed a W H hj hl hd
      have t65 : a.tmps.getD 65 undef = .pointer (some ⟨gx, 1, none⟩) := H.get 1 65 (by kernel_rfl) (dep_of hd 1 (by kernel_rfl)) (fun _ h => by cases h)
      exact step7_value (i := 2) rfl rfl (run_op_load rfl t65 (by obtain ⟨fY1, fR1, h1, h2, h3, h4, h5⟩ := hj; exact run_int_load _ xb W (((PD.out.step h4).cell 1).trans rfl))) (calm7 (fun fs vs x y h hb => jd_later fs vs x y h hb) (by kernel_rfl) (by kernel_rfl) hj (later_refl _)) rfl
    · intro listed a W H hj hl hd
      have t64 : a.tmps.getD 64 undef = .pointer (some ⟨gY, 0, none⟩) := H.get 0 64 (by kernel_rfl) (dep_of hd 0 (by kernel_rfl)) (fun _ h => by cases h)
      have t66 : a.tmps.getD 66 undef = .int .i64 xb := H.get 2 66 (by kernel_rfl) (dep_of hd 2 (by kernel_rfl)) (fun _ h => by cases h)
      refine step7_call (i := 3) rfl rfl (run_op_call (vs := #[.pointer (some ⟨gY, 0, none⟩), .int .i64 xb]) Try.func15 (by kernel_rfl) (by kernel_rfl) rfl (by simp only [List.map_toArray, List.map_cons, List.map_nil]; show #[a.tmps.getD 64 undef, a.tmps.getD 66 undef] = _; rw [t64, t66])) ?_
      obtain ⟨fY1, fR1, h1, h2, h3, h4, h5⟩ := hj
      have hl0 : (flags [3, 8] listed).getD 0 false = false := hl
      rw [hl0, if_neg (by decide)] at h1
      refine (yfree_any xb h1).mono ?_
      rw [HS.out]
      rintro e W2 ⟨v2, fY2, rfl, he, hc, hs⟩
      have h2b := h2.keep hs.turn h3
      refine ⟨v2, rfl, ⟨fY2, fR1, ?_, ?_, h3.left hs h2.lt, h4.trans (hs.orL fR1), fun _ => ?_⟩, trivial⟩
      · have e : (flags [3, 8] (listed.setIfInBounds 3 true)).getD 0 false = true := set_self7 listed 3
        rw [e, if_pos rfl]; exact hc
      · have e : (flags [3, 8] (listed.setIfInBounds 3 true)).getD 1 false = (flags [3, 8] listed).getD 1 false := getD_set_ne true (by decide)
        rw [e]; exact h2b
      · have e : (slots [67] (a.put (some 67) v2)).getD 0 undef = v2 := put_self7 a 67 v2 (by rw [H.size]; exact of_decide_eq_true (by kernel_rfl))
        have e2 := he.or_ (fq := fR1) h2.lt
        rw [← e] at e2
        exact e2
    · intro listed a W H hj hl hd
      have d67 : listed.getD 3 false = true := dep_of hd 3 (by kernel_rfl)
      refine step7_call (i := 4) rfl rfl (run_op_call (vs := #[a.tmps.getD 67 undef]) Try.func10 (by kernel_rfl) (by kernel_rfl) rfl (by simp only [List.map_toArray, List.map_cons, List.map_nil]; show #[a.tmps.getD 67 undef] = _; rfl)) ?_
      have f0 : (flags [3, 8] listed).getD 0 false = true := done_true (dep_of hd 3 (by kernel_rfl))
      have hj0 := hj
      obtain ⟨fY1, fR1, h1, h2, h3, h4, h5⟩ := hj
      refine (err_num (h5 f0)).mono ?_
      rintro e w' ⟨rfl, rfl⟩
      exact ⟨_, rfl, (calm7 (fun fs vs x y h hb => jd_later fs vs x y h hb) (by kernel_rfl) (by kernel_rfl) hj0 (later_refl _)), rfl⟩
    · intro listed a W H hj hl hd
      have t1 : a.tmps.getD 1 undef = .pointer (some ⟨gR, 0, none⟩) := (H.old 1 (by kernel_rfl)).trans rfl
      exact step7_value (i := 5) rfl rfl (run_op_move rfl t1) (calm7 (fun fs vs x y h hb => jd_later fs vs x y h hb) (by kernel_rfl) (by kernel_rfl) hj (later_refl _)) rfl
    · intro listed a W H hj hl hd
      have t5 : a.tmps.getD 5 undef = .pointer (some ⟨gx, 0, none⟩) := (H.old 5 (by kernel_rfl)).trans rfl
      exact step7_value (i := 6) rfl rfl (run_op_fieldAddr rfl t5 (run_field_a gx 1 (by decide) W)) (calm7 (fun fs vs x y h hb => jd_later fs vs x y h hb) (by kernel_rfl) (by kernel_rfl) hj (later_refl _)) rfl
    · intro listed a W H hj hl hd
      have t70 : a.tmps.getD 70 undef = .pointer (some ⟨gx, 1, none⟩) := H.get 6 70 (by kernel_rfl) (dep_of hd 6 (by kernel_rfl)) (fun _ h => by cases h)
      exact step7_value (i := 7) rfl rfl (run_op_load rfl t70 (by obtain ⟨fY1, fR1, h1, h2, h3, h4, h5⟩ := hj; exact run_int_load _ xb W (((PD.out.step h4).cell 1).trans rfl))) (calm7 (fun fs vs x y h hb => jd_later fs vs x y h hb) (by kernel_rfl) (by kernel_rfl) hj (later_refl _)) rfl
    · intro listed a W H hj hl hd
      have t69 : a.tmps.getD 69 undef = .pointer (some ⟨gR, 0, none⟩) := H.get 5 69 (by kernel_rfl) (dep_of hd 5 (by kernel_rfl)) (fun _ h => by cases h)
      have t71 : a.tmps.getD 71 undef = .int .i64 xb := H.get 7 71 (by kernel_rfl) (dep_of hd 7 (by kernel_rfl)) (fun _ h => by cases h)
      refine step7_call (i := 8) rfl rfl (run_op_call (vs := #[.pointer (some ⟨gR, 0, none⟩), .int .i64 xb]) Try.func40 (by kernel_rfl) (by kernel_rfl) rfl (by simp only [List.map_toArray, List.map_cons, List.map_nil]; show #[a.tmps.getD 69 undef, a.tmps.getD 71 undef] = _; rw [t69, t71])) ?_
      obtain ⟨fY1, fR1, h1, h2, h3, h4, h5⟩ := hj
      have hl0 : (flags [3, 8] listed).getD 1 false = false := hl
      rw [hl0, if_neg (by decide)] at h2
      refine (rfree_any xb h2).mono ?_
      rw [HS.out]
      rintro e W2 ⟨rfl, hc, hs⟩
      have h1b := h1.keep hs.turn h3.flip
      have e1 : (flags [3, 8] (listed.setIfInBounds 8 true)).getD 0 false = (flags [3, 8] listed).getD 0 false := getD_set_ne true (by decide)
      refine ⟨_, rfl, ⟨fY1, fR1, ?_, ?_, h3, h4.trans (hs.orR fY1), fun h => ?_⟩, rfl⟩
      · rw [e1]; exact h1b
      · have e : (flags [3, 8] (listed.setIfInBounds 8 true)).getD 1 false = true := set_self7 listed 8
        rw [e, if_pos rfl]; exact hc
      · have e2 : slots [67] (a.put (some 72) (.int .i64 q)) = slots [67] a := slots_put (fun k e => by cases e; rfl)
        have e3 := (h5 (e1.symm.trans h)).step (hs.orR fY1)
        rw [← e2] at e3
        exact e3
    · intro listed a W H hj hl hd
      have t68 : a.tmps.getD 68 undef = .int .i64 q := H.get 4 68 (by kernel_rfl) (dep_of hd 4 (by kernel_rfl)) (fun _ h => by cases h)
      have t72 : a.tmps.getD 72 undef = .int .i64 q := H.get 8 72 (by kernel_rfl) (dep_of hd 8 (by kernel_rfl)) (fun _ h => by cases h)
      exact step7_value (i := 9) rfl rfl (run_op_bin rfl t68 t72 (bin_eql _ _ _ q q true (by first | rfl | (simp; done) | (simp; omega) | decide))) (calm7 (fun fs vs x y h hb => jd_later fs vs x y h hb) (by kernel_rfl) (by kernel_rfl) hj (later_refl _)) rfl
    · intro listed a W H hj hl hd
      have t73 : a.tmps.getD 73 undef = .bool true := H.get 9 73 (by kernel_rfl) (dep_of hd 9 (by kernel_rfl)) (fun _ h => by cases h)
      exact step7_value (i := 10) rfl rfl (run_op_assign rfl t73) (calm7 (fun fs vs x y h hb => jd_later fs vs x y h hb) (by kernel_rfl) (by kernel_rfl) hj (later_refl _)) rfl
  · intro a WC hdef hsz hw hall hact
    obtain ⟨u, hu⟩ : ∃ u : Nat → Value, ∀ k, a.tmps.getD k undef = u k := ⟨_, fun _ => rfl⟩
    have h6 : u 6 = .bool true := by rw [← hu]; exact hall 10 _ rfl
    simp only [hu] at hact
    have hact' : a = ([64, 65, 66, 67, 68, 69, 70, 71, 72, 73, 6] : List Nat).foldl (fun b k => b.put (some k) (u k)) _ := hact
    simp only [List.foldl] at hact'
    simp only [Act.put, List.setIfInBounds_toArray, List.set_cons_succ, List.set_cons_zero] at hact'
    have HAC := Lib.hid hact'
    have HX := Lib.hid hw
    clear hact hact' hall hdef hsz hw
    rw [h6] at HAC
    rw [HAC.out]
    clear hu
    go_wp2_with fail
    go_ret
    obtain ⟨fY2, fR2, k1, k2, k3, k4, _⟩ := HX.out
    exact ⟨rfl, fY2, fR2, ⟨k1, k2, k3⟩, ((Moves.of_below HL0.out).trans (Moves.of_below HDL.out)).trans k4⟩
set_option maxHeartbeats 8000000 in
set_option maxRecDepth 20000 in
theorem done_retire (xb xp : Int) (xd : Bool) (h : BothY w base fY fR gY gR s) : Calls Try.prog 22 #[.pointer (some ⟨gY, 0, none⟩), .pointer (some ⟨gR, 0, none⟩), .agg #[.int .i64 4, .int .i64 xb, .int .i64 xp, .bool xd]] w (DoneY w base fY fR gY gR (retireY s xb).1) := by
  obtain ⟨W0, HW0⟩ : ∃ W0, Hid (W0 = w.alloc (.cells #[.int .i64 4, .int .i64 xb, .int .i64 xp, .bool xd] 45)) := ⟨_, rfl⟩
  have P0 : RestC (Or2 fY fR) W0 w.heap.size #[.int .i64 4, .int .i64 xb, .int .i64 xp, .bool xd] 45 := by rw [HW0.out]; exact RestC.new w _ _ h.lt
  have L0 : Below w.heap.size w W0 := by rw [HW0.out]; exact later_alloc _ _
  have B0 := Lib.hid (h.since L0)
  have HL0 := Lib.hid L0
  have HP0 := Lib.hid P0
  have c0 := P0.cell 0
  have c1 := P0.cell 1
  have c2 := P0.cell 2
  have c3 := P0.cell 3
  obtain ⟨gx, HGX⟩ : ∃ gx, Hid (w.heap.size = gx) := ⟨_, rfl⟩
  obtain ⟨s2, q, HS⟩ : ∃ s2 q, Hid (retireY s xb = (s2, q)) := ⟨_, _, rfl⟩
  rw [HS.out]
  rw [HW0.out] at c0 c1 c2 c3
  clear P0 L0 h
  go_enter Try.func22, Try.ntmps22
  go_wp2_with fail
  rw [← HW0.out, HGX.out]
  rw [HGX.out] at HP0
  clear c0 c1 c2 c3
  obtain ⟨WD, HWD⟩ : ∃ W, Hid (W = W0.drew) := ⟨_, rfl⟩
  have HDL : Hid (Later W0 WD) := by rw [HWD.out]; exact (Below.refl _ _).drew
  have BD := Lib.hid (B0.out.since HDL.out)
  have PD := Lib.hid (HP0.out.since HDL.out)
  refine region_of_steps7 (by kernel_rfl) [some (.pointer (some ⟨gY, 0, none⟩)), some (.pointer (some ⟨gx, 1, none⟩)), some (.int .i64 xb), none, some (.int .i64 q), some (.pointer (some ⟨gR, 0, none⟩)), some (.pointer (some ⟨gx, 1, none⟩)), some (.int .i64 xb), some (.int .i64 q), some (.bool true), some (.bool true)] [3, 8] [79] (JD WD base fY fR gY gR s s2 q) (by kernel_rfl) (by kernel_rfl) (by rw [← HWD.out]; exact ⟨fY, fR, BD.out.y, BD.out.r, BD.out.two, Moves.refl _ _, fun e => (by cases e)⟩) ?_ ?_
  · refine Steps7.cons ?_ (Steps7.cons ?_ (Steps7.cons ?_ (Steps7.cons ?_ (Steps7.cons ?_ (Steps7.cons ?_ (Steps7.cons ?_ (Steps7.cons ?_ (Steps7.cons ?_ (Steps7.cons ?_ (Steps7.cons ?_ (Steps7.nil)))))))))))
    · intro listed a W H hj hl hd
      have t0 : a.tmps.getD 0 undef = .pointer (some ⟨gY, 0, none⟩) := (H.old 0 (by kernel_rfl)).trans rfl
      exact step7_value (i := 0) rfl rfl (run_op_move rfl t0) (calm7 (fun fs vs x y h hb => jd_later fs vs x y h hb) (by kernel_rfl) (by kernel_rfl) hj (later_refl _)) rfl
    · intro listed a W H hj hl hd
      have t5 : a.tmps.getD 5 undef = .pointer (some ⟨gx, 0, none⟩) := (H.old 5 (by kernel_rfl)).trans rfl
      exact step7_value (i := 1) rfl rfl (run_op_fieldAddr rfl t5 (run_field_a gx 1 (by decide) W)) (calm7 (fun fs vs x y h hb => jd_later fs vs x y h hb) (by kernel_rfl) (by kernel_rfl) hj (later_refl _)) rfl
    · intro listed a W H hj hl hd
      have t77 : a.tmps.getD 77 undef = .pointer (some ⟨gx, 1, none⟩) := H.get 1 77 (by kernel_rfl) (dep_of hd 1 (by kernel_rfl)) (fun _ h => by cases h)
      exact step7_value (i := 2) rfl rfl (run_op_load rfl t77 (by obtain ⟨fY1, fR1, h1, h2, h3, h4, h5⟩ := hj; exact run_int_load _ xb W (((PD.out.step h4).cell 1).trans rfl))) (calm7 (fun fs vs x y h hb => jd_later fs vs x y h hb) (by kernel_rfl) (by kernel_rfl) hj (later_refl _)) rfl
    · intro listed a W H hj hl hd
      have t76 : a.tmps.getD 76 undef = .pointer (some ⟨gY, 0, none⟩) := H.get 0 76 (by kernel_rfl) (dep_of hd 0 (by kernel_rfl)) (fun _ h => by cases h)
      have t78 : a.tmps.getD 78 undef = .int .i64 xb := H.get 2 78 (by kernel_rfl) (dep_of hd 2 (by kernel_rfl)) (fun _ h => by cases h)
      refine step7_call (i := 3) rfl rfl (run_op_call (vs := #[.pointer (some ⟨gY, 0, none⟩), .int .i64 xb]) Try.func19 (by kernel_rfl) (by kernel_rfl) rfl (by simp only [List.map_toArray, List.map_cons, List.map_nil]; show #[a.tmps.getD 76 undef, a.tmps.getD 78 undef] = _; rw [t76, t78])) ?_
      obtain ⟨fY1, fR1, h1, h2, h3, h4, h5⟩ := hj
      have hl0 : (flags [3, 8] listed).getD 0 false = false := hl
      rw [hl0, if_neg (by decide)] at h1
      refine (yretire_any xb h1).mono ?_
      rw [HS.out]
      rintro e W2 ⟨v2, fY2, rfl, he, hc, hs⟩
      have h2b := h2.keep hs.turn h3
      refine ⟨v2, rfl, ⟨fY2, fR1, ?_, ?_, h3.left hs h2.lt, h4.trans (hs.orL fR1), fun _ => ?_⟩, trivial⟩
      · have e : (flags [3, 8] (listed.setIfInBounds 3 true)).getD 0 false = true := set_self7 listed 3
        rw [e, if_pos rfl]; exact hc
      · have e : (flags [3, 8] (listed.setIfInBounds 3 true)).getD 1 false = (flags [3, 8] listed).getD 1 false := getD_set_ne true (by decide)
        rw [e]; exact h2b
      · have e : (slots [79] (a.put (some 79) v2)).getD 0 undef = v2 := put_self7 a 79 v2 (by rw [H.size]; exact of_decide_eq_true (by kernel_rfl))
        have e2 := he.or_ (fq := fR1) h2.lt
        rw [← e] at e2
        exact e2
    · intro listed a W H hj hl hd
      have d79 : listed.getD 3 false = true := dep_of hd 3 (by kernel_rfl)
      refine step7_call (i := 4) rfl rfl (run_op_call (vs := #[a.tmps.getD 79 undef]) Try.func10 (by kernel_rfl) (by kernel_rfl) rfl (by simp only [List.map_toArray, List.map_cons, List.map_nil]; show #[a.tmps.getD 79 undef] = _; rfl)) ?_
      have f0 : (flags [3, 8] listed).getD 0 false = true := done_true (dep_of hd 3 (by kernel_rfl))
      have hj0 := hj
      obtain ⟨fY1, fR1, h1, h2, h3, h4, h5⟩ := hj
      refine (err_num (h5 f0)).mono ?_
      rintro e w' ⟨rfl, rfl⟩
      exact ⟨_, rfl, (calm7 (fun fs vs x y h hb => jd_later fs vs x y h hb) (by kernel_rfl) (by kernel_rfl) hj0 (later_refl _)), rfl⟩
    · intro listed a W H hj hl hd
      have t1 : a.tmps.getD 1 undef = .pointer (some ⟨gR, 0, none⟩) := (H.old 1 (by kernel_rfl)).trans rfl
      exact step7_value (i := 5) rfl rfl (run_op_move rfl t1) (calm7 (fun fs vs x y h hb => jd_later fs vs x y h hb) (by kernel_rfl) (by kernel_rfl) hj (later_refl _)) rfl
    · intro listed a W H hj hl hd
      have t5 : a.tmps.getD 5 undef = .pointer (some ⟨gx, 0, none⟩) := (H.old 5 (by kernel_rfl)).trans rfl
      exact step7_value (i := 6) rfl rfl (run_op_fieldAddr rfl t5 (run_field_a gx 1 (by decide) W)) (calm7 (fun fs vs x y h hb => jd_later fs vs x y h hb) (by kernel_rfl) (by kernel_rfl) hj (later_refl _)) rfl
    · intro listed a W H hj hl hd
      have t82 : a.tmps.getD 82 undef = .pointer (some ⟨gx, 1, none⟩) := H.get 6 82 (by kernel_rfl) (dep_of hd 6 (by kernel_rfl)) (fun _ h => by cases h)
      exact step7_value (i := 7) rfl rfl (run_op_load rfl t82 (by obtain ⟨fY1, fR1, h1, h2, h3, h4, h5⟩ := hj; exact run_int_load _ xb W (((PD.out.step h4).cell 1).trans rfl))) (calm7 (fun fs vs x y h hb => jd_later fs vs x y h hb) (by kernel_rfl) (by kernel_rfl) hj (later_refl _)) rfl
    · intro listed a W H hj hl hd
      have t81 : a.tmps.getD 81 undef = .pointer (some ⟨gR, 0, none⟩) := H.get 5 81 (by kernel_rfl) (dep_of hd 5 (by kernel_rfl)) (fun _ h => by cases h)
      have t83 : a.tmps.getD 83 undef = .int .i64 xb := H.get 7 83 (by kernel_rfl) (dep_of hd 7 (by kernel_rfl)) (fun _ h => by cases h)
      refine step7_call (i := 8) rfl rfl (run_op_call (vs := #[.pointer (some ⟨gR, 0, none⟩), .int .i64 xb]) Try.func41 (by kernel_rfl) (by kernel_rfl) rfl (by simp only [List.map_toArray, List.map_cons, List.map_nil]; show #[a.tmps.getD 81 undef, a.tmps.getD 83 undef] = _; rw [t81, t83])) ?_
      obtain ⟨fY1, fR1, h1, h2, h3, h4, h5⟩ := hj
      have hl0 : (flags [3, 8] listed).getD 1 false = false := hl
      rw [hl0, if_neg (by decide)] at h2
      refine (rretire_any xb h2).mono ?_
      rw [HS.out]
      rintro e W2 ⟨rfl, hc, hs⟩
      have h1b := h1.keep hs.turn h3.flip
      have e1 : (flags [3, 8] (listed.setIfInBounds 8 true)).getD 0 false = (flags [3, 8] listed).getD 0 false := getD_set_ne true (by decide)
      refine ⟨_, rfl, ⟨fY1, fR1, ?_, ?_, h3, h4.trans (hs.orR fY1), fun h => ?_⟩, rfl⟩
      · rw [e1]; exact h1b
      · have e : (flags [3, 8] (listed.setIfInBounds 8 true)).getD 1 false = true := set_self7 listed 8
        rw [e, if_pos rfl]; exact hc
      · have e2 : slots [79] (a.put (some 84) (.int .i64 q)) = slots [79] a := slots_put (fun k e => by cases e; rfl)
        have e3 := (h5 (e1.symm.trans h)).step (hs.orR fY1)
        rw [← e2] at e3
        exact e3
    · intro listed a W H hj hl hd
      have t80 : a.tmps.getD 80 undef = .int .i64 q := H.get 4 80 (by kernel_rfl) (dep_of hd 4 (by kernel_rfl)) (fun _ h => by cases h)
      have t84 : a.tmps.getD 84 undef = .int .i64 q := H.get 8 84 (by kernel_rfl) (dep_of hd 8 (by kernel_rfl)) (fun _ h => by cases h)
      exact step7_value (i := 9) rfl rfl (run_op_bin rfl t80 t84 (bin_eql _ _ _ q q true (by first | rfl | (simp; done) | (simp; omega) | decide))) (calm7 (fun fs vs x y h hb => jd_later fs vs x y h hb) (by kernel_rfl) (by kernel_rfl) hj (later_refl _)) rfl
    · intro listed a W H hj hl hd
      have t85 : a.tmps.getD 85 undef = .bool true := H.get 9 85 (by kernel_rfl) (dep_of hd 9 (by kernel_rfl)) (fun _ h => by cases h)
      exact step7_value (i := 10) rfl rfl (run_op_assign rfl t85) (calm7 (fun fs vs x y h hb => jd_later fs vs x y h hb) (by kernel_rfl) (by kernel_rfl) hj (later_refl _)) rfl
  · intro a WC hdef hsz hw hall hact
    obtain ⟨u, hu⟩ : ∃ u : Nat → Value, ∀ k, a.tmps.getD k undef = u k := ⟨_, fun _ => rfl⟩
    have h6 : u 6 = .bool true := by rw [← hu]; exact hall 10 _ rfl
    simp only [hu] at hact
    have hact' : a = ([76, 77, 78, 79, 80, 81, 82, 83, 84, 85, 6] : List Nat).foldl (fun b k => b.put (some k) (u k)) _ := hact
    simp only [List.foldl] at hact'
    simp only [Act.put, List.setIfInBounds_toArray, List.set_cons_succ, List.set_cons_zero] at hact'
    have HAC := Lib.hid hact'
    have HX := Lib.hid hw
    clear hact hact' hall hdef hsz hw
    rw [h6] at HAC
    rw [HAC.out]
    clear hu
    go_wp2_with fail
    go_ret
    obtain ⟨fY2, fR2, k1, k2, k3, k4, _⟩ := HX.out
    exact ⟨rfl, fY2, fR2, ⟨k1, k2, k3⟩, ((Moves.of_below HL0.out).trans (Moves.of_below HDL.out)).trans k4⟩
set_option maxHeartbeats 8000000 in
set_option maxRecDepth 20000 in
theorem done_need (xb xp : Int) (xd : Bool) (h : BothY w base fY fR gY gR s) : Calls Try.prog 22 #[.pointer (some ⟨gY, 0, none⟩), .pointer (some ⟨gR, 0, none⟩), .agg #[.int .i64 5, .int .i64 xb, .int .i64 xp, .bool xd]] w (DoneY w base fY fR gY gR (wantY s xb xp xd).1) := by
  obtain ⟨W0, HW0⟩ : ∃ W0, Hid (W0 = w.alloc (.cells #[.int .i64 5, .int .i64 xb, .int .i64 xp, .bool xd] 45)) := ⟨_, rfl⟩
  have P0 : RestC (Or2 fY fR) W0 w.heap.size #[.int .i64 5, .int .i64 xb, .int .i64 xp, .bool xd] 45 := by rw [HW0.out]; exact RestC.new w _ _ h.lt
  have L0 : Below w.heap.size w W0 := by rw [HW0.out]; exact later_alloc _ _
  have B0 := Lib.hid (h.since L0)
  have HL0 := Lib.hid L0
  have HP0 := Lib.hid P0
  have c0 := P0.cell 0
  have c1 := P0.cell 1
  have c2 := P0.cell 2
  have c3 := P0.cell 3
  obtain ⟨gx, HGX⟩ : ∃ gx, Hid (w.heap.size = gx) := ⟨_, rfl⟩
  obtain ⟨s2, q, HS⟩ : ∃ s2 q, Hid (wantY s xb xp xd = (s2, q)) := ⟨_, _, rfl⟩
  rw [HS.out]
  rw [HW0.out] at c0 c1 c2 c3
  clear P0 L0 h
  go_enter Try.func22, Try.ntmps22
  go_wp2_with fail
  rw [← HW0.out, HGX.out]
  rw [HGX.out] at HP0
  clear c0 c1 c2 c3
  obtain ⟨WD, HWD⟩ : ∃ W, Hid (W = W0.drew) := ⟨_, rfl⟩
  have HDL : Hid (Later W0 WD) := by rw [HWD.out]; exact (Below.refl _ _).drew
  have BD := Lib.hid (B0.out.since HDL.out)
  have PD := Lib.hid (HP0.out.since HDL.out)
  refine region_of_steps7 (by kernel_rfl) [some (.pointer (some ⟨gY, 0, none⟩)), some (.pointer (some ⟨gx, 1, none⟩)), some (.int .i64 xb), some (.pointer (some ⟨gx, 2, none⟩)), some (.int .i64 xp), some (.pointer (some ⟨gx, 3, none⟩)), some (.bool xd), none, some (.int .i64 q), some (.pointer (some ⟨gR, 0, none⟩)), some (.pointer (some ⟨gx, 1, none⟩)), some (.int .i64 xb), some (.pointer (some ⟨gx, 2, none⟩)), some (.int .i64 xp), some (.pointer (some ⟨gx, 3, none⟩)), some (.bool xd), some (.int .i64 q), some (.bool true), some (.bool true)] [7, 16] [95] (JD WD base fY fR gY gR s s2 q) (by kernel_rfl) (by kernel_rfl) (by rw [← HWD.out]; exact ⟨fY, fR, BD.out.y, BD.out.r, BD.out.two, Moves.refl _ _, fun e => (by cases e)⟩) ?_ ?_
  · refine Steps7.cons ?_ (Steps7.cons ?_ (Steps7.cons ?_ (Steps7.cons ?_ (Steps7.cons ?_ (Steps7.cons ?_ (Steps7.cons ?_ (Steps7.cons ?_ (Steps7.cons ?_ (Steps7.cons ?_ (Steps7.cons ?_ (Steps7.cons ?_ (Steps7.cons ?_ (Steps7.cons ?_ (Steps7.cons ?_ (Steps7.cons ?_ (Steps7.cons ?_ (Steps7.cons ?_ (Steps7.cons ?_ (Steps7.nil)))))))))))))))))))
    · intro listed a W H hj hl hd
      have t0 : a.tmps.getD 0 undef = .pointer (some ⟨gY, 0, none⟩) := (H.old 0 (by kernel_rfl)).trans rfl
      exact step7_value (i := 0) rfl rfl (run_op_move rfl t0) (calm7 (fun fs vs x y h hb => jd_later fs vs x y h hb) (by kernel_rfl) (by kernel_rfl) hj (later_refl _)) rfl
    · intro listed a W H hj hl hd
      have t5 : a.tmps.getD 5 undef = .pointer (some ⟨gx, 0, none⟩) := (H.old 5 (by kernel_rfl)).trans rfl
      exact step7_value (i := 1) rfl rfl (run_op_fieldAddr rfl t5 (run_field_a gx 1 (by decide) W)) (calm7 (fun fs vs x y h hb => jd_later fs vs x y h hb) (by kernel_rfl) (by kernel_rfl) hj (later_refl _)) rfl
    · intro listed a W H hj hl hd
      have t89 : a.tmps.getD 89 undef = .pointer (some ⟨gx, 1, none⟩) := H.get 1 89 (by kernel_rfl) (dep_of hd 1 (by kernel_rfl)) (fun _ h => by cases h)
      exact step7_value (i := 2) rfl rfl (run_op_load rfl t89 (by obtain ⟨fY1, fR1, h1, h2, h3, h4, h5⟩ := hj; exact run_int_load _ xb W (((PD.out.step h4).cell 1).trans rfl))) (calm7 (fun fs vs x y h hb => jd_later fs vs x y h hb) (by kernel_rfl) (by kernel_rfl) hj (later_refl _)) rfl
    · intro listed a W H hj hl hd
      have t5 : a.tmps.getD 5 undef = .pointer (some ⟨gx, 0, none⟩) := (H.old 5 (by kernel_rfl)).trans rfl
      exact step7_value (i := 3) rfl rfl (run_op_fieldAddr rfl t5 (run_field_a gx 2 (by decide) W)) (calm7 (fun fs vs x y h hb => jd_later fs vs x y h hb) (by kernel_rfl) (by kernel_rfl) hj (later_refl _)) rfl
    · intro listed a W H hj hl hd
      have t91 : a.tmps.getD 91 undef = .pointer (some ⟨gx, 2, none⟩) := H.get 3 91 (by kernel_rfl) (dep_of hd 3 (by kernel_rfl)) (fun _ h => by cases h)
      exact step7_value (i := 4) rfl rfl (run_op_load rfl t91 (by obtain ⟨fY1, fR1, h1, h2, h3, h4, h5⟩ := hj; exact run_int_load _ xp W (((PD.out.step h4).cell 2).trans rfl))) (calm7 (fun fs vs x y h hb => jd_later fs vs x y h hb) (by kernel_rfl) (by kernel_rfl) hj (later_refl _)) rfl
    · intro listed a W H hj hl hd
      have t5 : a.tmps.getD 5 undef = .pointer (some ⟨gx, 0, none⟩) := (H.old 5 (by kernel_rfl)).trans rfl
      exact step7_value (i := 5) rfl rfl (run_op_fieldAddr rfl t5 (run_field_a gx 3 (by decide) W)) (calm7 (fun fs vs x y h hb => jd_later fs vs x y h hb) (by kernel_rfl) (by kernel_rfl) hj (later_refl _)) rfl
    · intro listed a W H hj hl hd
      have t93 : a.tmps.getD 93 undef = .pointer (some ⟨gx, 3, none⟩) := H.get 5 93 (by kernel_rfl) (dep_of hd 5 (by kernel_rfl)) (fun _ h => by cases h)
      exact step7_value (i := 6) rfl rfl (run_op_load rfl t93 (by obtain ⟨fY1, fR1, h1, h2, h3, h4, h5⟩ := hj; exact run_bool_load _ xd W (((PD.out.step h4).cell 3).trans rfl))) (calm7 (fun fs vs x y h hb => jd_later fs vs x y h hb) (by kernel_rfl) (by kernel_rfl) hj (later_refl _)) rfl
    · intro listed a W H hj hl hd
      have t88 : a.tmps.getD 88 undef = .pointer (some ⟨gY, 0, none⟩) := H.get 0 88 (by kernel_rfl) (dep_of hd 0 (by kernel_rfl)) (fun _ h => by cases h)
      have t90 : a.tmps.getD 90 undef = .int .i64 xb := H.get 2 90 (by kernel_rfl) (dep_of hd 2 (by kernel_rfl)) (fun _ h => by cases h)
      have t92 : a.tmps.getD 92 undef = .int .i64 xp := H.get 4 92 (by kernel_rfl) (dep_of hd 4 (by kernel_rfl)) (fun _ h => by cases h)
      have t94 : a.tmps.getD 94 undef = .bool xd := H.get 6 94 (by kernel_rfl) (dep_of hd 6 (by kernel_rfl)) (fun _ h => by cases h)
      refine step7_call (i := 7) rfl rfl (run_op_call (vs := #[.pointer (some ⟨gY, 0, none⟩), .int .i64 xb, .int .i64 xp, .bool xd]) Try.func14 (by kernel_rfl) (by kernel_rfl) rfl (by simp only [List.map_toArray, List.map_cons, List.map_nil]; show #[a.tmps.getD 88 undef, a.tmps.getD 90 undef, a.tmps.getD 92 undef, a.tmps.getD 94 undef] = _; rw [t88, t90, t92, t94])) ?_
      obtain ⟨fY1, fR1, h1, h2, h3, h4, h5⟩ := hj
      have hl0 : (flags [7, 16] listed).getD 0 false = false := hl
      rw [hl0, if_neg (by decide)] at h1
      refine (yneed_any xb xp xd h1).mono ?_
      rw [HS.out]
      rintro e W2 ⟨v2, fY2, rfl, he, hc, hs⟩
      have h2b := h2.keep hs.turn h3
      refine ⟨v2, rfl, ⟨fY2, fR1, ?_, ?_, h3.left hs h2.lt, h4.trans (hs.orL fR1), fun _ => ?_⟩, trivial⟩
      · have e : (flags [7, 16] (listed.setIfInBounds 7 true)).getD 0 false = true := set_self7 listed 7
        rw [e, if_pos rfl]; exact hc
      · have e : (flags [7, 16] (listed.setIfInBounds 7 true)).getD 1 false = (flags [7, 16] listed).getD 1 false := getD_set_ne true (by decide)
        rw [e]; exact h2b
      · have e : (slots [95] (a.put (some 95) v2)).getD 0 undef = v2 := put_self7 a 95 v2 (by rw [H.size]; exact of_decide_eq_true (by kernel_rfl))
        have e2 := he.or_ (fq := fR1) h2.lt
        rw [← e] at e2
        exact e2
    · intro listed a W H hj hl hd
      have d95 : listed.getD 7 false = true := dep_of hd 7 (by kernel_rfl)
      refine step7_call (i := 8) rfl rfl (run_op_call (vs := #[a.tmps.getD 95 undef]) Try.func10 (by kernel_rfl) (by kernel_rfl) rfl (by simp only [List.map_toArray, List.map_cons, List.map_nil]; show #[a.tmps.getD 95 undef] = _; rfl)) ?_
      have f0 : (flags [7, 16] listed).getD 0 false = true := done_true (dep_of hd 7 (by kernel_rfl))
      have hj0 := hj
      obtain ⟨fY1, fR1, h1, h2, h3, h4, h5⟩ := hj
      refine (err_num (h5 f0)).mono ?_
      rintro e w' ⟨rfl, rfl⟩
      exact ⟨_, rfl, (calm7 (fun fs vs x y h hb => jd_later fs vs x y h hb) (by kernel_rfl) (by kernel_rfl) hj0 (later_refl _)), rfl⟩
    · intro listed a W H hj hl hd
      have t1 : a.tmps.getD 1 undef = .pointer (some ⟨gR, 0, none⟩) := (H.old 1 (by kernel_rfl)).trans rfl
      exact step7_value (i := 9) rfl rfl (run_op_move rfl t1) (calm7 (fun fs vs x y h hb => jd_later fs vs x y h hb) (by kernel_rfl) (by kernel_rfl) hj (later_refl _)) rfl
    · intro listed a W H hj hl hd
      have t5 : a.tmps.getD 5 undef = .pointer (some ⟨gx, 0, none⟩) := (H.old 5 (by kernel_rfl)).trans rfl
      exact step7_value (i := 10) rfl rfl (run_op_fieldAddr rfl t5 (run_field_a gx 1 (by decide) W)) (calm7 (fun fs vs x y h hb => jd_later fs vs x y h hb) (by kernel_rfl) (by kernel_rfl) hj (later_refl _)) rfl
    · intro listed a W H hj hl hd
      have t98 : a.tmps.getD 98 undef = .pointer (some ⟨gx, 1, none⟩) := H.get 10 98 (by kernel_rfl) (dep_of hd 10 (by kernel_rfl)) (fun _ h => by cases h)
      exact step7_value (i := 11) rfl rfl (run_op_load rfl t98 (by obtain ⟨fY1, fR1, h1, h2, h3, h4, h5⟩ := hj; exact run_int_load _ xb W (((PD.out.step h4).cell 1).trans rfl))) (calm7 (fun fs vs x y h hb => jd_later fs vs x y h hb) (by kernel_rfl) (by kernel_rfl) hj (later_refl _)) rfl
    · intro listed a W H hj hl hd
      have t5 : a.tmps.getD 5 undef = .pointer (some ⟨gx, 0, none⟩) := (H.old 5 (by kernel_rfl)).trans rfl
      exact step7_value (i := 12) rfl rfl (run_op_fieldAddr rfl t5 (run_field_a gx 2 (by decide) W)) (calm7 (fun fs vs x y h hb => jd_later fs vs x y h hb) (by kernel_rfl) (by kernel_rfl) hj (later_refl _)) rfl
    · intro listed a W H hj hl hd
      have t100 : a.tmps.getD 100 undef = .pointer (some ⟨gx, 2, none⟩) := H.get 12 100 (by kernel_rfl) (dep_of hd 12 (by kernel_rfl)) (fun _ h => by cases h)
      exact step7_value (i := 13) rfl rfl (run_op_load rfl t100 (by obtain ⟨fY1, fR1, h1, h2, h3, h4, h5⟩ := hj; exact run_int_load _ xp W (((PD.out.step h4).cell 2).trans rfl))) (calm7 (fun fs vs x y h hb => jd_later fs vs x y h hb) (by kernel_rfl) (by kernel_rfl) hj (later_refl _)) rfl
    · intro listed a W H hj hl hd
      have t5 : a.tmps.getD 5 undef = .pointer (some ⟨gx, 0, none⟩) := (H.old 5 (by kernel_rfl)).trans rfl
      exact step7_value (i := 14) rfl rfl (run_op_fieldAddr rfl t5 (run_field_a gx 3 (by decide) W)) (calm7 (fun fs vs x y h hb => jd_later fs vs x y h hb) (by kernel_rfl) (by kernel_rfl) hj (later_refl _)) rfl
    · intro listed a W H hj hl hd
      have t102 : a.tmps.getD 102 undef = .pointer (some ⟨gx, 3, none⟩) := H.get 14 102 (by kernel_rfl) (dep_of hd 14 (by kernel_rfl)) (fun _ h => by cases h)
      exact step7_value (i := 15) rfl rfl (run_op_load rfl t102 (by obtain ⟨fY1, fR1, h1, h2, h3, h4, h5⟩ := hj; exact run_bool_load _ xd W (((PD.out.step h4).cell 3).trans rfl))) (calm7 (fun fs vs x y h hb => jd_later fs vs x y h hb) (by kernel_rfl) (by kernel_rfl) hj (later_refl _)) rfl
    · intro listed a W H hj hl hd
      have t97 : a.tmps.getD 97 undef = .pointer (some ⟨gR, 0, none⟩) := H.get 9 97 (by kernel_rfl) (dep_of hd 9 (by kernel_rfl)) (fun _ h => by cases h)
      have t99 : a.tmps.getD 99 undef = .int .i64 xb := H.get 11 99 (by kernel_rfl) (dep_of hd 11 (by kernel_rfl)) (fun _ h => by cases h)
      have t101 : a.tmps.getD 101 undef = .int .i64 xp := H.get 13 101 (by kernel_rfl) (dep_of hd 13 (by kernel_rfl)) (fun _ h => by cases h)
      have t103 : a.tmps.getD 103 undef = .bool xd := H.get 15 103 (by kernel_rfl) (dep_of hd 15 (by kernel_rfl)) (fun _ h => by cases h)
      refine step7_call (i := 16) rfl rfl (run_op_call (vs := #[.pointer (some ⟨gR, 0, none⟩), .int .i64 xb, .int .i64 xp, .bool xd]) Try.func42 (by kernel_rfl) (by kernel_rfl) rfl (by simp only [List.map_toArray, List.map_cons, List.map_nil]; show #[a.tmps.getD 97 undef, a.tmps.getD 99 undef, a.tmps.getD 101 undef, a.tmps.getD 103 undef] = _; rw [t97, t99, t101, t103])) ?_
      obtain ⟨fY1, fR1, h1, h2, h3, h4, h5⟩ := hj
      have hl0 : (flags [7, 16] listed).getD 1 false = false := hl
      rw [hl0, if_neg (by decide)] at h2
      refine (rwant_any xb xp xd h2).mono ?_
      rw [HS.out]
      rintro e W2 ⟨rfl, hc, hs⟩
      have h1b := h1.keep hs.turn h3.flip
      have e1 : (flags [7, 16] (listed.setIfInBounds 16 true)).getD 0 false = (flags [7, 16] listed).getD 0 false := getD_set_ne true (by decide)
      refine ⟨_, rfl, ⟨fY1, fR1, ?_, ?_, h3, h4.trans (hs.orR fY1), fun h => ?_⟩, rfl⟩
      · rw [e1]; exact h1b
      · have e : (flags [7, 16] (listed.setIfInBounds 16 true)).getD 1 false = true := set_self7 listed 16
        rw [e, if_pos rfl]; exact hc
      · have e2 : slots [95] (a.put (some 104) (.int .i64 q)) = slots [95] a := slots_put (fun k e => by cases e; rfl)
        have e3 := (h5 (e1.symm.trans h)).step (hs.orR fY1)
        rw [← e2] at e3
        exact e3
    · intro listed a W H hj hl hd
      have t96 : a.tmps.getD 96 undef = .int .i64 q := H.get 8 96 (by kernel_rfl) (dep_of hd 8 (by kernel_rfl)) (fun _ h => by cases h)
      have t104 : a.tmps.getD 104 undef = .int .i64 q := H.get 16 104 (by kernel_rfl) (dep_of hd 16 (by kernel_rfl)) (fun _ h => by cases h)
      exact step7_value (i := 17) rfl rfl (run_op_bin rfl t96 t104 (bin_eql _ _ _ q q true (by first | rfl | (simp; done) | (simp; omega) | decide))) (calm7 (fun fs vs x y h hb => jd_later fs vs x y h hb) (by kernel_rfl) (by kernel_rfl) hj (later_refl _)) rfl
    · intro listed a W H hj hl hd
      have t105 : a.tmps.getD 105 undef = .bool true := H.get 17 105 (by kernel_rfl) (dep_of hd 17 (by kernel_rfl)) (fun _ h => by cases h)
      exact step7_value (i := 18) rfl rfl (run_op_assign rfl t105) (calm7 (fun fs vs x y h hb => jd_later fs vs x y h hb) (by kernel_rfl) (by kernel_rfl) hj (later_refl _)) rfl
  · intro a WC hdef hsz hw hall hact
    obtain ⟨u, hu⟩ : ∃ u : Nat → Value, ∀ k, a.tmps.getD k undef = u k := ⟨_, fun _ => rfl⟩
    have h6 : u 6 = .bool true := by rw [← hu]; exact hall 18 _ rfl
    simp only [hu] at hact
    have hact' : a = ([88, 89, 90, 91, 92, 93, 94, 95, 96, 97, 98, 99, 100, 101, 102, 103, 104, 105, 6] : List Nat).foldl (fun b k => b.put (some k) (u k)) _ := hact
    simp only [List.foldl] at hact'
    simp only [Act.put, List.setIfInBounds_toArray, List.set_cons_succ, List.set_cons_zero] at hact'
    have HAC := Lib.hid hact'
    have HX := Lib.hid hw
    clear hact hact' hall hdef hsz hw
    rw [h6] at HAC
    rw [HAC.out]
    clear hu
    go_wp2_with fail
    go_ret
    obtain ⟨fY2, fR2, k1, k2, k3, k4, _⟩ := HX.out
    exact ⟨rfl, fY2, fR2, ⟨k1, k2, k3⟩, ((Moves.of_below HL0.out).trans (Moves.of_below HDL.out)).trans k4⟩
set_option maxHeartbeats 8000000 in
set_option maxRecDepth 20000 in
theorem done_drop (xb xp : Int) (xd : Bool) (h : BothY w base fY fR gY gR s) : Calls Try.prog 22 #[.pointer (some ⟨gY, 0, none⟩), .pointer (some ⟨gR, 0, none⟩), .agg #[.int .i64 6, .int .i64 xb, .int .i64 xp, .bool xd]] w (DoneY w base fY fR gY gR (dropY s xb xp).1) := by
  obtain ⟨W0, HW0⟩ : ∃ W0, Hid (W0 = w.alloc (.cells #[.int .i64 6, .int .i64 xb, .int .i64 xp, .bool xd] 45)) := ⟨_, rfl⟩
  have P0 : RestC (Or2 fY fR) W0 w.heap.size #[.int .i64 6, .int .i64 xb, .int .i64 xp, .bool xd] 45 := by rw [HW0.out]; exact RestC.new w _ _ h.lt
  have L0 : Below w.heap.size w W0 := by rw [HW0.out]; exact later_alloc _ _
  have B0 := Lib.hid (h.since L0)
  have HL0 := Lib.hid L0
  have HP0 := Lib.hid P0
  have c0 := P0.cell 0
  have c1 := P0.cell 1
  have c2 := P0.cell 2
  have c3 := P0.cell 3
  obtain ⟨gx, HGX⟩ : ∃ gx, Hid (w.heap.size = gx) := ⟨_, rfl⟩
  obtain ⟨s2, q, HS⟩ : ∃ s2 q, Hid (dropY s xb xp = (s2, q)) := ⟨_, _, rfl⟩
  rw [HS.out]
  rw [HW0.out] at c0 c1 c2 c3
  clear P0 L0 h
  go_enter Try.func22, Try.ntmps22
  go_wp2_with fail
  rw [← HW0.out, HGX.out]
  rw [HGX.out] at HP0
  clear c0 c1 c2 c3
  obtain ⟨WD, HWD⟩ : ∃ W, Hid (W = W0.drew) := ⟨_, rfl⟩
  have HDL : Hid (Later W0 WD) := by rw [HWD.out]; exact (Below.refl _ _).drew
  have BD := Lib.hid (B0.out.since HDL.out)
  have PD := Lib.hid (HP0.out.since HDL.out)
  refine region_of_steps7 (by kernel_rfl) [some (.pointer (some ⟨gY, 0, none⟩)), some (.pointer (some ⟨gx, 1, none⟩)), some (.int .i64 xb), some (.pointer (some ⟨gx, 2, none⟩)), some (.int .i64 xp), none, some (.int .i64 q), some (.pointer (some ⟨gR, 0, none⟩)), some (.pointer (some ⟨gx, 1, none⟩)), some (.int .i64 xb), some (.pointer (some ⟨gx, 2, none⟩)), some (.int .i64 xp), some (.int .i64 q), some (.bool true), some (.bool true)] [5, 12] [113] (JD WD base fY fR gY gR s s2 q) (by kernel_rfl) (by kernel_rfl) (by rw [← HWD.out]; exact ⟨fY, fR, BD.out.y, BD.out.r, BD.out.two, Moves.refl _ _, fun e => (by cases e)⟩) ?_ ?_
  · refine Steps7.cons ?_ (Steps7.cons ?_ (Steps7.cons ?_ (Steps7.cons ?_ (Steps7.cons ?_ (Steps7.cons ?_ (Steps7.cons ?_ (Steps7.cons ?_ (Steps7.cons ?_ (Steps7.cons ?_ (Steps7.cons ?_ (Steps7.cons ?_ (Steps7.cons ?_ (Steps7.cons ?_ (Steps7.cons ?_ (Steps7.nil)))))))))))))))
    · intro listed a W H hj hl hd
      have t0 : a.tmps.getD 0 undef = .pointer (some ⟨gY, 0, none⟩) := (H.old 0 (by kernel_rfl)).trans rfl
      exact step7_value (i := 0) rfl rfl (run_op_move rfl t0) (calm7 (fun fs vs x y h hb => jd_later fs vs x y h hb) (by kernel_rfl) (by kernel_rfl) hj (later_refl _)) rfl
    · intro listed a W H hj hl hd
      have t5 : a.tmps.getD 5 undef = .pointer (some ⟨gx, 0, none⟩) := (H.old 5 (by kernel_rfl)).trans rfl
      exact step7_value (i := 1) rfl rfl (run_op_fieldAddr rfl t5 (run_field_a gx 1 (by decide) W)) (calm7 (fun fs vs x y h hb => jd_later fs vs x y h hb) (by kernel_rfl) (by kernel_rfl) hj (later_refl _)) rfl
    · intro listed a W H hj hl hd
      have t109 : a.tmps.getD 109 undef = .pointer (some ⟨gx, 1, none⟩) := H.get 1 109 (by kernel_rfl) (dep_of hd 1 (by kernel_rfl)) (fun _ h => by cases h)
      exact step7_value (i := 2) rfl rfl (run_op_load rfl t109 (by obtain ⟨fY1, fR1, h1, h2, h3, h4, h5⟩ := hj; exact run_int_load _ xb W (((PD.out.step h4).cell 1).trans rfl))) (calm7 (fun fs vs x y h hb => jd_later fs vs x y h hb) (by kernel_rfl) (by kernel_rfl) hj (later_refl _)) rfl
    · intro listed a W H hj hl hd
      have t5 : a.tmps.getD 5 undef = .pointer (some ⟨gx, 0, none⟩) := (H.old 5 (by kernel_rfl)).trans rfl
      exact step7_value (i := 3) rfl rfl (run_op_fieldAddr rfl t5 (run_field_a gx 2 (by decide) W)) (calm7 (fun fs vs x y h hb => jd_later fs vs x y h hb) (by kernel_rfl) (by kernel_rfl) hj (later_refl _)) rfl
    · intro listed a W H hj hl hd
      have t111 : a.tmps.getD 111 undef = .pointer (some ⟨gx, 2, none⟩) := H.get 3 111 (by kernel_rfl) (dep_of hd 3 (by kernel_rfl)) (fun _ h => by cases h)
      exact step7_value (i := 4) rfl rfl (run_op_load rfl t111 (by obtain ⟨fY1, fR1, h1, h2, h3, h4, h5⟩ := hj; exact run_int_load _ xp W (((PD.out.step h4).cell 2).trans rfl))) (calm7 (fun fs vs x y h hb => jd_later fs vs x y h hb) (by kernel_rfl) (by kernel_rfl) hj (later_refl _)) rfl
    · intro listed a W H hj hl hd
      have t108 : a.tmps.getD 108 undef = .pointer (some ⟨gY, 0, none⟩) := H.get 0 108 (by kernel_rfl) (dep_of hd 0 (by kernel_rfl)) (fun _ h => by cases h)
      have t110 : a.tmps.getD 110 undef = .int .i64 xb := H.get 2 110 (by kernel_rfl) (dep_of hd 2 (by kernel_rfl)) (fun _ h => by cases h)
      have t112 : a.tmps.getD 112 undef = .int .i64 xp := H.get 4 112 (by kernel_rfl) (dep_of hd 4 (by kernel_rfl)) (fun _ h => by cases h)
      refine step7_call (i := 5) rfl rfl (run_op_call (vs := #[.pointer (some ⟨gY, 0, none⟩), .int .i64 xb, .int .i64 xp]) Try.func16 (by kernel_rfl) (by kernel_rfl) rfl (by simp only [List.map_toArray, List.map_cons, List.map_nil]; show #[a.tmps.getD 108 undef, a.tmps.getD 110 undef, a.tmps.getD 112 undef] = _; rw [t108, t110, t112])) ?_
      obtain ⟨fY1, fR1, h1, h2, h3, h4, h5⟩ := hj
      have hl0 : (flags [5, 12] listed).getD 0 false = false := hl
      rw [hl0, if_neg (by decide)] at h1
      refine (ydrop_any xb xp h1).mono ?_
      rw [HS.out]
      rintro e W2 ⟨v2, fY2, rfl, he, hc, hs⟩
      have h2b := h2.keep hs.turn h3
      refine ⟨v2, rfl, ⟨fY2, fR1, ?_, ?_, h3.left hs h2.lt, h4.trans (hs.orL fR1), fun _ => ?_⟩, trivial⟩
      · have e : (flags [5, 12] (listed.setIfInBounds 5 true)).getD 0 false = true := set_self7 listed 5
        rw [e, if_pos rfl]; exact hc
      · have e : (flags [5, 12] (listed.setIfInBounds 5 true)).getD 1 false = (flags [5, 12] listed).getD 1 false := getD_set_ne true (by decide)
        rw [e]; exact h2b
      · have e : (slots [113] (a.put (some 113) v2)).getD 0 undef = v2 := put_self7 a 113 v2 (by rw [H.size]; exact of_decide_eq_true (by kernel_rfl))
        have e2 := he.or_ (fq := fR1) h2.lt
        rw [← e] at e2
        exact e2
    · intro listed a W H hj hl hd
      have d113 : listed.getD 5 false = true := dep_of hd 5 (by kernel_rfl)
      refine step7_call (i := 6) rfl rfl (run_op_call (vs := #[a.tmps.getD 113 undef]) Try.func10 (by kernel_rfl) (by kernel_rfl) rfl (by simp only [List.map_toArray, List.map_cons, List.map_nil]; show #[a.tmps.getD 113 undef] = _; rfl)) ?_
      have f0 : (flags [5, 12] listed).getD 0 false = true := done_true (dep_of hd 5 (by kernel_rfl))
      have hj0 := hj
      obtain ⟨fY1, fR1, h1, h2, h3, h4, h5⟩ := hj
      refine (err_num (h5 f0)).mono ?_
      rintro e w' ⟨rfl, rfl⟩
      exact ⟨_, rfl, (calm7 (fun fs vs x y h hb => jd_later fs vs x y h hb) (by kernel_rfl) (by kernel_rfl) hj0 (later_refl _)), rfl⟩
    · intro listed a W H hj hl hd
      have t1 : a.tmps.getD 1 undef = .pointer (some ⟨gR, 0, none⟩) := (H.old 1 (by kernel_rfl)).trans rfl
      exact step7_value (i := 7) rfl rfl (run_op_move rfl t1) (calm7 (fun fs vs x y h hb => jd_later fs vs x y h hb) (by kernel_rfl) (by kernel_rfl) hj (later_refl _)) rfl
    · intro listed a W H hj hl hd
      have t5 : a.tmps.getD 5 undef = .pointer (some ⟨gx, 0, none⟩) := (H.old 5 (by kernel_rfl)).trans rfl
      exact step7_value (i := 8) rfl rfl (run_op_fieldAddr rfl t5 (run_field_a gx 1 (by decide) W)) (calm7 (fun fs vs x y h hb => jd_later fs vs x y h hb) (by kernel_rfl) (by kernel_rfl) hj (later_refl _)) rfl
    · intro listed a W H hj hl hd
      have t116 : a.tmps.getD 116 undef = .pointer (some ⟨gx, 1, none⟩) := H.get 8 116 (by kernel_rfl) (dep_of hd 8 (by kernel_rfl)) (fun _ h => by cases h)
      exact step7_value (i := 9) rfl rfl (run_op_load rfl t116 (by obtain ⟨fY1, fR1, h1, h2, h3, h4, h5⟩ := hj; exact run_int_load _ xb W (((PD.out.step h4).cell 1).trans rfl))) (calm7 (fun fs vs x y h hb => jd_later fs vs x y h hb) (by kernel_rfl) (by kernel_rfl) hj (later_refl _)) rfl
    · intro listed a W H hj hl hd
      have t5 : a.tmps.getD 5 undef = .pointer (some ⟨gx, 0, none⟩) := (H.old 5 (by kernel_rfl)).trans rfl
      exact step7_value (i := 10) rfl rfl (run_op_fieldAddr rfl t5 (run_field_a gx 2 (by decide) W)) (calm7 (fun fs vs x y h hb => jd_later fs vs x y h hb) (by kernel_rfl) (by kernel_rfl) hj (later_refl _)) rfl
    · intro listed a W H hj hl hd
      have t118 : a.tmps.getD 118 undef = .pointer (some ⟨gx, 2, none⟩) := H.get 10 118 (by kernel_rfl) (dep_of hd 10 (by kernel_rfl)) (fun _ h => by cases h)
      exact step7_value (i := 11) rfl rfl (run_op_load rfl t118 (by obtain ⟨fY1, fR1, h1, h2, h3, h4, h5⟩ := hj; exact run_int_load _ xp W (((PD.out.step h4).cell 2).trans rfl))) (calm7 (fun fs vs x y h hb => jd_later fs vs x y h hb) (by kernel_rfl) (by kernel_rfl) hj (later_refl _)) rfl
    · intro listed a W H hj hl hd
      have t115 : a.tmps.getD 115 undef = .pointer (some ⟨gR, 0, none⟩) := H.get 7 115 (by kernel_rfl) (dep_of hd 7 (by kernel_rfl)) (fun _ h => by cases h)
      have t117 : a.tmps.getD 117 undef = .int .i64 xb := H.get 9 117 (by kernel_rfl) (dep_of hd 9 (by kernel_rfl)) (fun _ h => by cases h)
      have t119 : a.tmps.getD 119 undef = .int .i64 xp := H.get 11 119 (by kernel_rfl) (dep_of hd 11 (by kernel_rfl)) (fun _ h => by cases h)
      refine step7_call (i := 12) rfl rfl (run_op_call (vs := #[.pointer (some ⟨gR, 0, none⟩), .int .i64 xb, .int .i64 xp]) Try.func43 (by kernel_rfl) (by kernel_rfl) rfl (by simp only [List.map_toArray, List.map_cons, List.map_nil]; show #[a.tmps.getD 115 undef, a.tmps.getD 117 undef, a.tmps.getD 119 undef] = _; rw [t115, t117, t119])) ?_
      obtain ⟨fY1, fR1, h1, h2, h3, h4, h5⟩ := hj
      have hl0 : (flags [5, 12] listed).getD 1 false = false := hl
      rw [hl0, if_neg (by decide)] at h2
      refine (rdrop_any xb xp h2).mono ?_
      rw [HS.out]
      rintro e W2 ⟨rfl, hc, hs⟩
      have h1b := h1.keep hs.turn h3.flip
      have e1 : (flags [5, 12] (listed.setIfInBounds 12 true)).getD 0 false = (flags [5, 12] listed).getD 0 false := getD_set_ne true (by decide)
      refine ⟨_, rfl, ⟨fY1, fR1, ?_, ?_, h3, h4.trans (hs.orR fY1), fun h => ?_⟩, rfl⟩
      · rw [e1]; exact h1b
      · have e : (flags [5, 12] (listed.setIfInBounds 12 true)).getD 1 false = true := set_self7 listed 12
        rw [e, if_pos rfl]; exact hc
      · have e2 : slots [113] (a.put (some 120) (.int .i64 q)) = slots [113] a := slots_put (fun k e => by cases e; rfl)
        have e3 := (h5 (e1.symm.trans h)).step (hs.orR fY1)
        rw [← e2] at e3
        exact e3
    · intro listed a W H hj hl hd
      have t114 : a.tmps.getD 114 undef = .int .i64 q := H.get 6 114 (by kernel_rfl) (dep_of hd 6 (by kernel_rfl)) (fun _ h => by cases h)
      have t120 : a.tmps.getD 120 undef = .int .i64 q := H.get 12 120 (by kernel_rfl) (dep_of hd 12 (by kernel_rfl)) (fun _ h => by cases h)
      exact step7_value (i := 13) rfl rfl (run_op_bin rfl t114 t120 (bin_eql _ _ _ q q true (by first | rfl | (simp; done) | (simp; omega) | decide))) (calm7 (fun fs vs x y h hb => jd_later fs vs x y h hb) (by kernel_rfl) (by kernel_rfl) hj (later_refl _)) rfl
    · intro listed a W H hj hl hd
      have t121 : a.tmps.getD 121 undef = .bool true := H.get 13 121 (by kernel_rfl) (dep_of hd 13 (by kernel_rfl)) (fun _ h => by cases h)
      exact step7_value (i := 14) rfl rfl (run_op_assign rfl t121) (calm7 (fun fs vs x y h hb => jd_later fs vs x y h hb) (by kernel_rfl) (by kernel_rfl) hj (later_refl _)) rfl
  · intro a WC hdef hsz hw hall hact
    obtain ⟨u, hu⟩ : ∃ u : Nat → Value, ∀ k, a.tmps.getD k undef = u k := ⟨_, fun _ => rfl⟩
    have h6 : u 6 = .bool true := by rw [← hu]; exact hall 14 _ rfl
    simp only [hu] at hact
    have hact' : a = ([108, 109, 110, 111, 112, 113, 114, 115, 116, 117, 118, 119, 120, 121, 6] : List Nat).foldl (fun b k => b.put (some k) (u k)) _ := hact
    simp only [List.foldl] at hact'
    simp only [Act.put, List.setIfInBounds_toArray, List.set_cons_succ, List.set_cons_zero] at hact'
    have HAC := Lib.hid hact'
    have HX := Lib.hid hw
    clear hact hact' hall hdef hsz hw
    rw [h6] at HAC
    rw [HAC.out]
    clear hu
    go_wp2_with fail
    go_ret
    obtain ⟨fY2, fR2, k1, k2, k3, k4, _⟩ := HX.out
    exact ⟨rfl, fY2, fR2, ⟨k1, k2, k3⟩, ((Moves.of_below HL0.out).trans (Moves.of_below HDL.out)).trans k4⟩
set_option maxHeartbeats 8000000 in
set_option maxRecDepth 20000 in
theorem done_wash (xb xp : Int) (xd : Bool) (h : BothY w base fY fR gY gR s) : Calls Try.prog 22 #[.pointer (some ⟨gY, 0, none⟩), .pointer (some ⟨gR, 0, none⟩), .agg #[.int .i64 7, .int .i64 xb, .int .i64 xp, .bool xd]] w (DoneY w base fY fR gY gR (washY s xb xp).1) := by
  obtain ⟨W0, HW0⟩ : ∃ W0, Hid (W0 = w.alloc (.cells #[.int .i64 7, .int .i64 xb, .int .i64 xp, .bool xd] 45)) := ⟨_, rfl⟩
  have P0 : RestC (Or2 fY fR) W0 w.heap.size #[.int .i64 7, .int .i64 xb, .int .i64 xp, .bool xd] 45 := by rw [HW0.out]; exact RestC.new w _ _ h.lt
  have L0 : Below w.heap.size w W0 := by rw [HW0.out]; exact later_alloc _ _
  have B0 := Lib.hid (h.since L0)
  have HL0 := Lib.hid L0
  have HP0 := Lib.hid P0
  have c0 := P0.cell 0
  have c1 := P0.cell 1
  have c2 := P0.cell 2
  have c3 := P0.cell 3
  obtain ⟨gx, HGX⟩ : ∃ gx, Hid (w.heap.size = gx) := ⟨_, rfl⟩
  obtain ⟨s2, q, HS⟩ : ∃ s2 q, Hid (washY s xb xp = (s2, q)) := ⟨_, _, rfl⟩
  rw [HS.out]
  rw [HW0.out] at c0 c1 c2 c3
  clear P0 L0 h
  go_enter Try.func22, Try.ntmps22
  go_wp2_with fail
  rw [← HW0.out, HGX.out]
  rw [HGX.out] at HP0
  clear c0 c1 c2 c3
  obtain ⟨WD, HWD⟩ : ∃ W, Hid (W = W0.drew) := ⟨_, rfl⟩
  have HDL : Hid (Later W0 WD) := by rw [HWD.out]; exact (Below.refl _ _).drew
  have BD := Lib.hid (B0.out.since HDL.out)
  have PD := Lib.hid (HP0.out.since HDL.out)
  refine region_of_steps7 (by kernel_rfl) [some (.pointer (some ⟨gY, 0, none⟩)), some (.pointer (some ⟨gx, 1, none⟩)), some (.int .i64 xb), some (.pointer (some ⟨gx, 2, none⟩)), some (.int .i64 xp), none, some (.int .i64 q), some (.pointer (some ⟨gR, 0, none⟩)), some (.pointer (some ⟨gx, 1, none⟩)), some (.int .i64 xb), some (.pointer (some ⟨gx, 2, none⟩)), some (.int .i64 xp), some (.int .i64 q), some (.bool true), some (.bool true)] [5, 12] [129] (JD WD base fY fR gY gR s s2 q) (by kernel_rfl) (by kernel_rfl) (by rw [← HWD.out]; exact ⟨fY, fR, BD.out.y, BD.out.r, BD.out.two, Moves.refl _ _, fun e => (by cases e)⟩) ?_ ?_
  · refine Steps7.cons ?_ (Steps7.cons ?_ (Steps7.cons ?_ (Steps7.cons ?_ (Steps7.cons ?_ (Steps7.cons ?_ (Steps7.cons ?_ (Steps7.cons ?_ (Steps7.cons ?_ (Steps7.cons ?_ (Steps7.cons ?_ (Steps7.cons ?_ (Steps7.cons ?_ (Steps7.cons ?_ (Steps7.cons ?_ (Steps7.nil)))))))))))))))
    · intro listed a W H hj hl hd
      have t0 : a.tmps.getD 0 undef = .pointer (some ⟨gY, 0, none⟩) := (H.old 0 (by kernel_rfl)).trans rfl
      exact step7_value (i := 0) rfl rfl (run_op_move rfl t0) (calm7 (fun fs vs x y h hb => jd_later fs vs x y h hb) (by kernel_rfl) (by kernel_rfl) hj (later_refl _)) rfl
    · intro listed a W H hj hl hd
      have t5 : a.tmps.getD 5 undef = .pointer (some ⟨gx, 0, none⟩) := (H.old 5 (by kernel_rfl)).trans rfl
      exact step7_value (i := 1) rfl rfl (run_op_fieldAddr rfl t5 (run_field_a gx 1 (by decide) W)) (calm7 (fun fs vs x y h hb => jd_later fs vs x y h hb) (by kernel_rfl) (by kernel_rfl) hj (later_refl _)) rfl
    · intro listed a W H hj hl hd
      have t125 : a.tmps.getD 125 undef = .pointer (some ⟨gx, 1, none⟩) := H.get 1 125 (by kernel_rfl) (dep_of hd 1 (by kernel_rfl)) (fun _ h => by cases h)
      exact step7_value (i := 2) rfl rfl (run_op_load rfl t125 (by obtain ⟨fY1, fR1, h1, h2, h3, h4, h5⟩ := hj; exact run_int_load _ xb W (((PD.out.step h4).cell 1).trans rfl))) (calm7 (fun fs vs x y h hb => jd_later fs vs x y h hb) (by kernel_rfl) (by kernel_rfl) hj (later_refl _)) rfl
    · intro listed a W H hj hl hd
      have t5 : a.tmps.getD 5 undef = .pointer (some ⟨gx, 0, none⟩) := (H.old 5 (by kernel_rfl)).trans rfl
      exact step7_value (i := 3) rfl rfl (run_op_fieldAddr rfl t5 (run_field_a gx 2 (by decide) W)) (calm7 (fun fs vs x y h hb => jd_later fs vs x y h hb) (by kernel_rfl) (by kernel_rfl) hj (later_refl _)) rfl
    · intro listed a W H hj hl hd
      have t127 : a.tmps.getD 127 undef = .pointer (some ⟨gx, 2, none⟩) := H.get 3 127 (by kernel_rfl) (dep_of hd 3 (by kernel_rfl)) (fun _ h => by cases h)
      exact step7_value (i := 4) rfl rfl (run_op_load rfl t127 (by obtain ⟨fY1, fR1, h1, h2, h3, h4, h5⟩ := hj; exact run_int_load _ xp W (((PD.out.step h4).cell 2).trans rfl))) (calm7 (fun fs vs x y h hb => jd_later fs vs x y h hb) (by kernel_rfl) (by kernel_rfl) hj (later_refl _)) rfl
    · intro listed a W H hj hl hd
      have t124 : a.tmps.getD 124 undef = .pointer (some ⟨gY, 0, none⟩) := H.get 0 124 (by kernel_rfl) (dep_of hd 0 (by kernel_rfl)) (fun _ h => by cases h)
      have t126 : a.tmps.getD 126 undef = .int .i64 xb := H.get 2 126 (by kernel_rfl) (dep_of hd 2 (by kernel_rfl)) (fun _ h => by cases h)
      have t128 : a.tmps.getD 128 undef = .int .i64 xp := H.get 4 128 (by kernel_rfl) (dep_of hd 4 (by kernel_rfl)) (fun _ h => by cases h)
      refine step7_call (i := 5) rfl rfl (run_op_call (vs := #[.pointer (some ⟨gY, 0, none⟩), .int .i64 xb, .int .i64 xp]) Try.func24 (by kernel_rfl) (by kernel_rfl) rfl (by simp only [List.map_toArray, List.map_cons, List.map_nil]; show #[a.tmps.getD 124 undef, a.tmps.getD 126 undef, a.tmps.getD 128 undef] = _; rw [t124, t126, t128])) ?_
      obtain ⟨fY1, fR1, h1, h2, h3, h4, h5⟩ := hj
      have hl0 : (flags [5, 12] listed).getD 0 false = false := hl
      rw [hl0, if_neg (by decide)] at h1
      refine (ywash_any xb xp h1).mono ?_
      rw [HS.out]
      rintro e W2 ⟨v2, fY2, rfl, he, hc, hs⟩
      have h2b := h2.keep hs.turn h3
      refine ⟨v2, rfl, ⟨fY2, fR1, ?_, ?_, h3.left hs h2.lt, h4.trans (hs.orL fR1), fun _ => ?_⟩, trivial⟩
      · have e : (flags [5, 12] (listed.setIfInBounds 5 true)).getD 0 false = true := set_self7 listed 5
        rw [e, if_pos rfl]; exact hc
      · have e : (flags [5, 12] (listed.setIfInBounds 5 true)).getD 1 false = (flags [5, 12] listed).getD 1 false := getD_set_ne true (by decide)
        rw [e]; exact h2b
      · have e : (slots [129] (a.put (some 129) v2)).getD 0 undef = v2 := put_self7 a 129 v2 (by rw [H.size]; exact of_decide_eq_true (by kernel_rfl))
        have e2 := he.or_ (fq := fR1) h2.lt
        rw [← e] at e2
        exact e2
    · intro listed a W H hj hl hd
      have d129 : listed.getD 5 false = true := dep_of hd 5 (by kernel_rfl)
      refine step7_call (i := 6) rfl rfl (run_op_call (vs := #[a.tmps.getD 129 undef]) Try.func10 (by kernel_rfl) (by kernel_rfl) rfl (by simp only [List.map_toArray, List.map_cons, List.map_nil]; show #[a.tmps.getD 129 undef] = _; rfl)) ?_
      have f0 : (flags [5, 12] listed).getD 0 false = true := done_true (dep_of hd 5 (by kernel_rfl))
      have hj0 := hj
      obtain ⟨fY1, fR1, h1, h2, h3, h4, h5⟩ := hj
      refine (err_num (h5 f0)).mono ?_
      rintro e w' ⟨rfl, rfl⟩
      exact ⟨_, rfl, (calm7 (fun fs vs x y h hb => jd_later fs vs x y h hb) (by kernel_rfl) (by kernel_rfl) hj0 (later_refl _)), rfl⟩
    · intro listed a W H hj hl hd
      have t1 : a.tmps.getD 1 undef = .pointer (some ⟨gR, 0, none⟩) := (H.old 1 (by kernel_rfl)).trans rfl
      exact step7_value (i := 7) rfl rfl (run_op_move rfl t1) (calm7 (fun fs vs x y h hb => jd_later fs vs x y h hb) (by kernel_rfl) (by kernel_rfl) hj (later_refl _)) rfl
    · intro listed a W H hj hl hd
      have t5 : a.tmps.getD 5 undef = .pointer (some ⟨gx, 0, none⟩) := (H.old 5 (by kernel_rfl)).trans rfl
      exact step7_value (i := 8) rfl rfl (run_op_fieldAddr rfl t5 (run_field_a gx 1 (by decide) W)) (calm7 (fun fs vs x y h hb => jd_later fs vs x y h hb) (by kernel_rfl) (by kernel_rfl) hj (later_refl _)) rfl
    · intro listed a W H hj hl hd
      have t132 : a.tmps.getD 132 undef = .pointer (some ⟨gx, 1, none⟩) := H.get 8 132 (by kernel_rfl) (dep_of hd 8 (by kernel_rfl)) (fun _ h => by cases h)
      exact step7_value (i := 9) rfl rfl (run_op_load rfl t132 (by obtain ⟨fY1, fR1, h1, h2, h3, h4, h5⟩ := hj; exact run_int_load _ xb W (((PD.out.step h4).cell 1).trans rfl))) (calm7 (fun fs vs x y h hb => jd_later fs vs x y h hb) (by kernel_rfl) (by kernel_rfl) hj (later_refl _)) rfl
    · intro listed a W H hj hl hd
      have t5 : a.tmps.getD 5 undef = .pointer (some ⟨gx, 0, none⟩) := (H.old 5 (by kernel_rfl)).trans rfl
      exact step7_value (i := 10) rfl rfl (run_op_fieldAddr rfl t5 (run_field_a gx 2 (by decide) W)) (calm7 (fun fs vs x y h hb => jd_later fs vs x y h hb) (by kernel_rfl) (by kernel_rfl) hj (later_refl _)) rfl
    · intro listed a W H hj hl hd
      have t134 : a.tmps.getD 134 undef = .pointer (some ⟨gx, 2, none⟩) := H.get 10 134 (by kernel_rfl) (dep_of hd 10 (by kernel_rfl)) (fun _ h => by cases h)
      exact step7_value (i := 11) rfl rfl (run_op_load rfl t134 (by obtain ⟨fY1, fR1, h1, h2, h3, h4, h5⟩ := hj; exact run_int_load _ xp W (((PD.out.step h4).cell 2).trans rfl))) (calm7 (fun fs vs x y h hb => jd_later fs vs x y h hb) (by kernel_rfl) (by kernel_rfl) hj (later_refl _)) rfl
    · intro listed a W H hj hl hd
      have t131 : a.tmps.getD 131 undef = .pointer (some ⟨gR, 0, none⟩) := H.get 7 131 (by kernel_rfl) (dep_of hd 7 (by kernel_rfl)) (fun _ h => by cases h)
      have t133 : a.tmps.getD 133 undef = .int .i64 xb := H.get 9 133 (by kernel_rfl) (dep_of hd 9 (by kernel_rfl)) (fun _ h => by cases h)
      have t135 : a.tmps.getD 135 undef = .int .i64 xp := H.get 11 135 (by kernel_rfl) (dep_of hd 11 (by kernel_rfl)) (fun _ h => by cases h)
      refine step7_call (i := 12) rfl rfl (run_op_call (vs := #[.pointer (some ⟨gR, 0, none⟩), .int .i64 xb, .int .i64 xp]) Try.func44 (by kernel_rfl) (by kernel_rfl) rfl (by simp only [List.map_toArray, List.map_cons, List.map_nil]; show #[a.tmps.getD 131 undef, a.tmps.getD 133 undef, a.tmps.getD 135 undef] = _; rw [t131, t133, t135])) ?_
      obtain ⟨fY1, fR1, h1, h2, h3, h4, h5⟩ := hj
      have hl0 : (flags [5, 12] listed).getD 1 false = false := hl
      rw [hl0, if_neg (by decide)] at h2
      refine (rwash_any xb xp h2).mono ?_
      rw [HS.out]
      rintro e W2 ⟨rfl, hc, hs⟩
      have h1b := h1.keep hs.turn h3.flip
      have e1 : (flags [5, 12] (listed.setIfInBounds 12 true)).getD 0 false = (flags [5, 12] listed).getD 0 false := getD_set_ne true (by decide)
      refine ⟨_, rfl, ⟨fY1, fR1, ?_, ?_, h3, h4.trans (hs.orR fY1), fun h => ?_⟩, rfl⟩
      · rw [e1]; exact h1b
      · have e : (flags [5, 12] (listed.setIfInBounds 12 true)).getD 1 false = true := set_self7 listed 12
        rw [e, if_pos rfl]; exact hc
      · have e2 : slots [129] (a.put (some 136) (.int .i64 q)) = slots [129] a := slots_put (fun k e => by cases e; rfl)
        have e3 := (h5 (e1.symm.trans h)).step (hs.orR fY1)
        rw [← e2] at e3
        exact e3
    · intro listed a W H hj hl hd
      have t130 : a.tmps.getD 130 undef = .int .i64 q := H.get 6 130 (by kernel_rfl) (dep_of hd 6 (by kernel_rfl)) (fun _ h => by cases h)
      have t136 : a.tmps.getD 136 undef = .int .i64 q := H.get 12 136 (by kernel_rfl) (dep_of hd 12 (by kernel_rfl)) (fun _ h => by cases h)
      exact step7_value (i := 13) rfl rfl (run_op_bin rfl t130 t136 (bin_eql _ _ _ q q true (by first | rfl | (simp; done) | (simp; omega) | decide))) (calm7 (fun fs vs x y h hb => jd_later fs vs x y h hb) (by kernel_rfl) (by kernel_rfl) hj (later_refl _)) rfl
    · intro listed a W H hj hl hd
      have t137 : a.tmps.getD 137 undef = .bool true := H.get 13 137 (by kernel_rfl) (dep_of hd 13 (by kernel_rfl)) (fun _ h => by cases h)
      exact step7_value (i := 14) rfl rfl (run_op_assign rfl t137) (calm7 (fun fs vs x y h hb => jd_later fs vs x y h hb) (by kernel_rfl) (by kernel_rfl) hj (later_refl _)) rfl
  · intro a WC hdef hsz hw hall hact
    obtain ⟨u, hu⟩ : ∃ u : Nat → Value, ∀ k, a.tmps.getD k undef = u k := ⟨_, fun _ => rfl⟩
    have h6 : u 6 = .bool true := by rw [← hu]; exact hall 14 _ rfl
    simp only [hu] at hact
    have hact' : a = ([124, 125, 126, 127, 128, 129, 130, 131, 132, 133, 134, 135, 136, 137, 6] : List Nat).foldl (fun b k => b.put (some k) (u k)) _ := hact
    simp only [List.foldl] at hact'
    simp only [Act.put, List.setIfInBounds_toArray, List.set_cons_succ, List.set_cons_zero] at hact'
    have HAC := Lib.hid hact'
    have HX := Lib.hid hw
    clear hact hact' hall hdef hsz hw
    rw [h6] at HAC
    rw [HAC.out]
    clear hu
    go_wp2_with fail
    go_ret
    obtain ⟨fY2, fR2, k1, k2, k3, k4, _⟩ := HX.out
    exact ⟨rfl, fY2, fR2, ⟨k1, k2, k3⟩, ((Moves.of_below HL0.out).trans (Moves.of_below HDL.out)).trans k4⟩
set_option maxHeartbeats 8000000 in
theorem done_next (xb xp : Int) (xd : Bool) (h : BothY w base fY fR gY gR s) : Calls Try.prog 22 #[.pointer (some ⟨gY, 0, none⟩), .pointer (some ⟨gR, 0, none⟩), .agg #[.int .i64 1, .int .i64 xb, .int .i64 xp, .bool xd]] w (DoneY w base fY fR gY gR (nextY s xb).1) := by
  obtain ⟨W0, HW0⟩ : ∃ W0, Hid (W0 = w.alloc (.cells #[.int .i64 1, .int .i64 xb, .int .i64 xp, .bool xd] 45)) := ⟨_, rfl⟩
  have P0 : RestC (Or2 fY fR) W0 w.heap.size #[.int .i64 1, .int .i64 xb, .int .i64 xp, .bool xd] 45 := by rw [HW0.out]; exact RestC.new w _ _ h.lt
  have L0 : Below w.heap.size w W0 := by rw [HW0.out]; exact later_alloc _ _
  have B0 := Lib.hid (h.since L0)
  have HL0 := Lib.hid L0
  have HP0 := Lib.hid P0
  have c0 := P0.cell 0
  have c1 := P0.cell 1
  have c2 := P0.cell 2
  have c3 := P0.cell 3
  obtain ⟨gx, HGX⟩ : ∃ gx, Hid (w.heap.size = gx) := ⟨_, rfl⟩
  obtain ⟨s2, n2, q, HS⟩ : ∃ s2 n2 q, Hid (nextY s xb = (s2, n2, q)) := ⟨_, _, _, rfl⟩
  rw [HS.out]
  rw [HW0.out] at c0 c1 c2 c3
  clear P0 L0 h
  go_enter Try.func22, Try.ntmps22
  go_wp2_with fail
  rw [← HW0.out]
  refine (ynext_any xb B0.out.y).mono ?_
  rw [HS.out]
  rintro e W2 ⟨v2, fY2, rfl, he, hc, hs⟩
  have Y2 := Lib.hid hc
  have R2 := Lib.hid (B0.out.r.keep hs.turn B0.out.two)
  have T2 := Lib.hid (B0.out.two.left hs B0.out.r.lt)
  have M2 := Lib.hid (hs.orL fR)
  have E2 := Lib.hid (he.or_ (fq := fR) B0.out.r.lt)
  have P2 := (HP0.out.step M2.out)
  clear c0 c1 c2 c3
  have c1 := (P2.cell 1).trans (show _ = some (Value.int .i64 xb) from rfl)
  clear he hc hs P2
  go_wp2_with fail
  refine (rnext_any xb R2.out).mono ?_
  rw [HS.out]
  rintro e W3 ⟨rfl, hc, hs⟩
  have Y3 := Lib.hid (Y2.out.keep hs.turn T2.out.flip)
  have R3 := Lib.hid hc
  have M3 := Lib.hid (hs.orR fY2)
  have E3 := Lib.hid (E2.out.step M3.out)
  clear hc hs c1
  go_wp2_with fail
  refine (err_num E3.out).mono ?_
  rintro e w' ⟨rfl, hw⟩
  subst hw
  go_wp2_with fail
  go_ret
  exact ⟨rfl, fY2, fR, ⟨Y3.out, R3.out, T2.out⟩, ((Moves.of_below HL0.out).trans M2.out).trans M3.out⟩
set_option maxHeartbeats 8000000 in
theorem done_none (dd xb xp : Int) (xd : Bool) (hd : dd ≠ 0 ∧ dd ≠ 1 ∧ dd ≠ 2 ∧ dd ≠ 3 ∧ dd ≠ 4 ∧ dd ≠ 5 ∧ dd ≠ 6 ∧ dd ≠ 7) (h : BothY w base fY fR gY gR s) : Calls Try.prog 22 #[.pointer (some ⟨gY, 0, none⟩), .pointer (some ⟨gR, 0, none⟩), .agg #[.int .i64 dd, .int .i64 xb, .int .i64 xp, .bool xd]] w (DoneY w base fY fR gY gR s) := by
  obtain ⟨W0, HW0⟩ : ∃ W0, Hid (W0 = w.alloc (.cells #[.int .i64 dd, .int .i64 xb, .int .i64 xp, .bool xd] 45)) := ⟨_, rfl⟩
  have P0 : RestC (Or2 fY fR) W0 w.heap.size #[.int .i64 dd, .int .i64 xb, .int .i64 xp, .bool xd] 45 := by rw [HW0.out]; exact RestC.new w _ _ h.lt
  have L0 : Below w.heap.size w W0 := by rw [HW0.out]; exact later_alloc _ _
  have B0 := Lib.hid (h.since L0)
  have HL0 := Lib.hid L0
  have HP0 := Lib.hid P0
  have c0 := P0.cell 0
  have c1 := P0.cell 1
  have c2 := P0.cell 2
  have c3 := P0.cell 3
  obtain ⟨gx, HGX⟩ : ∃ gx, Hid (w.heap.size = gx) := ⟨_, rfl⟩
  obtain ⟨d0, d1, d2, d3, d4, d5, d6, d7⟩ := hd
  have b0 : (dd == 0) = false := by simpa using d0
  have b1 : (dd == 1) = false := by simpa using d1
  have b2 : (dd == 2) = false := by simpa using d2
  have b3 : (dd == 3) = false := by simpa using d3
  have b4 : (dd == 4) = false := by simpa using d4
  have b5 : (dd == 5) = false := by simpa using d5
  have b6 : (dd == 6) = false := by simpa using d6
  have b7 : (dd == 7) = false := by simpa using d7
  clear d0 d1 d2 d3 d4 d5 d6 d7
  rw [HW0.out] at c0 c1 c2 c3
  clear P0 L0 h
  go_enter Try.func22, Try.ntmps22
  go_wp2_with fail
  go_ret
  rw [← HW0.out]
  exact ⟨rfl, fY, fR, B0.out, Moves.of_below HL0.out⟩
theorem done_any (x : A11) (h : BothY w base fY fR gY gR s) : Calls Try.prog 22 #[.pointer (some ⟨gY, 0, none⟩), .pointer (some ⟨gR, 0, none⟩), act11V x] w (DoneY w base fY fR gY gR (actY s x)) := by
  obtain ⟨dd, xb, xp, xd⟩ := x
  show Calls _ _ #[_, _, .agg #[.int .i64 dd, .int .i64 xb, .int .i64 xp, .bool xd]] _ _
  unfold actY
  dsimp only
  by_cases e0 : dd = 0
  · subst e0
    rw [if_pos rfl]
    exact done_open xb xp xd h
  rw [if_neg e0]
  by_cases e1 : dd = 1
  · subst e1
    rw [if_pos rfl]
    exact done_next xb xp xd h
  rw [if_neg e1]
  by_cases e2 : dd = 2
  · subst e2
    rw [if_pos rfl]
    exact done_seal xb xp xd h
  rw [if_neg e2]
  by_cases e3 : dd = 3
  · subst e3
    rw [if_pos rfl]
    exact done_free xb xp xd h
  rw [if_neg e3]
  by_cases e4 : dd = 4
  · subst e4
    rw [if_pos rfl]
    exact done_retire xb xp xd h
  rw [if_neg e4]
  by_cases e5 : dd = 5
  · subst e5
    rw [if_pos rfl]
    exact done_need xb xp xd h
  rw [if_neg e5]
  by_cases e6 : dd = 6
  · subst e6
    rw [if_pos rfl]
    exact done_drop xb xp xd h
  rw [if_neg e6]
  by_cases e7 : dd = 7
  · subst e7
    rw [if_pos rfl]
    exact done_wash xb xp xd h
  rw [if_neg e7]
  exact done_none dd xb xp xd ⟨e0, e1, e2, e3, e4, e5, e6, e7⟩ h
end
end Go.Proofs.Ytmfpelgkjgpfmaa
