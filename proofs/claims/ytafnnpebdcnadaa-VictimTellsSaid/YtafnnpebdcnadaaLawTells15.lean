/- VictimTells: true, whatever its arguments are. Conditions: the list's cells. -/
import Derived.Test.YtafnnpebdcnadaaLawOthers
import Derived.Test.YtafnnpebdcnadaaRefVic2
set_option linter.unusedVariables false
set_option linter.unusedSimpArgs false
namespace Go.Proofs.Ytafnnpebdcnadaa
open Go.RowKit Go.Sort

theorem run_neq_vb (x y : Operand) (b : VB) (w : World) : (do eqGuard .neq 34 x y (vblkV b) (vblkV b); binOp .neq 34 (vblkV b) (vblkV b)).run Try.prog w = .ok (.bool false) w := by
  unfold vblkV
  go_simp
/-- Which of the two calls of 'of' are done, and which places of theirs are found. -/
structure OfJ (WD : World) (n : Nat) (bs : List VB) (b : VB) (fs : List Bool) (vs : List Value) (W : World) : Prop where
  lf : fs.length = 4
  lv : vs.length = 4
  below : Below WD.heap.size WD W
  o1 : fs.getD 0 false = true → ∃ A c, vs.getD 0 undef = .slice A n c ∧ rblkK.Lie W W.heap.size A n bs
  p1 : fs.getD 1 false = true → ∃ ad, vs.getD 1 undef = .pointer (some ad) ∧ ad.block < W.heap.size ∧ RBAt W ad b
  o2 : fs.getD 2 false = true → ∃ A c, vs.getD 2 undef = .slice A n c ∧ rblkK.Lie W W.heap.size A n bs
  p2 : fs.getD 3 false = true → ∃ ad, vs.getD 3 undef = .pointer (some ad) ∧ ad.block < W.heap.size ∧ RBAt W ad b
section
variable {WD W W' : World} {n i : Nat} {bs : List VB} {b : VB} {fs : List Bool} {vs : List Value} {v : Value}
theorem OfJ.later (h : OfJ WD n bs b fs vs W) (hl : Later W W') : OfJ WD n bs b fs vs W' :=
  ⟨h.lf, h.lv, below_chain h.below hl, fun e => by
    obtain ⟨A, c, h1, h2⟩ := h.o1 e
    exact ⟨A, c, h1, h2.since hl⟩, fun e => by
    obtain ⟨ad, h1, h2, h3⟩ := h.p1 e
    exact ⟨ad, h1, Nat.lt_of_lt_of_le h2 hl.size, h3.since hl h2⟩, fun e => by
    obtain ⟨A, c, h1, h2⟩ := h.o2 e
    exact ⟨A, c, h1, h2.since hl⟩, fun e => by
    obtain ⟨ad, h1, h2, h3⟩ := h.p2 e
    exact ⟨ad, h1, Nat.lt_of_lt_of_le h2 hl.size, h3.since hl h2⟩⟩
theorem OfJ.first (h : OfJ WD n bs b fs vs W) {A : Option Addr} {c : Nat} (hA : rblkK.Lie W W.heap.size A n bs) : OfJ WD n bs b (fs.set 0 true) (vs.set 0 (.slice A n c)) W := by
  have lf := h.lf
  have lv := h.lv
  refine ⟨by simpa using lf, by simpa using lv, h.below, fun _ => ⟨A, c, gs_self (by omega), hA⟩, fun e => ?_, fun e => ?_, fun e => ?_⟩
  · rw [gs_ne (by decide)] at e; rw [gs_ne (by decide)]; exact h.p1 e
  · rw [gs_ne (by decide)] at e; rw [gs_ne (by decide)]; exact h.o2 e
  · rw [gs_ne (by decide)] at e; rw [gs_ne (by decide)]; exact h.p2 e
theorem OfJ.second (h : OfJ WD n bs b fs vs W) {A : Option Addr} {c : Nat} (hA : rblkK.Lie W W.heap.size A n bs) : OfJ WD n bs b (fs.set 2 true) (vs.set 2 (.slice A n c)) W := by
  have lf := h.lf
  have lv := h.lv
  refine ⟨by simpa using lf, by simpa using lv, h.below, fun e => ?_, fun e => ?_, fun _ => ⟨A, c, gs_self (by omega), hA⟩, fun e => ?_⟩
  · rw [gs_ne (by decide)] at e; rw [gs_ne (by decide)]; exact h.o1 e
  · rw [gs_ne (by decide)] at e; rw [gs_ne (by decide)]; exact h.p1 e
  · rw [gs_ne (by decide)] at e; rw [gs_ne (by decide)]; exact h.p2 e
theorem OfJ.place1 (h : OfJ WD n bs b fs vs W) {ad : Addr} (h1 : ad.block < W.heap.size) (h2 : RBAt W ad b) : OfJ WD n bs b (fs.set 1 true) (vs.set 1 (.pointer (some ad))) W := by
  have lf := h.lf
  have lv := h.lv
  refine ⟨by simpa using lf, by simpa using lv, h.below, fun e => ?_, fun _ => ⟨ad, gs_self (by omega), h1, h2⟩, fun e => ?_, fun e => ?_⟩
  · rw [gs_ne (by decide)] at e; rw [gs_ne (by decide)]; exact h.o1 e
  · rw [gs_ne (by decide)] at e; rw [gs_ne (by decide)]; exact h.o2 e
  · rw [gs_ne (by decide)] at e; rw [gs_ne (by decide)]; exact h.p2 e
theorem OfJ.place2 (h : OfJ WD n bs b fs vs W) {ad : Addr} (h1 : ad.block < W.heap.size) (h2 : RBAt W ad b) : OfJ WD n bs b (fs.set 3 true) (vs.set 3 (.pointer (some ad))) W := by
  have lf := h.lf
  have lv := h.lv
  refine ⟨by simpa using lf, by simpa using lv, h.below, fun e => ?_, fun e => ?_, fun e => ?_, fun _ => ⟨ad, gs_self (by omega), h1, h2⟩⟩
  · rw [gs_ne (by decide)] at e; rw [gs_ne (by decide)]; exact h.o1 e
  · rw [gs_ne (by decide)] at e; rw [gs_ne (by decide)]; exact h.p1 e
  · rw [gs_ne (by decide)] at e; rw [gs_ne (by decide)]; exact h.o2 e
theorem OfJ.start (hv : vs.length = 4) : OfJ WD n bs b [false, false, false, false] vs WD :=
  ⟨rfl, hv, Below.refl _ _, fun e => (by cases e), fun e => (by cases e), fun e => (by cases e), fun e => (by cases e)⟩
end
set_option maxHeartbeats 64000000 in
set_option maxRecDepth 20000 in
theorem tells_law (A : Option Addr) (n c : Nat) (bs : List VB) (x1 : Int) (w : World) (hx : -9223372036854775808 ≤ x1 ∧ x1 ≤ 9223372036854775807) (h : vblkK.Lie w w.heap.size A n bs) : Calls Try.prog 3 #[.slice A n c, .int .i64 x1] w (SaysB w true) := by
  have H := Lib.hid h
  clear h
  by_cases hn : 40 < n
  · go_enter Try.func3, Try.ntmps3
    go_wp2_with fail
    refine (vawake_any _).mono ?_
    rintro e w1 ⟨rfl, hb1⟩
    go_wp2_with fail
    go_ret
    exact ⟨rfl, hb1⟩
  have hn40 : n ≤ 40 := by omega
  have h1 : ¬ (40 : Int) < (n : Int) := by omega
  obtain ⟨A1, c1, w1, hr1, ho1, hb1, _⟩ := Kind.append_g (K := vblkK) (c' := c) (Below.refl w.heap.size w) (Kind.Row.none_ (K := vblkK)) H.out (by omega)
  rw [Nat.zero_add] at hr1 ho1
  have R1 : Hid (vblkK.Row w1 w.heap.size A1 n c1 bs) := ho1.same (by simp)
  have HR1 := Lib.hid hr1
  have S1 := Lib.hid hb1
  have HA1 := Lib.hid (H.out.since hb1)
  obtain ⟨o, HO⟩ : ∃ o, Hid (ordV bs = o) := ⟨_, rfl⟩
  have D1 := Lib.hid (vorder_any A n c bs w1 hn40 HA1.out)
  rw [HO.out] at D1
  have HOL : Hid (o.length ≤ 40) := by
    have := ord_len (bs := bs) bs.length
    have e := H.out.len
    have e2 : (ordN bs bs.length).length = o.length := by rw [← HO.out]; rfl
    show _ ≤ _
    omega
  obtain ⟨ra, rb, HRV⟩ : ∃ ra rb, Hid (firstV o = (ra, rb)) := ⟨_, _, rfl⟩
  clear hr1 ho1 hb1
  go_enter Try.func3, Try.ntmps3
  go_wp2_with (at_builtin; refine wpList_append_run rfl (.const (.slice none 0 0)) (.tmp 15) 22 rfl rfl rfl HR1.out ?_)
  refine D1.out.mono ?_
  rintro e w2 ⟨A2, m2, c2, rfl, ho2, hb2⟩
  have B2 := hb2
  obtain rfl : o.length = m2 := by have := ho2.out.len; rw [idsV_len] at this; exact this
  have D2 := Lib.hid (of_any A n c bs w2 (by omega) (HA1.out.since B2.out))
  clear D1 HR1
  go_wp2_with fail
  refine D2.out.mono ?_
  rintro e w3 ⟨A3, m3, c3, rfl, ho3, hb3⟩
  obtain rfl : n = m3 := H.out.len.symm.trans ho3.out.len
  have B3 := Lib.hid (below_chain B2.out hb3.out)
  have O3 := Lib.hid (ho2.out.since hb3.out)
  have D3 := Lib.hid (rorder_any A3 n c3 bs w3 (by omega) ho3.out.lie)
  rw [HO.out] at D3
  clear D2 ho2 ho3 hb2 hb3
  go_wp2_with fail
  refine D3.out.mono ?_
  rintro e w4 ⟨A4, m4, c4, rfl, ho4, hb4⟩
  obtain rfl : o.length = m4 := by have := ho4.out.len; rw [idsV_len] at this; exact this
  have B4 := Lib.hid (below_chain B3.out hb4.out)
  have O4 := Lib.hid (O3.out.since hb4.out)
  have D4 := Lib.hid (vchoose_any A n c bs w4 hn40 (HA1.out.since B4.out))
  rw [HO.out, HRV.out] at D4
  clear D3 O3 hb4
  go_wp2_with fail
  refine D4.out.mono ?_
  rintro e w5 ⟨rfl, hb5⟩
  have B5 := Lib.hid (below_chain B4.out hb5.out)
  have O5 := Lib.hid (O4.out.since hb5.out)
  have P5 := Lib.hid (ho4.out.since hb5.out)
  have D5 := Lib.hid (sameints_yes A2 A4 _ c2 c4 (idsV o) w5 (by have := HOL.out; omega) O5.out.lie P5.out.lie)
  clear D4 O4 ho4 hb5
  go_wp2_with fail
  refine D5.out.mono ?_
  rintro e w6 ⟨rfl, hb6⟩
  have B6 := Lib.hid (below_chain B5.out hb6)
  have O6 := Lib.hid (O5.out.since hb6)
  have P6 := Lib.hid (P5.out.since hb6)
  have D6 := Lib.hid (overints_any A2 o.length c2 w1.heap.size (idsV o) w6 (by have := HOL.out; omega) B6.out.size O6.out)
  clear D5 O5 P5 hb6
  have HREST : Hid (∀ w7, w6.grownBy w7 (Value.slice A2 o.length c2).ownBlock → Below w1.heap.size w1 w7) := fun w7 hg => B6.out.trans (O6.out.elsewhere hg (Nat.le_refl _) B6.out.size)
  have HNL : Hid (bs.length = n) := H.out.len
  cases o with
  | nil =>
    obtain ⟨rfl, rfl⟩ : ra = 0 ∧ rb = false := by have := HRV.out; unfold firstV at this; injection this with h1 h2; exact ⟨h1.symm, h2.symm⟩
    go_wp2_with fail
    refine D6.out.mono ?_
    rintro e w7 ⟨rfl, hg7⟩
    have B7 := Lib.hid (HREST.out w7 hg7)
    clear D6 HREST hg7 B6 O6 P6
    have R7 := Lib.hid (R1.out.lie.below B7.out |>.wider B7.out.size)
    have HA7 := Lib.hid (HA1.out.since B7.out)
    have S7 := Lib.hid (below_chain S1.out B7.out)
    go_wp2_with fail
    go_loopw [10] (fun t10 wr => ∃ j : Nat, t10 = .int .i64 j ∧ j ≤ n ∧ Hid (Below w7.heap.size w7 wr)) (fun t10 _ => n - (intOf t10).toNat)
    case atStart => exact ⟨0, rfl, Nat.zero_le _, Below.refl _ _⟩
    case round =>
      obtain ⟨Wb, rfl⟩ : ∃ Wb, Wb = wr := ⟨_, rfl⟩
      obtain ⟨j, rfl, hj, HBJ⟩ := hrel
      by_cases hlt2 : j < n
      · have j0 : (0 : Int) ≤ (j : Int) := by omega
        have j1 : (j : Int) < (n : Int) := by omega
        go_wp2_with fail
        obtain ⟨WE, HWE⟩ : ∃ W, Hid (W = Wb.drew) := ⟨_, rfl⟩
        have HLW : Hid (Below w7.heap.size w7 WE) := by rw [HWE.out]; exact below_drewN HBJ.out 1
        obtain ⟨ad, eA, hblk, hv, hwf⟩ := vb_cells (HA7.out.since HLW.out) hlt2
        obtain ⟨ad2, eA2, hblk2, hv2, _⟩ := vb_cells (R7.out.since HLW.out) hlt2
        obtain ⟨b, HBV⟩ : ∃ b, Hid (bs.getD j VB.zero = b) := ⟨_, rfl⟩
        rw [HBV.out] at hv hv2 hwf
        have HV := Lib.hid hv
        have HV2 := Lib.hid hv2
        have HWF := Lib.hid hwf
        have HPB : Hid ((ad.add (j * 5)).block < WE.heap.size) := by show _ < _; rw [addr_block]; exact hblk
        have HPB2 : Hid ((ad2.add (j * 5)).block < WE.heap.size) := by show _ < _; rw [addr_block]; exact hblk2
        have EA := Lib.hid eA
        have EA2 := Lib.hid eA2
        have HAE := Lib.hid (HA7.out.since HLW.out)
        clear hv hv2 hwf hblk hblk2 eA eA2
        obtain ⟨G, HG⟩ : ∃ G, Hid (gainV x1 b = G) := ⟨_, rfl⟩
        obtain ⟨mb, HMB⟩ : ∃ m, Hid (mayV b = m) := ⟨_, rfl⟩
        cases mb with
        | true =>
          refine region_of_steps7 (by kernel_rfl) [some (.slice A n c), some (.int .i64 (j : Int)), some (.pointer (some (ad.add (j * 5)))), some (vblkV b), some (.slice A1 n c1), some (.int .i64 (j : Int)), some (.pointer (some (ad2.add (j * 5)))), some (vblkV b), some (.bool false), some (.bool false), some (.int .i64 x1), some (.slice A n c), some (.int .i64 (j : Int)), some (.pointer (some (ad.add (j * 5)))), some (vblkV b), some (.int .i64 G), some (.int .i64 x1), some (.slice A n c), none, some (.int .i64 (j : Int)), none, some (vblkV b), some (.int .i64 G), some (.bool false), some (.bool false), some (.bool false), some (.slice A n c), none, some (.int .i64 (j : Int)), none, some (vblkV b), some (.bool true), some (.bool true), some (.slice A n c), some (.int .i64 (j : Int)), some (.pointer (some (ad.add (j * 5)))), some (vblkV b), some (.int .i64 b.di), some (.slice A n c), some (.int .i64 (j : Int)), some (.pointer (some (ad.add (j * 5)))), some (.pointer (some ⟨(ad.add (j * 5)).block, (ad.add (j * 5)).off + 2, none⟩)), some (.int .i64 b.di), some (.bool false), some (.bool false), some (.bool false)] [18, 20, 27, 29] [82, 84, 91, 93] (OfJ WE n bs b) (by kernel_rfl) (by kernel_rfl) (by rw [← HWE.out]; exact OfJ.start (by rw [slots_len]; rfl)) ?_ ?_
          · refine Steps7.cons ?_ (Steps7.cons ?_ (Steps7.cons ?_ (Steps7.cons ?_ (Steps7.cons ?_ (Steps7.cons ?_ (Steps7.cons ?_ (Steps7.cons ?_ (Steps7.cons ?_ (Steps7.cons ?_ (Steps7.cons ?_ (Steps7.cons ?_ (Steps7.cons ?_ (Steps7.cons ?_ (Steps7.cons ?_ (Steps7.cons ?_ (Steps7.cons ?_ (Steps7.cons ?_ (Steps7.cons ?_ (Steps7.cons ?_ (Steps7.cons ?_ (Steps7.cons ?_ (Steps7.cons ?_ (Steps7.cons ?_ (Steps7.cons ?_ (Steps7.cons ?_ (Steps7.cons ?_ (Steps7.cons ?_ (Steps7.cons ?_ (Steps7.cons ?_ (Steps7.cons ?_ (Steps7.cons ?_ (Steps7.cons ?_ (Steps7.cons ?_ (Steps7.cons ?_ (Steps7.cons ?_ (Steps7.cons ?_ (Steps7.cons ?_ (Steps7.cons ?_ (Steps7.cons ?_ (Steps7.cons ?_ (Steps7.cons ?_ (Steps7.cons ?_ (Steps7.cons ?_ (Steps7.cons ?_ (Steps7.cons ?_ (Steps7.nil))))))))))))))))))))))))))))))))))))))))))))))
            · intro listed a W H hj hl hd
              have t0 : a.tmps.getD 0 undef = .slice A n c := (H.old 0 (by kernel_rfl)).trans rfl
              exact step7_value (i := 0) rfl rfl (run_op_move rfl t0) (calm7 (fun fs vs x y h hl => OfJ.later h hl) (by kernel_rfl) (by kernel_rfl) hj (later_refl _)) rfl
            · intro listed a W H hj hl hd
              have t10 : a.tmps.getD 10 undef = .int .i64 (j : Int) := (H.old 10 (by kernel_rfl)).trans rfl
              exact step7_value (i := 1) rfl rfl (run_op_move rfl t10) (calm7 (fun fs vs x y h hl => OfJ.later h hl) (by kernel_rfl) (by kernel_rfl) hj (later_refl _)) rfl
            · intro listed a W H hj hl hd
              have t64 : a.tmps.getD 64 undef = .slice A n c := H.get 0 64 (by kernel_rfl) (dep_of hd 0 (by kernel_rfl)) (fun _ h => by cases h)
              have t65 : a.tmps.getD 65 undef = .int .i64 (j : Int) := H.get 1 65 (by kernel_rfl) (dep_of hd 1 (by kernel_rfl)) (fun _ h => by cases h)
              exact step7_value (i := 2) rfl rfl (run_op_index rfl t64 t65 (by rw [EA.out]; exact run_index_vb ad n c j hlt2 W)) (calm7 (fun fs vs x y h hl => OfJ.later h hl) (by kernel_rfl) (by kernel_rfl) hj (later_refl _)) rfl
            · intro listed a W H hj hl hd
              have t66 : a.tmps.getD 66 undef = .pointer (some (ad.add (j * 5))) := H.get 2 66 (by kernel_rfl) (dep_of hd 2 (by kernel_rfl)) (fun _ h => by cases h)
              exact step7_value (i := 3) rfl rfl (run_op_load rfl t66 (run_load_vb _ _ W (HV.out.since hj.below HPB.out))) (calm7 (fun fs vs x y h hl => OfJ.later h hl) (by kernel_rfl) (by kernel_rfl) hj (later_refl _)) rfl
            · intro listed a W H hj hl hd
              have t5 : a.tmps.getD 5 undef = .slice A1 n c1 := (H.old 5 (by kernel_rfl)).trans rfl
              exact step7_value (i := 4) rfl rfl (run_op_move rfl t5) (calm7 (fun fs vs x y h hl => OfJ.later h hl) (by kernel_rfl) (by kernel_rfl) hj (later_refl _)) rfl
            · intro listed a W H hj hl hd
              have t10 : a.tmps.getD 10 undef = .int .i64 (j : Int) := (H.old 10 (by kernel_rfl)).trans rfl
              exact step7_value (i := 5) rfl rfl (run_op_move rfl t10) (calm7 (fun fs vs x y h hl => OfJ.later h hl) (by kernel_rfl) (by kernel_rfl) hj (later_refl _)) rfl
            · intro listed a W H hj hl hd
              have t68 : a.tmps.getD 68 undef = .slice A1 n c1 := H.get 4 68 (by kernel_rfl) (dep_of hd 4 (by kernel_rfl)) (fun _ h => by cases h)
              have t69 : a.tmps.getD 69 undef = .int .i64 (j : Int) := H.get 5 69 (by kernel_rfl) (dep_of hd 5 (by kernel_rfl)) (fun _ h => by cases h)
              exact step7_value (i := 6) rfl rfl (run_op_index rfl t68 t69 (by rw [EA2.out]; exact run_index_vb ad2 n c1 j hlt2 W)) (calm7 (fun fs vs x y h hl => OfJ.later h hl) (by kernel_rfl) (by kernel_rfl) hj (later_refl _)) rfl
            · intro listed a W H hj hl hd
              have t70 : a.tmps.getD 70 undef = .pointer (some (ad2.add (j * 5))) := H.get 6 70 (by kernel_rfl) (dep_of hd 6 (by kernel_rfl)) (fun _ h => by cases h)
              exact step7_value (i := 7) rfl rfl (run_op_load rfl t70 (run_load_vb _ _ W (HV2.out.since hj.below HPB2.out))) (calm7 (fun fs vs x y h hl => OfJ.later h hl) (by kernel_rfl) (by kernel_rfl) hj (later_refl _)) rfl
            · intro listed a W H hj hl hd
              have t67 : a.tmps.getD 67 undef = vblkV b := H.get 3 67 (by kernel_rfl) (dep_of hd 3 (by kernel_rfl)) (fun _ h => by cases h)
              have t71 : a.tmps.getD 71 undef = vblkV b := H.get 7 71 (by kernel_rfl) (dep_of hd 7 (by kernel_rfl)) (fun _ h => by cases h)
              exact step7_value (i := 8) rfl rfl (run_op_bin rfl t67 t71 (run_neq_vb _ _ _ W)) (calm7 (fun fs vs x y h hl => OfJ.later h hl) (by kernel_rfl) (by kernel_rfl) hj (later_refl _)) rfl
            · intro listed a W H hj hl hd
              have t72 : a.tmps.getD 72 undef = .bool false := H.get 8 72 (by kernel_rfl) (dep_of hd 8 (by kernel_rfl)) (fun _ h => by cases h)
              exact step7_value (i := 9) rfl rfl (run_op_move rfl t72) (calm7 (fun fs vs x y h hl => OfJ.later h hl) (by kernel_rfl) (by kernel_rfl) hj (later_refl _)) rfl
            · intro listed a W H hj hl hd
              have t73 : a.tmps.getD 73 undef = .bool false := H.get 9 73 (by kernel_rfl) (dep_of hd 9 (by kernel_rfl)) (fun _ h => by cases h)
              have t1 : a.tmps.getD 1 undef = .int .i64 x1 := (H.old 1 (by kernel_rfl)).trans rfl
              exact step7_value (i := 10) rfl (wanted_at (j := 9) (d := 73) (b := false) rfl (by kernel_rfl) t73) (run_op_move rfl t1) (calm7 (fun fs vs x y h hl => OfJ.later h hl) (by kernel_rfl) (by kernel_rfl) hj (later_refl _)) rfl
            · intro listed a W H hj hl hd
              have t73 : a.tmps.getD 73 undef = .bool false := H.get 9 73 (by kernel_rfl) (dep_of hd 9 (by kernel_rfl)) (fun _ h => by cases h)
              have t0 : a.tmps.getD 0 undef = .slice A n c := (H.old 0 (by kernel_rfl)).trans rfl
              exact step7_value (i := 11) rfl (wanted_at (j := 9) (d := 73) (b := false) rfl (by kernel_rfl) t73) (run_op_move rfl t0) (calm7 (fun fs vs x y h hl => OfJ.later h hl) (by kernel_rfl) (by kernel_rfl) hj (later_refl _)) rfl
            · intro listed a W H hj hl hd
              have t73 : a.tmps.getD 73 undef = .bool false := H.get 9 73 (by kernel_rfl) (dep_of hd 9 (by kernel_rfl)) (fun _ h => by cases h)
              have t10 : a.tmps.getD 10 undef = .int .i64 (j : Int) := (H.old 10 (by kernel_rfl)).trans rfl
              exact step7_value (i := 12) rfl (wanted_at (j := 9) (d := 73) (b := false) rfl (by kernel_rfl) t73) (run_op_move rfl t10) (calm7 (fun fs vs x y h hl => OfJ.later h hl) (by kernel_rfl) (by kernel_rfl) hj (later_refl _)) rfl
            · intro listed a W H hj hl hd
              have t73 : a.tmps.getD 73 undef = .bool false := H.get 9 73 (by kernel_rfl) (dep_of hd 9 (by kernel_rfl)) (fun _ h => by cases h)
              have t75 : a.tmps.getD 75 undef = .slice A n c := H.get 11 75 (by kernel_rfl) (dep_of hd 11 (by kernel_rfl)) (fun _ h => by cases h)
              have t76 : a.tmps.getD 76 undef = .int .i64 (j : Int) := H.get 12 76 (by kernel_rfl) (dep_of hd 12 (by kernel_rfl)) (fun _ h => by cases h)
              exact step7_value (i := 13) rfl (wanted_at (j := 9) (d := 73) (b := false) rfl (by kernel_rfl) t73) (run_op_index rfl t75 t76 (by rw [EA.out]; exact run_index_vb ad n c j hlt2 W)) (calm7 (fun fs vs x y h hl => OfJ.later h hl) (by kernel_rfl) (by kernel_rfl) hj (later_refl _)) rfl
            · intro listed a W H hj hl hd
              have t73 : a.tmps.getD 73 undef = .bool false := H.get 9 73 (by kernel_rfl) (dep_of hd 9 (by kernel_rfl)) (fun _ h => by cases h)
              have t77 : a.tmps.getD 77 undef = .pointer (some (ad.add (j * 5))) := H.get 13 77 (by kernel_rfl) (dep_of hd 13 (by kernel_rfl)) (fun _ h => by cases h)
              exact step7_value (i := 14) rfl (wanted_at (j := 9) (d := 73) (b := false) rfl (by kernel_rfl) t73) (run_op_load rfl t77 (run_load_vb _ _ W (HV.out.since hj.below HPB.out))) (calm7 (fun fs vs x y h hl => OfJ.later h hl) (by kernel_rfl) (by kernel_rfl) hj (later_refl _)) rfl
            · intro listed a W H hj hl hd
              have t73 : a.tmps.getD 73 undef = .bool false := H.get 9 73 (by kernel_rfl) (dep_of hd 9 (by kernel_rfl)) (fun _ h => by cases h)
              have t74 : a.tmps.getD 74 undef = .int .i64 x1 := H.get 10 74 (by kernel_rfl) (dep_of hd 10 (by kernel_rfl)) (fun _ h => by cases h)
              have t78 : a.tmps.getD 78 undef = vblkV b := H.get 14 78 (by kernel_rfl) (dep_of hd 14 (by kernel_rfl)) (fun _ h => by cases h)
              refine step7_call (i := 15) rfl (wanted_at (j := 9) (d := 73) (b := false) rfl (by kernel_rfl) t73) (run_op_call (vs := #[.int .i64 x1, vblkV b]) Try.func14 (by kernel_rfl) (by kernel_rfl) rfl (by simp only [List.map_toArray, List.map_cons, List.map_nil]; show #[a.tmps.getD 74 undef, a.tmps.getD 78 undef] = _; rw [t74, t78])) ?_
              refine (vgain_any x1 b W HWF.out).mono ?_
              rintro e w' ⟨rfl, hb⟩
              refine ⟨_, rfl, (calm7 (fun fs vs x y h hl => OfJ.later h hl) (by kernel_rfl) (by kernel_rfl) hj hb.out), ?_⟩
              show Value.int IntKind.i64 _ = _; rw [HG.out]
            · intro listed a W H hj hl hd
              have t73 : a.tmps.getD 73 undef = .bool false := H.get 9 73 (by kernel_rfl) (dep_of hd 9 (by kernel_rfl)) (fun _ h => by cases h)
              have t1 : a.tmps.getD 1 undef = .int .i64 x1 := (H.old 1 (by kernel_rfl)).trans rfl
              exact step7_value (i := 16) rfl (wanted_at (j := 9) (d := 73) (b := false) rfl (by kernel_rfl) t73) (run_op_move rfl t1) (calm7 (fun fs vs x y h hl => OfJ.later h hl) (by kernel_rfl) (by kernel_rfl) hj (later_refl _)) rfl
            · intro listed a W H hj hl hd
              have t73 : a.tmps.getD 73 undef = .bool false := H.get 9 73 (by kernel_rfl) (dep_of hd 9 (by kernel_rfl)) (fun _ h => by cases h)
              have t0 : a.tmps.getD 0 undef = .slice A n c := (H.old 0 (by kernel_rfl)).trans rfl
              exact step7_value (i := 17) rfl (wanted_at (j := 9) (d := 73) (b := false) rfl (by kernel_rfl) t73) (run_op_move rfl t0) (calm7 (fun fs vs x y h hl => OfJ.later h hl) (by kernel_rfl) (by kernel_rfl) hj (later_refl _)) rfl
            · intro listed a W H hj hl hd
              have t73 : a.tmps.getD 73 undef = .bool false := H.get 9 73 (by kernel_rfl) (dep_of hd 9 (by kernel_rfl)) (fun _ h => by cases h)
              have t81 : a.tmps.getD 81 undef = .slice A n c := H.get 17 81 (by kernel_rfl) (dep_of hd 17 (by kernel_rfl)) (fun _ h => by cases h)
              refine step7_call (i := 18) rfl (wanted_at (j := 9) (d := 73) (b := false) rfl (by kernel_rfl) t73) (run_op_call (vs := #[.slice A n c]) Try.func10 (by kernel_rfl) (by kernel_rfl) rfl (by simp only [List.map_toArray, List.map_cons, List.map_nil]; show #[a.tmps.getD 81 undef] = _; rw [t81])) ?_
              refine (of_any A n c bs W (by omega) (HAE.out.since hj.below)).mono ?_
              rintro e w' ⟨A9, m9, c9, rfl, ho9, hb9⟩
              obtain rfl : n = m9 := HNL.out.symm.trans ho9.out.len
              have hk9 := (hj.later hb9.out).first (c := c9) ho9.out.lie
              rw [← flags_put (m := 18) 0 rfl (by decide), ← slots_at (a := a) (d := 82) 0 rfl (by decide) (by rw [H.size]; exact of_decide_eq_true (by kernel_rfl))] at hk9
              exact ⟨_, rfl, hk9, trivial⟩
            · intro listed a W H hj hl hd
              have t73 : a.tmps.getD 73 undef = .bool false := H.get 9 73 (by kernel_rfl) (dep_of hd 9 (by kernel_rfl)) (fun _ h => by cases h)
              have t10 : a.tmps.getD 10 undef = .int .i64 (j : Int) := (H.old 10 (by kernel_rfl)).trans rfl
              exact step7_value (i := 19) rfl (wanted_at (j := 9) (d := 73) (b := false) rfl (by kernel_rfl) t73) (run_op_move rfl t10) (calm7 (fun fs vs x y h hl => OfJ.later h hl) (by kernel_rfl) (by kernel_rfl) hj (later_refl _)) rfl
            · intro listed a W H hj hl hd
              have t73 : a.tmps.getD 73 undef = .bool false := H.get 9 73 (by kernel_rfl) (dep_of hd 9 (by kernel_rfl)) (fun _ h => by cases h)
              have d82 : listed.getD 18 false = true := dep_of hd 18 (by kernel_rfl)
              have t83 : a.tmps.getD 83 undef = .int .i64 (j : Int) := H.get 19 83 (by kernel_rfl) (dep_of hd 19 (by kernel_rfl)) (fun _ h => by cases h)
              have d82 : listed.getD 18 false = true := dep_of hd 18 (by kernel_rfl)
              have f0 : (flags [18, 20, 27, 29] listed).getD 0 false = true := done_true d82
              obtain ⟨A9, c9, e9, l9⟩ := hj.o1 f0
              obtain ⟨ad9, q9, b9, v9, _⟩ := rb_cells l9 hlt2
              subst q9
              rw [HBV.out] at v9
              have e9a : a.tmps.getD 82 undef = .slice (some ad9) n c9 := e9
              have hk9 := hj.place1 (ad := ad9.add (j * 5)) (by rw [addr_block]; exact b9) v9
              rw [← flags_put (m := 20) 1 rfl (by decide), ← slots_at (a := a) (d := 84) 1 rfl (by decide) (by rw [H.size]; exact of_decide_eq_true (by kernel_rfl))] at hk9
              exact step7_value (i := 20) rfl (wanted_at (j := 9) (d := 73) (b := false) rfl (by kernel_rfl) t73) (run_op_index rfl e9a t83 (run_index_rb ad9 n c9 j hlt2 W)) hk9 trivial
            · intro listed a W H hj hl hd
              have t73 : a.tmps.getD 73 undef = .bool false := H.get 9 73 (by kernel_rfl) (dep_of hd 9 (by kernel_rfl)) (fun _ h => by cases h)
              have d84 : listed.getD 20 false = true := dep_of hd 20 (by kernel_rfl)
              have d84 : listed.getD 20 false = true := dep_of hd 20 (by kernel_rfl)
              have f1 : (flags [18, 20, 27, 29] listed).getD 1 false = true := done_true d84
              obtain ⟨ad9, e9, b9, v9⟩ := hj.p1 f1
              have e9a : a.tmps.getD 84 undef = .pointer (some ad9) := e9
              exact step7_value (i := 21) rfl (wanted_at (j := 9) (d := 73) (b := false) rfl (by kernel_rfl) t73) (run_op_load rfl e9a (run_load_rb _ _ W v9)) (calm7 (fun fs vs x y h hl => OfJ.later h hl) (by kernel_rfl) (by kernel_rfl) hj (later_refl _)) rfl
            · intro listed a W H hj hl hd
              have t73 : a.tmps.getD 73 undef = .bool false := H.get 9 73 (by kernel_rfl) (dep_of hd 9 (by kernel_rfl)) (fun _ h => by cases h)
              have t80 : a.tmps.getD 80 undef = .int .i64 x1 := H.get 16 80 (by kernel_rfl) (dep_of hd 16 (by kernel_rfl)) (fun _ h => by cases h)
              have t85 : a.tmps.getD 85 undef = vblkV b := H.get 21 85 (by kernel_rfl) (dep_of hd 21 (by kernel_rfl)) (fun _ h => by cases h)
              refine step7_call (i := 22) rfl (wanted_at (j := 9) (d := 73) (b := false) rfl (by kernel_rfl) t73) (run_op_call (vs := #[.int .i64 x1, vblkV b]) Try.func15 (by kernel_rfl) (by kernel_rfl) rfl (by simp only [List.map_toArray, List.map_cons, List.map_nil]; show #[a.tmps.getD 80 undef, a.tmps.getD 85 undef] = _; rw [t80, t85])) ?_
              refine (rgain_any x1 b W hx HWF.out).mono ?_
              rintro e w' ⟨rfl, hb⟩
              refine ⟨_, rfl, (calm7 (fun fs vs x y h hl => OfJ.later h hl) (by kernel_rfl) (by kernel_rfl) hj hb.out), ?_⟩
              show Value.int IntKind.i64 _ = _; rw [HG.out]
            · intro listed a W H hj hl hd
              have t73 : a.tmps.getD 73 undef = .bool false := H.get 9 73 (by kernel_rfl) (dep_of hd 9 (by kernel_rfl)) (fun _ h => by cases h)
              have t79 : a.tmps.getD 79 undef = .int .i64 G := H.get 15 79 (by kernel_rfl) (dep_of hd 15 (by kernel_rfl)) (fun _ h => by cases h)
              have t86 : a.tmps.getD 86 undef = .int .i64 G := H.get 22 86 (by kernel_rfl) (dep_of hd 22 (by kernel_rfl)) (fun _ h => by cases h)
              exact step7_value (i := 23) rfl (wanted_at (j := 9) (d := 73) (b := false) rfl (by kernel_rfl) t73) (run_op_bin rfl t79 t86 (bin_neq _ _ _ G G false (by simp))) (calm7 (fun fs vs x y h hl => OfJ.later h hl) (by kernel_rfl) (by kernel_rfl) hj (later_refl _)) rfl
            · intro listed a W H hj hl hd
              have t73 : a.tmps.getD 73 undef = .bool false := H.get 9 73 (by kernel_rfl) (dep_of hd 9 (by kernel_rfl)) (fun _ h => by cases h)
              have t87 : a.tmps.getD 87 undef = .bool false := H.get 23 87 (by kernel_rfl) (dep_of hd 23 (by kernel_rfl)) (fun _ h => by cases h)
              exact step7_value (i := 24) rfl rfl (run_op_pickF rfl t73 t87) (calm7 (fun fs vs x y h hl => OfJ.later h hl) (by kernel_rfl) (by kernel_rfl) hj (later_refl _)) rfl
            · intro listed a W H hj hl hd
              have t88 : a.tmps.getD 88 undef = .bool false := H.get 24 88 (by kernel_rfl) (dep_of hd 24 (by kernel_rfl)) (fun _ h => by cases h)
              exact step7_value (i := 25) rfl rfl (run_op_move rfl t88) (calm7 (fun fs vs x y h hl => OfJ.later h hl) (by kernel_rfl) (by kernel_rfl) hj (later_refl _)) rfl
            · intro listed a W H hj hl hd
              have t89 : a.tmps.getD 89 undef = .bool false := H.get 25 89 (by kernel_rfl) (dep_of hd 25 (by kernel_rfl)) (fun _ h => by cases h)
              have t0 : a.tmps.getD 0 undef = .slice A n c := (H.old 0 (by kernel_rfl)).trans rfl
              exact step7_value (i := 26) rfl (wanted_at (j := 25) (d := 89) (b := false) rfl (by kernel_rfl) t89) (run_op_move rfl t0) (calm7 (fun fs vs x y h hl => OfJ.later h hl) (by kernel_rfl) (by kernel_rfl) hj (later_refl _)) rfl
            · intro listed a W H hj hl hd
              have t89 : a.tmps.getD 89 undef = .bool false := H.get 25 89 (by kernel_rfl) (dep_of hd 25 (by kernel_rfl)) (fun _ h => by cases h)
              have t90 : a.tmps.getD 90 undef = .slice A n c := H.get 26 90 (by kernel_rfl) (dep_of hd 26 (by kernel_rfl)) (fun _ h => by cases h)
              refine step7_call (i := 27) rfl (wanted_at (j := 25) (d := 89) (b := false) rfl (by kernel_rfl) t89) (run_op_call (vs := #[.slice A n c]) Try.func10 (by kernel_rfl) (by kernel_rfl) rfl (by simp only [List.map_toArray, List.map_cons, List.map_nil]; show #[a.tmps.getD 90 undef] = _; rw [t90])) ?_
              refine (of_any A n c bs W (by omega) (HAE.out.since hj.below)).mono ?_
              rintro e w' ⟨A9, m9, c9, rfl, ho9, hb9⟩
              obtain rfl : n = m9 := HNL.out.symm.trans ho9.out.len
              have hk9 := (hj.later hb9.out).second (c := c9) ho9.out.lie
              rw [← flags_put (m := 27) 2 rfl (by decide), ← slots_at (a := a) (d := 91) 2 rfl (by decide) (by rw [H.size]; exact of_decide_eq_true (by kernel_rfl))] at hk9
              exact ⟨_, rfl, hk9, trivial⟩
            · intro listed a W H hj hl hd
              have t89 : a.tmps.getD 89 undef = .bool false := H.get 25 89 (by kernel_rfl) (dep_of hd 25 (by kernel_rfl)) (fun _ h => by cases h)
              have t10 : a.tmps.getD 10 undef = .int .i64 (j : Int) := (H.old 10 (by kernel_rfl)).trans rfl
              exact step7_value (i := 28) rfl (wanted_at (j := 25) (d := 89) (b := false) rfl (by kernel_rfl) t89) (run_op_move rfl t10) (calm7 (fun fs vs x y h hl => OfJ.later h hl) (by kernel_rfl) (by kernel_rfl) hj (later_refl _)) rfl
            · intro listed a W H hj hl hd
              have t89 : a.tmps.getD 89 undef = .bool false := H.get 25 89 (by kernel_rfl) (dep_of hd 25 (by kernel_rfl)) (fun _ h => by cases h)
              have d91 : listed.getD 27 false = true := dep_of hd 27 (by kernel_rfl)
              have t92 : a.tmps.getD 92 undef = .int .i64 (j : Int) := H.get 28 92 (by kernel_rfl) (dep_of hd 28 (by kernel_rfl)) (fun _ h => by cases h)
              have d91 : listed.getD 27 false = true := dep_of hd 27 (by kernel_rfl)
              have f2 : (flags [18, 20, 27, 29] listed).getD 2 false = true := done_true d91
              obtain ⟨A9, c9, e9, l9⟩ := hj.o2 f2
              obtain ⟨ad9, q9, b9, v9, _⟩ := rb_cells l9 hlt2
              subst q9
              rw [HBV.out] at v9
              have e9a : a.tmps.getD 91 undef = .slice (some ad9) n c9 := e9
              have hk9 := hj.place2 (ad := ad9.add (j * 5)) (by rw [addr_block]; exact b9) v9
              rw [← flags_put (m := 29) 3 rfl (by decide), ← slots_at (a := a) (d := 93) 3 rfl (by decide) (by rw [H.size]; exact of_decide_eq_true (by kernel_rfl))] at hk9
              exact step7_value (i := 29) rfl (wanted_at (j := 25) (d := 89) (b := false) rfl (by kernel_rfl) t89) (run_op_index rfl e9a t92 (run_index_rb ad9 n c9 j hlt2 W)) hk9 trivial
            · intro listed a W H hj hl hd
              have t89 : a.tmps.getD 89 undef = .bool false := H.get 25 89 (by kernel_rfl) (dep_of hd 25 (by kernel_rfl)) (fun _ h => by cases h)
              have d93 : listed.getD 29 false = true := dep_of hd 29 (by kernel_rfl)
              have d93 : listed.getD 29 false = true := dep_of hd 29 (by kernel_rfl)
              have f3 : (flags [18, 20, 27, 29] listed).getD 3 false = true := done_true d93
              obtain ⟨ad9, e9, b9, v9⟩ := hj.p2 f3
              have e9a : a.tmps.getD 93 undef = .pointer (some ad9) := e9
              exact step7_value (i := 30) rfl (wanted_at (j := 25) (d := 89) (b := false) rfl (by kernel_rfl) t89) (run_op_load rfl e9a (run_load_rb _ _ W v9)) (calm7 (fun fs vs x y h hl => OfJ.later h hl) (by kernel_rfl) (by kernel_rfl) hj (later_refl _)) rfl
            · intro listed a W H hj hl hd
              have t89 : a.tmps.getD 89 undef = .bool false := H.get 25 89 (by kernel_rfl) (dep_of hd 25 (by kernel_rfl)) (fun _ h => by cases h)
              have t94 : a.tmps.getD 94 undef = vblkV b := H.get 30 94 (by kernel_rfl) (dep_of hd 30 (by kernel_rfl)) (fun _ h => by cases h)
              refine step7_call (i := 31) rfl (wanted_at (j := 25) (d := 89) (b := false) rfl (by kernel_rfl) t89) (run_op_call (vs := #[vblkV b]) Try.func16 (by kernel_rfl) (by kernel_rfl) rfl (by simp only [List.map_toArray, List.map_cons, List.map_nil]; show #[a.tmps.getD 94 undef] = _; rw [t94])) ?_
              refine (rmay_any b W).mono ?_
              rintro e w' ⟨rfl, hb⟩
              refine ⟨_, rfl, (calm7 (fun fs vs x y h hl => OfJ.later h hl) (by kernel_rfl) (by kernel_rfl) hj hb.out), ?_⟩
              show Value.bool _ = _; rw [HMB.out]
            · intro listed a W H hj hl hd
              have t89 : a.tmps.getD 89 undef = .bool false := H.get 25 89 (by kernel_rfl) (dep_of hd 25 (by kernel_rfl)) (fun _ h => by cases h)
              have t95 : a.tmps.getD 95 undef = .bool true := H.get 31 95 (by kernel_rfl) (dep_of hd 31 (by kernel_rfl)) (fun _ h => by cases h)
              exact step7_value (i := 32) rfl (wanted_at (j := 25) (d := 89) (b := false) rfl (by kernel_rfl) t89) (run_op_move rfl t95) (calm7 (fun fs vs x y h hl => OfJ.later h hl) (by kernel_rfl) (by kernel_rfl) hj (later_refl _)) rfl
            · intro listed a W H hj hl hd
              have t96 : a.tmps.getD 96 undef = .bool true := H.get 32 96 (by kernel_rfl) (dep_of hd 32 (by kernel_rfl)) (fun _ h => by cases h)
              have t0 : a.tmps.getD 0 undef = .slice A n c := (H.old 0 (by kernel_rfl)).trans rfl
              exact step7_value (i := 33) rfl (wanted_at (j := 32) (d := 96) (b := true) rfl (by kernel_rfl) t96) (run_op_move rfl t0) (calm7 (fun fs vs x y h hl => OfJ.later h hl) (by kernel_rfl) (by kernel_rfl) hj (later_refl _)) rfl
            · intro listed a W H hj hl hd
              have t96 : a.tmps.getD 96 undef = .bool true := H.get 32 96 (by kernel_rfl) (dep_of hd 32 (by kernel_rfl)) (fun _ h => by cases h)
              have t10 : a.tmps.getD 10 undef = .int .i64 (j : Int) := (H.old 10 (by kernel_rfl)).trans rfl
              exact step7_value (i := 34) rfl (wanted_at (j := 32) (d := 96) (b := true) rfl (by kernel_rfl) t96) (run_op_move rfl t10) (calm7 (fun fs vs x y h hl => OfJ.later h hl) (by kernel_rfl) (by kernel_rfl) hj (later_refl _)) rfl
            · intro listed a W H hj hl hd
              have t96 : a.tmps.getD 96 undef = .bool true := H.get 32 96 (by kernel_rfl) (dep_of hd 32 (by kernel_rfl)) (fun _ h => by cases h)
              have t97 : a.tmps.getD 97 undef = .slice A n c := H.get 33 97 (by kernel_rfl) (dep_of hd 33 (by kernel_rfl)) (fun _ h => by cases h)
              have t98 : a.tmps.getD 98 undef = .int .i64 (j : Int) := H.get 34 98 (by kernel_rfl) (dep_of hd 34 (by kernel_rfl)) (fun _ h => by cases h)
              exact step7_value (i := 35) rfl (wanted_at (j := 32) (d := 96) (b := true) rfl (by kernel_rfl) t96) (run_op_index rfl t97 t98 (by rw [EA.out]; exact run_index_vb ad n c j hlt2 W)) (calm7 (fun fs vs x y h hl => OfJ.later h hl) (by kernel_rfl) (by kernel_rfl) hj (later_refl _)) rfl
            · intro listed a W H hj hl hd
              have t96 : a.tmps.getD 96 undef = .bool true := H.get 32 96 (by kernel_rfl) (dep_of hd 32 (by kernel_rfl)) (fun _ h => by cases h)
              have t99 : a.tmps.getD 99 undef = .pointer (some (ad.add (j * 5))) := H.get 35 99 (by kernel_rfl) (dep_of hd 35 (by kernel_rfl)) (fun _ h => by cases h)
              exact step7_value (i := 36) rfl (wanted_at (j := 32) (d := 96) (b := true) rfl (by kernel_rfl) t96) (run_op_load rfl t99 (run_load_vb _ _ W (HV.out.since hj.below HPB.out))) (calm7 (fun fs vs x y h hl => OfJ.later h hl) (by kernel_rfl) (by kernel_rfl) hj (later_refl _)) rfl
            · intro listed a W H hj hl hd
              have t96 : a.tmps.getD 96 undef = .bool true := H.get 32 96 (by kernel_rfl) (dep_of hd 32 (by kernel_rfl)) (fun _ h => by cases h)
              have t100 : a.tmps.getD 100 undef = vblkV b := H.get 36 100 (by kernel_rfl) (dep_of hd 36 (by kernel_rfl)) (fun _ h => by cases h)
              refine step7_call (i := 37) rfl (wanted_at (j := 32) (d := 96) (b := true) rfl (by kernel_rfl) t96) (run_op_call (vs := #[vblkV b]) Try.func17 (by kernel_rfl) (by kernel_rfl) rfl (by simp only [List.map_toArray, List.map_cons, List.map_nil]; show #[a.tmps.getD 100 undef] = _; rw [t100])) ?_
              refine (vcost_any b W HMB.out).mono ?_
              rintro e w' ⟨rfl, hb⟩
              refine ⟨_, rfl, (calm7 (fun fs vs x y h hl => OfJ.later h hl) (by kernel_rfl) (by kernel_rfl) hj hb.out), ?_⟩
              rfl
            · intro listed a W H hj hl hd
              have t96 : a.tmps.getD 96 undef = .bool true := H.get 32 96 (by kernel_rfl) (dep_of hd 32 (by kernel_rfl)) (fun _ h => by cases h)
              have t0 : a.tmps.getD 0 undef = .slice A n c := (H.old 0 (by kernel_rfl)).trans rfl
              exact step7_value (i := 38) rfl (wanted_at (j := 32) (d := 96) (b := true) rfl (by kernel_rfl) t96) (run_op_move rfl t0) (calm7 (fun fs vs x y h hl => OfJ.later h hl) (by kernel_rfl) (by kernel_rfl) hj (later_refl _)) rfl
            · intro listed a W H hj hl hd
              have t96 : a.tmps.getD 96 undef = .bool true := H.get 32 96 (by kernel_rfl) (dep_of hd 32 (by kernel_rfl)) (fun _ h => by cases h)
              have t10 : a.tmps.getD 10 undef = .int .i64 (j : Int) := (H.old 10 (by kernel_rfl)).trans rfl
              exact step7_value (i := 39) rfl (wanted_at (j := 32) (d := 96) (b := true) rfl (by kernel_rfl) t96) (run_op_move rfl t10) (calm7 (fun fs vs x y h hl => OfJ.later h hl) (by kernel_rfl) (by kernel_rfl) hj (later_refl _)) rfl
            · intro listed a W H hj hl hd
              have t96 : a.tmps.getD 96 undef = .bool true := H.get 32 96 (by kernel_rfl) (dep_of hd 32 (by kernel_rfl)) (fun _ h => by cases h)
              have t102 : a.tmps.getD 102 undef = .slice A n c := H.get 38 102 (by kernel_rfl) (dep_of hd 38 (by kernel_rfl)) (fun _ h => by cases h)
              have t103 : a.tmps.getD 103 undef = .int .i64 (j : Int) := H.get 39 103 (by kernel_rfl) (dep_of hd 39 (by kernel_rfl)) (fun _ h => by cases h)
              exact step7_value (i := 40) rfl (wanted_at (j := 32) (d := 96) (b := true) rfl (by kernel_rfl) t96) (run_op_index rfl t102 t103 (by rw [EA.out]; exact run_index_vb ad n c j hlt2 W)) (calm7 (fun fs vs x y h hl => OfJ.later h hl) (by kernel_rfl) (by kernel_rfl) hj (later_refl _)) rfl
            · intro listed a W H hj hl hd
              have t96 : a.tmps.getD 96 undef = .bool true := H.get 32 96 (by kernel_rfl) (dep_of hd 32 (by kernel_rfl)) (fun _ h => by cases h)
              have t104 : a.tmps.getD 104 undef = .pointer (some (ad.add (j * 5))) := H.get 40 104 (by kernel_rfl) (dep_of hd 40 (by kernel_rfl)) (fun _ h => by cases h)
              exact step7_value (i := 41) rfl (wanted_at (j := 32) (d := 96) (b := true) rfl (by kernel_rfl) t96) (run_op_fieldAddr rfl t104 (by go_simp)) (calm7 (fun fs vs x y h hl => OfJ.later h hl) (by kernel_rfl) (by kernel_rfl) hj (later_refl _)) rfl
            · intro listed a W H hj hl hd
              have t96 : a.tmps.getD 96 undef = .bool true := H.get 32 96 (by kernel_rfl) (dep_of hd 32 (by kernel_rfl)) (fun _ h => by cases h)
              have t105 : a.tmps.getD 105 undef = .pointer (some ⟨(ad.add (j * 5)).block, (ad.add (j * 5)).off + 2, none⟩) := H.get 41 105 (by kernel_rfl) (dep_of hd 41 (by kernel_rfl)) (fun _ h => by cases h)
              exact step7_value (i := 42) rfl (wanted_at (j := 32) (d := 96) (b := true) rfl (by kernel_rfl) t96) (run_op_load rfl t105 (run_load_i _ _ W (HV.out.since hj.below HPB.out).c2)) (calm7 (fun fs vs x y h hl => OfJ.later h hl) (by kernel_rfl) (by kernel_rfl) hj (later_refl _)) rfl
            · intro listed a W H hj hl hd
              have t96 : a.tmps.getD 96 undef = .bool true := H.get 32 96 (by kernel_rfl) (dep_of hd 32 (by kernel_rfl)) (fun _ h => by cases h)
              have t101 : a.tmps.getD 101 undef = .int .i64 b.di := H.get 37 101 (by kernel_rfl) (dep_of hd 37 (by kernel_rfl)) (fun _ h => by cases h)
              have t106 : a.tmps.getD 106 undef = .int .i64 b.di := H.get 42 106 (by kernel_rfl) (dep_of hd 42 (by kernel_rfl)) (fun _ h => by cases h)
              exact step7_value (i := 43) rfl (wanted_at (j := 32) (d := 96) (b := true) rfl (by kernel_rfl) t96) (run_op_bin rfl t101 t106 (bin_neq _ _ _ b.di b.di false (by simp))) (calm7 (fun fs vs x y h hl => OfJ.later h hl) (by kernel_rfl) (by kernel_rfl) hj (later_refl _)) rfl
            · intro listed a W H hj hl hd
              have t89 : a.tmps.getD 89 undef = .bool false := H.get 25 89 (by kernel_rfl) (dep_of hd 25 (by kernel_rfl)) (fun _ h => by cases h)
              have t96 : a.tmps.getD 96 undef = .bool true := H.get 32 96 (by kernel_rfl) (dep_of hd 32 (by kernel_rfl)) (fun _ h => by cases h)
              have t107 : a.tmps.getD 107 undef = .bool false := H.get 43 107 (by kernel_rfl) (dep_of hd 43 (by kernel_rfl)) (fun _ h => by cases h)
              exact step7_value (i := 44) rfl (wanted_at (j := 25) (d := 89) (b := false) rfl (by kernel_rfl) t89) (run_op_pick rfl t96 t107) (calm7 (fun fs vs x y h hl => OfJ.later h hl) (by kernel_rfl) (by kernel_rfl) hj (later_refl _)) rfl
            · intro listed a W H hj hl hd
              have t89 : a.tmps.getD 89 undef = .bool false := H.get 25 89 (by kernel_rfl) (dep_of hd 25 (by kernel_rfl)) (fun _ h => by cases h)
              have t108 : a.tmps.getD 108 undef = .bool false := H.get 44 108 (by kernel_rfl) (dep_of hd 44 (by kernel_rfl)) (fun _ h => by cases h)
              exact step7_value (i := 45) rfl rfl (run_op_pickF rfl t89 t108) (calm7 (fun fs vs x y h hl => OfJ.later h hl) (by kernel_rfl) (by kernel_rfl) hj (later_refl _)) rfl
          · intro a WC hdef hsz hw hall hact
            obtain ⟨u, hu⟩ : ∃ u : Nat → Value, ∀ k, a.tmps.getD k undef = u k := ⟨_, fun _ => rfl⟩
            have h109 : u 109 = .bool false := by rw [← hu]; exact hall 45 _ rfl
            simp only [hu] at hact
            have hact' : a = ([64, 65, 66, 67, 68, 69, 70, 71, 72, 73, 74, 75, 76, 77, 78, 79, 80, 81, 82, 83, 84, 85, 86, 87, 88, 89, 90, 91, 92, 93, 94, 95, 96, 97, 98, 99, 100, 101, 102, 103, 104, 105, 106, 107, 108, 109] : List Nat).foldl (fun b k => b.put (some k) (u k)) _ := hact
            simp only [List.foldl] at hact'
            simp only [Act.put, List.setIfInBounds_toArray, List.set_cons_succ, List.set_cons_zero] at hact'
            have HAC := Lib.hid hact'
            have HX := Lib.hid hw
            clear hact hact' hall hdef hsz hw
            rw [h109] at HAC
            rw [HAC.out]
            have S9 := Lib.hid (below_chain HLW.out HX.out.below)
            clear HX HWE hu HLW HV HV2 HWF HPB HPB2 EA EA2 HAE HG HMB HBV
            go_wp2_with fail
            go_roundw
            case rel => exact ⟨j + 1, by go_num, by omega, S9⟩
            case measure => simp [intOf]; omega
        | false =>
          refine region_of_steps7 (by kernel_rfl) [some (.slice A n c), some (.int .i64 (j : Int)), some (.pointer (some (ad.add (j * 5)))), some (vblkV b), some (.slice A1 n c1), some (.int .i64 (j : Int)), some (.pointer (some (ad2.add (j * 5)))), some (vblkV b), some (.bool false), some (.bool false), some (.int .i64 x1), some (.slice A n c), some (.int .i64 (j : Int)), some (.pointer (some (ad.add (j * 5)))), some (vblkV b), some (.int .i64 G), some (.int .i64 x1), some (.slice A n c), none, some (.int .i64 (j : Int)), none, some (vblkV b), some (.int .i64 G), some (.bool false), some (.bool false), some (.bool false), some (.slice A n c), none, some (.int .i64 (j : Int)), none, some (vblkV b), some (.bool false), some (.bool false), some undef, some undef, some undef, some undef, some undef, some undef, some undef, some undef, some undef, some undef, some undef, some (.bool false), some (.bool false)] [18, 20, 27, 29] [82, 84, 91, 93] (OfJ WE n bs b) (by kernel_rfl) (by kernel_rfl) (by rw [← HWE.out]; exact OfJ.start (by rw [slots_len]; rfl)) ?_ ?_
          · refine Steps7.cons ?_ (Steps7.cons ?_ (Steps7.cons ?_ (Steps7.cons ?_ (Steps7.cons ?_ (Steps7.cons ?_ (Steps7.cons ?_ (Steps7.cons ?_ (Steps7.cons ?_ (Steps7.cons ?_ (Steps7.cons ?_ (Steps7.cons ?_ (Steps7.cons ?_ (Steps7.cons ?_ (Steps7.cons ?_ (Steps7.cons ?_ (Steps7.cons ?_ (Steps7.cons ?_ (Steps7.cons ?_ (Steps7.cons ?_ (Steps7.cons ?_ (Steps7.cons ?_ (Steps7.cons ?_ (Steps7.cons ?_ (Steps7.cons ?_ (Steps7.cons ?_ (Steps7.cons ?_ (Steps7.cons ?_ (Steps7.cons ?_ (Steps7.cons ?_ (Steps7.cons ?_ (Steps7.cons ?_ (Steps7.cons ?_ (Steps7.cons ?_ (Steps7.cons ?_ (Steps7.cons ?_ (Steps7.cons ?_ (Steps7.cons ?_ (Steps7.cons ?_ (Steps7.cons ?_ (Steps7.cons ?_ (Steps7.cons ?_ (Steps7.cons ?_ (Steps7.cons ?_ (Steps7.cons ?_ (Steps7.cons ?_ (Steps7.nil))))))))))))))))))))))))))))))))))))))))))))))
            · intro listed a W H hj hl hd
              have t0 : a.tmps.getD 0 undef = .slice A n c := (H.old 0 (by kernel_rfl)).trans rfl
              exact step7_value (i := 0) rfl rfl (run_op_move rfl t0) (calm7 (fun fs vs x y h hl => OfJ.later h hl) (by kernel_rfl) (by kernel_rfl) hj (later_refl _)) rfl
            · intro listed a W H hj hl hd
              have t10 : a.tmps.getD 10 undef = .int .i64 (j : Int) := (H.old 10 (by kernel_rfl)).trans rfl
              exact step7_value (i := 1) rfl rfl (run_op_move rfl t10) (calm7 (fun fs vs x y h hl => OfJ.later h hl) (by kernel_rfl) (by kernel_rfl) hj (later_refl _)) rfl
            · intro listed a W H hj hl hd
              have t64 : a.tmps.getD 64 undef = .slice A n c := H.get 0 64 (by kernel_rfl) (dep_of hd 0 (by kernel_rfl)) (fun _ h => by cases h)
              have t65 : a.tmps.getD 65 undef = .int .i64 (j : Int) := H.get 1 65 (by kernel_rfl) (dep_of hd 1 (by kernel_rfl)) (fun _ h => by cases h)
              exact step7_value (i := 2) rfl rfl (run_op_index rfl t64 t65 (by rw [EA.out]; exact run_index_vb ad n c j hlt2 W)) (calm7 (fun fs vs x y h hl => OfJ.later h hl) (by kernel_rfl) (by kernel_rfl) hj (later_refl _)) rfl
            · intro listed a W H hj hl hd
              have t66 : a.tmps.getD 66 undef = .pointer (some (ad.add (j * 5))) := H.get 2 66 (by kernel_rfl) (dep_of hd 2 (by kernel_rfl)) (fun _ h => by cases h)
              exact step7_value (i := 3) rfl rfl (run_op_load rfl t66 (run_load_vb _ _ W (HV.out.since hj.below HPB.out))) (calm7 (fun fs vs x y h hl => OfJ.later h hl) (by kernel_rfl) (by kernel_rfl) hj (later_refl _)) rfl
            · intro listed a W H hj hl hd
              have t5 : a.tmps.getD 5 undef = .slice A1 n c1 := (H.old 5 (by kernel_rfl)).trans rfl
              exact step7_value (i := 4) rfl rfl (run_op_move rfl t5) (calm7 (fun fs vs x y h hl => OfJ.later h hl) (by kernel_rfl) (by kernel_rfl) hj (later_refl _)) rfl
            · intro listed a W H hj hl hd
              have t10 : a.tmps.getD 10 undef = .int .i64 (j : Int) := (H.old 10 (by kernel_rfl)).trans rfl
              exact step7_value (i := 5) rfl rfl (run_op_move rfl t10) (calm7 (fun fs vs x y h hl => OfJ.later h hl) (by kernel_rfl) (by kernel_rfl) hj (later_refl _)) rfl
            · intro listed a W H hj hl hd
              have t68 : a.tmps.getD 68 undef = .slice A1 n c1 := H.get 4 68 (by kernel_rfl) (dep_of hd 4 (by kernel_rfl)) (fun _ h => by cases h)
              have t69 : a.tmps.getD 69 undef = .int .i64 (j : Int) := H.get 5 69 (by kernel_rfl) (dep_of hd 5 (by kernel_rfl)) (fun _ h => by cases h)
              exact step7_value (i := 6) rfl rfl (run_op_index rfl t68 t69 (by rw [EA2.out]; exact run_index_vb ad2 n c1 j hlt2 W)) (calm7 (fun fs vs x y h hl => OfJ.later h hl) (by kernel_rfl) (by kernel_rfl) hj (later_refl _)) rfl
            · intro listed a W H hj hl hd
              have t70 : a.tmps.getD 70 undef = .pointer (some (ad2.add (j * 5))) := H.get 6 70 (by kernel_rfl) (dep_of hd 6 (by kernel_rfl)) (fun _ h => by cases h)
              exact step7_value (i := 7) rfl rfl (run_op_load rfl t70 (run_load_vb _ _ W (HV2.out.since hj.below HPB2.out))) (calm7 (fun fs vs x y h hl => OfJ.later h hl) (by kernel_rfl) (by kernel_rfl) hj (later_refl _)) rfl
            · intro listed a W H hj hl hd
              have t67 : a.tmps.getD 67 undef = vblkV b := H.get 3 67 (by kernel_rfl) (dep_of hd 3 (by kernel_rfl)) (fun _ h => by cases h)
              have t71 : a.tmps.getD 71 undef = vblkV b := H.get 7 71 (by kernel_rfl) (dep_of hd 7 (by kernel_rfl)) (fun _ h => by cases h)
              exact step7_value (i := 8) rfl rfl (run_op_bin rfl t67 t71 (run_neq_vb _ _ _ W)) (calm7 (fun fs vs x y h hl => OfJ.later h hl) (by kernel_rfl) (by kernel_rfl) hj (later_refl _)) rfl
            · intro listed a W H hj hl hd
              have t72 : a.tmps.getD 72 undef = .bool false := H.get 8 72 (by kernel_rfl) (dep_of hd 8 (by kernel_rfl)) (fun _ h => by cases h)
              exact step7_value (i := 9) rfl rfl (run_op_move rfl t72) (calm7 (fun fs vs x y h hl => OfJ.later h hl) (by kernel_rfl) (by kernel_rfl) hj (later_refl _)) rfl
            · intro listed a W H hj hl hd
              have t73 : a.tmps.getD 73 undef = .bool false := H.get 9 73 (by kernel_rfl) (dep_of hd 9 (by kernel_rfl)) (fun _ h => by cases h)
              have t1 : a.tmps.getD 1 undef = .int .i64 x1 := (H.old 1 (by kernel_rfl)).trans rfl
              exact step7_value (i := 10) rfl (wanted_at (j := 9) (d := 73) (b := false) rfl (by kernel_rfl) t73) (run_op_move rfl t1) (calm7 (fun fs vs x y h hl => OfJ.later h hl) (by kernel_rfl) (by kernel_rfl) hj (later_refl _)) rfl
            · intro listed a W H hj hl hd
              have t73 : a.tmps.getD 73 undef = .bool false := H.get 9 73 (by kernel_rfl) (dep_of hd 9 (by kernel_rfl)) (fun _ h => by cases h)
              have t0 : a.tmps.getD 0 undef = .slice A n c := (H.old 0 (by kernel_rfl)).trans rfl
              exact step7_value (i := 11) rfl (wanted_at (j := 9) (d := 73) (b := false) rfl (by kernel_rfl) t73) (run_op_move rfl t0) (calm7 (fun fs vs x y h hl => OfJ.later h hl) (by kernel_rfl) (by kernel_rfl) hj (later_refl _)) rfl
            · intro listed a W H hj hl hd
              have t73 : a.tmps.getD 73 undef = .bool false := H.get 9 73 (by kernel_rfl) (dep_of hd 9 (by kernel_rfl)) (fun _ h => by cases h)
              have t10 : a.tmps.getD 10 undef = .int .i64 (j : Int) := (H.old 10 (by kernel_rfl)).trans rfl
              exact step7_value (i := 12) rfl (wanted_at (j := 9) (d := 73) (b := false) rfl (by kernel_rfl) t73) (run_op_move rfl t10) (calm7 (fun fs vs x y h hl => OfJ.later h hl) (by kernel_rfl) (by kernel_rfl) hj (later_refl _)) rfl
            · intro listed a W H hj hl hd
              have t73 : a.tmps.getD 73 undef = .bool false := H.get 9 73 (by kernel_rfl) (dep_of hd 9 (by kernel_rfl)) (fun _ h => by cases h)
              have t75 : a.tmps.getD 75 undef = .slice A n c := H.get 11 75 (by kernel_rfl) (dep_of hd 11 (by kernel_rfl)) (fun _ h => by cases h)
              have t76 : a.tmps.getD 76 undef = .int .i64 (j : Int) := H.get 12 76 (by kernel_rfl) (dep_of hd 12 (by kernel_rfl)) (fun _ h => by cases h)
              exact step7_value (i := 13) rfl (wanted_at (j := 9) (d := 73) (b := false) rfl (by kernel_rfl) t73) (run_op_index rfl t75 t76 (by rw [EA.out]; exact run_index_vb ad n c j hlt2 W)) (calm7 (fun fs vs x y h hl => OfJ.later h hl) (by kernel_rfl) (by kernel_rfl) hj (later_refl _)) rfl
            · intro listed a W H hj hl hd
              have t73 : a.tmps.getD 73 undef = .bool false := H.get 9 73 (by kernel_rfl) (dep_of hd 9 (by kernel_rfl)) (fun _ h => by cases h)
              have t77 : a.tmps.getD 77 undef = .pointer (some (ad.add (j * 5))) := H.get 13 77 (by kernel_rfl) (dep_of hd 13 (by kernel_rfl)) (fun _ h => by cases h)
              exact step7_value (i := 14) rfl (wanted_at (j := 9) (d := 73) (b := false) rfl (by kernel_rfl) t73) (run_op_load rfl t77 (run_load_vb _ _ W (HV.out.since hj.below HPB.out))) (calm7 (fun fs vs x y h hl => OfJ.later h hl) (by kernel_rfl) (by kernel_rfl) hj (later_refl _)) rfl
            · intro listed a W H hj hl hd
              have t73 : a.tmps.getD 73 undef = .bool false := H.get 9 73 (by kernel_rfl) (dep_of hd 9 (by kernel_rfl)) (fun _ h => by cases h)
              have t74 : a.tmps.getD 74 undef = .int .i64 x1 := H.get 10 74 (by kernel_rfl) (dep_of hd 10 (by kernel_rfl)) (fun _ h => by cases h)
              have t78 : a.tmps.getD 78 undef = vblkV b := H.get 14 78 (by kernel_rfl) (dep_of hd 14 (by kernel_rfl)) (fun _ h => by cases h)
              refine step7_call (i := 15) rfl (wanted_at (j := 9) (d := 73) (b := false) rfl (by kernel_rfl) t73) (run_op_call (vs := #[.int .i64 x1, vblkV b]) Try.func14 (by kernel_rfl) (by kernel_rfl) rfl (by simp only [List.map_toArray, List.map_cons, List.map_nil]; show #[a.tmps.getD 74 undef, a.tmps.getD 78 undef] = _; rw [t74, t78])) ?_
              refine (vgain_any x1 b W HWF.out).mono ?_
              rintro e w' ⟨rfl, hb⟩
              refine ⟨_, rfl, (calm7 (fun fs vs x y h hl => OfJ.later h hl) (by kernel_rfl) (by kernel_rfl) hj hb.out), ?_⟩
              show Value.int IntKind.i64 _ = _; rw [HG.out]
            · intro listed a W H hj hl hd
              have t73 : a.tmps.getD 73 undef = .bool false := H.get 9 73 (by kernel_rfl) (dep_of hd 9 (by kernel_rfl)) (fun _ h => by cases h)
              have t1 : a.tmps.getD 1 undef = .int .i64 x1 := (H.old 1 (by kernel_rfl)).trans rfl
              exact step7_value (i := 16) rfl (wanted_at (j := 9) (d := 73) (b := false) rfl (by kernel_rfl) t73) (run_op_move rfl t1) (calm7 (fun fs vs x y h hl => OfJ.later h hl) (by kernel_rfl) (by kernel_rfl) hj (later_refl _)) rfl
            · intro listed a W H hj hl hd
              have t73 : a.tmps.getD 73 undef = .bool false := H.get 9 73 (by kernel_rfl) (dep_of hd 9 (by kernel_rfl)) (fun _ h => by cases h)
              have t0 : a.tmps.getD 0 undef = .slice A n c := (H.old 0 (by kernel_rfl)).trans rfl
              exact step7_value (i := 17) rfl (wanted_at (j := 9) (d := 73) (b := false) rfl (by kernel_rfl) t73) (run_op_move rfl t0) (calm7 (fun fs vs x y h hl => OfJ.later h hl) (by kernel_rfl) (by kernel_rfl) hj (later_refl _)) rfl
            · intro listed a W H hj hl hd
              have t73 : a.tmps.getD 73 undef = .bool false := H.get 9 73 (by kernel_rfl) (dep_of hd 9 (by kernel_rfl)) (fun _ h => by cases h)
              have t81 : a.tmps.getD 81 undef = .slice A n c := H.get 17 81 (by kernel_rfl) (dep_of hd 17 (by kernel_rfl)) (fun _ h => by cases h)
              refine step7_call (i := 18) rfl (wanted_at (j := 9) (d := 73) (b := false) rfl (by kernel_rfl) t73) (run_op_call (vs := #[.slice A n c]) Try.func10 (by kernel_rfl) (by kernel_rfl) rfl (by simp only [List.map_toArray, List.map_cons, List.map_nil]; show #[a.tmps.getD 81 undef] = _; rw [t81])) ?_
              refine (of_any A n c bs W (by omega) (HAE.out.since hj.below)).mono ?_
              rintro e w' ⟨A9, m9, c9, rfl, ho9, hb9⟩
              obtain rfl : n = m9 := HNL.out.symm.trans ho9.out.len
              have hk9 := (hj.later hb9.out).first (c := c9) ho9.out.lie
              rw [← flags_put (m := 18) 0 rfl (by decide), ← slots_at (a := a) (d := 82) 0 rfl (by decide) (by rw [H.size]; exact of_decide_eq_true (by kernel_rfl))] at hk9
              exact ⟨_, rfl, hk9, trivial⟩
            · intro listed a W H hj hl hd
              have t73 : a.tmps.getD 73 undef = .bool false := H.get 9 73 (by kernel_rfl) (dep_of hd 9 (by kernel_rfl)) (fun _ h => by cases h)
              have t10 : a.tmps.getD 10 undef = .int .i64 (j : Int) := (H.old 10 (by kernel_rfl)).trans rfl
              exact step7_value (i := 19) rfl (wanted_at (j := 9) (d := 73) (b := false) rfl (by kernel_rfl) t73) (run_op_move rfl t10) (calm7 (fun fs vs x y h hl => OfJ.later h hl) (by kernel_rfl) (by kernel_rfl) hj (later_refl _)) rfl
            · intro listed a W H hj hl hd
              have t73 : a.tmps.getD 73 undef = .bool false := H.get 9 73 (by kernel_rfl) (dep_of hd 9 (by kernel_rfl)) (fun _ h => by cases h)
              have d82 : listed.getD 18 false = true := dep_of hd 18 (by kernel_rfl)
              have t83 : a.tmps.getD 83 undef = .int .i64 (j : Int) := H.get 19 83 (by kernel_rfl) (dep_of hd 19 (by kernel_rfl)) (fun _ h => by cases h)
              have d82 : listed.getD 18 false = true := dep_of hd 18 (by kernel_rfl)
              have f0 : (flags [18, 20, 27, 29] listed).getD 0 false = true := done_true d82
              obtain ⟨A9, c9, e9, l9⟩ := hj.o1 f0
              obtain ⟨ad9, q9, b9, v9, _⟩ := rb_cells l9 hlt2
              subst q9
              rw [HBV.out] at v9
              have e9a : a.tmps.getD 82 undef = .slice (some ad9) n c9 := e9
              have hk9 := hj.place1 (ad := ad9.add (j * 5)) (by rw [addr_block]; exact b9) v9
              rw [← flags_put (m := 20) 1 rfl (by decide), ← slots_at (a := a) (d := 84) 1 rfl (by decide) (by rw [H.size]; exact of_decide_eq_true (by kernel_rfl))] at hk9
              exact step7_value (i := 20) rfl (wanted_at (j := 9) (d := 73) (b := false) rfl (by kernel_rfl) t73) (run_op_index rfl e9a t83 (run_index_rb ad9 n c9 j hlt2 W)) hk9 trivial
            · intro listed a W H hj hl hd
              have t73 : a.tmps.getD 73 undef = .bool false := H.get 9 73 (by kernel_rfl) (dep_of hd 9 (by kernel_rfl)) (fun _ h => by cases h)
              have d84 : listed.getD 20 false = true := dep_of hd 20 (by kernel_rfl)
              have d84 : listed.getD 20 false = true := dep_of hd 20 (by kernel_rfl)
              have f1 : (flags [18, 20, 27, 29] listed).getD 1 false = true := done_true d84
              obtain ⟨ad9, e9, b9, v9⟩ := hj.p1 f1
              have e9a : a.tmps.getD 84 undef = .pointer (some ad9) := e9
              exact step7_value (i := 21) rfl (wanted_at (j := 9) (d := 73) (b := false) rfl (by kernel_rfl) t73) (run_op_load rfl e9a (run_load_rb _ _ W v9)) (calm7 (fun fs vs x y h hl => OfJ.later h hl) (by kernel_rfl) (by kernel_rfl) hj (later_refl _)) rfl
            · intro listed a W H hj hl hd
              have t73 : a.tmps.getD 73 undef = .bool false := H.get 9 73 (by kernel_rfl) (dep_of hd 9 (by kernel_rfl)) (fun _ h => by cases h)
              have t80 : a.tmps.getD 80 undef = .int .i64 x1 := H.get 16 80 (by kernel_rfl) (dep_of hd 16 (by kernel_rfl)) (fun _ h => by cases h)
              have t85 : a.tmps.getD 85 undef = vblkV b := H.get 21 85 (by kernel_rfl) (dep_of hd 21 (by kernel_rfl)) (fun _ h => by cases h)
              refine step7_call (i := 22) rfl (wanted_at (j := 9) (d := 73) (b := false) rfl (by kernel_rfl) t73) (run_op_call (vs := #[.int .i64 x1, vblkV b]) Try.func15 (by kernel_rfl) (by kernel_rfl) rfl (by simp only [List.map_toArray, List.map_cons, List.map_nil]; show #[a.tmps.getD 80 undef, a.tmps.getD 85 undef] = _; rw [t80, t85])) ?_
              refine (rgain_any x1 b W hx HWF.out).mono ?_
              rintro e w' ⟨rfl, hb⟩
              refine ⟨_, rfl, (calm7 (fun fs vs x y h hl => OfJ.later h hl) (by kernel_rfl) (by kernel_rfl) hj hb.out), ?_⟩
              show Value.int IntKind.i64 _ = _; rw [HG.out]
            · intro listed a W H hj hl hd
              have t73 : a.tmps.getD 73 undef = .bool false := H.get 9 73 (by kernel_rfl) (dep_of hd 9 (by kernel_rfl)) (fun _ h => by cases h)
              have t79 : a.tmps.getD 79 undef = .int .i64 G := H.get 15 79 (by kernel_rfl) (dep_of hd 15 (by kernel_rfl)) (fun _ h => by cases h)
              have t86 : a.tmps.getD 86 undef = .int .i64 G := H.get 22 86 (by kernel_rfl) (dep_of hd 22 (by kernel_rfl)) (fun _ h => by cases h)
              exact step7_value (i := 23) rfl (wanted_at (j := 9) (d := 73) (b := false) rfl (by kernel_rfl) t73) (run_op_bin rfl t79 t86 (bin_neq _ _ _ G G false (by simp))) (calm7 (fun fs vs x y h hl => OfJ.later h hl) (by kernel_rfl) (by kernel_rfl) hj (later_refl _)) rfl
            · intro listed a W H hj hl hd
              have t73 : a.tmps.getD 73 undef = .bool false := H.get 9 73 (by kernel_rfl) (dep_of hd 9 (by kernel_rfl)) (fun _ h => by cases h)
              have t87 : a.tmps.getD 87 undef = .bool false := H.get 23 87 (by kernel_rfl) (dep_of hd 23 (by kernel_rfl)) (fun _ h => by cases h)
              exact step7_value (i := 24) rfl rfl (run_op_pickF rfl t73 t87) (calm7 (fun fs vs x y h hl => OfJ.later h hl) (by kernel_rfl) (by kernel_rfl) hj (later_refl _)) rfl
            · intro listed a W H hj hl hd
              have t88 : a.tmps.getD 88 undef = .bool false := H.get 24 88 (by kernel_rfl) (dep_of hd 24 (by kernel_rfl)) (fun _ h => by cases h)
              exact step7_value (i := 25) rfl rfl (run_op_move rfl t88) (calm7 (fun fs vs x y h hl => OfJ.later h hl) (by kernel_rfl) (by kernel_rfl) hj (later_refl _)) rfl
            · intro listed a W H hj hl hd
              have t89 : a.tmps.getD 89 undef = .bool false := H.get 25 89 (by kernel_rfl) (dep_of hd 25 (by kernel_rfl)) (fun _ h => by cases h)
              have t0 : a.tmps.getD 0 undef = .slice A n c := (H.old 0 (by kernel_rfl)).trans rfl
              exact step7_value (i := 26) rfl (wanted_at (j := 25) (d := 89) (b := false) rfl (by kernel_rfl) t89) (run_op_move rfl t0) (calm7 (fun fs vs x y h hl => OfJ.later h hl) (by kernel_rfl) (by kernel_rfl) hj (later_refl _)) rfl
            · intro listed a W H hj hl hd
              have t89 : a.tmps.getD 89 undef = .bool false := H.get 25 89 (by kernel_rfl) (dep_of hd 25 (by kernel_rfl)) (fun _ h => by cases h)
              have t90 : a.tmps.getD 90 undef = .slice A n c := H.get 26 90 (by kernel_rfl) (dep_of hd 26 (by kernel_rfl)) (fun _ h => by cases h)
              refine step7_call (i := 27) rfl (wanted_at (j := 25) (d := 89) (b := false) rfl (by kernel_rfl) t89) (run_op_call (vs := #[.slice A n c]) Try.func10 (by kernel_rfl) (by kernel_rfl) rfl (by simp only [List.map_toArray, List.map_cons, List.map_nil]; show #[a.tmps.getD 90 undef] = _; rw [t90])) ?_
              refine (of_any A n c bs W (by omega) (HAE.out.since hj.below)).mono ?_
              rintro e w' ⟨A9, m9, c9, rfl, ho9, hb9⟩
              obtain rfl : n = m9 := HNL.out.symm.trans ho9.out.len
              have hk9 := (hj.later hb9.out).second (c := c9) ho9.out.lie
              rw [← flags_put (m := 27) 2 rfl (by decide), ← slots_at (a := a) (d := 91) 2 rfl (by decide) (by rw [H.size]; exact of_decide_eq_true (by kernel_rfl))] at hk9
              exact ⟨_, rfl, hk9, trivial⟩
            · intro listed a W H hj hl hd
              have t89 : a.tmps.getD 89 undef = .bool false := H.get 25 89 (by kernel_rfl) (dep_of hd 25 (by kernel_rfl)) (fun _ h => by cases h)
              have t10 : a.tmps.getD 10 undef = .int .i64 (j : Int) := (H.old 10 (by kernel_rfl)).trans rfl
              exact step7_value (i := 28) rfl (wanted_at (j := 25) (d := 89) (b := false) rfl (by kernel_rfl) t89) (run_op_move rfl t10) (calm7 (fun fs vs x y h hl => OfJ.later h hl) (by kernel_rfl) (by kernel_rfl) hj (later_refl _)) rfl
            · intro listed a W H hj hl hd
              have t89 : a.tmps.getD 89 undef = .bool false := H.get 25 89 (by kernel_rfl) (dep_of hd 25 (by kernel_rfl)) (fun _ h => by cases h)
              have d91 : listed.getD 27 false = true := dep_of hd 27 (by kernel_rfl)
              have t92 : a.tmps.getD 92 undef = .int .i64 (j : Int) := H.get 28 92 (by kernel_rfl) (dep_of hd 28 (by kernel_rfl)) (fun _ h => by cases h)
              have d91 : listed.getD 27 false = true := dep_of hd 27 (by kernel_rfl)
              have f2 : (flags [18, 20, 27, 29] listed).getD 2 false = true := done_true d91
              obtain ⟨A9, c9, e9, l9⟩ := hj.o2 f2
              obtain ⟨ad9, q9, b9, v9, _⟩ := rb_cells l9 hlt2
              subst q9
              rw [HBV.out] at v9
              have e9a : a.tmps.getD 91 undef = .slice (some ad9) n c9 := e9
              have hk9 := hj.place2 (ad := ad9.add (j * 5)) (by rw [addr_block]; exact b9) v9
              rw [← flags_put (m := 29) 3 rfl (by decide), ← slots_at (a := a) (d := 93) 3 rfl (by decide) (by rw [H.size]; exact of_decide_eq_true (by kernel_rfl))] at hk9
              exact step7_value (i := 29) rfl (wanted_at (j := 25) (d := 89) (b := false) rfl (by kernel_rfl) t89) (run_op_index rfl e9a t92 (run_index_rb ad9 n c9 j hlt2 W)) hk9 trivial
            · intro listed a W H hj hl hd
              have t89 : a.tmps.getD 89 undef = .bool false := H.get 25 89 (by kernel_rfl) (dep_of hd 25 (by kernel_rfl)) (fun _ h => by cases h)
              have d93 : listed.getD 29 false = true := dep_of hd 29 (by kernel_rfl)
              have d93 : listed.getD 29 false = true := dep_of hd 29 (by kernel_rfl)
              have f3 : (flags [18, 20, 27, 29] listed).getD 3 false = true := done_true d93
              obtain ⟨ad9, e9, b9, v9⟩ := hj.p2 f3
              have e9a : a.tmps.getD 93 undef = .pointer (some ad9) := e9
              exact step7_value (i := 30) rfl (wanted_at (j := 25) (d := 89) (b := false) rfl (by kernel_rfl) t89) (run_op_load rfl e9a (run_load_rb _ _ W v9)) (calm7 (fun fs vs x y h hl => OfJ.later h hl) (by kernel_rfl) (by kernel_rfl) hj (later_refl _)) rfl
            · intro listed a W H hj hl hd
              have t89 : a.tmps.getD 89 undef = .bool false := H.get 25 89 (by kernel_rfl) (dep_of hd 25 (by kernel_rfl)) (fun _ h => by cases h)
              have t94 : a.tmps.getD 94 undef = vblkV b := H.get 30 94 (by kernel_rfl) (dep_of hd 30 (by kernel_rfl)) (fun _ h => by cases h)
              refine step7_call (i := 31) rfl (wanted_at (j := 25) (d := 89) (b := false) rfl (by kernel_rfl) t89) (run_op_call (vs := #[vblkV b]) Try.func16 (by kernel_rfl) (by kernel_rfl) rfl (by simp only [List.map_toArray, List.map_cons, List.map_nil]; show #[a.tmps.getD 94 undef] = _; rw [t94])) ?_
              refine (rmay_any b W).mono ?_
              rintro e w' ⟨rfl, hb⟩
              refine ⟨_, rfl, (calm7 (fun fs vs x y h hl => OfJ.later h hl) (by kernel_rfl) (by kernel_rfl) hj hb.out), ?_⟩
              show Value.bool _ = _; rw [HMB.out]
            · intro listed a W H hj hl hd
              have t89 : a.tmps.getD 89 undef = .bool false := H.get 25 89 (by kernel_rfl) (dep_of hd 25 (by kernel_rfl)) (fun _ h => by cases h)
              have t95 : a.tmps.getD 95 undef = .bool false := H.get 31 95 (by kernel_rfl) (dep_of hd 31 (by kernel_rfl)) (fun _ h => by cases h)
              exact step7_value (i := 32) rfl (wanted_at (j := 25) (d := 89) (b := false) rfl (by kernel_rfl) t89) (run_op_move rfl t95) (calm7 (fun fs vs x y h hl => OfJ.later h hl) (by kernel_rfl) (by kernel_rfl) hj (later_refl _)) rfl
            · intro listed a W H hj hl hd
              have t96 : a.tmps.getD 96 undef = .bool false := H.get 32 96 (by kernel_rfl) (dep_of hd 32 (by kernel_rfl)) (fun _ h => by cases h)
              exact step7_skip (i := 33) rfl (unwanted_at (j := 32) (d := 96) (b := true) (c := false) rfl (by kernel_rfl) t96 rfl) (calm7 (fun fs vs x y h hl => OfJ.later h hl) (by kernel_rfl) (by kernel_rfl) hj (later_refl _)) rfl
            · intro listed a W H hj hl hd
              have t96 : a.tmps.getD 96 undef = .bool false := H.get 32 96 (by kernel_rfl) (dep_of hd 32 (by kernel_rfl)) (fun _ h => by cases h)
              exact step7_skip (i := 34) rfl (unwanted_at (j := 32) (d := 96) (b := true) (c := false) rfl (by kernel_rfl) t96 rfl) (calm7 (fun fs vs x y h hl => OfJ.later h hl) (by kernel_rfl) (by kernel_rfl) hj (later_refl _)) rfl
            · intro listed a W H hj hl hd
              have t96 : a.tmps.getD 96 undef = .bool false := H.get 32 96 (by kernel_rfl) (dep_of hd 32 (by kernel_rfl)) (fun _ h => by cases h)
              exact step7_skip (i := 35) rfl (unwanted_at (j := 32) (d := 96) (b := true) (c := false) rfl (by kernel_rfl) t96 rfl) (calm7 (fun fs vs x y h hl => OfJ.later h hl) (by kernel_rfl) (by kernel_rfl) hj (later_refl _)) rfl
            · intro listed a W H hj hl hd
              have t96 : a.tmps.getD 96 undef = .bool false := H.get 32 96 (by kernel_rfl) (dep_of hd 32 (by kernel_rfl)) (fun _ h => by cases h)
              exact step7_skip (i := 36) rfl (unwanted_at (j := 32) (d := 96) (b := true) (c := false) rfl (by kernel_rfl) t96 rfl) (calm7 (fun fs vs x y h hl => OfJ.later h hl) (by kernel_rfl) (by kernel_rfl) hj (later_refl _)) rfl
            · intro listed a W H hj hl hd
              have t96 : a.tmps.getD 96 undef = .bool false := H.get 32 96 (by kernel_rfl) (dep_of hd 32 (by kernel_rfl)) (fun _ h => by cases h)
              exact step7_skip (i := 37) rfl (unwanted_at (j := 32) (d := 96) (b := true) (c := false) rfl (by kernel_rfl) t96 rfl) (calm7 (fun fs vs x y h hl => OfJ.later h hl) (by kernel_rfl) (by kernel_rfl) hj (later_refl _)) rfl
            · intro listed a W H hj hl hd
              have t96 : a.tmps.getD 96 undef = .bool false := H.get 32 96 (by kernel_rfl) (dep_of hd 32 (by kernel_rfl)) (fun _ h => by cases h)
              exact step7_skip (i := 38) rfl (unwanted_at (j := 32) (d := 96) (b := true) (c := false) rfl (by kernel_rfl) t96 rfl) (calm7 (fun fs vs x y h hl => OfJ.later h hl) (by kernel_rfl) (by kernel_rfl) hj (later_refl _)) rfl
            · intro listed a W H hj hl hd
              have t96 : a.tmps.getD 96 undef = .bool false := H.get 32 96 (by kernel_rfl) (dep_of hd 32 (by kernel_rfl)) (fun _ h => by cases h)
              exact step7_skip (i := 39) rfl (unwanted_at (j := 32) (d := 96) (b := true) (c := false) rfl (by kernel_rfl) t96 rfl) (calm7 (fun fs vs x y h hl => OfJ.later h hl) (by kernel_rfl) (by kernel_rfl) hj (later_refl _)) rfl
            · intro listed a W H hj hl hd
              have t96 : a.tmps.getD 96 undef = .bool false := H.get 32 96 (by kernel_rfl) (dep_of hd 32 (by kernel_rfl)) (fun _ h => by cases h)
              exact step7_skip (i := 40) rfl (unwanted_at (j := 32) (d := 96) (b := true) (c := false) rfl (by kernel_rfl) t96 rfl) (calm7 (fun fs vs x y h hl => OfJ.later h hl) (by kernel_rfl) (by kernel_rfl) hj (later_refl _)) rfl
            · intro listed a W H hj hl hd
              have t96 : a.tmps.getD 96 undef = .bool false := H.get 32 96 (by kernel_rfl) (dep_of hd 32 (by kernel_rfl)) (fun _ h => by cases h)
              exact step7_skip (i := 41) rfl (unwanted_at (j := 32) (d := 96) (b := true) (c := false) rfl (by kernel_rfl) t96 rfl) (calm7 (fun fs vs x y h hl => OfJ.later h hl) (by kernel_rfl) (by kernel_rfl) hj (later_refl _)) rfl
            · intro listed a W H hj hl hd
              have t96 : a.tmps.getD 96 undef = .bool false := H.get 32 96 (by kernel_rfl) (dep_of hd 32 (by kernel_rfl)) (fun _ h => by cases h)
              exact step7_skip (i := 42) rfl (unwanted_at (j := 32) (d := 96) (b := true) (c := false) rfl (by kernel_rfl) t96 rfl) (calm7 (fun fs vs x y h hl => OfJ.later h hl) (by kernel_rfl) (by kernel_rfl) hj (later_refl _)) rfl
            · intro listed a W H hj hl hd
              have t96 : a.tmps.getD 96 undef = .bool false := H.get 32 96 (by kernel_rfl) (dep_of hd 32 (by kernel_rfl)) (fun _ h => by cases h)
              exact step7_skip (i := 43) rfl (unwanted_at (j := 32) (d := 96) (b := true) (c := false) rfl (by kernel_rfl) t96 rfl) (calm7 (fun fs vs x y h hl => OfJ.later h hl) (by kernel_rfl) (by kernel_rfl) hj (later_refl _)) rfl
            · intro listed a W H hj hl hd
              have t89 : a.tmps.getD 89 undef = .bool false := H.get 25 89 (by kernel_rfl) (dep_of hd 25 (by kernel_rfl)) (fun _ h => by cases h)
              have t96 : a.tmps.getD 96 undef = .bool false := H.get 32 96 (by kernel_rfl) (dep_of hd 32 (by kernel_rfl)) (fun _ h => by cases h)
              exact step7_value (i := 44) rfl (wanted_at (j := 25) (d := 89) (b := false) rfl (by kernel_rfl) t89) (run_op_pickF rfl t96 rfl) (calm7 (fun fs vs x y h hl => OfJ.later h hl) (by kernel_rfl) (by kernel_rfl) hj (later_refl _)) rfl
            · intro listed a W H hj hl hd
              have t89 : a.tmps.getD 89 undef = .bool false := H.get 25 89 (by kernel_rfl) (dep_of hd 25 (by kernel_rfl)) (fun _ h => by cases h)
              have t108 : a.tmps.getD 108 undef = .bool false := H.get 44 108 (by kernel_rfl) (dep_of hd 44 (by kernel_rfl)) (fun _ h => by cases h)
              exact step7_value (i := 45) rfl rfl (run_op_pickF rfl t89 t108) (calm7 (fun fs vs x y h hl => OfJ.later h hl) (by kernel_rfl) (by kernel_rfl) hj (later_refl _)) rfl
          · intro a WC hdef hsz hw hall hact
            obtain ⟨u, hu⟩ : ∃ u : Nat → Value, ∀ k, a.tmps.getD k undef = u k := ⟨_, fun _ => rfl⟩
            have h109 : u 109 = .bool false := by rw [← hu]; exact hall 45 _ rfl
            simp only [hu] at hact
            have hact' : a = ([64, 65, 66, 67, 68, 69, 70, 71, 72, 73, 74, 75, 76, 77, 78, 79, 80, 81, 82, 83, 84, 85, 86, 87, 88, 89, 90, 91, 92, 93, 94, 95, 96, 97, 98, 99, 100, 101, 102, 103, 104, 105, 106, 107, 108, 109] : List Nat).foldl (fun b k => b.put (some k) (u k)) _ := hact
            simp only [List.foldl] at hact'
            simp only [Act.put, List.setIfInBounds_toArray, List.set_cons_succ, List.set_cons_zero] at hact'
            have HAC := Lib.hid hact'
            have HX := Lib.hid hw
            clear hact hact' hall hdef hsz hw
            rw [h109] at HAC
            rw [HAC.out]
            have S9 := Lib.hid (below_chain HLW.out HX.out.below)
            clear HX HWE hu HLW HV HV2 HWF HPB HPB2 EA EA2 HAE HG HMB HBV
            go_wp2_with fail
            go_roundw
            case rel => exact ⟨j + 1, by go_num, by omega, S9⟩
            case measure => simp [intOf]; omega
      · obtain rfl : j = n := by omega
        go_wp2_with fail
        refine (vawake_any _).mono ?_
        rintro e w9 ⟨rfl, hb9⟩
        have S8 := Lib.hid (below_chain S7.out (below_chain HBJ.out hb9.out))
        go_wp2_with fail
        go_ret
        exact ⟨rfl, S8⟩
  | cons z zs =>
    obtain ⟨rfl, rfl⟩ : ra = z.id ∧ rb = true := by have := HRV.out; unfold firstV at this; injection this with h1 h2; exact ⟨h1.symm, h2.symm⟩
    obtain ⟨m, HM⟩ : ∃ m, Hid ((z :: zs).length = m) := ⟨_, rfl⟩
    have hm : 0 < m := by rw [← HM.out]; simp
    obtain ⟨a4, e4, _, g4⟩ := int_at P6.out.lie (show 0 < (z :: zs).length by simp)
    subst e4
    rw [show (idsV (z :: zs)).getD 0 0 = z.id from rfl, show a4.add 0 = a4 from add_none a4] at g4
    rw [HM.out] at D6 HREST ⊢
    have hmi : (0 : Int) < (m : Int) := by omega
    have hmd : decide ((0 : Int) < (m : Int)) = true := decide_eq_true hmi
    go_wp2_with fail
    clear g4 hmd
    refine D6.out.mono ?_
    rintro e w7 ⟨rfl, hg7⟩
    have B7 := Lib.hid (HREST.out w7 hg7)
    clear D6 HREST hg7 B6 O6 P6
    have R7 := Lib.hid (R1.out.lie.below B7.out |>.wider B7.out.size)
    have HA7 := Lib.hid (HA1.out.since B7.out)
    have S7 := Lib.hid (below_chain S1.out B7.out)
    go_wp2_with fail
    go_loopw [10] (fun t10 wr => ∃ j : Nat, t10 = .int .i64 j ∧ j ≤ n ∧ Hid (Below w7.heap.size w7 wr)) (fun t10 _ => n - (intOf t10).toNat)
    case atStart => exact ⟨0, rfl, Nat.zero_le _, Below.refl _ _⟩
    case round =>
      obtain ⟨Wb, rfl⟩ : ∃ Wb, Wb = wr := ⟨_, rfl⟩
      obtain ⟨j, rfl, hj, HBJ⟩ := hrel
      by_cases hlt2 : j < n
      · have j0 : (0 : Int) ≤ (j : Int) := by omega
        have j1 : (j : Int) < (n : Int) := by omega
        go_wp2_with fail
        obtain ⟨WE, HWE⟩ : ∃ W, Hid (W = Wb.drew) := ⟨_, rfl⟩
        have HLW : Hid (Below w7.heap.size w7 WE) := by rw [HWE.out]; exact below_drewN HBJ.out 1
        obtain ⟨ad, eA, hblk, hv, hwf⟩ := vb_cells (HA7.out.since HLW.out) hlt2
        obtain ⟨ad2, eA2, hblk2, hv2, _⟩ := vb_cells (R7.out.since HLW.out) hlt2
        obtain ⟨b, HBV⟩ : ∃ b, Hid (bs.getD j VB.zero = b) := ⟨_, rfl⟩
        rw [HBV.out] at hv hv2 hwf
        have HV := Lib.hid hv
        have HV2 := Lib.hid hv2
        have HWF := Lib.hid hwf
        have HPB : Hid ((ad.add (j * 5)).block < WE.heap.size) := by show _ < _; rw [addr_block]; exact hblk
        have HPB2 : Hid ((ad2.add (j * 5)).block < WE.heap.size) := by show _ < _; rw [addr_block]; exact hblk2
        have EA := Lib.hid eA
        have EA2 := Lib.hid eA2
        have HAE := Lib.hid (HA7.out.since HLW.out)
        clear hv hv2 hwf hblk hblk2 eA eA2
        obtain ⟨G, HG⟩ : ∃ G, Hid (gainV x1 b = G) := ⟨_, rfl⟩
        obtain ⟨mb, HMB⟩ : ∃ m, Hid (mayV b = m) := ⟨_, rfl⟩
        cases mb with
        | true =>
          refine region_of_steps7 (by kernel_rfl) [some (.slice A n c), some (.int .i64 (j : Int)), some (.pointer (some (ad.add (j * 5)))), some (vblkV b), some (.slice A1 n c1), some (.int .i64 (j : Int)), some (.pointer (some (ad2.add (j * 5)))), some (vblkV b), some (.bool false), some (.bool false), some (.int .i64 x1), some (.slice A n c), some (.int .i64 (j : Int)), some (.pointer (some (ad.add (j * 5)))), some (vblkV b), some (.int .i64 G), some (.int .i64 x1), some (.slice A n c), none, some (.int .i64 (j : Int)), none, some (vblkV b), some (.int .i64 G), some (.bool false), some (.bool false), some (.bool false), some (.slice A n c), none, some (.int .i64 (j : Int)), none, some (vblkV b), some (.bool true), some (.bool true), some (.slice A n c), some (.int .i64 (j : Int)), some (.pointer (some (ad.add (j * 5)))), some (vblkV b), some (.int .i64 b.di), some (.slice A n c), some (.int .i64 (j : Int)), some (.pointer (some (ad.add (j * 5)))), some (.pointer (some ⟨(ad.add (j * 5)).block, (ad.add (j * 5)).off + 2, none⟩)), some (.int .i64 b.di), some (.bool false), some (.bool false), some (.bool false)] [18, 20, 27, 29] [82, 84, 91, 93] (OfJ WE n bs b) (by kernel_rfl) (by kernel_rfl) (by rw [← HWE.out]; exact OfJ.start (by rw [slots_len]; rfl)) ?_ ?_
          · refine Steps7.cons ?_ (Steps7.cons ?_ (Steps7.cons ?_ (Steps7.cons ?_ (Steps7.cons ?_ (Steps7.cons ?_ (Steps7.cons ?_ (Steps7.cons ?_ (Steps7.cons ?_ (Steps7.cons ?_ (Steps7.cons ?_ (Steps7.cons ?_ (Steps7.cons ?_ (Steps7.cons ?_ (Steps7.cons ?_ (Steps7.cons ?_ (Steps7.cons ?_ (Steps7.cons ?_ (Steps7.cons ?_ (Steps7.cons ?_ (Steps7.cons ?_ (Steps7.cons ?_ (Steps7.cons ?_ (Steps7.cons ?_ (Steps7.cons ?_ (Steps7.cons ?_ (Steps7.cons ?_ (Steps7.cons ?_ (Steps7.cons ?_ (Steps7.cons ?_ (Steps7.cons ?_ (Steps7.cons ?_ (Steps7.cons ?_ (Steps7.cons ?_ (Steps7.cons ?_ (Steps7.cons ?_ (Steps7.cons ?_ (Steps7.cons ?_ (Steps7.cons ?_ (Steps7.cons ?_ (Steps7.cons ?_ (Steps7.cons ?_ (Steps7.cons ?_ (Steps7.cons ?_ (Steps7.cons ?_ (Steps7.cons ?_ (Steps7.nil))))))))))))))))))))))))))))))))))))))))))))))
            · intro listed a W H hj hl hd
              have t0 : a.tmps.getD 0 undef = .slice A n c := (H.old 0 (by kernel_rfl)).trans rfl
              exact step7_value (i := 0) rfl rfl (run_op_move rfl t0) (calm7 (fun fs vs x y h hl => OfJ.later h hl) (by kernel_rfl) (by kernel_rfl) hj (later_refl _)) rfl
            · intro listed a W H hj hl hd
              have t10 : a.tmps.getD 10 undef = .int .i64 (j : Int) := (H.old 10 (by kernel_rfl)).trans rfl
              exact step7_value (i := 1) rfl rfl (run_op_move rfl t10) (calm7 (fun fs vs x y h hl => OfJ.later h hl) (by kernel_rfl) (by kernel_rfl) hj (later_refl _)) rfl
            · intro listed a W H hj hl hd
              have t64 : a.tmps.getD 64 undef = .slice A n c := H.get 0 64 (by kernel_rfl) (dep_of hd 0 (by kernel_rfl)) (fun _ h => by cases h)
              have t65 : a.tmps.getD 65 undef = .int .i64 (j : Int) := H.get 1 65 (by kernel_rfl) (dep_of hd 1 (by kernel_rfl)) (fun _ h => by cases h)
              exact step7_value (i := 2) rfl rfl (run_op_index rfl t64 t65 (by rw [EA.out]; exact run_index_vb ad n c j hlt2 W)) (calm7 (fun fs vs x y h hl => OfJ.later h hl) (by kernel_rfl) (by kernel_rfl) hj (later_refl _)) rfl
            · intro listed a W H hj hl hd
              have t66 : a.tmps.getD 66 undef = .pointer (some (ad.add (j * 5))) := H.get 2 66 (by kernel_rfl) (dep_of hd 2 (by kernel_rfl)) (fun _ h => by cases h)
              exact step7_value (i := 3) rfl rfl (run_op_load rfl t66 (run_load_vb _ _ W (HV.out.since hj.below HPB.out))) (calm7 (fun fs vs x y h hl => OfJ.later h hl) (by kernel_rfl) (by kernel_rfl) hj (later_refl _)) rfl
            · intro listed a W H hj hl hd
              have t5 : a.tmps.getD 5 undef = .slice A1 n c1 := (H.old 5 (by kernel_rfl)).trans rfl
              exact step7_value (i := 4) rfl rfl (run_op_move rfl t5) (calm7 (fun fs vs x y h hl => OfJ.later h hl) (by kernel_rfl) (by kernel_rfl) hj (later_refl _)) rfl
            · intro listed a W H hj hl hd
              have t10 : a.tmps.getD 10 undef = .int .i64 (j : Int) := (H.old 10 (by kernel_rfl)).trans rfl
              exact step7_value (i := 5) rfl rfl (run_op_move rfl t10) (calm7 (fun fs vs x y h hl => OfJ.later h hl) (by kernel_rfl) (by kernel_rfl) hj (later_refl _)) rfl
            · intro listed a W H hj hl hd
              have t68 : a.tmps.getD 68 undef = .slice A1 n c1 := H.get 4 68 (by kernel_rfl) (dep_of hd 4 (by kernel_rfl)) (fun _ h => by cases h)
              have t69 : a.tmps.getD 69 undef = .int .i64 (j : Int) := H.get 5 69 (by kernel_rfl) (dep_of hd 5 (by kernel_rfl)) (fun _ h => by cases h)
              exact step7_value (i := 6) rfl rfl (run_op_index rfl t68 t69 (by rw [EA2.out]; exact run_index_vb ad2 n c1 j hlt2 W)) (calm7 (fun fs vs x y h hl => OfJ.later h hl) (by kernel_rfl) (by kernel_rfl) hj (later_refl _)) rfl
            · intro listed a W H hj hl hd
              have t70 : a.tmps.getD 70 undef = .pointer (some (ad2.add (j * 5))) := H.get 6 70 (by kernel_rfl) (dep_of hd 6 (by kernel_rfl)) (fun _ h => by cases h)
              exact step7_value (i := 7) rfl rfl (run_op_load rfl t70 (run_load_vb _ _ W (HV2.out.since hj.below HPB2.out))) (calm7 (fun fs vs x y h hl => OfJ.later h hl) (by kernel_rfl) (by kernel_rfl) hj (later_refl _)) rfl
            · intro listed a W H hj hl hd
              have t67 : a.tmps.getD 67 undef = vblkV b := H.get 3 67 (by kernel_rfl) (dep_of hd 3 (by kernel_rfl)) (fun _ h => by cases h)
              have t71 : a.tmps.getD 71 undef = vblkV b := H.get 7 71 (by kernel_rfl) (dep_of hd 7 (by kernel_rfl)) (fun _ h => by cases h)
              exact step7_value (i := 8) rfl rfl (run_op_bin rfl t67 t71 (run_neq_vb _ _ _ W)) (calm7 (fun fs vs x y h hl => OfJ.later h hl) (by kernel_rfl) (by kernel_rfl) hj (later_refl _)) rfl
            · intro listed a W H hj hl hd
              have t72 : a.tmps.getD 72 undef = .bool false := H.get 8 72 (by kernel_rfl) (dep_of hd 8 (by kernel_rfl)) (fun _ h => by cases h)
              exact step7_value (i := 9) rfl rfl (run_op_move rfl t72) (calm7 (fun fs vs x y h hl => OfJ.later h hl) (by kernel_rfl) (by kernel_rfl) hj (later_refl _)) rfl
            · intro listed a W H hj hl hd
              have t73 : a.tmps.getD 73 undef = .bool false := H.get 9 73 (by kernel_rfl) (dep_of hd 9 (by kernel_rfl)) (fun _ h => by cases h)
              have t1 : a.tmps.getD 1 undef = .int .i64 x1 := (H.old 1 (by kernel_rfl)).trans rfl
              exact step7_value (i := 10) rfl (wanted_at (j := 9) (d := 73) (b := false) rfl (by kernel_rfl) t73) (run_op_move rfl t1) (calm7 (fun fs vs x y h hl => OfJ.later h hl) (by kernel_rfl) (by kernel_rfl) hj (later_refl _)) rfl
            · intro listed a W H hj hl hd
              have t73 : a.tmps.getD 73 undef = .bool false := H.get 9 73 (by kernel_rfl) (dep_of hd 9 (by kernel_rfl)) (fun _ h => by cases h)
              have t0 : a.tmps.getD 0 undef = .slice A n c := (H.old 0 (by kernel_rfl)).trans rfl
              exact step7_value (i := 11) rfl (wanted_at (j := 9) (d := 73) (b := false) rfl (by kernel_rfl) t73) (run_op_move rfl t0) (calm7 (fun fs vs x y h hl => OfJ.later h hl) (by kernel_rfl) (by kernel_rfl) hj (later_refl _)) rfl
            · intro listed a W H hj hl hd
              have t73 : a.tmps.getD 73 undef = .bool false := H.get 9 73 (by kernel_rfl) (dep_of hd 9 (by kernel_rfl)) (fun _ h => by cases h)
              have t10 : a.tmps.getD 10 undef = .int .i64 (j : Int) := (H.old 10 (by kernel_rfl)).trans rfl
              exact step7_value (i := 12) rfl (wanted_at (j := 9) (d := 73) (b := false) rfl (by kernel_rfl) t73) (run_op_move rfl t10) (calm7 (fun fs vs x y h hl => OfJ.later h hl) (by kernel_rfl) (by kernel_rfl) hj (later_refl _)) rfl
            · intro listed a W H hj hl hd
              have t73 : a.tmps.getD 73 undef = .bool false := H.get 9 73 (by kernel_rfl) (dep_of hd 9 (by kernel_rfl)) (fun _ h => by cases h)
              have t75 : a.tmps.getD 75 undef = .slice A n c := H.get 11 75 (by kernel_rfl) (dep_of hd 11 (by kernel_rfl)) (fun _ h => by cases h)
              have t76 : a.tmps.getD 76 undef = .int .i64 (j : Int) := H.get 12 76 (by kernel_rfl) (dep_of hd 12 (by kernel_rfl)) (fun _ h => by cases h)
              exact step7_value (i := 13) rfl (wanted_at (j := 9) (d := 73) (b := false) rfl (by kernel_rfl) t73) (run_op_index rfl t75 t76 (by rw [EA.out]; exact run_index_vb ad n c j hlt2 W)) (calm7 (fun fs vs x y h hl => OfJ.later h hl) (by kernel_rfl) (by kernel_rfl) hj (later_refl _)) rfl
            · intro listed a W H hj hl hd
              have t73 : a.tmps.getD 73 undef = .bool false := H.get 9 73 (by kernel_rfl) (dep_of hd 9 (by kernel_rfl)) (fun _ h => by cases h)
              have t77 : a.tmps.getD 77 undef = .pointer (some (ad.add (j * 5))) := H.get 13 77 (by kernel_rfl) (dep_of hd 13 (by kernel_rfl)) (fun _ h => by cases h)
              exact step7_value (i := 14) rfl (wanted_at (j := 9) (d := 73) (b := false) rfl (by kernel_rfl) t73) (run_op_load rfl t77 (run_load_vb _ _ W (HV.out.since hj.below HPB.out))) (calm7 (fun fs vs x y h hl => OfJ.later h hl) (by kernel_rfl) (by kernel_rfl) hj (later_refl _)) rfl
            · intro listed a W H hj hl hd
              have t73 : a.tmps.getD 73 undef = .bool false := H.get 9 73 (by kernel_rfl) (dep_of hd 9 (by kernel_rfl)) (fun _ h => by cases h)
              have t74 : a.tmps.getD 74 undef = .int .i64 x1 := H.get 10 74 (by kernel_rfl) (dep_of hd 10 (by kernel_rfl)) (fun _ h => by cases h)
              have t78 : a.tmps.getD 78 undef = vblkV b := H.get 14 78 (by kernel_rfl) (dep_of hd 14 (by kernel_rfl)) (fun _ h => by cases h)
              refine step7_call (i := 15) rfl (wanted_at (j := 9) (d := 73) (b := false) rfl (by kernel_rfl) t73) (run_op_call (vs := #[.int .i64 x1, vblkV b]) Try.func14 (by kernel_rfl) (by kernel_rfl) rfl (by simp only [List.map_toArray, List.map_cons, List.map_nil]; show #[a.tmps.getD 74 undef, a.tmps.getD 78 undef] = _; rw [t74, t78])) ?_
              refine (vgain_any x1 b W HWF.out).mono ?_
              rintro e w' ⟨rfl, hb⟩
              refine ⟨_, rfl, (calm7 (fun fs vs x y h hl => OfJ.later h hl) (by kernel_rfl) (by kernel_rfl) hj hb.out), ?_⟩
              show Value.int IntKind.i64 _ = _; rw [HG.out]
            · intro listed a W H hj hl hd
              have t73 : a.tmps.getD 73 undef = .bool false := H.get 9 73 (by kernel_rfl) (dep_of hd 9 (by kernel_rfl)) (fun _ h => by cases h)
              have t1 : a.tmps.getD 1 undef = .int .i64 x1 := (H.old 1 (by kernel_rfl)).trans rfl
              exact step7_value (i := 16) rfl (wanted_at (j := 9) (d := 73) (b := false) rfl (by kernel_rfl) t73) (run_op_move rfl t1) (calm7 (fun fs vs x y h hl => OfJ.later h hl) (by kernel_rfl) (by kernel_rfl) hj (later_refl _)) rfl
            · intro listed a W H hj hl hd
              have t73 : a.tmps.getD 73 undef = .bool false := H.get 9 73 (by kernel_rfl) (dep_of hd 9 (by kernel_rfl)) (fun _ h => by cases h)
              have t0 : a.tmps.getD 0 undef = .slice A n c := (H.old 0 (by kernel_rfl)).trans rfl
              exact step7_value (i := 17) rfl (wanted_at (j := 9) (d := 73) (b := false) rfl (by kernel_rfl) t73) (run_op_move rfl t0) (calm7 (fun fs vs x y h hl => OfJ.later h hl) (by kernel_rfl) (by kernel_rfl) hj (later_refl _)) rfl
            · intro listed a W H hj hl hd
              have t73 : a.tmps.getD 73 undef = .bool false := H.get 9 73 (by kernel_rfl) (dep_of hd 9 (by kernel_rfl)) (fun _ h => by cases h)
              have t81 : a.tmps.getD 81 undef = .slice A n c := H.get 17 81 (by kernel_rfl) (dep_of hd 17 (by kernel_rfl)) (fun _ h => by cases h)
              refine step7_call (i := 18) rfl (wanted_at (j := 9) (d := 73) (b := false) rfl (by kernel_rfl) t73) (run_op_call (vs := #[.slice A n c]) Try.func10 (by kernel_rfl) (by kernel_rfl) rfl (by simp only [List.map_toArray, List.map_cons, List.map_nil]; show #[a.tmps.getD 81 undef] = _; rw [t81])) ?_
              refine (of_any A n c bs W (by omega) (HAE.out.since hj.below)).mono ?_
              rintro e w' ⟨A9, m9, c9, rfl, ho9, hb9⟩
              obtain rfl : n = m9 := HNL.out.symm.trans ho9.out.len
              have hk9 := (hj.later hb9.out).first (c := c9) ho9.out.lie
              rw [← flags_put (m := 18) 0 rfl (by decide), ← slots_at (a := a) (d := 82) 0 rfl (by decide) (by rw [H.size]; exact of_decide_eq_true (by kernel_rfl))] at hk9
              exact ⟨_, rfl, hk9, trivial⟩
            · intro listed a W H hj hl hd
              have t73 : a.tmps.getD 73 undef = .bool false := H.get 9 73 (by kernel_rfl) (dep_of hd 9 (by kernel_rfl)) (fun _ h => by cases h)
              have t10 : a.tmps.getD 10 undef = .int .i64 (j : Int) := (H.old 10 (by kernel_rfl)).trans rfl
              exact step7_value (i := 19) rfl (wanted_at (j := 9) (d := 73) (b := false) rfl (by kernel_rfl) t73) (run_op_move rfl t10) (calm7 (fun fs vs x y h hl => OfJ.later h hl) (by kernel_rfl) (by kernel_rfl) hj (later_refl _)) rfl
            · intro listed a W H hj hl hd
              have t73 : a.tmps.getD 73 undef = .bool false := H.get 9 73 (by kernel_rfl) (dep_of hd 9 (by kernel_rfl)) (fun _ h => by cases h)
              have d82 : listed.getD 18 false = true := dep_of hd 18 (by kernel_rfl)
              have t83 : a.tmps.getD 83 undef = .int .i64 (j : Int) := H.get 19 83 (by kernel_rfl) (dep_of hd 19 (by kernel_rfl)) (fun _ h => by cases h)
              have d82 : listed.getD 18 false = true := dep_of hd 18 (by kernel_rfl)
              have f0 : (flags [18, 20, 27, 29] listed).getD 0 false = true := done_true d82
              obtain ⟨A9, c9, e9, l9⟩ := hj.o1 f0
              obtain ⟨ad9, q9, b9, v9, _⟩ := rb_cells l9 hlt2
              subst q9
              rw [HBV.out] at v9
              have e9a : a.tmps.getD 82 undef = .slice (some ad9) n c9 := e9
              have hk9 := hj.place1 (ad := ad9.add (j * 5)) (by rw [addr_block]; exact b9) v9
              rw [← flags_put (m := 20) 1 rfl (by decide), ← slots_at (a := a) (d := 84) 1 rfl (by decide) (by rw [H.size]; exact of_decide_eq_true (by kernel_rfl))] at hk9
              exact step7_value (i := 20) rfl (wanted_at (j := 9) (d := 73) (b := false) rfl (by kernel_rfl) t73) (run_op_index rfl e9a t83 (run_index_rb ad9 n c9 j hlt2 W)) hk9 trivial
            · intro listed a W H hj hl hd
              have t73 : a.tmps.getD 73 undef = .bool false := H.get 9 73 (by kernel_rfl) (dep_of hd 9 (by kernel_rfl)) (fun _ h => by cases h)
              have d84 : listed.getD 20 false = true := dep_of hd 20 (by kernel_rfl)
              have d84 : listed.getD 20 false = true := dep_of hd 20 (by kernel_rfl)
              have f1 : (flags [18, 20, 27, 29] listed).getD 1 false = true := done_true d84
              obtain ⟨ad9, e9, b9, v9⟩ := hj.p1 f1
              have e9a : a.tmps.getD 84 undef = .pointer (some ad9) := e9
              exact step7_value (i := 21) rfl (wanted_at (j := 9) (d := 73) (b := false) rfl (by kernel_rfl) t73) (run_op_load rfl e9a (run_load_rb _ _ W v9)) (calm7 (fun fs vs x y h hl => OfJ.later h hl) (by kernel_rfl) (by kernel_rfl) hj (later_refl _)) rfl
            · intro listed a W H hj hl hd
              have t73 : a.tmps.getD 73 undef = .bool false := H.get 9 73 (by kernel_rfl) (dep_of hd 9 (by kernel_rfl)) (fun _ h => by cases h)
              have t80 : a.tmps.getD 80 undef = .int .i64 x1 := H.get 16 80 (by kernel_rfl) (dep_of hd 16 (by kernel_rfl)) (fun _ h => by cases h)
              have t85 : a.tmps.getD 85 undef = vblkV b := H.get 21 85 (by kernel_rfl) (dep_of hd 21 (by kernel_rfl)) (fun _ h => by cases h)
              refine step7_call (i := 22) rfl (wanted_at (j := 9) (d := 73) (b := false) rfl (by kernel_rfl) t73) (run_op_call (vs := #[.int .i64 x1, vblkV b]) Try.func15 (by kernel_rfl) (by kernel_rfl) rfl (by simp only [List.map_toArray, List.map_cons, List.map_nil]; show #[a.tmps.getD 80 undef, a.tmps.getD 85 undef] = _; rw [t80, t85])) ?_
              refine (rgain_any x1 b W hx HWF.out).mono ?_
              rintro e w' ⟨rfl, hb⟩
              refine ⟨_, rfl, (calm7 (fun fs vs x y h hl => OfJ.later h hl) (by kernel_rfl) (by kernel_rfl) hj hb.out), ?_⟩
              show Value.int IntKind.i64 _ = _; rw [HG.out]
            · intro listed a W H hj hl hd
              have t73 : a.tmps.getD 73 undef = .bool false := H.get 9 73 (by kernel_rfl) (dep_of hd 9 (by kernel_rfl)) (fun _ h => by cases h)
              have t79 : a.tmps.getD 79 undef = .int .i64 G := H.get 15 79 (by kernel_rfl) (dep_of hd 15 (by kernel_rfl)) (fun _ h => by cases h)
              have t86 : a.tmps.getD 86 undef = .int .i64 G := H.get 22 86 (by kernel_rfl) (dep_of hd 22 (by kernel_rfl)) (fun _ h => by cases h)
              exact step7_value (i := 23) rfl (wanted_at (j := 9) (d := 73) (b := false) rfl (by kernel_rfl) t73) (run_op_bin rfl t79 t86 (bin_neq _ _ _ G G false (by simp))) (calm7 (fun fs vs x y h hl => OfJ.later h hl) (by kernel_rfl) (by kernel_rfl) hj (later_refl _)) rfl
            · intro listed a W H hj hl hd
              have t73 : a.tmps.getD 73 undef = .bool false := H.get 9 73 (by kernel_rfl) (dep_of hd 9 (by kernel_rfl)) (fun _ h => by cases h)
              have t87 : a.tmps.getD 87 undef = .bool false := H.get 23 87 (by kernel_rfl) (dep_of hd 23 (by kernel_rfl)) (fun _ h => by cases h)
              exact step7_value (i := 24) rfl rfl (run_op_pickF rfl t73 t87) (calm7 (fun fs vs x y h hl => OfJ.later h hl) (by kernel_rfl) (by kernel_rfl) hj (later_refl _)) rfl
            · intro listed a W H hj hl hd
              have t88 : a.tmps.getD 88 undef = .bool false := H.get 24 88 (by kernel_rfl) (dep_of hd 24 (by kernel_rfl)) (fun _ h => by cases h)
              exact step7_value (i := 25) rfl rfl (run_op_move rfl t88) (calm7 (fun fs vs x y h hl => OfJ.later h hl) (by kernel_rfl) (by kernel_rfl) hj (later_refl _)) rfl
            · intro listed a W H hj hl hd
              have t89 : a.tmps.getD 89 undef = .bool false := H.get 25 89 (by kernel_rfl) (dep_of hd 25 (by kernel_rfl)) (fun _ h => by cases h)
              have t0 : a.tmps.getD 0 undef = .slice A n c := (H.old 0 (by kernel_rfl)).trans rfl
              exact step7_value (i := 26) rfl (wanted_at (j := 25) (d := 89) (b := false) rfl (by kernel_rfl) t89) (run_op_move rfl t0) (calm7 (fun fs vs x y h hl => OfJ.later h hl) (by kernel_rfl) (by kernel_rfl) hj (later_refl _)) rfl
            · intro listed a W H hj hl hd
              have t89 : a.tmps.getD 89 undef = .bool false := H.get 25 89 (by kernel_rfl) (dep_of hd 25 (by kernel_rfl)) (fun _ h => by cases h)
              have t90 : a.tmps.getD 90 undef = .slice A n c := H.get 26 90 (by kernel_rfl) (dep_of hd 26 (by kernel_rfl)) (fun _ h => by cases h)
              refine step7_call (i := 27) rfl (wanted_at (j := 25) (d := 89) (b := false) rfl (by kernel_rfl) t89) (run_op_call (vs := #[.slice A n c]) Try.func10 (by kernel_rfl) (by kernel_rfl) rfl (by simp only [List.map_toArray, List.map_cons, List.map_nil]; show #[a.tmps.getD 90 undef] = _; rw [t90])) ?_
              refine (of_any A n c bs W (by omega) (HAE.out.since hj.below)).mono ?_
              rintro e w' ⟨A9, m9, c9, rfl, ho9, hb9⟩
              obtain rfl : n = m9 := HNL.out.symm.trans ho9.out.len
              have hk9 := (hj.later hb9.out).second (c := c9) ho9.out.lie
              rw [← flags_put (m := 27) 2 rfl (by decide), ← slots_at (a := a) (d := 91) 2 rfl (by decide) (by rw [H.size]; exact of_decide_eq_true (by kernel_rfl))] at hk9
              exact ⟨_, rfl, hk9, trivial⟩
            · intro listed a W H hj hl hd
              have t89 : a.tmps.getD 89 undef = .bool false := H.get 25 89 (by kernel_rfl) (dep_of hd 25 (by kernel_rfl)) (fun _ h => by cases h)
              have t10 : a.tmps.getD 10 undef = .int .i64 (j : Int) := (H.old 10 (by kernel_rfl)).trans rfl
              exact step7_value (i := 28) rfl (wanted_at (j := 25) (d := 89) (b := false) rfl (by kernel_rfl) t89) (run_op_move rfl t10) (calm7 (fun fs vs x y h hl => OfJ.later h hl) (by kernel_rfl) (by kernel_rfl) hj (later_refl _)) rfl
            · intro listed a W H hj hl hd
              have t89 : a.tmps.getD 89 undef = .bool false := H.get 25 89 (by kernel_rfl) (dep_of hd 25 (by kernel_rfl)) (fun _ h => by cases h)
              have d91 : listed.getD 27 false = true := dep_of hd 27 (by kernel_rfl)
              have t92 : a.tmps.getD 92 undef = .int .i64 (j : Int) := H.get 28 92 (by kernel_rfl) (dep_of hd 28 (by kernel_rfl)) (fun _ h => by cases h)
              have d91 : listed.getD 27 false = true := dep_of hd 27 (by kernel_rfl)
              have f2 : (flags [18, 20, 27, 29] listed).getD 2 false = true := done_true d91
              obtain ⟨A9, c9, e9, l9⟩ := hj.o2 f2
              obtain ⟨ad9, q9, b9, v9, _⟩ := rb_cells l9 hlt2
              subst q9
              rw [HBV.out] at v9
              have e9a : a.tmps.getD 91 undef = .slice (some ad9) n c9 := e9
              have hk9 := hj.place2 (ad := ad9.add (j * 5)) (by rw [addr_block]; exact b9) v9
              rw [← flags_put (m := 29) 3 rfl (by decide), ← slots_at (a := a) (d := 93) 3 rfl (by decide) (by rw [H.size]; exact of_decide_eq_true (by kernel_rfl))] at hk9
              exact step7_value (i := 29) rfl (wanted_at (j := 25) (d := 89) (b := false) rfl (by kernel_rfl) t89) (run_op_index rfl e9a t92 (run_index_rb ad9 n c9 j hlt2 W)) hk9 trivial
            · intro listed a W H hj hl hd
              have t89 : a.tmps.getD 89 undef = .bool false := H.get 25 89 (by kernel_rfl) (dep_of hd 25 (by kernel_rfl)) (fun _ h => by cases h)
              have d93 : listed.getD 29 false = true := dep_of hd 29 (by kernel_rfl)
              have d93 : listed.getD 29 false = true := dep_of hd 29 (by kernel_rfl)
              have f3 : (flags [18, 20, 27, 29] listed).getD 3 false = true := done_true d93
              obtain ⟨ad9, e9, b9, v9⟩ := hj.p2 f3
              have e9a : a.tmps.getD 93 undef = .pointer (some ad9) := e9
              exact step7_value (i := 30) rfl (wanted_at (j := 25) (d := 89) (b := false) rfl (by kernel_rfl) t89) (run_op_load rfl e9a (run_load_rb _ _ W v9)) (calm7 (fun fs vs x y h hl => OfJ.later h hl) (by kernel_rfl) (by kernel_rfl) hj (later_refl _)) rfl
            · intro listed a W H hj hl hd
              have t89 : a.tmps.getD 89 undef = .bool false := H.get 25 89 (by kernel_rfl) (dep_of hd 25 (by kernel_rfl)) (fun _ h => by cases h)
              have t94 : a.tmps.getD 94 undef = vblkV b := H.get 30 94 (by kernel_rfl) (dep_of hd 30 (by kernel_rfl)) (fun _ h => by cases h)
              refine step7_call (i := 31) rfl (wanted_at (j := 25) (d := 89) (b := false) rfl (by kernel_rfl) t89) (run_op_call (vs := #[vblkV b]) Try.func16 (by kernel_rfl) (by kernel_rfl) rfl (by simp only [List.map_toArray, List.map_cons, List.map_nil]; show #[a.tmps.getD 94 undef] = _; rw [t94])) ?_
              refine (rmay_any b W).mono ?_
              rintro e w' ⟨rfl, hb⟩
              refine ⟨_, rfl, (calm7 (fun fs vs x y h hl => OfJ.later h hl) (by kernel_rfl) (by kernel_rfl) hj hb.out), ?_⟩
              show Value.bool _ = _; rw [HMB.out]
            · intro listed a W H hj hl hd
              have t89 : a.tmps.getD 89 undef = .bool false := H.get 25 89 (by kernel_rfl) (dep_of hd 25 (by kernel_rfl)) (fun _ h => by cases h)
              have t95 : a.tmps.getD 95 undef = .bool true := H.get 31 95 (by kernel_rfl) (dep_of hd 31 (by kernel_rfl)) (fun _ h => by cases h)
              exact step7_value (i := 32) rfl (wanted_at (j := 25) (d := 89) (b := false) rfl (by kernel_rfl) t89) (run_op_move rfl t95) (calm7 (fun fs vs x y h hl => OfJ.later h hl) (by kernel_rfl) (by kernel_rfl) hj (later_refl _)) rfl
            · intro listed a W H hj hl hd
              have t96 : a.tmps.getD 96 undef = .bool true := H.get 32 96 (by kernel_rfl) (dep_of hd 32 (by kernel_rfl)) (fun _ h => by cases h)
              have t0 : a.tmps.getD 0 undef = .slice A n c := (H.old 0 (by kernel_rfl)).trans rfl
              exact step7_value (i := 33) rfl (wanted_at (j := 32) (d := 96) (b := true) rfl (by kernel_rfl) t96) (run_op_move rfl t0) (calm7 (fun fs vs x y h hl => OfJ.later h hl) (by kernel_rfl) (by kernel_rfl) hj (later_refl _)) rfl
            · intro listed a W H hj hl hd
              have t96 : a.tmps.getD 96 undef = .bool true := H.get 32 96 (by kernel_rfl) (dep_of hd 32 (by kernel_rfl)) (fun _ h => by cases h)
              have t10 : a.tmps.getD 10 undef = .int .i64 (j : Int) := (H.old 10 (by kernel_rfl)).trans rfl
              exact step7_value (i := 34) rfl (wanted_at (j := 32) (d := 96) (b := true) rfl (by kernel_rfl) t96) (run_op_move rfl t10) (calm7 (fun fs vs x y h hl => OfJ.later h hl) (by kernel_rfl) (by kernel_rfl) hj (later_refl _)) rfl
            · intro listed a W H hj hl hd
              have t96 : a.tmps.getD 96 undef = .bool true := H.get 32 96 (by kernel_rfl) (dep_of hd 32 (by kernel_rfl)) (fun _ h => by cases h)
              have t97 : a.tmps.getD 97 undef = .slice A n c := H.get 33 97 (by kernel_rfl) (dep_of hd 33 (by kernel_rfl)) (fun _ h => by cases h)
              have t98 : a.tmps.getD 98 undef = .int .i64 (j : Int) := H.get 34 98 (by kernel_rfl) (dep_of hd 34 (by kernel_rfl)) (fun _ h => by cases h)
              exact step7_value (i := 35) rfl (wanted_at (j := 32) (d := 96) (b := true) rfl (by kernel_rfl) t96) (run_op_index rfl t97 t98 (by rw [EA.out]; exact run_index_vb ad n c j hlt2 W)) (calm7 (fun fs vs x y h hl => OfJ.later h hl) (by kernel_rfl) (by kernel_rfl) hj (later_refl _)) rfl
            · intro listed a W H hj hl hd
              have t96 : a.tmps.getD 96 undef = .bool true := H.get 32 96 (by kernel_rfl) (dep_of hd 32 (by kernel_rfl)) (fun _ h => by cases h)
              have t99 : a.tmps.getD 99 undef = .pointer (some (ad.add (j * 5))) := H.get 35 99 (by kernel_rfl) (dep_of hd 35 (by kernel_rfl)) (fun _ h => by cases h)
              exact step7_value (i := 36) rfl (wanted_at (j := 32) (d := 96) (b := true) rfl (by kernel_rfl) t96) (run_op_load rfl t99 (run_load_vb _ _ W (HV.out.since hj.below HPB.out))) (calm7 (fun fs vs x y h hl => OfJ.later h hl) (by kernel_rfl) (by kernel_rfl) hj (later_refl _)) rfl
            · intro listed a W H hj hl hd
              have t96 : a.tmps.getD 96 undef = .bool true := H.get 32 96 (by kernel_rfl) (dep_of hd 32 (by kernel_rfl)) (fun _ h => by cases h)
              have t100 : a.tmps.getD 100 undef = vblkV b := H.get 36 100 (by kernel_rfl) (dep_of hd 36 (by kernel_rfl)) (fun _ h => by cases h)
              refine step7_call (i := 37) rfl (wanted_at (j := 32) (d := 96) (b := true) rfl (by kernel_rfl) t96) (run_op_call (vs := #[vblkV b]) Try.func17 (by kernel_rfl) (by kernel_rfl) rfl (by simp only [List.map_toArray, List.map_cons, List.map_nil]; show #[a.tmps.getD 100 undef] = _; rw [t100])) ?_
              refine (vcost_any b W HMB.out).mono ?_
              rintro e w' ⟨rfl, hb⟩
              refine ⟨_, rfl, (calm7 (fun fs vs x y h hl => OfJ.later h hl) (by kernel_rfl) (by kernel_rfl) hj hb.out), ?_⟩
              rfl
            · intro listed a W H hj hl hd
              have t96 : a.tmps.getD 96 undef = .bool true := H.get 32 96 (by kernel_rfl) (dep_of hd 32 (by kernel_rfl)) (fun _ h => by cases h)
              have t0 : a.tmps.getD 0 undef = .slice A n c := (H.old 0 (by kernel_rfl)).trans rfl
              exact step7_value (i := 38) rfl (wanted_at (j := 32) (d := 96) (b := true) rfl (by kernel_rfl) t96) (run_op_move rfl t0) (calm7 (fun fs vs x y h hl => OfJ.later h hl) (by kernel_rfl) (by kernel_rfl) hj (later_refl _)) rfl
            · intro listed a W H hj hl hd
              have t96 : a.tmps.getD 96 undef = .bool true := H.get 32 96 (by kernel_rfl) (dep_of hd 32 (by kernel_rfl)) (fun _ h => by cases h)
              have t10 : a.tmps.getD 10 undef = .int .i64 (j : Int) := (H.old 10 (by kernel_rfl)).trans rfl
              exact step7_value (i := 39) rfl (wanted_at (j := 32) (d := 96) (b := true) rfl (by kernel_rfl) t96) (run_op_move rfl t10) (calm7 (fun fs vs x y h hl => OfJ.later h hl) (by kernel_rfl) (by kernel_rfl) hj (later_refl _)) rfl
            · intro listed a W H hj hl hd
              have t96 : a.tmps.getD 96 undef = .bool true := H.get 32 96 (by kernel_rfl) (dep_of hd 32 (by kernel_rfl)) (fun _ h => by cases h)
              have t102 : a.tmps.getD 102 undef = .slice A n c := H.get 38 102 (by kernel_rfl) (dep_of hd 38 (by kernel_rfl)) (fun _ h => by cases h)
              have t103 : a.tmps.getD 103 undef = .int .i64 (j : Int) := H.get 39 103 (by kernel_rfl) (dep_of hd 39 (by kernel_rfl)) (fun _ h => by cases h)
              exact step7_value (i := 40) rfl (wanted_at (j := 32) (d := 96) (b := true) rfl (by kernel_rfl) t96) (run_op_index rfl t102 t103 (by rw [EA.out]; exact run_index_vb ad n c j hlt2 W)) (calm7 (fun fs vs x y h hl => OfJ.later h hl) (by kernel_rfl) (by kernel_rfl) hj (later_refl _)) rfl
            · intro listed a W H hj hl hd
              have t96 : a.tmps.getD 96 undef = .bool true := H.get 32 96 (by kernel_rfl) (dep_of hd 32 (by kernel_rfl)) (fun _ h => by cases h)
              have t104 : a.tmps.getD 104 undef = .pointer (some (ad.add (j * 5))) := H.get 40 104 (by kernel_rfl) (dep_of hd 40 (by kernel_rfl)) (fun _ h => by cases h)
              exact step7_value (i := 41) rfl (wanted_at (j := 32) (d := 96) (b := true) rfl (by kernel_rfl) t96) (run_op_fieldAddr rfl t104 (by go_simp)) (calm7 (fun fs vs x y h hl => OfJ.later h hl) (by kernel_rfl) (by kernel_rfl) hj (later_refl _)) rfl
            · intro listed a W H hj hl hd
              have t96 : a.tmps.getD 96 undef = .bool true := H.get 32 96 (by kernel_rfl) (dep_of hd 32 (by kernel_rfl)) (fun _ h => by cases h)
              have t105 : a.tmps.getD 105 undef = .pointer (some ⟨(ad.add (j * 5)).block, (ad.add (j * 5)).off + 2, none⟩) := H.get 41 105 (by kernel_rfl) (dep_of hd 41 (by kernel_rfl)) (fun _ h => by cases h)
              exact step7_value (i := 42) rfl (wanted_at (j := 32) (d := 96) (b := true) rfl (by kernel_rfl) t96) (run_op_load rfl t105 (run_load_i _ _ W (HV.out.since hj.below HPB.out).c2)) (calm7 (fun fs vs x y h hl => OfJ.later h hl) (by kernel_rfl) (by kernel_rfl) hj (later_refl _)) rfl
            · intro listed a W H hj hl hd
              have t96 : a.tmps.getD 96 undef = .bool true := H.get 32 96 (by kernel_rfl) (dep_of hd 32 (by kernel_rfl)) (fun _ h => by cases h)
              have t101 : a.tmps.getD 101 undef = .int .i64 b.di := H.get 37 101 (by kernel_rfl) (dep_of hd 37 (by kernel_rfl)) (fun _ h => by cases h)
              have t106 : a.tmps.getD 106 undef = .int .i64 b.di := H.get 42 106 (by kernel_rfl) (dep_of hd 42 (by kernel_rfl)) (fun _ h => by cases h)
              exact step7_value (i := 43) rfl (wanted_at (j := 32) (d := 96) (b := true) rfl (by kernel_rfl) t96) (run_op_bin rfl t101 t106 (bin_neq _ _ _ b.di b.di false (by simp))) (calm7 (fun fs vs x y h hl => OfJ.later h hl) (by kernel_rfl) (by kernel_rfl) hj (later_refl _)) rfl
            · intro listed a W H hj hl hd
              have t89 : a.tmps.getD 89 undef = .bool false := H.get 25 89 (by kernel_rfl) (dep_of hd 25 (by kernel_rfl)) (fun _ h => by cases h)
              have t96 : a.tmps.getD 96 undef = .bool true := H.get 32 96 (by kernel_rfl) (dep_of hd 32 (by kernel_rfl)) (fun _ h => by cases h)
              have t107 : a.tmps.getD 107 undef = .bool false := H.get 43 107 (by kernel_rfl) (dep_of hd 43 (by kernel_rfl)) (fun _ h => by cases h)
              exact step7_value (i := 44) rfl (wanted_at (j := 25) (d := 89) (b := false) rfl (by kernel_rfl) t89) (run_op_pick rfl t96 t107) (calm7 (fun fs vs x y h hl => OfJ.later h hl) (by kernel_rfl) (by kernel_rfl) hj (later_refl _)) rfl
            · intro listed a W H hj hl hd
              have t89 : a.tmps.getD 89 undef = .bool false := H.get 25 89 (by kernel_rfl) (dep_of hd 25 (by kernel_rfl)) (fun _ h => by cases h)
              have t108 : a.tmps.getD 108 undef = .bool false := H.get 44 108 (by kernel_rfl) (dep_of hd 44 (by kernel_rfl)) (fun _ h => by cases h)
              exact step7_value (i := 45) rfl rfl (run_op_pickF rfl t89 t108) (calm7 (fun fs vs x y h hl => OfJ.later h hl) (by kernel_rfl) (by kernel_rfl) hj (later_refl _)) rfl
          · intro a WC hdef hsz hw hall hact
            obtain ⟨u, hu⟩ : ∃ u : Nat → Value, ∀ k, a.tmps.getD k undef = u k := ⟨_, fun _ => rfl⟩
            have h109 : u 109 = .bool false := by rw [← hu]; exact hall 45 _ rfl
            simp only [hu] at hact
            have hact' : a = ([64, 65, 66, 67, 68, 69, 70, 71, 72, 73, 74, 75, 76, 77, 78, 79, 80, 81, 82, 83, 84, 85, 86, 87, 88, 89, 90, 91, 92, 93, 94, 95, 96, 97, 98, 99, 100, 101, 102, 103, 104, 105, 106, 107, 108, 109] : List Nat).foldl (fun b k => b.put (some k) (u k)) _ := hact
            simp only [List.foldl] at hact'
            simp only [Act.put, List.setIfInBounds_toArray, List.set_cons_succ, List.set_cons_zero] at hact'
            have HAC := Lib.hid hact'
            have HX := Lib.hid hw
            clear hact hact' hall hdef hsz hw
            rw [h109] at HAC
            rw [HAC.out]
            have S9 := Lib.hid (below_chain HLW.out HX.out.below)
            clear HX HWE hu HLW HV HV2 HWF HPB HPB2 EA EA2 HAE HG HMB HBV
            go_wp2_with fail
            go_roundw
            case rel => exact ⟨j + 1, by go_num, by omega, S9⟩
            case measure => simp [intOf]; omega
        | false =>
          refine region_of_steps7 (by kernel_rfl) [some (.slice A n c), some (.int .i64 (j : Int)), some (.pointer (some (ad.add (j * 5)))), some (vblkV b), some (.slice A1 n c1), some (.int .i64 (j : Int)), some (.pointer (some (ad2.add (j * 5)))), some (vblkV b), some (.bool false), some (.bool false), some (.int .i64 x1), some (.slice A n c), some (.int .i64 (j : Int)), some (.pointer (some (ad.add (j * 5)))), some (vblkV b), some (.int .i64 G), some (.int .i64 x1), some (.slice A n c), none, some (.int .i64 (j : Int)), none, some (vblkV b), some (.int .i64 G), some (.bool false), some (.bool false), some (.bool false), some (.slice A n c), none, some (.int .i64 (j : Int)), none, some (vblkV b), some (.bool false), some (.bool false), some undef, some undef, some undef, some undef, some undef, some undef, some undef, some undef, some undef, some undef, some undef, some (.bool false), some (.bool false)] [18, 20, 27, 29] [82, 84, 91, 93] (OfJ WE n bs b) (by kernel_rfl) (by kernel_rfl) (by rw [← HWE.out]; exact OfJ.start (by rw [slots_len]; rfl)) ?_ ?_
          · refine Steps7.cons ?_ (Steps7.cons ?_ (Steps7.cons ?_ (Steps7.cons ?_ (Steps7.cons ?_ (Steps7.cons ?_ (Steps7.cons ?_ (Steps7.cons ?_ (Steps7.cons ?_ (Steps7.cons ?_ (Steps7.cons ?_ (Steps7.cons ?_ (Steps7.cons ?_ (Steps7.cons ?_ (Steps7.cons ?_ (Steps7.cons ?_ (Steps7.cons ?_ (Steps7.cons ?_ (Steps7.cons ?_ (Steps7.cons ?_ (Steps7.cons ?_ (Steps7.cons ?_ (Steps7.cons ?_ (Steps7.cons ?_ (Steps7.cons ?_ (Steps7.cons ?_ (Steps7.cons ?_ (Steps7.cons ?_ (Steps7.cons ?_ (Steps7.cons ?_ (Steps7.cons ?_ (Steps7.cons ?_ (Steps7.cons ?_ (Steps7.cons ?_ (Steps7.cons ?_ (Steps7.cons ?_ (Steps7.cons ?_ (Steps7.cons ?_ (Steps7.cons ?_ (Steps7.cons ?_ (Steps7.cons ?_ (Steps7.cons ?_ (Steps7.cons ?_ (Steps7.cons ?_ (Steps7.cons ?_ (Steps7.cons ?_ (Steps7.nil))))))))))))))))))))))))))))))))))))))))))))))
            · intro listed a W H hj hl hd
              have t0 : a.tmps.getD 0 undef = .slice A n c := (H.old 0 (by kernel_rfl)).trans rfl
              exact step7_value (i := 0) rfl rfl (run_op_move rfl t0) (calm7 (fun fs vs x y h hl => OfJ.later h hl) (by kernel_rfl) (by kernel_rfl) hj (later_refl _)) rfl
            · intro listed a W H hj hl hd
              have t10 : a.tmps.getD 10 undef = .int .i64 (j : Int) := (H.old 10 (by kernel_rfl)).trans rfl
              exact step7_value (i := 1) rfl rfl (run_op_move rfl t10) (calm7 (fun fs vs x y h hl => OfJ.later h hl) (by kernel_rfl) (by kernel_rfl) hj (later_refl _)) rfl
            · intro listed a W H hj hl hd
              have t64 : a.tmps.getD 64 undef = .slice A n c := H.get 0 64 (by kernel_rfl) (dep_of hd 0 (by kernel_rfl)) (fun _ h => by cases h)
              have t65 : a.tmps.getD 65 undef = .int .i64 (j : Int) := H.get 1 65 (by kernel_rfl) (dep_of hd 1 (by kernel_rfl)) (fun _ h => by cases h)
              exact step7_value (i := 2) rfl rfl (run_op_index rfl t64 t65 (by rw [EA.out]; exact run_index_vb ad n c j hlt2 W)) (calm7 (fun fs vs x y h hl => OfJ.later h hl) (by kernel_rfl) (by kernel_rfl) hj (later_refl _)) rfl
            · intro listed a W H hj hl hd
              have t66 : a.tmps.getD 66 undef = .pointer (some (ad.add (j * 5))) := H.get 2 66 (by kernel_rfl) (dep_of hd 2 (by kernel_rfl)) (fun _ h => by cases h)
              exact step7_value (i := 3) rfl rfl (run_op_load rfl t66 (run_load_vb _ _ W (HV.out.since hj.below HPB.out))) (calm7 (fun fs vs x y h hl => OfJ.later h hl) (by kernel_rfl) (by kernel_rfl) hj (later_refl _)) rfl
            · intro listed a W H hj hl hd
              have t5 : a.tmps.getD 5 undef = .slice A1 n c1 := (H.old 5 (by kernel_rfl)).trans rfl
              exact step7_value (i := 4) rfl rfl (run_op_move rfl t5) (calm7 (fun fs vs x y h hl => OfJ.later h hl) (by kernel_rfl) (by kernel_rfl) hj (later_refl _)) rfl
            · intro listed a W H hj hl hd
              have t10 : a.tmps.getD 10 undef = .int .i64 (j : Int) := (H.old 10 (by kernel_rfl)).trans rfl
              exact step7_value (i := 5) rfl rfl (run_op_move rfl t10) (calm7 (fun fs vs x y h hl => OfJ.later h hl) (by kernel_rfl) (by kernel_rfl) hj (later_refl _)) rfl
            · intro listed a W H hj hl hd
              have t68 : a.tmps.getD 68 undef = .slice A1 n c1 := H.get 4 68 (by kernel_rfl) (dep_of hd 4 (by kernel_rfl)) (fun _ h => by cases h)
              have t69 : a.tmps.getD 69 undef = .int .i64 (j : Int) := H.get 5 69 (by kernel_rfl) (dep_of hd 5 (by kernel_rfl)) (fun _ h => by cases h)
              exact step7_value (i := 6) rfl rfl (run_op_index rfl t68 t69 (by rw [EA2.out]; exact run_index_vb ad2 n c1 j hlt2 W)) (calm7 (fun fs vs x y h hl => OfJ.later h hl) (by kernel_rfl) (by kernel_rfl) hj (later_refl _)) rfl
            · intro listed a W H hj hl hd
              have t70 : a.tmps.getD 70 undef = .pointer (some (ad2.add (j * 5))) := H.get 6 70 (by kernel_rfl) (dep_of hd 6 (by kernel_rfl)) (fun _ h => by cases h)
              exact step7_value (i := 7) rfl rfl (run_op_load rfl t70 (run_load_vb _ _ W (HV2.out.since hj.below HPB2.out))) (calm7 (fun fs vs x y h hl => OfJ.later h hl) (by kernel_rfl) (by kernel_rfl) hj (later_refl _)) rfl
            · intro listed a W H hj hl hd
              have t67 : a.tmps.getD 67 undef = vblkV b := H.get 3 67 (by kernel_rfl) (dep_of hd 3 (by kernel_rfl)) (fun _ h => by cases h)
              have t71 : a.tmps.getD 71 undef = vblkV b := H.get 7 71 (by kernel_rfl) (dep_of hd 7 (by kernel_rfl)) (fun _ h => by cases h)
              exact step7_value (i := 8) rfl rfl (run_op_bin rfl t67 t71 (run_neq_vb _ _ _ W)) (calm7 (fun fs vs x y h hl => OfJ.later h hl) (by kernel_rfl) (by kernel_rfl) hj (later_refl _)) rfl
            · intro listed a W H hj hl hd
              have t72 : a.tmps.getD 72 undef = .bool false := H.get 8 72 (by kernel_rfl) (dep_of hd 8 (by kernel_rfl)) (fun _ h => by cases h)
              exact step7_value (i := 9) rfl rfl (run_op_move rfl t72) (calm7 (fun fs vs x y h hl => OfJ.later h hl) (by kernel_rfl) (by kernel_rfl) hj (later_refl _)) rfl
            · intro listed a W H hj hl hd
              have t73 : a.tmps.getD 73 undef = .bool false := H.get 9 73 (by kernel_rfl) (dep_of hd 9 (by kernel_rfl)) (fun _ h => by cases h)
              have t1 : a.tmps.getD 1 undef = .int .i64 x1 := (H.old 1 (by kernel_rfl)).trans rfl
              exact step7_value (i := 10) rfl (wanted_at (j := 9) (d := 73) (b := false) rfl (by kernel_rfl) t73) (run_op_move rfl t1) (calm7 (fun fs vs x y h hl => OfJ.later h hl) (by kernel_rfl) (by kernel_rfl) hj (later_refl _)) rfl
            · intro listed a W H hj hl hd
              have t73 : a.tmps.getD 73 undef = .bool false := H.get 9 73 (by kernel_rfl) (dep_of hd 9 (by kernel_rfl)) (fun _ h => by cases h)
              have t0 : a.tmps.getD 0 undef = .slice A n c := (H.old 0 (by kernel_rfl)).trans rfl
              exact step7_value (i := 11) rfl (wanted_at (j := 9) (d := 73) (b := false) rfl (by kernel_rfl) t73) (run_op_move rfl t0) (calm7 (fun fs vs x y h hl => OfJ.later h hl) (by kernel_rfl) (by kernel_rfl) hj (later_refl _)) rfl
            · intro listed a W H hj hl hd
              have t73 : a.tmps.getD 73 undef = .bool false := H.get 9 73 (by kernel_rfl) (dep_of hd 9 (by kernel_rfl)) (fun _ h => by cases h)
              have t10 : a.tmps.getD 10 undef = .int .i64 (j : Int) := (H.old 10 (by kernel_rfl)).trans rfl
              exact step7_value (i := 12) rfl (wanted_at (j := 9) (d := 73) (b := false) rfl (by kernel_rfl) t73) (run_op_move rfl t10) (calm7 (fun fs vs x y h hl => OfJ.later h hl) (by kernel_rfl) (by kernel_rfl) hj (later_refl _)) rfl
            · intro listed a W H hj hl hd
              have t73 : a.tmps.getD 73 undef = .bool false := H.get 9 73 (by kernel_rfl) (dep_of hd 9 (by kernel_rfl)) (fun _ h => by cases h)
              have t75 : a.tmps.getD 75 undef = .slice A n c := H.get 11 75 (by kernel_rfl) (dep_of hd 11 (by kernel_rfl)) (fun _ h => by cases h)
              have t76 : a.tmps.getD 76 undef = .int .i64 (j : Int) := H.get 12 76 (by kernel_rfl) (dep_of hd 12 (by kernel_rfl)) (fun _ h => by cases h)
              exact step7_value (i := 13) rfl (wanted_at (j := 9) (d := 73) (b := false) rfl (by kernel_rfl) t73) (run_op_index rfl t75 t76 (by rw [EA.out]; exact run_index_vb ad n c j hlt2 W)) (calm7 (fun fs vs x y h hl => OfJ.later h hl) (by kernel_rfl) (by kernel_rfl) hj (later_refl _)) rfl
            · intro listed a W H hj hl hd
              have t73 : a.tmps.getD 73 undef = .bool false := H.get 9 73 (by kernel_rfl) (dep_of hd 9 (by kernel_rfl)) (fun _ h => by cases h)
              have t77 : a.tmps.getD 77 undef = .pointer (some (ad.add (j * 5))) := H.get 13 77 (by kernel_rfl) (dep_of hd 13 (by kernel_rfl)) (fun _ h => by cases h)
              exact step7_value (i := 14) rfl (wanted_at (j := 9) (d := 73) (b := false) rfl (by kernel_rfl) t73) (run_op_load rfl t77 (run_load_vb _ _ W (HV.out.since hj.below HPB.out))) (calm7 (fun fs vs x y h hl => OfJ.later h hl) (by kernel_rfl) (by kernel_rfl) hj (later_refl _)) rfl
            · intro listed a W H hj hl hd
              have t73 : a.tmps.getD 73 undef = .bool false := H.get 9 73 (by kernel_rfl) (dep_of hd 9 (by kernel_rfl)) (fun _ h => by cases h)
              have t74 : a.tmps.getD 74 undef = .int .i64 x1 := H.get 10 74 (by kernel_rfl) (dep_of hd 10 (by kernel_rfl)) (fun _ h => by cases h)
              have t78 : a.tmps.getD 78 undef = vblkV b := H.get 14 78 (by kernel_rfl) (dep_of hd 14 (by kernel_rfl)) (fun _ h => by cases h)
              refine step7_call (i := 15) rfl (wanted_at (j := 9) (d := 73) (b := false) rfl (by kernel_rfl) t73) (run_op_call (vs := #[.int .i64 x1, vblkV b]) Try.func14 (by kernel_rfl) (by kernel_rfl) rfl (by simp only [List.map_toArray, List.map_cons, List.map_nil]; show #[a.tmps.getD 74 undef, a.tmps.getD 78 undef] = _; rw [t74, t78])) ?_
              refine (vgain_any x1 b W HWF.out).mono ?_
              rintro e w' ⟨rfl, hb⟩
              refine ⟨_, rfl, (calm7 (fun fs vs x y h hl => OfJ.later h hl) (by kernel_rfl) (by kernel_rfl) hj hb.out), ?_⟩
              show Value.int IntKind.i64 _ = _; rw [HG.out]
            · intro listed a W H hj hl hd
              have t73 : a.tmps.getD 73 undef = .bool false := H.get 9 73 (by kernel_rfl) (dep_of hd 9 (by kernel_rfl)) (fun _ h => by cases h)
              have t1 : a.tmps.getD 1 undef = .int .i64 x1 := (H.old 1 (by kernel_rfl)).trans rfl
              exact step7_value (i := 16) rfl (wanted_at (j := 9) (d := 73) (b := false) rfl (by kernel_rfl) t73) (run_op_move rfl t1) (calm7 (fun fs vs x y h hl => OfJ.later h hl) (by kernel_rfl) (by kernel_rfl) hj (later_refl _)) rfl
            · intro listed a W H hj hl hd
              have t73 : a.tmps.getD 73 undef = .bool false := H.get 9 73 (by kernel_rfl) (dep_of hd 9 (by kernel_rfl)) (fun _ h => by cases h)
              have t0 : a.tmps.getD 0 undef = .slice A n c := (H.old 0 (by kernel_rfl)).trans rfl
              exact step7_value (i := 17) rfl (wanted_at (j := 9) (d := 73) (b := false) rfl (by kernel_rfl) t73) (run_op_move rfl t0) (calm7 (fun fs vs x y h hl => OfJ.later h hl) (by kernel_rfl) (by kernel_rfl) hj (later_refl _)) rfl
            · intro listed a W H hj hl hd
              have t73 : a.tmps.getD 73 undef = .bool false := H.get 9 73 (by kernel_rfl) (dep_of hd 9 (by kernel_rfl)) (fun _ h => by cases h)
              have t81 : a.tmps.getD 81 undef = .slice A n c := H.get 17 81 (by kernel_rfl) (dep_of hd 17 (by kernel_rfl)) (fun _ h => by cases h)
              refine step7_call (i := 18) rfl (wanted_at (j := 9) (d := 73) (b := false) rfl (by kernel_rfl) t73) (run_op_call (vs := #[.slice A n c]) Try.func10 (by kernel_rfl) (by kernel_rfl) rfl (by simp only [List.map_toArray, List.map_cons, List.map_nil]; show #[a.tmps.getD 81 undef] = _; rw [t81])) ?_
              refine (of_any A n c bs W (by omega) (HAE.out.since hj.below)).mono ?_
              rintro e w' ⟨A9, m9, c9, rfl, ho9, hb9⟩
              obtain rfl : n = m9 := HNL.out.symm.trans ho9.out.len
              have hk9 := (hj.later hb9.out).first (c := c9) ho9.out.lie
              rw [← flags_put (m := 18) 0 rfl (by decide), ← slots_at (a := a) (d := 82) 0 rfl (by decide) (by rw [H.size]; exact of_decide_eq_true (by kernel_rfl))] at hk9
              exact ⟨_, rfl, hk9, trivial⟩
            · intro listed a W H hj hl hd
              have t73 : a.tmps.getD 73 undef = .bool false := H.get 9 73 (by kernel_rfl) (dep_of hd 9 (by kernel_rfl)) (fun _ h => by cases h)
              have t10 : a.tmps.getD 10 undef = .int .i64 (j : Int) := (H.old 10 (by kernel_rfl)).trans rfl
              exact step7_value (i := 19) rfl (wanted_at (j := 9) (d := 73) (b := false) rfl (by kernel_rfl) t73) (run_op_move rfl t10) (calm7 (fun fs vs x y h hl => OfJ.later h hl) (by kernel_rfl) (by kernel_rfl) hj (later_refl _)) rfl
            · intro listed a W H hj hl hd
              have t73 : a.tmps.getD 73 undef = .bool false := H.get 9 73 (by kernel_rfl) (dep_of hd 9 (by kernel_rfl)) (fun _ h => by cases h)
              have d82 : listed.getD 18 false = true := dep_of hd 18 (by kernel_rfl)
              have t83 : a.tmps.getD 83 undef = .int .i64 (j : Int) := H.get 19 83 (by kernel_rfl) (dep_of hd 19 (by kernel_rfl)) (fun _ h => by cases h)
              have d82 : listed.getD 18 false = true := dep_of hd 18 (by kernel_rfl)
              have f0 : (flags [18, 20, 27, 29] listed).getD 0 false = true := done_true d82
              obtain ⟨A9, c9, e9, l9⟩ := hj.o1 f0
              obtain ⟨ad9, q9, b9, v9, _⟩ := rb_cells l9 hlt2
              subst q9
              rw [HBV.out] at v9
              have e9a : a.tmps.getD 82 undef = .slice (some ad9) n c9 := e9
              have hk9 := hj.place1 (ad := ad9.add (j * 5)) (by rw [addr_block]; exact b9) v9
              rw [← flags_put (m := 20) 1 rfl (by decide), ← slots_at (a := a) (d := 84) 1 rfl (by decide) (by rw [H.size]; exact of_decide_eq_true (by kernel_rfl))] at hk9
              exact step7_value (i := 20) rfl (wanted_at (j := 9) (d := 73) (b := false) rfl (by kernel_rfl) t73) (run_op_index rfl e9a t83 (run_index_rb ad9 n c9 j hlt2 W)) hk9 trivial
            · intro listed a W H hj hl hd
              have t73 : a.tmps.getD 73 undef = .bool false := H.get 9 73 (by kernel_rfl) (dep_of hd 9 (by kernel_rfl)) (fun _ h => by cases h)
              have d84 : listed.getD 20 false = true := dep_of hd 20 (by kernel_rfl)
              have d84 : listed.getD 20 false = true := dep_of hd 20 (by kernel_rfl)
              have f1 : (flags [18, 20, 27, 29] listed).getD 1 false = true := done_true d84
              obtain ⟨ad9, e9, b9, v9⟩ := hj.p1 f1
              have e9a : a.tmps.getD 84 undef = .pointer (some ad9) := e9
              exact step7_value (i := 21) rfl (wanted_at (j := 9) (d := 73) (b := false) rfl (by kernel_rfl) t73) (run_op_load rfl e9a (run_load_rb _ _ W v9)) (calm7 (fun fs vs x y h hl => OfJ.later h hl) (by kernel_rfl) (by kernel_rfl) hj (later_refl _)) rfl
            · intro listed a W H hj hl hd
              have t73 : a.tmps.getD 73 undef = .bool false := H.get 9 73 (by kernel_rfl) (dep_of hd 9 (by kernel_rfl)) (fun _ h => by cases h)
              have t80 : a.tmps.getD 80 undef = .int .i64 x1 := H.get 16 80 (by kernel_rfl) (dep_of hd 16 (by kernel_rfl)) (fun _ h => by cases h)
              have t85 : a.tmps.getD 85 undef = vblkV b := H.get 21 85 (by kernel_rfl) (dep_of hd 21 (by kernel_rfl)) (fun _ h => by cases h)
              refine step7_call (i := 22) rfl (wanted_at (j := 9) (d := 73) (b := false) rfl (by kernel_rfl) t73) (run_op_call (vs := #[.int .i64 x1, vblkV b]) Try.func15 (by kernel_rfl) (by kernel_rfl) rfl (by simp only [List.map_toArray, List.map_cons, List.map_nil]; show #[a.tmps.getD 80 undef, a.tmps.getD 85 undef] = _; rw [t80, t85])) ?_
              refine (rgain_any x1 b W hx HWF.out).mono ?_
              rintro e w' ⟨rfl, hb⟩
              refine ⟨_, rfl, (calm7 (fun fs vs x y h hl => OfJ.later h hl) (by kernel_rfl) (by kernel_rfl) hj hb.out), ?_⟩
              show Value.int IntKind.i64 _ = _; rw [HG.out]
            · intro listed a W H hj hl hd
              have t73 : a.tmps.getD 73 undef = .bool false := H.get 9 73 (by kernel_rfl) (dep_of hd 9 (by kernel_rfl)) (fun _ h => by cases h)
              have t79 : a.tmps.getD 79 undef = .int .i64 G := H.get 15 79 (by kernel_rfl) (dep_of hd 15 (by kernel_rfl)) (fun _ h => by cases h)
              have t86 : a.tmps.getD 86 undef = .int .i64 G := H.get 22 86 (by kernel_rfl) (dep_of hd 22 (by kernel_rfl)) (fun _ h => by cases h)
              exact step7_value (i := 23) rfl (wanted_at (j := 9) (d := 73) (b := false) rfl (by kernel_rfl) t73) (run_op_bin rfl t79 t86 (bin_neq _ _ _ G G false (by simp))) (calm7 (fun fs vs x y h hl => OfJ.later h hl) (by kernel_rfl) (by kernel_rfl) hj (later_refl _)) rfl
            · intro listed a W H hj hl hd
              have t73 : a.tmps.getD 73 undef = .bool false := H.get 9 73 (by kernel_rfl) (dep_of hd 9 (by kernel_rfl)) (fun _ h => by cases h)
              have t87 : a.tmps.getD 87 undef = .bool false := H.get 23 87 (by kernel_rfl) (dep_of hd 23 (by kernel_rfl)) (fun _ h => by cases h)
              exact step7_value (i := 24) rfl rfl (run_op_pickF rfl t73 t87) (calm7 (fun fs vs x y h hl => OfJ.later h hl) (by kernel_rfl) (by kernel_rfl) hj (later_refl _)) rfl
            · intro listed a W H hj hl hd
              have t88 : a.tmps.getD 88 undef = .bool false := H.get 24 88 (by kernel_rfl) (dep_of hd 24 (by kernel_rfl)) (fun _ h => by cases h)
              exact step7_value (i := 25) rfl rfl (run_op_move rfl t88) (calm7 (fun fs vs x y h hl => OfJ.later h hl) (by kernel_rfl) (by kernel_rfl) hj (later_refl _)) rfl
            · intro listed a W H hj hl hd
              have t89 : a.tmps.getD 89 undef = .bool false := H.get 25 89 (by kernel_rfl) (dep_of hd 25 (by kernel_rfl)) (fun _ h => by cases h)
              have t0 : a.tmps.getD 0 undef = .slice A n c := (H.old 0 (by kernel_rfl)).trans rfl
              exact step7_value (i := 26) rfl (wanted_at (j := 25) (d := 89) (b := false) rfl (by kernel_rfl) t89) (run_op_move rfl t0) (calm7 (fun fs vs x y h hl => OfJ.later h hl) (by kernel_rfl) (by kernel_rfl) hj (later_refl _)) rfl
            · intro listed a W H hj hl hd
              have t89 : a.tmps.getD 89 undef = .bool false := H.get 25 89 (by kernel_rfl) (dep_of hd 25 (by kernel_rfl)) (fun _ h => by cases h)
              have t90 : a.tmps.getD 90 undef = .slice A n c := H.get 26 90 (by kernel_rfl) (dep_of hd 26 (by kernel_rfl)) (fun _ h => by cases h)
              refine step7_call (i := 27) rfl (wanted_at (j := 25) (d := 89) (b := false) rfl (by kernel_rfl) t89) (run_op_call (vs := #[.slice A n c]) Try.func10 (by kernel_rfl) (by kernel_rfl) rfl (by simp only [List.map_toArray, List.map_cons, List.map_nil]; show #[a.tmps.getD 90 undef] = _; rw [t90])) ?_
              refine (of_any A n c bs W (by omega) (HAE.out.since hj.below)).mono ?_
              rintro e w' ⟨A9, m9, c9, rfl, ho9, hb9⟩
              obtain rfl : n = m9 := HNL.out.symm.trans ho9.out.len
              have hk9 := (hj.later hb9.out).second (c := c9) ho9.out.lie
              rw [← flags_put (m := 27) 2 rfl (by decide), ← slots_at (a := a) (d := 91) 2 rfl (by decide) (by rw [H.size]; exact of_decide_eq_true (by kernel_rfl))] at hk9
              exact ⟨_, rfl, hk9, trivial⟩
            · intro listed a W H hj hl hd
              have t89 : a.tmps.getD 89 undef = .bool false := H.get 25 89 (by kernel_rfl) (dep_of hd 25 (by kernel_rfl)) (fun _ h => by cases h)
              have t10 : a.tmps.getD 10 undef = .int .i64 (j : Int) := (H.old 10 (by kernel_rfl)).trans rfl
              exact step7_value (i := 28) rfl (wanted_at (j := 25) (d := 89) (b := false) rfl (by kernel_rfl) t89) (run_op_move rfl t10) (calm7 (fun fs vs x y h hl => OfJ.later h hl) (by kernel_rfl) (by kernel_rfl) hj (later_refl _)) rfl
            · intro listed a W H hj hl hd
              have t89 : a.tmps.getD 89 undef = .bool false := H.get 25 89 (by kernel_rfl) (dep_of hd 25 (by kernel_rfl)) (fun _ h => by cases h)
              have d91 : listed.getD 27 false = true := dep_of hd 27 (by kernel_rfl)
              have t92 : a.tmps.getD 92 undef = .int .i64 (j : Int) := H.get 28 92 (by kernel_rfl) (dep_of hd 28 (by kernel_rfl)) (fun _ h => by cases h)
              have d91 : listed.getD 27 false = true := dep_of hd 27 (by kernel_rfl)
              have f2 : (flags [18, 20, 27, 29] listed).getD 2 false = true := done_true d91
              obtain ⟨A9, c9, e9, l9⟩ := hj.o2 f2
              obtain ⟨ad9, q9, b9, v9, _⟩ := rb_cells l9 hlt2
              subst q9
              rw [HBV.out] at v9
              have e9a : a.tmps.getD 91 undef = .slice (some ad9) n c9 := e9
              have hk9 := hj.place2 (ad := ad9.add (j * 5)) (by rw [addr_block]; exact b9) v9
              rw [← flags_put (m := 29) 3 rfl (by decide), ← slots_at (a := a) (d := 93) 3 rfl (by decide) (by rw [H.size]; exact of_decide_eq_true (by kernel_rfl))] at hk9
              exact step7_value (i := 29) rfl (wanted_at (j := 25) (d := 89) (b := false) rfl (by kernel_rfl) t89) (run_op_index rfl e9a t92 (run_index_rb ad9 n c9 j hlt2 W)) hk9 trivial
            · intro listed a W H hj hl hd
              have t89 : a.tmps.getD 89 undef = .bool false := H.get 25 89 (by kernel_rfl) (dep_of hd 25 (by kernel_rfl)) (fun _ h => by cases h)
              have d93 : listed.getD 29 false = true := dep_of hd 29 (by kernel_rfl)
              have d93 : listed.getD 29 false = true := dep_of hd 29 (by kernel_rfl)
              have f3 : (flags [18, 20, 27, 29] listed).getD 3 false = true := done_true d93
              obtain ⟨ad9, e9, b9, v9⟩ := hj.p2 f3
              have e9a : a.tmps.getD 93 undef = .pointer (some ad9) := e9
              exact step7_value (i := 30) rfl (wanted_at (j := 25) (d := 89) (b := false) rfl (by kernel_rfl) t89) (run_op_load rfl e9a (run_load_rb _ _ W v9)) (calm7 (fun fs vs x y h hl => OfJ.later h hl) (by kernel_rfl) (by kernel_rfl) hj (later_refl _)) rfl
            · intro listed a W H hj hl hd
              have t89 : a.tmps.getD 89 undef = .bool false := H.get 25 89 (by kernel_rfl) (dep_of hd 25 (by kernel_rfl)) (fun _ h => by cases h)
              have t94 : a.tmps.getD 94 undef = vblkV b := H.get 30 94 (by kernel_rfl) (dep_of hd 30 (by kernel_rfl)) (fun _ h => by cases h)
              refine step7_call (i := 31) rfl (wanted_at (j := 25) (d := 89) (b := false) rfl (by kernel_rfl) t89) (run_op_call (vs := #[vblkV b]) Try.func16 (by kernel_rfl) (by kernel_rfl) rfl (by simp only [List.map_toArray, List.map_cons, List.map_nil]; show #[a.tmps.getD 94 undef] = _; rw [t94])) ?_
              refine (rmay_any b W).mono ?_
              rintro e w' ⟨rfl, hb⟩
              refine ⟨_, rfl, (calm7 (fun fs vs x y h hl => OfJ.later h hl) (by kernel_rfl) (by kernel_rfl) hj hb.out), ?_⟩
              show Value.bool _ = _; rw [HMB.out]
            · intro listed a W H hj hl hd
              have t89 : a.tmps.getD 89 undef = .bool false := H.get 25 89 (by kernel_rfl) (dep_of hd 25 (by kernel_rfl)) (fun _ h => by cases h)
              have t95 : a.tmps.getD 95 undef = .bool false := H.get 31 95 (by kernel_rfl) (dep_of hd 31 (by kernel_rfl)) (fun _ h => by cases h)
              exact step7_value (i := 32) rfl (wanted_at (j := 25) (d := 89) (b := false) rfl (by kernel_rfl) t89) (run_op_move rfl t95) (calm7 (fun fs vs x y h hl => OfJ.later h hl) (by kernel_rfl) (by kernel_rfl) hj (later_refl _)) rfl
            · intro listed a W H hj hl hd
              have t96 : a.tmps.getD 96 undef = .bool false := H.get 32 96 (by kernel_rfl) (dep_of hd 32 (by kernel_rfl)) (fun _ h => by cases h)
              exact step7_skip (i := 33) rfl (unwanted_at (j := 32) (d := 96) (b := true) (c := false) rfl (by kernel_rfl) t96 rfl) (calm7 (fun fs vs x y h hl => OfJ.later h hl) (by kernel_rfl) (by kernel_rfl) hj (later_refl _)) rfl
            · intro listed a W H hj hl hd
              have t96 : a.tmps.getD 96 undef = .bool false := H.get 32 96 (by kernel_rfl) (dep_of hd 32 (by kernel_rfl)) (fun _ h => by cases h)
              exact step7_skip (i := 34) rfl (unwanted_at (j := 32) (d := 96) (b := true) (c := false) rfl (by kernel_rfl) t96 rfl) (calm7 (fun fs vs x y h hl => OfJ.later h hl) (by kernel_rfl) (by kernel_rfl) hj (later_refl _)) rfl
            · intro listed a W H hj hl hd
              have t96 : a.tmps.getD 96 undef = .bool false := H.get 32 96 (by kernel_rfl) (dep_of hd 32 (by kernel_rfl)) (fun _ h => by cases h)
              exact step7_skip (i := 35) rfl (unwanted_at (j := 32) (d := 96) (b := true) (c := false) rfl (by kernel_rfl) t96 rfl) (calm7 (fun fs vs x y h hl => OfJ.later h hl) (by kernel_rfl) (by kernel_rfl) hj (later_refl _)) rfl
            · intro listed a W H hj hl hd
              have t96 : a.tmps.getD 96 undef = .bool false := H.get 32 96 (by kernel_rfl) (dep_of hd 32 (by kernel_rfl)) (fun _ h => by cases h)
              exact step7_skip (i := 36) rfl (unwanted_at (j := 32) (d := 96) (b := true) (c := false) rfl (by kernel_rfl) t96 rfl) (calm7 (fun fs vs x y h hl => OfJ.later h hl) (by kernel_rfl) (by kernel_rfl) hj (later_refl _)) rfl
            · intro listed a W H hj hl hd
              have t96 : a.tmps.getD 96 undef = .bool false := H.get 32 96 (by kernel_rfl) (dep_of hd 32 (by kernel_rfl)) (fun _ h => by cases h)
              exact step7_skip (i := 37) rfl (unwanted_at (j := 32) (d := 96) (b := true) (c := false) rfl (by kernel_rfl) t96 rfl) (calm7 (fun fs vs x y h hl => OfJ.later h hl) (by kernel_rfl) (by kernel_rfl) hj (later_refl _)) rfl
            · intro listed a W H hj hl hd
              have t96 : a.tmps.getD 96 undef = .bool false := H.get 32 96 (by kernel_rfl) (dep_of hd 32 (by kernel_rfl)) (fun _ h => by cases h)
              exact step7_skip (i := 38) rfl (unwanted_at (j := 32) (d := 96) (b := true) (c := false) rfl (by kernel_rfl) t96 rfl) (calm7 (fun fs vs x y h hl => OfJ.later h hl) (by kernel_rfl) (by kernel_rfl) hj (later_refl _)) rfl
            · intro listed a W H hj hl hd
              have t96 : a.tmps.getD 96 undef = .bool false := H.get 32 96 (by kernel_rfl) (dep_of hd 32 (by kernel_rfl)) (fun _ h => by cases h)
              exact step7_skip (i := 39) rfl (unwanted_at (j := 32) (d := 96) (b := true) (c := false) rfl (by kernel_rfl) t96 rfl) (calm7 (fun fs vs x y h hl => OfJ.later h hl) (by kernel_rfl) (by kernel_rfl) hj (later_refl _)) rfl
            · intro listed a W H hj hl hd
              have t96 : a.tmps.getD 96 undef = .bool false := H.get 32 96 (by kernel_rfl) (dep_of hd 32 (by kernel_rfl)) (fun _ h => by cases h)
              exact step7_skip (i := 40) rfl (unwanted_at (j := 32) (d := 96) (b := true) (c := false) rfl (by kernel_rfl) t96 rfl) (calm7 (fun fs vs x y h hl => OfJ.later h hl) (by kernel_rfl) (by kernel_rfl) hj (later_refl _)) rfl
            · intro listed a W H hj hl hd
              have t96 : a.tmps.getD 96 undef = .bool false := H.get 32 96 (by kernel_rfl) (dep_of hd 32 (by kernel_rfl)) (fun _ h => by cases h)
              exact step7_skip (i := 41) rfl (unwanted_at (j := 32) (d := 96) (b := true) (c := false) rfl (by kernel_rfl) t96 rfl) (calm7 (fun fs vs x y h hl => OfJ.later h hl) (by kernel_rfl) (by kernel_rfl) hj (later_refl _)) rfl
            · intro listed a W H hj hl hd
              have t96 : a.tmps.getD 96 undef = .bool false := H.get 32 96 (by kernel_rfl) (dep_of hd 32 (by kernel_rfl)) (fun _ h => by cases h)
              exact step7_skip (i := 42) rfl (unwanted_at (j := 32) (d := 96) (b := true) (c := false) rfl (by kernel_rfl) t96 rfl) (calm7 (fun fs vs x y h hl => OfJ.later h hl) (by kernel_rfl) (by kernel_rfl) hj (later_refl _)) rfl
            · intro listed a W H hj hl hd
              have t96 : a.tmps.getD 96 undef = .bool false := H.get 32 96 (by kernel_rfl) (dep_of hd 32 (by kernel_rfl)) (fun _ h => by cases h)
              exact step7_skip (i := 43) rfl (unwanted_at (j := 32) (d := 96) (b := true) (c := false) rfl (by kernel_rfl) t96 rfl) (calm7 (fun fs vs x y h hl => OfJ.later h hl) (by kernel_rfl) (by kernel_rfl) hj (later_refl _)) rfl
            · intro listed a W H hj hl hd
              have t89 : a.tmps.getD 89 undef = .bool false := H.get 25 89 (by kernel_rfl) (dep_of hd 25 (by kernel_rfl)) (fun _ h => by cases h)
              have t96 : a.tmps.getD 96 undef = .bool false := H.get 32 96 (by kernel_rfl) (dep_of hd 32 (by kernel_rfl)) (fun _ h => by cases h)
              exact step7_value (i := 44) rfl (wanted_at (j := 25) (d := 89) (b := false) rfl (by kernel_rfl) t89) (run_op_pickF rfl t96 rfl) (calm7 (fun fs vs x y h hl => OfJ.later h hl) (by kernel_rfl) (by kernel_rfl) hj (later_refl _)) rfl
            · intro listed a W H hj hl hd
              have t89 : a.tmps.getD 89 undef = .bool false := H.get 25 89 (by kernel_rfl) (dep_of hd 25 (by kernel_rfl)) (fun _ h => by cases h)
              have t108 : a.tmps.getD 108 undef = .bool false := H.get 44 108 (by kernel_rfl) (dep_of hd 44 (by kernel_rfl)) (fun _ h => by cases h)
              exact step7_value (i := 45) rfl rfl (run_op_pickF rfl t89 t108) (calm7 (fun fs vs x y h hl => OfJ.later h hl) (by kernel_rfl) (by kernel_rfl) hj (later_refl _)) rfl
          · intro a WC hdef hsz hw hall hact
            obtain ⟨u, hu⟩ : ∃ u : Nat → Value, ∀ k, a.tmps.getD k undef = u k := ⟨_, fun _ => rfl⟩
            have h109 : u 109 = .bool false := by rw [← hu]; exact hall 45 _ rfl
            simp only [hu] at hact
            have hact' : a = ([64, 65, 66, 67, 68, 69, 70, 71, 72, 73, 74, 75, 76, 77, 78, 79, 80, 81, 82, 83, 84, 85, 86, 87, 88, 89, 90, 91, 92, 93, 94, 95, 96, 97, 98, 99, 100, 101, 102, 103, 104, 105, 106, 107, 108, 109] : List Nat).foldl (fun b k => b.put (some k) (u k)) _ := hact
            simp only [List.foldl] at hact'
            simp only [Act.put, List.setIfInBounds_toArray, List.set_cons_succ, List.set_cons_zero] at hact'
            have HAC := Lib.hid hact'
            have HX := Lib.hid hw
            clear hact hact' hall hdef hsz hw
            rw [h109] at HAC
            rw [HAC.out]
            have S9 := Lib.hid (below_chain HLW.out HX.out.below)
            clear HX HWE hu HLW HV HV2 HWF HPB HPB2 EA EA2 HAE HG HMB HBV
            go_wp2_with fail
            go_roundw
            case rel => exact ⟨j + 1, by go_num, by omega, S9⟩
            case measure => simp [intOf]; omega
      · obtain rfl : j = n := by omega
        go_wp2_with fail
        refine (vawake_any _).mono ?_
        rintro e w9 ⟨rfl, hb9⟩
        have S8 := Lib.hid (below_chain S7.out (below_chain HBJ.out hb9.out))
        go_wp2_with fail
        go_ret
        exact ⟨rfl, S8⟩
end Go.Proofs.Ytafnnpebdcnadaa
