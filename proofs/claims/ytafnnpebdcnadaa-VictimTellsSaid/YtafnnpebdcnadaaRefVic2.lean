/- The document's own victim: the gain, the order; blocks turned into the document's. Conditions: the list's cells; at most 41 blocks. -/
import Derived.Test.YtafnnpebdcnadaaRefVic
set_option linter.unusedVariables false
set_option linter.unusedSimpArgs false
namespace Go.Proofs.Ytafnnpebdcnadaa
open Go.RowKit Go.Sort

theorem max_of (ts : Array TypeId) (ty : TypeId) (p q m : Int) (h : (q ≤ p ∧ m = p) ∨ (p ≤ q ∧ m = q)) (w : World) : (Builtin.max_ ts ty #[.int .i64 p, .int .i64 q]).run Try.prog w = .ok (.int .i64 m) w := by
  simp only [Builtin.max_]
  rcases h with ⟨h, rfl⟩ | ⟨h, rfl⟩
  · simp [Builtin.max2]; omega
  · simp [Builtin.max2]; omega
set_option maxHeartbeats 4000000 in
theorem rgain_any (x : Int) (b : VB) (w : World) (hx : -9223372036854775808 ≤ x ∧ x ≤ 9223372036854775807) (hw : VBWf b) : Calls Try.prog 15 #[.int .i64 x, vblkV b] w (SaysI w (gainV x b)) := by
  have hb := vb_new w b #[.int .i64 b.id, .int .i64 b.cl, .int .i64 b.di, .int .i64 b.ot, .int .i64 b.we] rfl 37
  have HB : Hid (Below w.heap.size w (w.alloc (.cells #[.int .i64 b.id, .int .i64 b.cl, .int .i64 b.di, .int .i64 b.ot, .int .i64 b.we] 37))) := later_alloc _ _
  have hs : (w.alloc (.cells #[.int .i64 b.id, .int .i64 b.cl, .int .i64 b.di, .int .i64 b.ot, .int .i64 b.we] 37)).heap.size = w.heap.size + 1 := by simp
  obtain ⟨W1, HW1⟩ : ∃ W, Hid (W = w.alloc (.cells #[.int .i64 b.id, .int .i64 b.cl, .int .i64 b.di, .int .i64 b.ot, .int .i64 b.we] 37)) := ⟨_, rfl⟩
  have HBB := Lib.hid hb
  obtain ⟨c0, c1, c2, c3, c4⟩ := hb
  have C1 : Hid (∀ W, Calls Try.prog 16 #[.agg #[.int .i64 b.id, .int .i64 b.cl, .int .i64 b.di, .int .i64 b.ot, .int .i64 b.we]] W (SaysB W (mayV b))) := fun W => rmay_any b W
  have C2 : Hid (∀ W, Calls Try.prog 26 #[.int .i64 x] W fun e w' => e = .returned (.bool (fineI x)) ∧ w' = W) := fun W => rfine_any x W
  have HSL : Hid (w.heap.size < (w.alloc (.cells #[.int .i64 b.id, .int .i64 b.cl, .int .i64 b.di, .int .i64 b.ot, .int .i64 b.we] 37)).heap.size) := by show _ < _; simp
  unfold vblkV
  cases hm : mayV b with
  | false =>
    rw [show gainV x b = 0 by unfold gainV cntV; rw [hm]; rfl]
    rw [hm] at C1
    clear hm
    go_enter Try.func15, Try.ntmps15
    go_wp2_with fail
    refine (C1.out _).mono ?_
    rintro e w1 ⟨rfl, hb1⟩
    have B1 := Lib.hid (below_chain HB.out hb1.out)
    clear hb1 c0 c1 c2 c3 c4
    go_wp2_with fail
    go_ret
    exact ⟨rfl, B1⟩
  | true =>
    rw [hm] at C1
    by_cases ho : 0 < b.ot
    · rw [show gainV x b = 0 by unfold gainV cntV; rw [hm]; simp [ho]]
      have hod : decide (0 < b.ot) = true := decide_eq_true ho
      clear hm
      go_enter Try.func15, Try.ntmps15
      go_wp2_with fail
      refine (C1.out _).mono ?_
      rintro e w1 ⟨rfl, hb1⟩
      have B1 := Lib.hid (below_chain HB.out hb1.out)
      have V1 := HBB.out.since hb1.out HSL.out
      have v3 : w1.cell? ⟨w.heap.size, 3, none⟩ = _ := V1.c3
      clear hb1 c0 c1 c2 c3 c4 V1
      go_wp2_with fail
      go_ret
      exact ⟨rfl, B1⟩
    · have hod : decide (0 < b.ot) = false := decide_eq_false ho
      have hcn : cntV b = true := by unfold cntV; rw [hm, hod]; rfl
      have hbd := (mayV_yes.1 hm).2.2.1
      cases hf : fineI x with
      | false =>
        rw [show gainV x b = 0 by unfold gainV; rw [if_neg (by rw [hf]; simp)]]
        rw [hf] at C2
        clear hm hcn hf
        go_enter Try.func15, Try.ntmps15
        go_wp2_with fail
        refine (C1.out _).mono ?_
        rintro e w1 ⟨rfl, hb1⟩
        have B1 := Lib.hid (below_chain HB.out hb1.out)
        have V1 := HBB.out.since hb1.out HSL.out
        have v3 : w1.cell? ⟨w.heap.size, 3, none⟩ = _ := V1.c3
        clear hb1 c0 c1 c2 c3 c4 V1
        go_wp2_with fail
        refine (C2.out _).mono ?_
        rintro e w2 ⟨rfl, rfl⟩
        go_wp2_with fail
        go_ret
        exact ⟨rfl, B1⟩
      | true =>
        have hxf := fineI_yes.1 hf
        obtain ⟨m, HM⟩ : ∃ m, Hid ((if x - b.di < 0 then 0 else x - b.di) = m) := ⟨_, rfl⟩
        have hmx : ∀ ts ty w, (Builtin.max_ ts ty #[.int .i64 (x - b.di), .int .i64 0]).run Try.prog w = .ok (.int .i64 m) w := fun ts ty w => max_of ts ty _ _ _ (by
          have := HM.out
          split at this <;> omega) w
        rw [show gainV x b = m by unfold gainV; rw [if_pos ⟨hcn, hf⟩]; exact HM.out]
        rw [hf] at C2
        clear hm hcn hf
        go_enter Try.func15, Try.ntmps15
        go_wp2_with fail
        refine (C1.out _).mono ?_
        rintro e w1 ⟨rfl, hb1⟩
        have B1 := Lib.hid (below_chain HB.out hb1.out)
        have V1 := HBB.out.since hb1.out HSL.out
        have v2 : w1.cell? ⟨w.heap.size, 2, none⟩ = _ := V1.c2
        have v3 : w1.cell? ⟨w.heap.size, 3, none⟩ = _ := V1.c3
        clear hb1 c0 c1 c2 c3 c4 V1
        go_wp2_with fail
        refine (C2.out _).mono ?_
        rintro e w2 ⟨rfl, rfl⟩
        go_wp2_with fail
        go_ret
        exact ⟨rfl, B1⟩
theorem rb_cells {w : World} {B n : Nat} {A : Option Addr} {bs : List VB} (h : rblkK.Lie w B A n bs) {k : Nat} (hk : k < n) : ∃ ad, A = some ad ∧ ad.block < B ∧ RBAt w (ad.add (k * 5)) (bs.getD k VB.zero) ∧ VBWf (bs.getD k VB.zero) := by
  obtain ⟨ad, e1, e2, e3⟩ := h.each k hk
  exact ⟨ad, e1, e2, rblkAt_of e3, h.wf k⟩
/-- What a call that answers new blocks leaves. -/
def GivesR (w : World) (xs : List VB) (e : Ending) (w' : World) : Prop := ∃ A n c, e = .returned (.slice A n c) ∧ Hid (rblkK.Row w' w.heap.size A n c xs) ∧ Hid (Below w.heap.size w w')
set_option maxHeartbeats 4000000 in
theorem of_any (A : Option Addr) (n c : Nat) (bs : List VB) (w : World) (hn : n ≤ 41) (h : vblkK.Lie w w.heap.size A n bs) : Calls Try.prog 10 #[.slice A n c] w (GivesR w bs) := by
  have H := Lib.hid h
  clear h
  go_enter Try.func10, Try.ntmps10
  go_wp2_with fail
  go_loopw [3, 4] (fun t3 t4 wr => ∃ (i : Nat) (A5 : Option Addr) (c5 : Nat), t3 = .slice A5 i c5 ∧ t4 = .int .i64 i ∧ i ≤ n ∧ Hid (rblkK.Row wr w.heap.size A5 i c5 (bs.take i)) ∧ Hid (Below w.heap.size w wr)) (fun _ t4 _ => n - (intOf t4).toNat)
  case atStart => exact ⟨0, none, 0, rfl, rfl, Nat.zero_le _, Kind.Row.none_, Below.refl _ _⟩
  case round =>
    obtain ⟨i, A5, c5, rfl, rfl, hi, HR, HB⟩ := hrel
    have i0 : (0 : Int) ≤ (i : Int) := by omega
    by_cases hlt : i < n
    · have i1 : (i : Int) < (n : Int) := by omega
      obtain ⟨ad, eA, _, hv, hwf⟩ := vb_cells (H.out.since HB.out) hlt
      subst eA
      obtain ⟨b, HBV⟩ : ∃ b, Hid (bs.getD i VB.zero = b) := ⟨_, rfl⟩
      rw [HBV.out] at hv hwf
      obtain ⟨d0, d1, d2, d3, d4⟩ := hv
      have hs : (wr.alloc (.cells #[.int .i64 b.id, .int .i64 b.cl, .int .i64 b.di, .int .i64 b.ot, .int .i64 b.we] 34)).heap.size = wr.heap.size + 1 := by simp
      have HLW : Hid (Below wr.heap.size wr (wr.alloc (.cells #[.int .i64 b.id, .int .i64 b.cl, .int .i64 b.di, .int .i64 b.ot, .int .i64 b.we] 34))) := later_alloc _ _
      have RE := Lib.hid (HR.out.since HLW.out)
      have BE := Lib.hid (below_chain HB.out HLW.out)
      obtain ⟨A4, c4, W4, hr4, ho4, hb4, _⟩ := Kind.append_one (K := rblkK) BE.out RE.out b hwf #[.int .i64 b.id, .int .i64 b.cl, .int .i64 b.di, .int .i64 b.ot, .int .i64 b.we] rfl (by omega)
      rw [hs] at hr4
      have R4 := Lib.hid (ho4.same (show bs.take i ++ [b] = bs.take (i + 1) by rw [List.take_succ_eq_append_getElem (by rw [H.out.len]; exact hlt), ← HBV.out, List.getD_eq_getElem?_getD, List.getElem?_eq_getElem (by rw [H.out.len]; exact hlt)]; rfl))
      have B4 := Lib.hid hb4
      have HR4 := Lib.hid hr4
      clear hr4 ho4 hb4 RE BE HLW HR HB hs
      go_wp2_with (at_builtin; refine wpList_append_run rfl (.tmp 16) (.tmp 28) 27 rfl rfl rfl HR4.out ?_)
      go_roundw
      case rel => exact ⟨i + 1, A4, c4, rfl, by go_num, by omega, R4, B4⟩
      case measure => simp [intOf]; omega
    · obtain rfl : i = n := by omega
      have HF := Lib.hid (HR.out.same (List.take_of_length_le (by rw [H.out.len]; exact Nat.le_refl _)))
      clear HR
      go_wp2_with fail
      go_ret
      exact ⟨_, _, _, rfl, HF, HB⟩

set_option maxHeartbeats 32000000 in
set_option maxRecDepth 20000 in
theorem rorder_any (A : Option Addr) (n c : Nat) (bs : List VB) (w : World) (hn : n ≤ 41) (h : rblkK.Lie w w.heap.size A n bs) : Calls Try.prog 9 #[.slice A n c] w (GivesI w (idsV (ordV bs))) := by
  have H := Lib.hid h
  have HNL := Lib.hid h.len
  clear h
  go_enter Try.func9, Try.ntmps9
  go_wp2_with fail
  go_loopw [3, 4] (fun t3 t4 wr => ∃ (i mm : Nat) (A5 : Option Addr) (c5 : Nat), t3 = .slice A5 mm c5 ∧ t4 = .int .i64 i ∧ i ≤ n ∧ mm ≤ i ∧ Hid (rblkK.Row wr w.heap.size A5 mm c5 (ordN bs i)) ∧ Hid (Below w.heap.size w wr)) (fun _ t4 _ => n - (intOf t4).toNat)
  case atStart => exact ⟨0, 0, none, 0, rfl, rfl, Nat.zero_le _, Nat.le_refl _, Kind.Row.none_, Below.refl _ _⟩
  case round =>
    obtain ⟨Wa, rfl⟩ : ∃ Wa, Wa = wr := ⟨_, rfl⟩
    obtain ⟨i, mm, A5, c5, rfl, rfl, hi, hmm, HR, HB⟩ := hrel
    have i0 : (0 : Int) ≤ (i : Int) := by omega
    by_cases hlt : i < n
    · have i1 : (i : Int) < (n : Int) := by omega
      obtain ⟨ad, eA, hblk, hv, hwf⟩ := rb_cells (H.out.since HB.out) hlt
      subst eA
      obtain ⟨b, HBV⟩ : ∃ b, Hid (bs.getD i VB.zero = b) := ⟨_, rfl⟩
      rw [HBV.out] at hv hwf
      have HV := Lib.hid hv
      have HWF := Lib.hid hwf
      have HPB : Hid ((ad.add (i * 5)).block < Wa.heap.size) := by show _ < _; rw [addr_block]; exact hblk
      obtain ⟨d0, d1, d2, d3, d4⟩ := hv
      have HST : Hid (ordN bs (i + 1) = if cntV b = true then insV b (ordN bs i) else ordN bs i) := by show _ = _; rw [← HBV.out]; rfl
      have C1 : Hid (Calls Try.prog 16 #[.agg #[.int .i64 b.id, .int .i64 b.cl, .int .i64 b.di, .int .i64 b.ot, .int .i64 b.we]] Wa (SaysB Wa (mayV b))) := rmay_any b Wa
      cases hm : mayV b with
      | false =>
        have hcn : cntV b = false := by unfold cntV; rw [hm]; rfl
        rw [hcn, if_neg (by decide)] at HST
        rw [← HST.out] at HR
        rw [hm] at C1
        clear hm hcn
        go_wp2_with fail
        refine C1.out.mono ?_
        rintro e w1 ⟨rfl, hb1⟩
        have B1 := Lib.hid (below_chain HB.out hb1.out)
        have R1 := Lib.hid (HR.out.since hb1.out)
        clear hb1 d0 d1 d2 d3 d4 HR HB C1
        go_wp2_with fail
        go_roundw
        case rel => exact ⟨i + 1, mm, A5, c5, rfl, by go_num, by omega, by omega, R1, B1⟩
        case measure => simp [intOf]; omega
      | true =>
        rw [hm] at C1
        by_cases ho : 0 < b.ot
        · have hcn : cntV b = false := by unfold cntV; rw [hm]; simp [ho]
          have hod : decide (0 < b.ot) = true := decide_eq_true ho
          rw [hcn, if_neg (by decide)] at HST
          rw [← HST.out] at HR
          clear hm hcn
          go_wp2_with fail
          refine C1.out.mono ?_
          rintro e w1 ⟨rfl, hb1⟩
          have B1 := Lib.hid (below_chain HB.out hb1.out)
          have R1 := Lib.hid (HR.out.since hb1.out)
          have v3 := (HV.out.since hb1.out HPB.out).c3
          clear hb1 d0 d1 d2 d3 d4 HR HB C1
          go_wp2_with fail
          go_roundw
          case rel => exact ⟨i + 1, mm, A5, c5, rfl, by go_num, by omega, by omega, R1, B1⟩
          case measure => simp [intOf]; omega
        · have hod : decide (0 < b.ot) = false := decide_eq_false ho
          have hcn : cntV b = true := by unfold cntV; rw [hm, hod]; rfl
          rw [hcn, if_pos rfl] at HST
          obtain ⟨o, HOO⟩ : ∃ o, Hid (ordN bs i = o) := ⟨_, rfl⟩
          have HUP : Hid (o.Pairwise keptV) := by rw [← HOO.out]; exact (ord_is_n i (by rw [HNL.out]; exact hi)).up
          rw [HOO.out] at HR HST
          have HOL : Hid (o.length = mm) := HR.out.len
          clear hm hcn
          go_wp2_with fail
          refine C1.out.mono ?_
          rintro e w1 ⟨rfl, hb1⟩
          have B1 := Lib.hid (below_chain HB.out hb1.out)
          have R1 := Lib.hid (HR.out.since hb1.out)
          have V1 := Lib.hid (HV.out.since hb1.out HPB.out)
          have HP1 : Hid ((ad.add (i * 5)).block < w1.heap.size) := Nat.lt_of_lt_of_le HPB.out hb1.out.size
          have v3 := V1.out.c3
          clear hb1 d0 d1 d2 d3 d4 HR HB C1 HV HPB
          go_wp2_with fail
          clear v3
          go_loopw [5] (fun t5 wr => ∃ (k : Nat), t5 = .int .i64 k ∧ k ≤ mm ∧ Hid (∀ j, k ≤ j → j < mm → aheadV b (o.getD j VB.zero)) ∧ Hid (Below w1.heap.size w1 wr)) (fun t5 _ => (intOf t5).toNat)
          case atStart => exact ⟨mm, rfl, Nat.le_refl _, fun j h1 h2 => by omega, Below.refl _ _⟩
          case round =>
            obtain ⟨Wb, rfl⟩ : ∃ Wb, Wb = wr := ⟨_, rfl⟩
            obtain ⟨k, rfl, hk, HK, HBW⟩ := hrel
            have k0 : (0 : Int) ≤ (k : Int) := by omega
            have HBH : Hid (k < mm → aheadV b (o.getD k VB.zero)) := fun h => HK.out k (Nat.le_refl _) h
            by_cases hk0 : k = 0
            · have D1 : decide ((0 : Int) < (k : Int)) = false := decide_eq_false (by omega)
              have D2 : decide (0 < k) = false := decide_eq_false (by omega)
              have D3 : ¬ 0 < k := by omega
              have D1n : ¬ (0 : Int) < (k : Int) := by omega
              have HAH : Hid (∀ j, j < k → ¬ aheadV b (o.getD j VB.zero)) := fun j hj => by omega
              clear hk0
              go_wp2_with fail
              go_quiet (fail)
              have HBD := Lib.hid (below_drewN HBW.out nq)
              clear HBW D1 D1n D2 D3 HK
              generalize Wb.drewN nq = WC at HBD ⊢
              clear nq
              go_wp2_with fail
              obtain ⟨WE, HWE⟩ : ∃ W, Hid (W = WC.drew) := ⟨_, rfl⟩
              have HEL : Hid (Below w1.heap.size w1 WE) := by rw [HWE.out]; exact below_drewN HBD.out 1
              have RE := Lib.hid (R1.out.since HEL.out)
              have VE := Lib.hid (V1.out.since HEL.out HP1.out)
              have HPE : Hid ((ad.add (i * 5)).block < WE.heap.size) := Nat.lt_of_lt_of_le HP1.out HEL.out.size
              have BE := Lib.hid (below_chain B1.out HEL.out)
              have hcap := RE.out.cap
              have LT : Hid (rblkK.Lie WE WE.heap.size A5 k (o.take k)) := RE.out.lie.first hk
              have LD : Hid (rblkK.Lie WE WE.heap.size (if c5 = k then A5 else A5.map (·.add (k * rblkK.k))) (mm - k) (o.drop k)) := RE.out.lie.rest hk hcap
              clear HBD
              refine region_of_steps7 (by kernel_rfl) [some (.slice A5 mm c5), some (.int .i64 (k : Int)), some (.slice A5 k c5), none, some (.slice (some ad) n c), some (.int .i64 (i : Int)), some (.pointer (some (ad.add (i * 5)))), some (vblkV b), none, none, some (.slice A5 mm c5), some (.int .i64 (k : Int)), some (.slice (if c5 = k then A5 else A5.map (·.add (k * rblkK.k))) (mm - k) (c5 - k)), none, none] [3, 8, 9, 13, 14] [49, 54, 55, 59, 3] (InsA rblkK WE k mm o b) (by kernel_rfl) (by kernel_rfl) (by rw [← HWE.out]; exact InsA.start (by rw [slots_len]; rfl)) ?_ ?_
              · refine Steps7.cons ?_ (Steps7.cons ?_ (Steps7.cons ?_ (Steps7.cons ?_ (Steps7.cons ?_ (Steps7.cons ?_ (Steps7.cons ?_ (Steps7.cons ?_ (Steps7.cons ?_ (Steps7.cons ?_ (Steps7.cons ?_ (Steps7.cons ?_ (Steps7.cons ?_ (Steps7.cons ?_ (Steps7.cons ?_ (Steps7.nil)))))))))))))))
                · intro listed a W H hj hl hd
                  have t3 : a.tmps.getD 3 undef = .slice A5 mm c5 := (H.before 3 14 0 (by kernel_rfl) (by kernel_rfl) hl).trans rfl
                  exact step7_value (i := 0) rfl rfl (run_op_move rfl t3) (calm7 (fun fs vs x y h hl => InsA.later h hl) (by kernel_rfl) (by kernel_rfl) hj (later_refl _)) rfl
                · intro listed a W H hj hl hd
                  have t5 : a.tmps.getD 5 undef = .int .i64 (k : Int) := (H.old 5 (by kernel_rfl)).trans rfl
                  exact step7_value (i := 1) rfl rfl (run_op_move rfl t5) (calm7 (fun fs vs x y h hl => InsA.later h hl) (by kernel_rfl) (by kernel_rfl) hj (later_refl _)) rfl
                · intro listed a W H hj hl hd
                  have t46 : a.tmps.getD 46 undef = .slice A5 mm c5 := H.get 0 46 (by kernel_rfl) (dep_of hd 0 (by kernel_rfl)) (fun _ h => by cases h)
                  have t47 : a.tmps.getD 47 undef = .int .i64 (k : Int) := H.get 1 47 (by kernel_rfl) (dep_of hd 1 (by kernel_rfl)) (fun _ h => by cases h)
                  exact step7_value (i := 2) rfl rfl (run_op_slice rfl (by show (Instr.sliceAt 27 (a.tmps.getD 46 undef) none (some (a.tmps.getD 47 undef)) none).run _ _ = _; rw [t46, t47]; rw [run_sliceAt_slice (h := Try.underlying27)]; exact (rblkK.slice_to A5 mm c5 k hk hcap W))) (calm7 (fun fs vs x y h hl => InsA.later h hl) (by kernel_rfl) (by kernel_rfl) hj (later_refl _)) rfl
                · intro listed a W H hj hl hd
                  have t48 : a.tmps.getD 48 undef = .slice A5 k c5 := H.get 2 48 (by kernel_rfl) (dep_of hd 2 (by kernel_rfl)) (fun _ h => by cases h)
                  have f2 : (flags [3, 8, 9, 13, 14] listed).getD 2 false = false := H.notyets 4 hl (by kernel_rfl)
                  obtain ⟨A9, c9, W9, hr, hk9⟩ := hj.first f2 LT.out (by omega)
                  rw [← flags_put (m := 3) 0 rfl (by decide), ← slots_at (a := a) (d := 49) 0 rfl (by decide) (by rw [H.size]; exact of_decide_eq_true (by kernel_rfl))] at hk9
                  exact step7_value (i := 3) rfl rfl (run_op_append rfl rfl t48 hr) hk9 trivial
                · intro listed a W H hj hl hd
                  have t0 : a.tmps.getD 0 undef = .slice (some ad) n c := (H.old 0 (by kernel_rfl)).trans rfl
                  exact step7_value (i := 4) rfl rfl (run_op_move rfl t0) (calm7 (fun fs vs x y h hl => InsA.later h hl) (by kernel_rfl) (by kernel_rfl) hj (later_refl _)) rfl
                · intro listed a W H hj hl hd
                  have t4 : a.tmps.getD 4 undef = .int .i64 (i : Int) := (H.old 4 (by kernel_rfl)).trans rfl
                  exact step7_value (i := 5) rfl rfl (run_op_move rfl t4) (calm7 (fun fs vs x y h hl => InsA.later h hl) (by kernel_rfl) (by kernel_rfl) hj (later_refl _)) rfl
                · intro listed a W H hj hl hd
                  have t50 : a.tmps.getD 50 undef = .slice (some ad) n c := H.get 4 50 (by kernel_rfl) (dep_of hd 4 (by kernel_rfl)) (fun _ h => by cases h)
                  have t51 : a.tmps.getD 51 undef = .int .i64 (i : Int) := H.get 5 51 (by kernel_rfl) (dep_of hd 5 (by kernel_rfl)) (fun _ h => by cases h)
                  exact step7_value (i := 6) rfl rfl (run_op_index rfl t50 t51 (run_index_rb ad n c i hlt W)) (calm7 (fun fs vs x y h hl => InsA.later h hl) (by kernel_rfl) (by kernel_rfl) hj (later_refl _)) rfl
                · intro listed a W H hj hl hd
                  have t52 : a.tmps.getD 52 undef = .pointer (some (ad.add (i * 5))) := H.get 6 52 (by kernel_rfl) (dep_of hd 6 (by kernel_rfl)) (fun _ h => by cases h)
                  exact step7_value (i := 7) rfl rfl (run_op_load rfl t52 (run_load_rb _ _ W (VE.out.since hj.below HPE.out))) (calm7 (fun fs vs x y h hl => InsA.later h hl) (by kernel_rfl) (by kernel_rfl) hj (later_refl _)) rfl
                · intro listed a W H hj hl hd
                  have t53 : a.tmps.getD 53 undef = vblkV b := H.get 7 53 (by kernel_rfl) (dep_of hd 7 (by kernel_rfl)) (fun _ h => by cases h)
                  have f2 : (flags [3, 8, 9, 13, 14] listed).getD 2 false = false := H.notyets 4 hl (by kernel_rfl)
                  have hk9 := hj.build f2 HWF.out _ rfl
                  rw [← flags_put (m := 8) 1 rfl (by decide), ← slots_at (a := a) (d := 54) 1 rfl (by decide) (by rw [H.size]; exact of_decide_eq_true (by kernel_rfl))] at hk9
                  exact step7_value (i := 8) rfl rfl (run_op_build rfl (by simp only [List.map_toArray, List.map_cons, List.map_nil]; show (Instr.buildSlice 27 1 #[(0, a.tmps.getD 53 undef)]).run _ _ = _; rw [t53]; exact run_build_rb _ W)) hk9 trivial
                · intro listed a W H hj hl hd
                  have d49 : listed.getD 3 false = true := dep_of hd 3 (by kernel_rfl)
                  have d54 : listed.getD 8 false = true := dep_of hd 8 (by kernel_rfl)
                  have f0 : (flags [3, 8, 9, 13, 14] listed).getD 0 false = true := done_true (dep_of hd 3 (by kernel_rfl))
                  have f1 : (flags [3, 8, 9, 13, 14] listed).getD 1 false = true := done_true (dep_of hd 8 (by kernel_rfl))
                  have f2 : (flags [3, 8, 9, 13, 14] listed).getD 2 false = false := hl
                  have f3 : (flags [3, 8, 9, 13, 14] listed).getD 3 false = false := H.notyets 4 hl (by kernel_rfl)
                  obtain ⟨A9, c9, W9, hr, hk9⟩ := hj.second f0 f1 f2 f3 (by omega)
                  rw [← flags_put (m := 9) 2 rfl (by decide), ← slots_at (a := a) (d := 55) 2 rfl (by decide) (by rw [H.size]; exact of_decide_eq_true (by kernel_rfl))] at hk9
                  exact step7_value (i := 9) rfl rfl (run_op_append rfl rfl rfl hr) hk9 trivial
                · intro listed a W H hj hl hd
                  have t3 : a.tmps.getD 3 undef = .slice A5 mm c5 := (H.before 3 14 10 (by kernel_rfl) (by kernel_rfl) hl).trans rfl
                  exact step7_value (i := 10) rfl rfl (run_op_move rfl t3) (calm7 (fun fs vs x y h hl => InsA.later h hl) (by kernel_rfl) (by kernel_rfl) hj (later_refl _)) rfl
                · intro listed a W H hj hl hd
                  have t5 : a.tmps.getD 5 undef = .int .i64 (k : Int) := (H.old 5 (by kernel_rfl)).trans rfl
                  exact step7_value (i := 11) rfl rfl (run_op_move rfl t5) (calm7 (fun fs vs x y h hl => InsA.later h hl) (by kernel_rfl) (by kernel_rfl) hj (later_refl _)) rfl
                · intro listed a W H hj hl hd
                  have t56 : a.tmps.getD 56 undef = .slice A5 mm c5 := H.get 10 56 (by kernel_rfl) (dep_of hd 10 (by kernel_rfl)) (fun _ h => by cases h)
                  have t57 : a.tmps.getD 57 undef = .int .i64 (k : Int) := H.get 11 57 (by kernel_rfl) (dep_of hd 11 (by kernel_rfl)) (fun _ h => by cases h)
                  exact step7_value (i := 12) rfl rfl (run_op_slice rfl (by show (Instr.sliceAt 27 (a.tmps.getD 56 undef) (some (a.tmps.getD 57 undef)) none none).run _ _ = _; rw [t56, t57]; rw [run_sliceAt_slice (h := Try.underlying27)]; exact (rblkK.slice_from A5 mm c5 k hk W))) (calm7 (fun fs vs x y h hl => InsA.later h hl) (by kernel_rfl) (by kernel_rfl) hj (later_refl _)) rfl
                · intro listed a W H hj hl hd
                  have d55 : listed.getD 9 false = true := dep_of hd 9 (by kernel_rfl)
                  have t58 : a.tmps.getD 58 undef = .slice (if c5 = k then A5 else A5.map (·.add (k * rblkK.k))) (mm - k) (c5 - k) := H.get 12 58 (by kernel_rfl) (dep_of hd 12 (by kernel_rfl)) (fun _ h => by cases h)
                  have f2 : (flags [3, 8, 9, 13, 14] listed).getD 2 false = true := done_true (dep_of hd 9 (by kernel_rfl))
                  have f3 : (flags [3, 8, 9, 13, 14] listed).getD 3 false = false := hl
                  have f4 : (flags [3, 8, 9, 13, 14] listed).getD 4 false = false := H.notyets 4 hl (by kernel_rfl)
                  obtain ⟨A9, c9, W9, hr, hk9⟩ := hj.third f2 f3 f4 hk LD.out (by omega)
                  rw [← flags_put (m := 13) 3 rfl (by decide), ← slots_at (a := a) (d := 59) 3 rfl (by decide) (by rw [H.size]; exact of_decide_eq_true (by kernel_rfl))] at hk9
                  exact step7_value (i := 13) rfl rfl (run_op_append rfl rfl t58 hr) hk9 trivial
                · intro listed a W H hj hl hd
                  have d59 : listed.getD 13 false = true := dep_of hd 13 (by kernel_rfl)
                  have hk9 := hj.assign
                  rw [← flags_put (m := 14) 4 rfl (by decide), ← slots_at (a := a) (d := 3) 4 rfl (by decide) (by rw [H.size]; exact of_decide_eq_true (by kernel_rfl))] at hk9
                  exact step7_value (i := 14) rfl rfl (run_op_assign rfl rfl) hk9 trivial
              · intro a WC hdef hsz hw hall hact
                obtain ⟨u, hu⟩ : ∃ u : Nat → Value, ∀ k, a.tmps.getD k undef = u k := ⟨_, fun _ => rfl⟩
                simp only [hu] at hact
                have hact' : a = ([46, 47, 48, 49, 50, 51, 52, 53, 54, 55, 56, 57, 58, 59, 3] : List Nat).foldl (fun b k => b.put (some k) (u k)) _ := hact
                simp only [List.foldl] at hact'
                simp only [Act.put, List.setIfInBounds_toArray, List.set_cons_succ, List.set_cons_zero] at hact'
                have HAC := Lib.hid hact'
                have HX := Lib.hid hw
                clear hact hact' hall hdef hsz hw
                rw [HAC.out]
                have ea : u 3 = u 59 := by rw [← hu, ← hu]; exact HX.out.asg rfl
                obtain ⟨A6, c6, e6, r6⟩ := HX.out.a3 rfl
                have e59 : u 59 = .slice A6 (mm + 1) c6 := by rw [← hu]; exact e6
                have HXB := Lib.hid HX.out.below
                have R6 := Lib.hid r6
                rw [ea, e59]
                clear HX e6 r6 ea e59 hu
                have R7 := Lib.hid ((R6.out.elder (base' := w.heap.size) BE.out.size).same (show (o.take k ++ [b]) ++ o.drop k = ordN bs (i + 1) by rw [HST.out, insV_split b (by rw [HOL.out]; exact hk) HAH.out (by rw [HOL.out]; exact HBH.out), List.append_assoc]; rfl))
                have B7 := Lib.hid (BE.out.trans (HXB.out.mono BE.out.size))
                clear RE BE HXB HWE HEL R6 VE LT LD
                go_wp2_with fail
                go_roundw
                case rel => exact ⟨i + 1, mm + 1, A6, c6, rfl, by go_num, by omega, by omega, R7, B7⟩
                case measure => simp [intOf]; omega
            · obtain ⟨kp, HKP⟩ : ∃ kp, Hid (k = kp + 1) := ⟨k - 1, by show _ = _; omega⟩
              have hkp : kp < mm := by have := HKP.out; omega
              have kz : (k : Int) - 1 = (kp : Int) := by have := HKP.out; omega
              have D1 : decide ((0 : Int) < (k : Int)) = true := decide_eq_true (by omega)
              have D2 : decide (0 < k) = true := decide_eq_true (by omega)
              have D3 : 0 < k := by omega
              have D1p : (0 : Int) < (k : Int) := by omega
              obtain ⟨ao, eA, _, hz, _⟩ := rb_cells (R1.out.since HBW.out).lie hkp
              subst eA
              obtain ⟨z, HZ⟩ : ∃ z, Hid (o.getD kp VB.zero = z) := ⟨_, rfl⟩
              rw [HZ.out] at hz
              obtain ⟨z0, z1, z2, z3, z4⟩ := hz
              obtain ⟨y0, y1, y2, y3, y4⟩ := V1.out.since HBW.out HP1.out
              have e0 := cell_regrown z0
              have e1 := cell_regrown z1
              have e2 := cell_regrown z2
              have e3 := cell_regrown z3
              have e4 := cell_regrown z4
              have f0 := cell_regrown y0
              have f1 := cell_regrown y1
              have f2 := cell_regrown y2
              have f3 := cell_regrown y3
              have f4 := cell_regrown y4
              clear z0 z1 z2 z3 z4 y0 y1 y2 y3 y4
              have kp0 : (0 : Int) ≤ (kp : Int) := by omega
              have kp1 : (kp : Int) < (mm : Int) := by omega
              by_cases ha : aheadV b z
              · have had : decide (aheadV b z) = true := decide_eq_true ha
                have c1 : Hid (∀ (d : Nat) (os : Array Obj), Calls Try.prog 22 #[.agg #[.int .i64 b.id, .int .i64 b.cl, .int .i64 b.di, .int .i64 b.ot, .int .i64 b.we], .agg #[.int .i64 z.id, .int .i64 z.cl, .int .i64 z.di, .int .i64 z.ot, .int .i64 z.we]] (grow (redrawn Wb d) os) fun e w'' => e = .returned (.bool true) ∧ ∃ p : Regrown, w'' = grow (redrawn Wb p.d) p.os) := fun d os => quiet_says (by have := rahead_any b z (grow (redrawn Wb d) os); rw [had] at this; exact this)
                go_wp2_with fail
                refine wp_region_quiet_below (by kernel_rfl) (by kernel_rfl) ?_
                repeat (go_big_quiet_step (first | (go_at_call 22; exact c1.out _ _)))
                refine wpQuiet_nil ?_
                intro W2 hw'
                have S2 : Hid (Below w1.heap.size w1 W2) := by obtain ⟨⟨dq, osq⟩, hw''⟩ := hw'; rw [hw'']; exact below_chain HBW.out (below_regrown _ _ _)
                have HK2 : Hid (∀ j, kp ≤ j → j < mm → aheadV b (o.getD j VB.zero)) := fun j h1 h2 => by
                  by_cases e : j = kp
                  · rw [e, HZ.out]; exact ha
                  · exact HK.out j (by have := HKP.out; omega) h2
                clear hw' e0 e1 e2 e3 e4 f0 f1 f2 f3 f4 c1 HBW HK
                go_wp2_with fail
                go_roundw
                case rel => exact ⟨kp, by go_num, by omega, HK2, S2⟩
                case measure => have := HKP.out; simp [intOf]; omega
              · have had : decide (aheadV b z) = false := decide_eq_false ha
                have c1 : Hid (∀ (d : Nat) (os : Array Obj), Calls Try.prog 22 #[.agg #[.int .i64 b.id, .int .i64 b.cl, .int .i64 b.di, .int .i64 b.ot, .int .i64 b.we], .agg #[.int .i64 z.id, .int .i64 z.cl, .int .i64 z.di, .int .i64 z.ot, .int .i64 z.we]] (grow (redrawn Wb d) os) fun e w'' => e = .returned (.bool false) ∧ ∃ p : Regrown, w'' = grow (redrawn Wb p.d) p.os) := fun d os => quiet_says (by have := rahead_any b z (grow (redrawn Wb d) os); rw [had] at this; exact this)
                have HAH : Hid (∀ j, j < k → ¬ aheadV b (o.getD j VB.zero)) := fun j hj => up_ahead HUP.out (show j ≤ kp by have := HKP.out; omega) (by rw [HOL.out]; exact hkp) (by rw [HZ.out]; exact ha)
                go_wp2_with fail
                refine wp_region_quiet_below (by kernel_rfl) (by kernel_rfl) ?_
                repeat (go_big_quiet_step (first | (go_at_call 22; exact c1.out _ _)))
                refine wpQuiet_nil ?_
                intro WC hw'
                have HBD : Hid (Below w1.heap.size w1 WC) := by obtain ⟨⟨dq, osq⟩, hw''⟩ := hw'; rw [hw'']; exact below_chain HBW.out (below_regrown _ _ _)
                clear hw' e0 e1 e2 e3 e4 f0 f1 f2 f3 f4 c1 HBW HK kz
                go_wp2_with fail
                obtain ⟨WE, HWE⟩ : ∃ W, Hid (W = WC.drew) := ⟨_, rfl⟩
                have HEL : Hid (Below w1.heap.size w1 WE) := by rw [HWE.out]; exact below_drewN HBD.out 1
                have RE := Lib.hid (R1.out.since HEL.out)
                have VE := Lib.hid (V1.out.since HEL.out HP1.out)
                have HPE : Hid ((ad.add (i * 5)).block < WE.heap.size) := Nat.lt_of_lt_of_le HP1.out HEL.out.size
                have BE := Lib.hid (below_chain B1.out HEL.out)
                have hcap := RE.out.cap
                have LT : Hid (rblkK.Lie WE WE.heap.size (some ao) k (o.take k)) := RE.out.lie.first hk
                have LD : Hid (rblkK.Lie WE WE.heap.size (if c5 = k then (some ao) else Option.map (·.add (k * rblkK.k)) (some ao)) (mm - k) (o.drop k)) := RE.out.lie.rest hk hcap
                clear HBD
                refine region_of_steps7 (by kernel_rfl) [some (.slice (some ao) mm c5), some (.int .i64 (k : Int)), some (.slice (some ao) k c5), none, some (.slice (some ad) n c), some (.int .i64 (i : Int)), some (.pointer (some (ad.add (i * 5)))), some (vblkV b), none, none, some (.slice (some ao) mm c5), some (.int .i64 (k : Int)), some (.slice (if c5 = k then (some ao) else Option.map (·.add (k * rblkK.k)) (some ao)) (mm - k) (c5 - k)), none, none] [3, 8, 9, 13, 14] [49, 54, 55, 59, 3] (InsA rblkK WE k mm o b) (by kernel_rfl) (by kernel_rfl) (by rw [← HWE.out]; exact InsA.start (by rw [slots_len]; rfl)) ?_ ?_
                · refine Steps7.cons ?_ (Steps7.cons ?_ (Steps7.cons ?_ (Steps7.cons ?_ (Steps7.cons ?_ (Steps7.cons ?_ (Steps7.cons ?_ (Steps7.cons ?_ (Steps7.cons ?_ (Steps7.cons ?_ (Steps7.cons ?_ (Steps7.cons ?_ (Steps7.cons ?_ (Steps7.cons ?_ (Steps7.cons ?_ (Steps7.nil)))))))))))))))
                  · intro listed a W H hj hl hd
                    have t3 : a.tmps.getD 3 undef = .slice (some ao) mm c5 := (H.before 3 14 0 (by kernel_rfl) (by kernel_rfl) hl).trans rfl
                    exact step7_value (i := 0) rfl rfl (run_op_move rfl t3) (calm7 (fun fs vs x y h hl => InsA.later h hl) (by kernel_rfl) (by kernel_rfl) hj (later_refl _)) rfl
                  · intro listed a W H hj hl hd
                    have t5 : a.tmps.getD 5 undef = .int .i64 (k : Int) := (H.old 5 (by kernel_rfl)).trans rfl
                    exact step7_value (i := 1) rfl rfl (run_op_move rfl t5) (calm7 (fun fs vs x y h hl => InsA.later h hl) (by kernel_rfl) (by kernel_rfl) hj (later_refl _)) rfl
                  · intro listed a W H hj hl hd
                    have t46 : a.tmps.getD 46 undef = .slice (some ao) mm c5 := H.get 0 46 (by kernel_rfl) (dep_of hd 0 (by kernel_rfl)) (fun _ h => by cases h)
                    have t47 : a.tmps.getD 47 undef = .int .i64 (k : Int) := H.get 1 47 (by kernel_rfl) (dep_of hd 1 (by kernel_rfl)) (fun _ h => by cases h)
                    exact step7_value (i := 2) rfl rfl (run_op_slice rfl (by show (Instr.sliceAt 27 (a.tmps.getD 46 undef) none (some (a.tmps.getD 47 undef)) none).run _ _ = _; rw [t46, t47]; rw [run_sliceAt_slice (h := Try.underlying27)]; exact (rblkK.slice_to (some ao) mm c5 k hk hcap W))) (calm7 (fun fs vs x y h hl => InsA.later h hl) (by kernel_rfl) (by kernel_rfl) hj (later_refl _)) rfl
                  · intro listed a W H hj hl hd
                    have t48 : a.tmps.getD 48 undef = .slice (some ao) k c5 := H.get 2 48 (by kernel_rfl) (dep_of hd 2 (by kernel_rfl)) (fun _ h => by cases h)
                    have f2 : (flags [3, 8, 9, 13, 14] listed).getD 2 false = false := H.notyets 4 hl (by kernel_rfl)
                    obtain ⟨A9, c9, W9, hr, hk9⟩ := hj.first f2 LT.out (by omega)
                    rw [← flags_put (m := 3) 0 rfl (by decide), ← slots_at (a := a) (d := 49) 0 rfl (by decide) (by rw [H.size]; exact of_decide_eq_true (by kernel_rfl))] at hk9
                    exact step7_value (i := 3) rfl rfl (run_op_append rfl rfl t48 hr) hk9 trivial
                  · intro listed a W H hj hl hd
                    have t0 : a.tmps.getD 0 undef = .slice (some ad) n c := (H.old 0 (by kernel_rfl)).trans rfl
                    exact step7_value (i := 4) rfl rfl (run_op_move rfl t0) (calm7 (fun fs vs x y h hl => InsA.later h hl) (by kernel_rfl) (by kernel_rfl) hj (later_refl _)) rfl
                  · intro listed a W H hj hl hd
                    have t4 : a.tmps.getD 4 undef = .int .i64 (i : Int) := (H.old 4 (by kernel_rfl)).trans rfl
                    exact step7_value (i := 5) rfl rfl (run_op_move rfl t4) (calm7 (fun fs vs x y h hl => InsA.later h hl) (by kernel_rfl) (by kernel_rfl) hj (later_refl _)) rfl
                  · intro listed a W H hj hl hd
                    have t50 : a.tmps.getD 50 undef = .slice (some ad) n c := H.get 4 50 (by kernel_rfl) (dep_of hd 4 (by kernel_rfl)) (fun _ h => by cases h)
                    have t51 : a.tmps.getD 51 undef = .int .i64 (i : Int) := H.get 5 51 (by kernel_rfl) (dep_of hd 5 (by kernel_rfl)) (fun _ h => by cases h)
                    exact step7_value (i := 6) rfl rfl (run_op_index rfl t50 t51 (run_index_rb ad n c i hlt W)) (calm7 (fun fs vs x y h hl => InsA.later h hl) (by kernel_rfl) (by kernel_rfl) hj (later_refl _)) rfl
                  · intro listed a W H hj hl hd
                    have t52 : a.tmps.getD 52 undef = .pointer (some (ad.add (i * 5))) := H.get 6 52 (by kernel_rfl) (dep_of hd 6 (by kernel_rfl)) (fun _ h => by cases h)
                    exact step7_value (i := 7) rfl rfl (run_op_load rfl t52 (run_load_rb _ _ W (VE.out.since hj.below HPE.out))) (calm7 (fun fs vs x y h hl => InsA.later h hl) (by kernel_rfl) (by kernel_rfl) hj (later_refl _)) rfl
                  · intro listed a W H hj hl hd
                    have t53 : a.tmps.getD 53 undef = vblkV b := H.get 7 53 (by kernel_rfl) (dep_of hd 7 (by kernel_rfl)) (fun _ h => by cases h)
                    have f2 : (flags [3, 8, 9, 13, 14] listed).getD 2 false = false := H.notyets 4 hl (by kernel_rfl)
                    have hk9 := hj.build f2 HWF.out _ rfl
                    rw [← flags_put (m := 8) 1 rfl (by decide), ← slots_at (a := a) (d := 54) 1 rfl (by decide) (by rw [H.size]; exact of_decide_eq_true (by kernel_rfl))] at hk9
                    exact step7_value (i := 8) rfl rfl (run_op_build rfl (by simp only [List.map_toArray, List.map_cons, List.map_nil]; show (Instr.buildSlice 27 1 #[(0, a.tmps.getD 53 undef)]).run _ _ = _; rw [t53]; exact run_build_rb _ W)) hk9 trivial
                  · intro listed a W H hj hl hd
                    have d49 : listed.getD 3 false = true := dep_of hd 3 (by kernel_rfl)
                    have d54 : listed.getD 8 false = true := dep_of hd 8 (by kernel_rfl)
                    have f0 : (flags [3, 8, 9, 13, 14] listed).getD 0 false = true := done_true (dep_of hd 3 (by kernel_rfl))
                    have f1 : (flags [3, 8, 9, 13, 14] listed).getD 1 false = true := done_true (dep_of hd 8 (by kernel_rfl))
                    have f2 : (flags [3, 8, 9, 13, 14] listed).getD 2 false = false := hl
                    have f3 : (flags [3, 8, 9, 13, 14] listed).getD 3 false = false := H.notyets 4 hl (by kernel_rfl)
                    obtain ⟨A9, c9, W9, hr, hk9⟩ := hj.second f0 f1 f2 f3 (by omega)
                    rw [← flags_put (m := 9) 2 rfl (by decide), ← slots_at (a := a) (d := 55) 2 rfl (by decide) (by rw [H.size]; exact of_decide_eq_true (by kernel_rfl))] at hk9
                    exact step7_value (i := 9) rfl rfl (run_op_append rfl rfl rfl hr) hk9 trivial
                  · intro listed a W H hj hl hd
                    have t3 : a.tmps.getD 3 undef = .slice (some ao) mm c5 := (H.before 3 14 10 (by kernel_rfl) (by kernel_rfl) hl).trans rfl
                    exact step7_value (i := 10) rfl rfl (run_op_move rfl t3) (calm7 (fun fs vs x y h hl => InsA.later h hl) (by kernel_rfl) (by kernel_rfl) hj (later_refl _)) rfl
                  · intro listed a W H hj hl hd
                    have t5 : a.tmps.getD 5 undef = .int .i64 (k : Int) := (H.old 5 (by kernel_rfl)).trans rfl
                    exact step7_value (i := 11) rfl rfl (run_op_move rfl t5) (calm7 (fun fs vs x y h hl => InsA.later h hl) (by kernel_rfl) (by kernel_rfl) hj (later_refl _)) rfl
                  · intro listed a W H hj hl hd
                    have t56 : a.tmps.getD 56 undef = .slice (some ao) mm c5 := H.get 10 56 (by kernel_rfl) (dep_of hd 10 (by kernel_rfl)) (fun _ h => by cases h)
                    have t57 : a.tmps.getD 57 undef = .int .i64 (k : Int) := H.get 11 57 (by kernel_rfl) (dep_of hd 11 (by kernel_rfl)) (fun _ h => by cases h)
                    exact step7_value (i := 12) rfl rfl (run_op_slice rfl (by show (Instr.sliceAt 27 (a.tmps.getD 56 undef) (some (a.tmps.getD 57 undef)) none none).run _ _ = _; rw [t56, t57]; rw [run_sliceAt_slice (h := Try.underlying27)]; exact (rblkK.slice_from (some ao) mm c5 k hk W))) (calm7 (fun fs vs x y h hl => InsA.later h hl) (by kernel_rfl) (by kernel_rfl) hj (later_refl _)) rfl
                  · intro listed a W H hj hl hd
                    have d55 : listed.getD 9 false = true := dep_of hd 9 (by kernel_rfl)
                    have t58 : a.tmps.getD 58 undef = .slice (if c5 = k then (some ao) else Option.map (·.add (k * rblkK.k)) (some ao)) (mm - k) (c5 - k) := H.get 12 58 (by kernel_rfl) (dep_of hd 12 (by kernel_rfl)) (fun _ h => by cases h)
                    have f2 : (flags [3, 8, 9, 13, 14] listed).getD 2 false = true := done_true (dep_of hd 9 (by kernel_rfl))
                    have f3 : (flags [3, 8, 9, 13, 14] listed).getD 3 false = false := hl
                    have f4 : (flags [3, 8, 9, 13, 14] listed).getD 4 false = false := H.notyets 4 hl (by kernel_rfl)
                    obtain ⟨A9, c9, W9, hr, hk9⟩ := hj.third f2 f3 f4 hk LD.out (by omega)
                    rw [← flags_put (m := 13) 3 rfl (by decide), ← slots_at (a := a) (d := 59) 3 rfl (by decide) (by rw [H.size]; exact of_decide_eq_true (by kernel_rfl))] at hk9
                    exact step7_value (i := 13) rfl rfl (run_op_append rfl rfl t58 hr) hk9 trivial
                  · intro listed a W H hj hl hd
                    have d59 : listed.getD 13 false = true := dep_of hd 13 (by kernel_rfl)
                    have hk9 := hj.assign
                    rw [← flags_put (m := 14) 4 rfl (by decide), ← slots_at (a := a) (d := 3) 4 rfl (by decide) (by rw [H.size]; exact of_decide_eq_true (by kernel_rfl))] at hk9
                    exact step7_value (i := 14) rfl rfl (run_op_assign rfl rfl) hk9 trivial
                · intro a WC hdef hsz hw hall hact
                  obtain ⟨u, hu⟩ : ∃ u : Nat → Value, ∀ k, a.tmps.getD k undef = u k := ⟨_, fun _ => rfl⟩
                  simp only [hu] at hact
                  have hact' : a = ([46, 47, 48, 49, 50, 51, 52, 53, 54, 55, 56, 57, 58, 59, 3] : List Nat).foldl (fun b k => b.put (some k) (u k)) _ := hact
                  simp only [List.foldl] at hact'
                  simp only [Act.put, List.setIfInBounds_toArray, List.set_cons_succ, List.set_cons_zero] at hact'
                  have HAC := Lib.hid hact'
                  have HX := Lib.hid hw
                  clear hact hact' hall hdef hsz hw
                  rw [HAC.out]
                  have ea : u 3 = u 59 := by rw [← hu, ← hu]; exact HX.out.asg rfl
                  obtain ⟨A6, c6, e6, r6⟩ := HX.out.a3 rfl
                  have e59 : u 59 = .slice A6 (mm + 1) c6 := by rw [← hu]; exact e6
                  have HXB := Lib.hid HX.out.below
                  have R6 := Lib.hid r6
                  rw [ea, e59]
                  clear HX e6 r6 ea e59 hu
                  have R7 := Lib.hid ((R6.out.elder (base' := w.heap.size) BE.out.size).same (show (o.take k ++ [b]) ++ o.drop k = ordN bs (i + 1) by rw [HST.out, insV_split b (by rw [HOL.out]; exact hk) HAH.out (by rw [HOL.out]; exact HBH.out), List.append_assoc]; rfl))
                  have B7 := Lib.hid (BE.out.trans (HXB.out.mono BE.out.size))
                  clear RE BE HXB HWE HEL R6 VE LT LD
                  go_wp2_with fail
                  go_roundw
                  case rel => exact ⟨i + 1, mm + 1, A6, c6, rfl, by go_num, by omega, by omega, R7, B7⟩
                  case measure => simp [intOf]; omega
    · obtain rfl : i = n := by omega
      have HOV : Hid (ordN bs i = ordV bs) := by show _ = _; unfold ordV; rw [HNL.out]
      rw [HOV.out] at HR
      obtain ⟨o, HOO⟩ : ∃ o, Hid (ordV bs = o) := ⟨_, rfl⟩
      rw [HOO.out] at HR
      have HOL : Hid (o.length = mm) := HR.out.len
      clear HOV
      go_wp2_with fail
      go_loopw [6, 7] (fun t6 t7 wr => ∃ (j : Nat) (A6 : Option Addr) (c6 : Nat), t6 = .slice A6 j c6 ∧ t7 = .int .i64 j ∧ j ≤ mm ∧ Hid (intK.Row wr Wa.heap.size A6 j c6 (idsV (o.take j))) ∧ Hid (Below Wa.heap.size Wa wr)) (fun _ t7 _ => mm - (intOf t7).toNat)
      case atStart => exact ⟨0, none, 0, rfl, rfl, Nat.zero_le _, Kind.Row.none_, Below.refl _ _⟩
      case round =>
        obtain ⟨Wb, rfl⟩ : ∃ Wb, Wb = wr := ⟨_, rfl⟩
        obtain ⟨j, A6, c6, rfl, rfl, hj, HR6, HB6⟩ := hrel
        have j0 : (0 : Int) ≤ (j : Int) := by omega
        by_cases hlt2 : j < mm
        · have j1 : (j : Int) < (mm : Int) := by omega
          obtain ⟨ao, eA, _, hz, hzw⟩ := rb_cells (HR.out.since HB6.out).lie hlt2
          subst eA
          obtain ⟨z, HZ⟩ : ∃ z, Hid (o.getD j VB.zero = z) := ⟨_, rfl⟩
          rw [HZ.out] at hz hzw
          have z0 := hz.c0
          obtain ⟨A4, c4, W4, hr4, ho4, hb4, _⟩ := Kind.append_one (K := intK) HB6.out HR6.out z.id ⟨hzw.id_lo, hzw.id_hi⟩ #[.int .i64 z.id] rfl (by omega)
          have R4 := Lib.hid (ho4.same (show idsV (o.take j) ++ [z.id] = idsV (o.take (j + 1)) by
            rw [List.take_succ_eq_append_getElem (by rw [HOL.out]; exact hlt2), ← HZ.out, List.getD_eq_getElem?_getD, List.getElem?_eq_getElem (by rw [HOL.out]; exact hlt2)]
            unfold idsV
            rw [List.map_append]; rfl))
          have B4 := Lib.hid hb4
          have HR4 := Lib.hid hr4
          clear hr4 ho4 hb4 hz hzw HR6 HB6
          go_wp2_with (at_builtin; refine wpList_append_run rfl (.tmp 66) (.tmp 72) 24 rfl rfl rfl HR4.out ?_)
          go_roundw
          case rel => exact ⟨j + 1, A4, c4, rfl, by go_num, by omega, R4, B4⟩
          case measure => simp [intOf]; omega
        · obtain rfl : j = mm := by omega
          have HF := Lib.hid ((HR6.out.same (by rw [List.take_of_length_le (by rw [HOL.out]; exact Nat.le_refl _)])).elder HB.out.size)
          have HF2 := Lib.hid (below_chain HB.out HB6.out)
          clear HR6
          go_wp2_with fail
          go_ret
          exact ⟨_, _, _, rfl, by rw [HOO.out]; exact HF, HF2⟩
end Go.Proofs.Ytafnnpebdcnadaa
