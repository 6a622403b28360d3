/- The contract of the document's own Read. Conditions: the slice's cells; at most 900 bytes. -/
import Derived.Test.YticjdjffmagdkaaDoorRefLay
import Derived.Test.YticjdjffmagdkaaDoorHeadRead
set_option linter.unusedVariables false
set_option linter.unusedSimpArgs false
namespace Go.Proofs.YticjdjffmagdkaaDoor
open Go.RowKit

theorem refunfix_at (A : Option Addr) (n c k : Nat) (m : Int) (bs : List Nat) (w : World) (hn : n ≤ 900) (hc : n ≤ c) (hm : m = (k : Int)) (hk : k ≤ 8) (hkn : k ≤ n) (hA : Bytes w w.heap.size A n bs) :
    Calls Tryd.prog 33 #[.slice A n c, .int .i64 m] w fun e w' => ∃ (y : Int) (A' : Option Addr) (c' : Nat), e = .returned (.tuple #[.int .u64 y, .slice A' (n - k) c', .bool true]) ∧ Hid (y = ((Pk.unfix (bs.take k) : Nat) : Int)) ∧ 0 ≤ y ∧ y ≤ 18446744073709551615 ∧
      Hid (Own w' w.heap.size A' (n - k) c' (bs.drop k)) ∧ Hid (Below w.heap.size w w') := by
  subst hm
  refine (refunfix_any A n c (k : Int) bs w hn hc hA).mono ?_
  rw [unfixO_yes hk hkn]
  rintro e w' ⟨y, A', n', c', rfl, hy, h0, h1, hn', ho, hb⟩
  obtain rfl : n - k = n' := by rw [← ho.out.len, List.length_drop, hA.len]
  exact ⟨y, A', c', rfl, hy, h0, h1, ho, hb⟩
theorem part_zero {t : List Nat} (h : 0 < t.length) : Hd.part t 0 = t.getD 0 0 := by
  show Pk.unfix (t.take 1) = _
  cases t with
  | nil => simp at h
  | cons b r => simp [Pk.unfix]
set_option maxHeartbeats 2000000 in
theorem refread_size (A : Option Addr) (n c : Nat) (bs : List Nat) (w : World) (hn : n ≤ 900) (h : ¬ Hd.fits (n - 28)) :
    Calls Tryd.prog 13 #[.slice A n c] w (ROut w .torn) := by
  have S2 := Lib.hid (since_alloc (Below.refl w.heap.size w) (.cells #[.int .i64 0, .int .u64 0, .int .i64 0, .int .i64 0] 25))
  have R2 := Lib.hid (row4_new w 0 0 0 0)
  have hcs : (n : Int) - 28 < 128 ∨ (¬ (n : Int) - 28 < 128 ∧ 256 < (n : Int) - 28) := by
    by_cases h1 : (n : Int) - 28 < 128
    · exact Or.inl h1
    · refine Or.inr ⟨h1, ?_⟩
      have : ¬(128 ≤ n - 28 ∧ n - 28 ≤ 256) := h
      omega
  clear h
  rcases hcs with hcs | ⟨hcs, hcs2⟩
  all_goals
    go_enter Tryd.func13, Tryd.ntmps13
    go_wp2_with fail
    obtain ⟨r0, r1, r2, r3⟩ := R2.out.at_
    exact bodyPost_ret (v := .tuple #[.slice none 0 0, .agg #[.int .i64 0, .int .u64 0, .int .i64 0, .int .i64 0], .int .i64 2]) (by simp [results, Tryd.results13, go_sem, r0, r1, r2, r3]) rfl ⟨rfl, S2.out⟩
set_option maxHeartbeats 2000000 in
theorem refread_blank (A : Option Addr) (n c : Nat) (bs : List Nat) (w : World) (hn : n ≤ 900) (hA : Bytes w w.heap.size A n bs) (h : Hd.fits (n - 28)) (hbl : blankB bs = true) :
    Calls Tryd.prog 13 #[.slice A n c] w (ROut w .erased) := by
  have S2 := Lib.hid (since_alloc (Below.refl w.heap.size w) (.cells #[.int .i64 0, .int .u64 0, .int .i64 0, .int .i64 0] 25))
  have R2 := Lib.hid (row4_new w 0 0 0 0)
  have HBL := Lib.hid hbl
  have HA := Lib.hid hA
  have n0 : ¬ (n : Int) - 28 < 128 := by have := h.1; omega
  have n1 : ¬ 256 < (n : Int) - 28 := by have := h.2; omega
  clear h hA hbl
  go_enter Tryd.func13, Tryd.ntmps13
  go_wp2_with fail
  refine (refall_any A n c bs _ hn (HA.out.since S2.out)).mono ?_
  rw [HBL.out]
  rintro e W3 ⟨rfl, hb3⟩
  have S3 := Lib.hid (S2.out.trans (hb3.out.mono (by simp)))
  have R3 := Lib.hid (R2.out.since hb3.out)
  clear S2 R2 hb3
  obtain ⟨q0, q1, q2, q3⟩ := R3.out.at_
  have f0 := R3.out.free 0
  have f1 := R3.out.free 1
  have f2 := R3.out.free 2
  have f3 := R3.out.free 3
  go_wp2_with fail
  obtain ⟨r9, s9⟩ := row4_put4 (B := w.heap.size) R3.out (Nat.le_refl _) 0 0 0 0
  obtain ⟨W9, HW9⟩ : ∃ W9, Hid (W9 = ((((W3.setCell ⟨w.heap.size, 0, none⟩ (.int .i64 0)).setCell ⟨w.heap.size, 1, none⟩ (.int .u64 0)).setCell ⟨w.heap.size, 2, none⟩ (.int .i64 0)).setCell ⟨w.heap.size, 3, none⟩ (.int .i64 0))) := ⟨_, rfl⟩
  rw [← HW9.out] at r9 s9 ⊢
  obtain ⟨r0, r1, r2, r3⟩ := r9.at_
  exact bodyPost_ret (v := .tuple #[.slice none 0 0, .agg #[.int .i64 0, .int .u64 0, .int .i64 0, .int .i64 0], .int .i64 0]) (by simp [results, Tryd.results13, go_sem, r0, r1, r2, r3]) rfl ⟨rfl, S3.out.trans s9⟩
set_option maxHeartbeats 8000000 in
theorem refread_page (A : Option Addr) (n c N : Nat) (bs : List Nat) (w : World) (hN : n = N + 28) (hc : n ≤ c) (hA : Bytes w w.heap.size A n bs) (h : Hd.fits N) (hbl : blankB bs = false) :
    Calls Tryd.prog 13 #[.slice A n c] w fun e w' => ∃ r, Hd.Reads bs r ∧ ROut w r e w' := by
  have S2 := Lib.hid (since_alloc (Below.refl w.heap.size w) (.cells #[.int .i64 0, .int .u64 0, .int .i64 0, .int .i64 0] 25))
  have R2 := Lib.hid (row4_new w 0 0 0 0)
  have HBL := Lib.hid hbl
  have HA := Lib.hid hA
  have HF := Lib.hid h
  have hN1 : N ≤ 256 := h.2
  have HL : Hid (bs.length = N + 28) := hA.len.trans hN
  have HC := Lib.hid hc
  have HN := Lib.hid hN
  have e28 : (n : Int) - 28 = (N : Int) := by omega
  have hNn : N ≤ n := by omega
  have hn9 : n ≤ 900 := by omega
  have m0 : ¬ (N : Int) < 128 := by have := h.1; omega
  have m1 : ¬ 256 < (N : Int) := by omega
  clear h hA hbl hc hN
  go_enter Tryd.func13, Tryd.ntmps13
  go_wp2_with fail
  refine (refall_any A n c bs _ hn9 (HA.out.since S2.out)).mono ?_
  rw [HBL.out]
  rintro e W4 ⟨rfl, hb4⟩
  have S4 := Lib.hid (S2.out.trans (hb4.out.mono (by simp)))
  have R4 := Lib.hid (R2.out.since hb4.out)
  have HA4 := Lib.hid (HA.out.since S4.out)
  have HLT := Lib.hid R4.out.lt
  clear S2 R2 hb4 e28
  obtain ⟨ad, hA', hblk, hcell⟩ := HA4.out.at_ (show N < n by have := HN.out; omega)
  have hsm := HA4.out.small N
  obtain ⟨K, HKE⟩ : ∃ K : Int, Hid (((bs.getD N 0 : Nat) : Int) = K) := ⟨_, rfl⟩
  rw [HKE.out] at hcell
  have k0 : 0 ≤ K := by have := HKE.out; omega
  have k1 : K ≤ 255 := by have := HKE.out; omega
  have hs1 := slice_from A n c (N + 1) (by have := HN.out; omega)
  rw [show n - (N + 1) = 27 by have := HN.out; omega] at hs1
  obtain ⟨A5, HA5⟩ : ∃ A5 : Option Addr, Hid (A5 = if c = N + 1 then A else A.map (·.add ((N + 1) * 1))) := ⟨_, rfl⟩
  rw [← HA5.out] at hs1
  have hs1' : ∀ W : World, (Instr.slice 22 (.slice A n c) (some (.int .i64 ((N : Int) + 1))) none none).run Tryd.prog W = .ok (.slice A5 27 (c - (N + 1))) W := fun W => by
    have := hs1 W
    rwa [show ((N + 1 : Nat) : Int) = (N : Int) + 1 by omega] at this
  have S5 := Lib.hid (since_alloc S4.out (.cells #[.int .i64 K, .int .u64 0, .int .i64 0, .int .i64 0] 25))
  have R5 := Lib.hid (R4.out.since (later_alloc W4 (.cells #[.int .i64 K, .int .u64 0, .int .i64 0, .int .i64 0] 25)))
  have H5 := Lib.hid (row4_new W4 K 0 0 0)
  have HB5 : Hid (Bytes (W4.alloc (.cells #[.int .i64 K, .int .u64 0, .int .i64 0, .int .i64 0] 25)) (W4.alloc (.cells #[.int .i64 K, .int .u64 0, .int .i64 0, .int .i64 0] 25)).heap.size A5 27 ((bs.drop N).drop 1)) := by
    have := (HA4.out.since (later_alloc W4 (.cells #[.int .i64 K, .int .u64 0, .int .i64 0, .int .i64 0] 25))).rest (k := N + 1) (c := c) (by have := HN.out; omega) HC.out
    rw [← HA5.out, show n - (N + 1) = 27 by have := HN.out; omega] at this
    rwa [List.drop_drop]
  have HC5 : Hid (27 ≤ c - (N + 1)) := by have := HC.out; have := HN.out; show _ ≤ _; omega
  have i0 : (0 : Int) ≤ (N : Int) := by omega
  have i1 : (N : Int) < (n : Int) := by have := HN.out; omega
  clear hs1 HA5 hsm S4 R4 HA4
  subst hA'
  go_wp2_with fail
  refine (refunfix_at A5 27 (c - (N + 1)) 8 8 _ _ (by omega) HC5.out rfl (by omega) (by omega) HB5.out).mono ?_
  rintro e W6 ⟨A2, B6, c6, rfl, HA6, ha0, ha1, HO6, hb6⟩
  have S6 := Lib.hid (below_chain S5.out hb6.out)
  have R6 := Lib.hid (R5.out.since hb6.out)
  have G6 := Lib.hid (H5.out.since hb6.out)
  clear hb6 S5 R5 H5 HB5 hs1' hcell
  go_wp2_with fail
  refine (refunfix_at B6 19 c6 5 5 _ _ (by omega) HO6.out.cap rfl (by omega) (by omega) HO6.out.bytes).mono ?_
  rintro e W7 ⟨S, B7, c7, rfl, HS6, hs0, hs1, HO7, hb7⟩
  have S7 := Lib.hid (below_chain S6.out hb7.out)
  have R7 := Lib.hid (R6.out.since hb7.out)
  have G7 := Lib.hid (G6.out.since hb7.out)
  clear hb7 S6 R6 G6
  go_wp2_with fail
  refine (refunfix_at B7 14 c7 3 3 _ _ (by omega) HO7.out.cap rfl (by omega) (by omega) HO7.out.bytes).mono ?_
  rintro e W8 ⟨G, B8, c8, rfl, HG6, hg0, hg1, HO8, hb8⟩
  have S8 := Lib.hid (below_chain S7.out hb8.out)
  have R8 := Lib.hid (R7.out.since hb8.out)
  have G8 := Lib.hid (G7.out.since hb8.out)
  clear hb8 S7 R7 G7
  have HTB : Hid (∀ b ∈ bs.drop N, b < 256) := fun b hb => HA.out.lt256 b (List.mem_of_mem_drop hb)
  have HTL : Hid ((bs.drop N).length = 28) := by rw [List.length_drop, HL.out]; show _ = _; omega
  have HK : Hid (K = ((Hd.headOf (bs.drop N)).k : Int)) := by
    rw [Hd.headOf_parts]
    show K = ((Hd.part (bs.drop N) 0 : Nat) : Int)
    rw [part_zero (by rw [HTL.out]; omega), getD_drop, Nat.add_zero]; exact HKE.out.symm
  have HAA : Hid (A2 = ((Hd.headOf (bs.drop N)).a : Int)) := HA6
  have HS : Hid (S = ((Hd.headOf (bs.drop N)).s : Int)) := HS6
  have HG : Hid (G = ((Hd.headOf (bs.drop N)).g : Int)) := HG6
  have s1 : S ≤ 1099511627775 := by
    have h1 := Hd.part_lt HTB.out 2
    have h2 : S = ((Hd.part (bs.drop N) 2 : Nat) : Int) := HS6.out
    have h3 : (256 : Nat) ^ Hd.wid 2 = 1099511627776 := by decide
    omega
  have g1 : G ≤ 16777215 := by
    have h1 := Hd.part_lt HTB.out 3
    have h2 : G = ((Hd.part (bs.drop N) 3 : Nat) : Int) := HG6.out
    have h3 : (256 : Nat) ^ Hd.wid 3 = 16777216 := by decide
    omega
  obtain ⟨d0, d1, d2, d3⟩ := G8.out.at_
  have e1 := G8.out.free 1
  have e2 := G8.out.free 2
  have e3 := G8.out.free 3
  clear HO6 HO7 HO8 HS6 HA6 HG6 HKE hs1 hg1 HTB HTL
  go_wp2_with fail
  obtain ⟨WX, HWX⟩ : ∃ W, Hid (W = ((W8.setCell ⟨W4.heap.size, 1, none⟩ (.int .u64 A2)).setCell ⟨W4.heap.size, 2, none⟩ (.int .i64 S)).setCell ⟨W4.heap.size, 3, none⟩ (.int .i64 G)) := ⟨_, rfl⟩
  rw [← HWX.out]
  have hgx : W8.grownBy WX (some W4.heap.size) := by
    rw [HWX.out]
    exact grownBy_trans (grownBy_trans (setCell_else W8 ⟨W4.heap.size, 1, none⟩ _) (setCell_else _ ⟨W4.heap.size, 2, none⟩ _)) (setCell_else _ ⟨W4.heap.size, 3, none⟩ _)
  have GX : Hid (Row4 WX W4.heap.size K A2 S G) := by rw [HWX.out]; exact ⟨by simp [World.setCell, Array.getElem?_modify, G8.out.row]⟩
  have SX := Lib.hid (S8.out.grown hgx S8.out.size (fun q hq => by rw [← Option.some.inj hq]; exact Nat.le_of_lt HLT.out))
  have RX := Lib.hid (R8.out.else_ hgx (by have := HLT.out; omega))
  obtain ⟨W0, HD0⟩ : ∃ W0 : World, Hid (W0 = WX.drew) := ⟨_, rfl⟩
  have S0 : Hid (Below w.heap.size w W0) := by rw [HD0.out]; exact SX.out.drew
  have R0 : Hid (Row4 W0 w.heap.size 0 0 0 0) := by rw [HD0.out]; exact ⟨RX.out.row⟩
  have H6 : Hid (HeadAt W0 W4.heap.size K A2 S G) := by rw [HD0.out]; exact ⟨GX.out.at_.k, GX.out.at_.a, GX.out.at_.s, GX.out.at_.g⟩
  have HB0 := Lib.hid (HA.out.since S0.out)
  have HBN := Lib.hid (HB0.out.first hNn)
  obtain ⟨o, HO⟩ : ∃ o, Hid (o = layO (bs.take N) K A2 S G) := ⟨_, rfl⟩
  clear d0 d1 d2 d3 e1 e2 e3 hgx GX SX RX HWX S8 R8 G8
  refine region_of_steps2 (by kernel_rfl) (fact2Of [.is (.slice (some ad) n c), .is (.int .i64 (N : Int)), .is (.slice (some ad) N c), .is (.agg #[.int .i64 K, .int .u64 A2, .int .i64 S, .int .i64 G]), .that (OutT RefE W0.heap.size o) (fun _ _ _ h k => outTR_later h k), .that (OutT RefE W0.heap.size o) (fun _ _ _ h k => outTR_later h k), .that (OutS W0.heap.size o) (fun _ _ _ h k => outS_later h k), .that (RefE o) (fun _ _ _ h k => refE_later h k), .that (OutS W0.heap.size o) (fun _ _ _ h k => outS_later h k), .that (RefE o) (fun _ _ _ h k => refE_later h k)]) (deadOf []) Calm (fun W => Below W0.heap.size W0 W ∧ W0.heap.size ≤ W.heap.size) (by kernel_rfl)
    (fun i j v w w' hm hd hn h hR => fact2_calm _ i j v w w' h hR) (fun j w w' h k => calm_inv h k) ⟨by rw [HD0.out]; exact Below.refl _ _, by rw [HD0.out]; exact Nat.le_refl _⟩ ?_ ?_
  · refine Steps2.cons ?_ (Steps2.cons ?_ (Steps2.cons ?_ (Steps2.cons ?_ (Steps2.cons ?_ (Steps2.cons ?_ (Steps2.cons ?_ (Steps2.cons ?_ (Steps2.cons ?_ (Steps2.cons ?_ (Steps2.nil))))))))))
    · intro listed a W H hw hl hd
      have t0 : a.tmps.getD 0 undef = .slice (some ad) n c := (H.old 0 (by kernel_rfl)).trans rfl
      exact step2_value (i := 0) rfl rfl (run_op_move rfl t0) (calm_refl _) rfl
    · intro listed a W H hw hl hd
      have t5 : a.tmps.getD 5 undef = .int .i64 (N : Int) := (H.old 5 (by kernel_rfl)).trans rfl
      exact step2_value (i := 1) rfl rfl (run_op_move rfl t5) (calm_refl _) rfl
    · intro listed a W H hw hl hd
      have t66 : a.tmps.getD 66 undef = .slice (some ad) n c := H.get 0 66 (by kernel_rfl) (dep_of hd 0 (by kernel_rfl)) (alive_none (by kernel_rfl))
      have t67 : a.tmps.getD 67 undef = .int .i64 (N : Int) := H.get 1 67 (by kernel_rfl) (dep_of hd 1 (by kernel_rfl)) (alive_none (by kernel_rfl))
      exact step2_value (i := 2) rfl rfl (run_op_slice rfl (by show (Instr.sliceAt 22 (a.tmps.getD 66 undef) none (some (a.tmps.getD 67 undef)) none).run _ _ = _; rw [t66, t67]; rw [run_sliceAt_slice (h := under24)]; exact slice_to (some ad) n c N (by omega) HC.out W)) (calm_refl _) rfl
    · intro listed a W H hw hl hd
      have t6 : a.tmps.getD 6 undef = .pointer (some ⟨W4.heap.size, 0, none⟩) := (H.old 6 (by kernel_rfl)).trans rfl
      exact step2_value (i := 3) rfl rfl (run_op_load rfl t6 (run_load_head (H6.out.since hw.1))) (calm_refl _) rfl
    · intro listed a W H hw hl hd
      have t68 : a.tmps.getD 68 undef = .slice (some ad) N c := H.get 2 68 (by kernel_rfl) (dep_of hd 2 (by kernel_rfl)) (alive_none (by kernel_rfl))
      have t69 : a.tmps.getD 69 undef = .agg #[.int .i64 K, .int .u64 A2, .int .i64 S, .int .i64 G] := H.get 3 69 (by kernel_rfl) (dep_of hd 3 (by kernel_rfl)) (alive_none (by kernel_rfl))
      refine step2_call (i := 4) rfl rfl (run_op_call (vs := #[.slice (some ad) N c, .agg #[.int .i64 K, .int .u64 A2, .int .i64 S, .int .i64 G]]) Tryd.func11 (by kernel_rfl) (by kernel_rfl) rfl (by simp only [List.map_toArray, List.map_cons, List.map_nil]; show #[a.tmps.getD 68 undef, a.tmps.getD 69 undef] = _; rw [t68, t69])) ?_
      refine (reflay_any (some ad) N c (bs.take N) K A2 S G W (by omega) (HBN.out.since hw.1) ha0 ha1).mono ?_
      rw [← HO.out]
      rintro e W2 ⟨v, rfl, ho, hb⟩
      exact ⟨_, rfl, calm_later hb.out, ho.elder hw.2⟩
    · intro listed a W H hw hl hd
      have T70 : (OutT RefE W0.heap.size o) (a.tmps.getD 70 undef) W := H.get 4 70 (by kernel_rfl) (dep_of hd 4 (by kernel_rfl)) (alive_none (by kernel_rfl))
      exact step2_value (i := 5) rfl rfl (run_op_move rfl rfl) (calm_refl _) T70
    · intro listed a W H hw hl hd
      have T65 : (OutT RefE W0.heap.size o) (a.tmps.getD 65 undef) W := H.get 5 65 (by kernel_rfl) (dep_of hd 5 (by kernel_rfl)) (alive_none (by kernel_rfl))
      obtain ⟨x71, y71, e71, s71, z71⟩ := T65
      exact step2_value (i := 6) rfl rfl (run_op_extract rfl e71 rfl) (calm_refl _) s71
    · intro listed a W H hw hl hd
      have T65 : (OutT RefE W0.heap.size o) (a.tmps.getD 65 undef) W := H.get 5 65 (by kernel_rfl) (dep_of hd 5 (by kernel_rfl)) (alive_none (by kernel_rfl))
      obtain ⟨x72, y72, e72, s72, z72⟩ := T65
      exact step2_value (i := 7) rfl rfl (run_op_extract rfl e72 rfl) (calm_refl _) z72
    · intro listed a W H hw hl hd
      have T71 : (OutS W0.heap.size o) (a.tmps.getD 71 undef) W := H.get 6 71 (by kernel_rfl) (dep_of hd 6 (by kernel_rfl)) (alive_none (by kernel_rfl))
      exact step2_value (i := 8) rfl rfl (run_op_assign rfl rfl) (calm_refl _) T71
    · intro listed a W H hw hl hd
      have T72 : (RefE o) (a.tmps.getD 72 undef) W := H.get 7 72 (by kernel_rfl) (dep_of hd 7 (by kernel_rfl)) (alive_none (by kernel_rfl))
      exact step2_value (i := 9) rfl rfl (run_op_assign rfl rfl) (calm_refl _) T72
  · intro a W hdef hsz hw hall hact
    have t7 : OutS W0.heap.size o (a.tmps.getD 15 undef) W := hall 8 _ rfl (by kernel_rfl)
    have t8 : RefE o (a.tmps.getD 16 undef) W := hall 9 _ rfl (by kernel_rfl)
    have S7 := Lib.hid (S0.out.trans (hw.1.mono S0.out.size))
    have R7 := Lib.hid (R0.out.since hw.1)
    have H7 := Lib.hid (H6.out.since hw.1)
    have HB7 := Lib.hid (HB0.out.since hw.1)
    obtain ⟨u, hu⟩ : ∃ u : Nat → Value, ∀ k, a.tmps.getD k undef = u k := ⟨_, fun _ => rfl⟩
    simp only [hu] at hact t7 t8
    have hact' : a = ([66, 67, 68, 69, 70, 65, 71, 72, 15, 16] : List Nat).foldl (fun b k => b.put (some k) (u k)) _ := hact
    rcases o with _ | ps
    · have h8 : u 16 = .int .i64 2 := t8
      have h7 : u 15 = .slice none 0 0 := t7
      simp only [List.foldl, h7, h8] at hact'
      simp only [Act.put, List.setIfInBounds_toArray, List.set_cons_succ, List.set_cons_zero] at hact'
      have HACT := Lib.hid hact'
      have HR : Hid (Hd.Reads bs .torn) := reads_torn HL.out HF.out HA.out.lt256 HBL.out HK.out HAA.out HS.out HG.out (fun ps hp => by rw [← HO.out] at hp; cases hp)
      clear hu hact hact' t7 t8 h7 h8 hall hdef hsz
      rw [HACT.out]
      obtain ⟨q0, q1, q2, q3⟩ := R7.out.at_
      have f0 := R7.out.free 0
      have f1 := R7.out.free 1
      have f2 := R7.out.free 2
      have f3 := R7.out.free 3
      go_wp2_with fail
      obtain ⟨r9, s9⟩ := row4_put4 (B := w.heap.size) R7.out (Nat.le_refl _) 0 0 0 0
      obtain ⟨W9, HW9⟩ : ∃ W9, Hid (W9 = ((((W.setCell ⟨w.heap.size, 0, none⟩ (.int .i64 0)).setCell ⟨w.heap.size, 1, none⟩ (.int .u64 0)).setCell ⟨w.heap.size, 2, none⟩ (.int .i64 0)).setCell ⟨w.heap.size, 3, none⟩ (.int .i64 0))) := ⟨_, rfl⟩
      rw [← HW9.out] at r9 s9 ⊢
      obtain ⟨r0, r1, r2, r3⟩ := r9.at_
      exact bodyPost_ret (v := .tuple #[.slice none 0 0, .agg #[.int .i64 0, .int .u64 0, .int .i64 0, .int .i64 0], .int .i64 2]) (by simp [results, Tryd.results13, go_sem, r0, r1, r2, r3]) rfl ⟨.torn, HR.out, rfl, S7.out.trans s9⟩
    · obtain ⟨A7, n7, c7, h7, ho7⟩ := t7
      have h8 : u 16 = .int .i64 0 := t8
      simp only [List.foldl, h7, h8] at hact'
      simp only [Act.put, List.setIfInBounds_toArray, List.set_cons_succ, List.set_cons_zero] at hact'
      have HACT := Lib.hid hact'
      have O7 := Lib.hid ho7
      have hv1 := conv_bytes O7.out.bytes c7
      have hv2 := conv_bytes HB7.out c
      obtain ⟨sa, HSA⟩ : ∃ s, Hid (s = strOf ps) := ⟨_, rfl⟩
      obtain ⟨sb, HSB⟩ : ∃ s, Hid (s = strOf bs) := ⟨_, rfl⟩
      rw [← HSA.out] at hv1
      rw [← HSB.out] at hv2
      have HBQ : Hid ((sa.toList == sb.toList) = sameB ps bs) := by
        rw [HSA.out, HSB.out, ← beq_toListBytes]; exact strOf_beq O7.out.bytes.lt256 HA.out.lt256
      clear hu hact hact' h7 h8 ho7 t8 hall hdef hsz
      rw [HACT.out]
      by_cases hsame : ps = bs
      · have hbq : (sa.toList == sb.toList) = true := by rw [HBQ.out]; exact decide_eq_true hsame
        have HR : Hid (Hd.Reads bs (.valid (bs.take N) (Hd.headOf (bs.drop N)))) := reads_valid HL.out HF.out HK.out HAA.out HS.out HG.out ha1 (by rw [← HO.out, hsame])
        clear hsame
        go_wp2_with fail
        obtain ⟨W9, HW9⟩ : ∃ W9 : World, Hid (W9 = W.drew) := ⟨_, rfl⟩
        have S9 : Hid (Below w.heap.size w W9) := by rw [HW9.out]; exact S7.out.drew
        have R9 : Hid (Row4 W9 w.heap.size 0 0 0 0) := by rw [HW9.out]; exact ⟨R7.out.row⟩
        have H9 : Hid (HeadAt W9 W4.heap.size K A2 S G) := by rw [HW9.out]; exact ⟨H7.out.k, H7.out.a, H7.out.s, H7.out.g⟩
        clear S7 R7 H7
        have HAN := Lib.hid (HA.out.first hNn)
        have HG9 : Hid (w.heap.size < W9.heap.size) := R9.out.lt
        refine region_of_steps2 (by kernel_rfl) (F8 W9.heap.size w.heap.size (some ad) n c N (bs.take N) K A2 S G) (fun _ => none) (Six w.heap.size) (SixI W9 w.heap.size) (by kernel_rfl)
          (fun i j v x y hij hd hn h hR => f8_stays HG9.out hij h hR) (fun j x y h k => six_inv h k) ⟨by rw [HW9.out]; exact World.grownBy.refl _ _, 0, 0, 0, 0, by rw [← HW9.out]; exact R9.out⟩ ?_ ?_
        · refine Steps2.cons ?_ (Steps2.cons ?_ (Steps2.cons ?_ (Steps2.cons ?_ (Steps2.cons ?_ (Steps2.cons ?_ (Steps2.cons ?_ (Steps2.cons ?_ (Steps2.nil))))))))
          · intro listed a W H hw hl hd
            have t0 : a.tmps.getD 0 undef = .slice (some ad) n c := (H.old 0 (by kernel_rfl)).trans rfl
            exact step2_value (i := 0) rfl rfl (run_op_move rfl t0) (six_later (by decide) (later_refl _)) rfl
          · intro listed a W H hw hl hd
            have t5 : a.tmps.getD 5 undef = .int .i64 (N : Int) := (H.old 5 (by kernel_rfl)).trans rfl
            exact step2_value (i := 1) rfl rfl (run_op_move rfl t5) (six_later (by decide) (later_refl _)) rfl
          · intro listed a W H hw hl hd
            have t83 : a.tmps.getD 83 undef = .slice (some ad) n c := H.get 0 83 (by kernel_rfl) (dep_of hd 0 (by kernel_rfl)) (fun j hj => by cases hj)
            have t84 : a.tmps.getD 84 undef = .int .i64 (N : Int) := H.get 1 84 (by kernel_rfl) (dep_of hd 1 (by kernel_rfl)) (fun j hj => by cases hj)
            exact step2_value (i := 2) rfl rfl (run_op_slice rfl (by show (Instr.sliceAt 22 (a.tmps.getD 83 undef) none (some (a.tmps.getD 84 undef)) none).run _ _ = _; rw [t83, t84]; rw [run_sliceAt_slice (h := under24)]; exact slice_to (some ad) n c N hNn HC.out W)) (six_later (by decide) (later_refl _)) rfl
          · intro listed a W H hw hl hd
            have t85 : a.tmps.getD 85 undef = .slice (some ad) N c := H.get 2 85 (by kernel_rfl) (dep_of hd 2 (by kernel_rfl)) (fun j hj => by cases hj)
            have hby := sixI_bytes HAN.out S9.out hw
            obtain ⟨B, c2, W2, hr, ho, hb⟩ := own_append (c' := c) (Below.refl W.heap.size W) Own.none_ hby (by omega)
            rw [Nat.zero_add] at hr ho
            rw [List.nil_append] at ho
            exact step2_value (i := 3) rfl rfl (run_op_append rfl rfl t85 hr) (six_later (by decide) hb) ⟨B, c2, rfl, ho.elder hw.1.size⟩
          · intro listed a W H hw hl hd
            have t6 : a.tmps.getD 6 undef = .pointer (some ⟨W4.heap.size, 0, none⟩) := (H.old 6 (by kernel_rfl)).trans rfl
            exact step2_value (i := 4) rfl rfl (run_op_load rfl t6 (run_load_head (H9.out.else_ hw.1 (by have := HLT.out; omega)))) (six_later (by decide) (later_refl _)) rfl
          · intro listed a W H hw hl hd
            obtain ⟨B, m, e, ho⟩ := (show ∃ B m, a.tmps.getD 86 undef = .slice B N m ∧ Own W W9.heap.size B N m (bs.take N) from H.get 3 86 (by kernel_rfl) (dep_of hd 3 (by kernel_rfl)) (fun j hj => by cases hj))
            exact step2_value (i := 5) rfl rfl (run_op_assign rfl e) (six_later (by decide) (later_refl _)) ⟨B, m, rfl, ho⟩
          · intro listed a W H hw hl hd
            have t3 : a.tmps.getD 3 undef = .pointer (some ⟨w.heap.size, 0, none⟩) := (H.old 3 (by kernel_rfl)).trans rfl
            have t87 : a.tmps.getD 87 undef = .agg #[.int .i64 K, .int .u64 A2, .int .i64 S, .int .i64 G] := H.get 4 87 (by kernel_rfl) (dep_of hd 4 (by kernel_rfl)) (fun j hj => by cases hj)
            obtain ⟨K0, A0, S0, G0, hrow⟩ := hw.2
            exact step2_done (i := 6) rfl rfl rfl (run_op_store rfl t3 t87 (run_store_head hrow K A2 S G)) ⟨fun _ => ⟨put_else W w.heap.size _ _ _ _, K, A2, S, G, hrow.put K A2 S G⟩, fun h => absurd rfl h⟩ (hrow.put K A2 S G)
          · intro listed a W H hw hl hd
            exact step2_value (i := 7) rfl rfl (run_op_assign rfl rfl) (six_later (by decide) (later_refl _)) rfl
        · intro a W hdef hsz hw hall hact
          obtain ⟨B, m, e2, ho2⟩ := (show ∃ B m, a.tmps.getD 2 undef = .slice B N m ∧ Own W W9.heap.size B N m (bs.take N) from hall 5 _ rfl rfl)
          have row : Row4 W w.heap.size K A2 S G := hall 6 _ rfl rfl
          have e4 : a.tmps.getD 4 undef = .int .i64 1 := hall 7 _ rfl rfl
          obtain ⟨u, hu⟩ : ∃ u : Nat → Value, ∀ k, a.tmps.getD k undef = u k := ⟨_, fun _ => rfl⟩
          simp only [hu] at hact e2 e4
          have hact' : a = ([83, 84, 85, 86, 87, 2, 4] : List Nat).foldl (fun b k => b.put (some k) (u k)) _ := hact
          simp only [List.foldl, e2, e4] at hact'
          simp only [Act.put, List.setIfInBounds_toArray, List.set_cons_succ, List.set_cons_zero] at hact'
          have HACT := Lib.hid hact'
          have S10 := Lib.hid (S9.out.grown hw.1 S9.out.size (fun q hq => by rw [← Option.some.inj hq]; exact Nat.le_refl _))
          have O10 := Lib.hid (ho2.elder (Nat.le_of_lt HG9.out))
          have HE := Lib.hid (⟨HK.out, HAA.out, HS.out, HG.out⟩ : K = ((Hd.headOf (bs.drop N)).k : Int) ∧ A2 = ((Hd.headOf (bs.drop N)).a : Int) ∧ S = ((Hd.headOf (bs.drop N)).s : Int) ∧ G = ((Hd.headOf (bs.drop N)).g : Int))
          clear hu hact hact' e2 e4 ho2 hall hdef hsz
          rw [HACT.out]
          obtain ⟨r0, r1, r2, r3⟩ := row.at_
          go_wp2_with fail
          exact bodyPost_ret (v := .tuple #[.slice B N m, .agg #[.int .i64 K, .int .u64 A2, .int .i64 S, .int .i64 G], .int .i64 1]) (by simp [results, Tryd.results13, go_sem, r0, r1, r2, r3]) rfl ⟨_, HR.out, B, N, m, K, A2, S, G, rfl, O10, HE, S10⟩
      · have hbq : (sa.toList == sb.toList) = false := by rw [HBQ.out]; exact decide_eq_false hsame
        have HR : Hid (Hd.Reads bs .torn) := reads_torn HL.out HF.out HA.out.lt256 HBL.out HK.out HAA.out HS.out HG.out (fun qs hp => by rw [← HO.out] at hp; rw [← Option.some.inj hp]; exact hsame)
        clear hsame
        obtain ⟨q0, q1, q2, q3⟩ := R7.out.at_
        have f0 := R7.out.free 0
        have f1 := R7.out.free 1
        have f2 := R7.out.free 2
        have f3 := R7.out.free 3
        go_wp2_with fail
        obtain ⟨r9, s9⟩ := row4_put4 (B := w.heap.size) R7.out (Nat.le_refl _) 0 0 0 0
        obtain ⟨W9, HW9⟩ : ∃ W9, Hid (W9 = ((((W.setCell ⟨w.heap.size, 0, none⟩ (.int .i64 0)).setCell ⟨w.heap.size, 1, none⟩ (.int .u64 0)).setCell ⟨w.heap.size, 2, none⟩ (.int .i64 0)).setCell ⟨w.heap.size, 3, none⟩ (.int .i64 0))) := ⟨_, rfl⟩
        rw [← HW9.out] at r9 s9 ⊢
        obtain ⟨r0, r1, r2, r3⟩ := r9.at_
        exact bodyPost_ret (v := .tuple #[.slice none 0 0, .agg #[.int .i64 0, .int .u64 0, .int .i64 0, .int .i64 0], .int .i64 2]) (by simp [results, Tryd.results13, go_sem, r0, r1, r2, r3]) rfl ⟨.torn, HR.out, rfl, S7.out.trans s9⟩
theorem refread_any (A : Option Addr) (n c : Nat) (bs : List Nat) (w : World) (hn : n ≤ 900) (hc : n ≤ c) (hA : Bytes w w.heap.size A n bs) :
    Calls Tryd.prog 13 #[.slice A n c] w fun e w' => ∃ r, Hd.Reads bs r ∧ ROut w r e w' := by
  by_cases h : Hd.fits (n - 28)
  · by_cases hb : blankB bs = true
    · exact (refread_blank A n c bs w hn hA h hb).mono fun e w' he => ⟨.erased, ⟨by rw [hA.len]; exact h, blankB_iff.1 hb⟩, he⟩
    · exact refread_page A n c (n - 28) bs w (by have := h.1; omega) hc hA h (by simpa using hb)
  · exact (refread_size A n c bs w hn h).mono fun e w' he => ⟨.torn, reads_size (by rw [hA.len]; exact h), he⟩
end Go.Proofs.YticjdjffmagdkaaDoor
