/- The contract of head.Read. Conditions: what the listed variables hold; the slice's cells; at most 900 bytes. -/
import Derived.Test.YticjdjffmagdkaaDoorHeadOut
set_option linter.unusedVariables false
set_option linter.unusedSimpArgs false
namespace Go.Proofs.YticjdjffmagdkaaDoor
open Go.RowKit

/-- What a call of Read leaves. -/
def ROut (w : World) (r : Hd.Rd) (e : Ending) (w' : World) : Prop := match r with
  | .torn => e = .returned (.tuple #[.slice none 0 0, .agg #[.int .i64 0, .int .u64 0, .int .i64 0, .int .i64 0], .int .i64 2]) ∧ Hid (Below w.heap.size w w')
  | .erased => e = .returned (.tuple #[.slice none 0 0, .agg #[.int .i64 0, .int .u64 0, .int .i64 0, .int .i64 0], .int .i64 0]) ∧ Hid (Below w.heap.size w w')
  | .valid ds h => ∃ (A : Option Addr) (n c : Nat) (K A' S G : Int), e = .returned (.tuple #[.slice A n c, .agg #[.int .i64 K, .int .u64 A', .int .i64 S, .int .i64 G], .int .i64 1]) ∧ Hid (Own w' w.heap.size A n c ds) ∧ Hid (K = (h.k : Int) ∧ A' = (h.a : Int) ∧ S = (h.s : Int) ∧ G = (h.g : Int)) ∧ Hid (Below w.heap.size w w')
theorem reads_size {bs : List Nat} (h : ¬ Hd.fits (bs.length - 28)) : Hd.Reads bs .torn := by
  refine ⟨?_, fun k => h k.1⟩
  rintro ⟨ds, hd, k, f, rfl⟩
  rw [Hd.page_len, Nat.add_sub_cancel] at h
  exact h f
theorem hN_eq {h : Hd.H} {K A S G : Int} (hK : K = (h.k : Int)) (hA : A = (h.a : Int)) (hS : S = (h.s : Int)) (hG : G = (h.g : Int)) : hN K A S G = h := by
  subst hK hA hS hG
  cases h
  simp [hN]
theorem mayB_of {h : Hd.H} {K A S G : Int} (hK : K = (h.k : Int)) (hA : A = (h.a : Int)) (hS : S = (h.s : Int)) (hG : G = (h.g : Int)) (k : Hd.Ok h) : mayB K A S G = true := by
  have h1 := k.seq0
  have h2 := k.seq1
  have h3 := k.gen1
  have h4 := k.kind
  exact mayB_yes ⟨by omega, by omega, by omega, by omega, by omega⟩
theorem reads_torn {bs : List Nat} {n : Nat} {K A S G : Int} (hl : bs.length = n + 28) (f : Hd.fits n) (hb : ∀ b ∈ bs, b < 256) (hnb : blankB bs = false) (hK : K = ((Hd.headOf (bs.drop n)).k : Int)) (hA : A = ((Hd.headOf (bs.drop n)).a : Int)) (hS : S = ((Hd.headOf (bs.drop n)).s : Int)) (hG : G = ((Hd.headOf (bs.drop n)).g : Int))
    (h : ∀ ps, layO (bs.take n) K A S G = some ps → ps ≠ bs) : Hd.Reads bs .torn := by
  refine ⟨fun hp => ?_, fun k => ?_⟩
  · obtain ⟨k, e⟩ := (Hd.page_iff hl f hb).1 hp
    have hn : (bs.take n).length = n := by rw [List.length_take]; omega
    refine h _ (layO_yes ?_ (mayB_of hK hA hS hG k)) ?_
    · rw [hn]; exact dataB_yes (by have := f.1; omega) (by have := f.2; omega)
    · rw [hN_eq hK hA hS hG]; exact e
  · rw [blankB_iff.2 k.2] at hnb; cases hnb
theorem reads_valid {bs : List Nat} {n : Nat} {K A S G : Int} (hl : bs.length = n + 28) (f : Hd.fits n) (hK : K = ((Hd.headOf (bs.drop n)).k : Int)) (hA : A = ((Hd.headOf (bs.drop n)).a : Int)) (hS : S = ((Hd.headOf (bs.drop n)).s : Int)) (hG : G = ((Hd.headOf (bs.drop n)).g : Int)) (hA1 : A ≤ 18446744073709551615)
    (h : layO (bs.take n) K A S G = some bs) : Hd.Reads bs (.valid (bs.take n) (Hd.headOf (bs.drop n))) := by
  have hn : (bs.take n).length = n := by rw [List.length_take]; omega
  unfold layO at h
  split at h
  · next hh =>
    have hok := hN_ok hh.2 (by omega) hA1
    rw [hN_eq hK hA hS hG] at hok h
    exact ⟨hok, by rw [hn]; exact f, (Option.some.inj h).symm⟩
  · cases h
theorem row4_put4 {w : World} {g : Nat} {B : Nat} {K A S G : Int} (h : Row4 w g K A S G) (hB : B ≤ g) (K' A' S' G' : Int) : Row4 ((((w.setCell ⟨g, 0, none⟩ (.int .i64 K')).setCell ⟨g, 1, none⟩ (.int .u64 A')).setCell ⟨g, 2, none⟩ (.int .i64 S')).setCell ⟨g, 3, none⟩ (.int .i64 G')) g K' A' S' G' ∧ Below B w ((((w.setCell ⟨g, 0, none⟩ (.int .i64 K')).setCell ⟨g, 1, none⟩ (.int .u64 A')).setCell ⟨g, 2, none⟩ (.int .i64 S')).setCell ⟨g, 3, none⟩ (.int .i64 G')) :=
  ⟨h.put K' A' S' G', (Below.refl B w).grown (put_else w g _ _ _ _) (Nat.le_trans hB (Nat.le_of_lt h.lt)) (fun q hq => by rw [← Option.some.inj hq]; exact hB)⟩
set_option maxHeartbeats 2000000 in
theorem read_size (A : Option Addr) (n c : Nat) (bs : List Nat) (w : World) (hn : n ≤ 900) (hA : Bytes w w.heap.size A n bs) (h : ¬ Hd.fits (n - 28)) :
    Calls Tryd.prog 12 #[.slice A n c] w (ROut w .torn) := by
  have S1 := Lib.hid (since_alloc (Below.refl w.heap.size w) (.cells #[.int .i64 0, .int .u64 0, .int .i64 0, .int .i64 0] 25))
  have R1 := Lib.hid (row4_new w 0 0 0 0)
  have HD : Hid (dataB ((n : Int) - 28) = false) := dataB_no fun hh => h ⟨by omega, by omega⟩
  clear h hA
  go_enter Tryd.func12, Tryd.ntmps12
  go_wp2_with fail
  refine (maybedata_any _ _).mono ?_
  rw [HD.out]
  rintro e W2 ⟨rfl, hb2⟩
  have S2 := Lib.hid (S1.out.trans (hb2.out.mono (by simp)))
  have R2 := Lib.hid (R1.out.since hb2.out)
  obtain ⟨q0, q1, q2, q3⟩ := R2.out.at_
  have f0 := R2.out.free 0
  have f1 := R2.out.free 1
  have f2 := R2.out.free 2
  have f3 := R2.out.free 3
  clear S1 R1 hb2
  go_wp2_with fail
  obtain ⟨r9, s9⟩ := row4_put4 (B := w.heap.size) R2.out (Nat.le_refl _) 0 0 0 0
  obtain ⟨W9, HW9⟩ : ∃ W9, Hid (W9 = ((((W2.setCell ⟨w.heap.size, 0, none⟩ (.int .i64 0)).setCell ⟨w.heap.size, 1, none⟩ (.int .u64 0)).setCell ⟨w.heap.size, 2, none⟩ (.int .i64 0)).setCell ⟨w.heap.size, 3, none⟩ (.int .i64 0))) := ⟨_, rfl⟩
  rw [← HW9.out] at r9 s9 ⊢
  obtain ⟨r0, r1, r2, r3⟩ := r9.at_
  exact bodyPost_ret (v := .tuple #[.slice none 0 0, .agg #[.int .i64 0, .int .u64 0, .int .i64 0, .int .i64 0], .int .i64 2]) (by simp [results, Tryd.results12, go_sem, r0, r1, r2, r3]) rfl ⟨rfl, S2.out.trans s9⟩
set_option maxHeartbeats 2000000 in
theorem read_blank (A : Option Addr) (n c : Nat) (bs : List Nat) (w : World) (hn : n ≤ 900) (hA : Bytes w w.heap.size A n bs) (h : Hd.fits (n - 28)) (hbl : blankB bs = true) :
    Calls Tryd.prog 12 #[.slice A n c] w (ROut w .erased) := by
  have S1 := Lib.hid (since_alloc (Below.refl w.heap.size w) (.cells #[.int .i64 0, .int .u64 0, .int .i64 0, .int .i64 0] 25))
  have R1 := Lib.hid (row4_new w 0 0 0 0)
  have HD : Hid (dataB ((n : Int) - 28) = true) := dataB_yes (by have := h.1; omega) (by have := h.2; omega)
  have HBL := Lib.hid hbl
  have HA := Lib.hid hA
  clear h hA hbl
  go_enter Tryd.func12, Tryd.ntmps12
  go_wp2_with fail
  refine (maybedata_any _ _).mono ?_
  rw [HD.out]
  rintro e W2 ⟨rfl, hb2⟩
  have S2 := Lib.hid (S1.out.trans (hb2.out.mono (by simp)))
  have R2 := Lib.hid (R1.out.since hb2.out)
  clear S1 R1 hb2
  go_wp2_with fail
  refine (isblank_any A n c bs _ hn (HA.out.since S2.out)).mono ?_
  rw [HBL.out]
  rintro e W3 ⟨rfl, hb3⟩
  have S3 := Lib.hid (below_chain S2.out hb3.out)
  have R3 := Lib.hid (R2.out.since hb3.out)
  obtain ⟨q0, q1, q2, q3⟩ := R3.out.at_
  have f0 := R3.out.free 0
  have f1 := R3.out.free 1
  have f2 := R3.out.free 2
  have f3 := R3.out.free 3
  clear S2 R2 hb3
  go_wp2_with fail
  obtain ⟨r9, s9⟩ := row4_put4 (B := w.heap.size) R3.out (Nat.le_refl _) 0 0 0 0
  obtain ⟨W9, HW9⟩ : ∃ W9, Hid (W9 = ((((W3.setCell ⟨w.heap.size, 0, none⟩ (.int .i64 0)).setCell ⟨w.heap.size, 1, none⟩ (.int .u64 0)).setCell ⟨w.heap.size, 2, none⟩ (.int .i64 0)).setCell ⟨w.heap.size, 3, none⟩ (.int .i64 0))) := ⟨_, rfl⟩
  rw [← HW9.out] at r9 s9 ⊢
  obtain ⟨r0, r1, r2, r3⟩ := r9.at_
  exact bodyPost_ret (v := .tuple #[.slice none 0 0, .agg #[.int .i64 0, .int .u64 0, .int .i64 0, .int .i64 0], .int .i64 0]) (by simp [results, Tryd.results12, go_sem, r0, r1, r2, r3]) rfl ⟨rfl, S3.out.trans s9⟩
set_option maxHeartbeats 8000000 in
theorem read_page (A : Option Addr) (n c N : Nat) (bs : List Nat) (w : World) (hT : Tabs w) (hW : Wid w) (hN : n = N + 28) (hc : n ≤ c) (hA : Bytes w w.heap.size A n bs) (h : Hd.fits N) (hbl : blankB bs = false) :
    Calls Tryd.prog 12 #[.slice A n c] w fun e w' => ∃ r, Hd.Reads bs r ∧ ROut w r e w' := by
  have S1 := Lib.hid (since_alloc (Below.refl w.heap.size w) (.cells #[.int .i64 0, .int .u64 0, .int .i64 0, .int .i64 0] 25))
  have R1 := Lib.hid (row4_new w 0 0 0 0)
  have HD : Hid (dataB (N : Int) = true) := dataB_yes (by have := h.1; omega) (by have := h.2; omega)
  have HBL := Lib.hid hbl
  have HA := Lib.hid hA
  have HT := Lib.hid hT
  have HW := Lib.hid hW
  have HF := Lib.hid h
  have hN1 : N ≤ 256 := h.2
  have HL : Hid (bs.length = N + 28) := hA.len.trans hN
  have HC := Lib.hid hc
  have HN := Lib.hid hN
  have e28 : (n : Int) - 28 = (N : Int) := by omega
  have hNn : N ≤ n := by omega
  have hn9 : n ≤ 900 := by omega
  clear h hA hbl hT hW hc hN
  go_enter Tryd.func12, Tryd.ntmps12
  go_wp2_with fail
  refine (maybedata_any _ _).mono ?_
  rw [HD.out]
  rintro e W2 ⟨rfl, hb2⟩
  have S2 := Lib.hid (S1.out.trans (hb2.out.mono (by simp)))
  have R2 := Lib.hid (R1.out.since hb2.out)
  clear S1 R1 hb2 e28
  go_wp2_with fail
  refine (isblank_any A n c bs _ (by omega) (HA.out.since S2.out)).mono ?_
  rw [HBL.out]
  rintro e W3 ⟨rfl, hb3⟩
  have S3 := Lib.hid (below_chain S2.out hb3.out)
  have R3 := Lib.hid (R2.out.since hb3.out)
  clear S2 R2 hb3
  have hs1 := slice_from A n c N (by omega)
  rw [show n - N = 28 by have := HN.out; omega] at hs1
  obtain ⟨A5, HA5⟩ : ∃ A5 : Option Addr, Hid (A5 = if c = N then A else A.map (·.add (N * 1))) := ⟨_, rfl⟩
  rw [← HA5.out] at hs1
  have HB5 : Hid (Bytes W3 W3.heap.size A5 28 (bs.drop N)) := by
    have := (HA.out.since S3.out).rest (k := N) (c := c) (by omega) HC.out
    rw [← HA5.out, show n - N = 28 by have := HN.out; omega] at this
    exact this
  go_wp2_with fail
  refine (headof_any A5 (c - N) (bs.drop N) _ (HW.out.since S3.out) (by have := HC.out; have := HN.out; omega) HB5.out).mono ?_
  rintro e W4 ⟨K, A2, S, G, rfl, HK, HAA, HS, HG, k0, k1, ha0, ha1, s0, s1, g0, g1, hb4⟩
  have S4 := Lib.hid (below_chain S3.out hb4.out)
  have R4 := Lib.hid (R3.out.since hb4.out)
  clear S3 R3 hb4 HB5 HA5 hs1
  have S5 := Lib.hid (since_alloc S4.out (.cells #[.int .i64 K, .int .u64 A2, .int .i64 S, .int .i64 G] 25))
  have R5 := Lib.hid (R4.out.since (later_alloc W4 (.cells #[.int .i64 K, .int .u64 A2, .int .i64 S, .int .i64 G] 25)))
  have HLT := Lib.hid R4.out.lt
  have H5 := Lib.hid (headAt_new W4 K A2 S G 25)
  obtain ⟨g6, HG6⟩ : ∃ g, Hid (g = W4.heap.size) := ⟨_, rfl⟩
  go_wp2_with fail
  obtain ⟨W0, HW0⟩ : ∃ W0 : World, Hid (W0 = (W4.alloc (.cells #[.int .i64 K, .int .u64 A2, .int .i64 S, .int .i64 G] 25)).drew) := ⟨_, rfl⟩
  have S0 : Hid (Below w.heap.size w W0) := by rw [HW0.out]; exact S5.out.drew
  have R0 : Hid (Row4 W0 w.heap.size 0 0 0 0) := by rw [HW0.out]; exact ⟨R5.out.row⟩
  have H6 : Hid (HeadAt W0 W4.heap.size K A2 S G) := by rw [HW0.out]; exact ⟨H5.out.k, H5.out.a, H5.out.s, H5.out.g⟩
  have HT0 := Lib.hid (HT.out.since S0.out)
  have HW1 := Lib.hid (HW.out.since S0.out)
  have HB0 := Lib.hid (HA.out.since S0.out)
  have HBN := Lib.hid (HB0.out.first hNn)
  obtain ⟨o, HO⟩ : ∃ o, Hid (o = layO (bs.take N) K A2 S G) := ⟨_, rfl⟩
  clear S4 R4 S5 R5 H5 HG6 HD
  refine region_of_steps2 (by kernel_rfl) (fact2Of [.is (.slice A n c), .is (.int .i64 (N : Int)), .is (.slice A N c), .is (.agg #[.int .i64 K, .int .u64 A2, .int .i64 S, .int .i64 G]), .that (OutT OutE W0.heap.size o) (fun _ _ _ h k => outTE_later h k), .that (OutT OutE W0.heap.size o) (fun _ _ _ h k => outTE_later h k), .that (OutS W0.heap.size o) (fun _ _ _ h k => outS_later h k), .that (OutE o) (fun _ _ _ h k => outE_later h k), .that (OutS W0.heap.size o) (fun _ _ _ h k => outS_later h k), .that (OutE o) (fun _ _ _ h k => outE_later h k)]) (deadOf []) Calm (fun W => Below W0.heap.size W0 W ∧ W0.heap.size ≤ W.heap.size) (by kernel_rfl)
    (fun i j v w w' hm hd hn h hR => fact2_calm _ i j v w w' h hR) (fun j w w' h k => calm_inv h k) ⟨by rw [HW0.out]; exact Below.refl _ _, by rw [HW0.out]; exact Nat.le_refl _⟩ ?_ ?_
  · refine Steps2.cons ?_ (Steps2.cons ?_ (Steps2.cons ?_ (Steps2.cons ?_ (Steps2.cons ?_ (Steps2.cons ?_ (Steps2.cons ?_ (Steps2.cons ?_ (Steps2.cons ?_ (Steps2.cons ?_ (Steps2.nil))))))))))
    · intro listed a W H hw hl hd
      have t0 : a.tmps.getD 0 undef = .slice A n c := (H.old 0 (by kernel_rfl)).trans rfl
      exact step2_value (i := 0) rfl rfl (run_op_move rfl t0) (calm_refl _) rfl
    · intro listed a W H hw hl hd
      have t5 : a.tmps.getD 5 undef = .int .i64 (N : Int) := (H.old 5 (by kernel_rfl)).trans rfl
      exact step2_value (i := 1) rfl rfl (run_op_move rfl t5) (calm_refl _) rfl
    · intro listed a W H hw hl hd
      have t24 : a.tmps.getD 24 undef = .slice A n c := H.get 0 24 (by kernel_rfl) (dep_of hd 0 (by kernel_rfl)) (alive_none (by kernel_rfl))
      have t25 : a.tmps.getD 25 undef = .int .i64 (N : Int) := H.get 1 25 (by kernel_rfl) (dep_of hd 1 (by kernel_rfl)) (alive_none (by kernel_rfl))
      exact step2_value (i := 2) rfl rfl (run_op_slice rfl (by show (Instr.sliceAt 22 (a.tmps.getD 24 undef) none (some (a.tmps.getD 25 undef)) none).run _ _ = _; rw [t24, t25]; rw [run_sliceAt_slice (h := under24)]; exact slice_to A n c N (by omega) HC.out W)) (calm_refl _) rfl
    · intro listed a W H hw hl hd
      have t6 : a.tmps.getD 6 undef = .pointer (some ⟨W4.heap.size, 0, none⟩) := (H.old 6 (by kernel_rfl)).trans rfl
      exact step2_value (i := 3) rfl rfl (run_op_load rfl t6 (run_load_head (H6.out.since hw.1))) (calm_refl _) rfl
    · intro listed a W H hw hl hd
      have t26 : a.tmps.getD 26 undef = .slice A N c := H.get 2 26 (by kernel_rfl) (dep_of hd 2 (by kernel_rfl)) (alive_none (by kernel_rfl))
      have t27 : a.tmps.getD 27 undef = .agg #[.int .i64 K, .int .u64 A2, .int .i64 S, .int .i64 G] := H.get 3 27 (by kernel_rfl) (dep_of hd 3 (by kernel_rfl)) (alive_none (by kernel_rfl))
      refine step2_call (i := 4) rfl rfl (run_op_call (vs := #[.slice A N c, .agg #[.int .i64 K, .int .u64 A2, .int .i64 S, .int .i64 G]]) Tryd.func10 (by kernel_rfl) (by kernel_rfl) rfl (by simp only [List.map_toArray, List.map_cons, List.map_nil]; show #[a.tmps.getD 26 undef, a.tmps.getD 27 undef] = _; rw [t26, t27])) ?_
      refine (lay_any A N c (bs.take N) K A2 S G W (HT0.out.since hw.1) (HW1.out.since hw.1) (by omega) (HBN.out.since hw.1) ha0 ha1).mono ?_
      rw [← HO.out]
      rintro e W2 ⟨v, rfl, ho, hb⟩
      exact ⟨_, rfl, calm_later hb.out, ho.elder hw.2⟩
    · intro listed a W H hw hl hd
      have T28 : (OutT OutE W0.heap.size o) (a.tmps.getD 28 undef) W := H.get 4 28 (by kernel_rfl) (dep_of hd 4 (by kernel_rfl)) (alive_none (by kernel_rfl))
      exact step2_value (i := 5) rfl rfl (run_op_move rfl rfl) (calm_refl _) T28
    · intro listed a W H hw hl hd
      have T23 : (OutT OutE W0.heap.size o) (a.tmps.getD 23 undef) W := H.get 5 23 (by kernel_rfl) (dep_of hd 5 (by kernel_rfl)) (alive_none (by kernel_rfl))
      obtain ⟨x29, y29, e29, s29, z29⟩ := T23
      exact step2_value (i := 6) rfl rfl (run_op_extract rfl e29 rfl) (calm_refl _) s29
    · intro listed a W H hw hl hd
      have T23 : (OutT OutE W0.heap.size o) (a.tmps.getD 23 undef) W := H.get 5 23 (by kernel_rfl) (dep_of hd 5 (by kernel_rfl)) (alive_none (by kernel_rfl))
      obtain ⟨x30, y30, e30, s30, z30⟩ := T23
      exact step2_value (i := 7) rfl rfl (run_op_extract rfl e30 rfl) (calm_refl _) z30
    · intro listed a W H hw hl hd
      have T29 : (OutS W0.heap.size o) (a.tmps.getD 29 undef) W := H.get 6 29 (by kernel_rfl) (dep_of hd 6 (by kernel_rfl)) (alive_none (by kernel_rfl))
      exact step2_value (i := 8) rfl rfl (run_op_assign rfl rfl) (calm_refl _) T29
    · intro listed a W H hw hl hd
      have T30 : (OutE o) (a.tmps.getD 30 undef) W := H.get 7 30 (by kernel_rfl) (dep_of hd 7 (by kernel_rfl)) (alive_none (by kernel_rfl))
      exact step2_value (i := 9) rfl rfl (run_op_assign rfl rfl) (calm_refl _) T30
  · intro a W hdef hsz hw hall hact
    have t7 : OutS W0.heap.size o (a.tmps.getD 7 undef) W := hall 8 _ rfl (by kernel_rfl)
    have t8 : OutE o (a.tmps.getD 8 undef) W := hall 9 _ rfl (by kernel_rfl)
    have S7 := Lib.hid (S0.out.trans (hw.1.mono S0.out.size))
    have R7 := Lib.hid (R0.out.since hw.1)
    have H7 := Lib.hid (H6.out.since hw.1)
    have HB7 := Lib.hid (HB0.out.since hw.1)
    obtain ⟨u, hu⟩ : ∃ u : Nat → Value, ∀ k, a.tmps.getD k undef = u k := ⟨_, fun _ => rfl⟩
    simp only [hu] at hact t7 t8
    have hact' : a = ([24, 25, 26, 27, 28, 23, 29, 30, 7, 8] : List Nat).foldl (fun b k => b.put (some k) (u k)) _ := hact
    rcases o with _ | ps
    · obtain ⟨x8, h8⟩ := Bad.ne t8
      have h7 : u 7 = .slice none 0 0 := t7
      simp only [List.foldl, h7, h8] at hact'
      simp only [Act.put, List.setIfInBounds_toArray, List.set_cons_succ, List.set_cons_zero] at hact'
      have HACT := Lib.hid hact'
      have HR : Hid (Hd.Reads bs .torn) := reads_torn HL.out HF.out HA.out.lt256 HBL.out HK.out HAA.out HS.out HG.out (fun ps hp => by rw [← HO.out] at hp; cases hp)
      clear hu hact hact' t7 t8 h7 h8 hall hdef hsz
      rw [HACT.out]
      obtain ⟨q0, q1, q2, q3⟩ := R7.out.at_
      have f0 := R7.out.free 0
      have f1 := R7.out.free 1
      have f2 := R7.out.free 2
      have f3 := R7.out.free 3
      go_wp2_with fail
      obtain ⟨r9, s9⟩ := row4_put4 (B := w.heap.size) R7.out (Nat.le_refl _) 0 0 0 0
      obtain ⟨W9, HW9⟩ : ∃ W9, Hid (W9 = ((((W.setCell ⟨w.heap.size, 0, none⟩ (.int .i64 0)).setCell ⟨w.heap.size, 1, none⟩ (.int .u64 0)).setCell ⟨w.heap.size, 2, none⟩ (.int .i64 0)).setCell ⟨w.heap.size, 3, none⟩ (.int .i64 0))) := ⟨_, rfl⟩
      rw [← HW9.out] at r9 s9 ⊢
      obtain ⟨r0, r1, r2, r3⟩ := r9.at_
      exact bodyPost_ret (v := .tuple #[.slice none 0 0, .agg #[.int .i64 0, .int .u64 0, .int .i64 0, .int .i64 0], .int .i64 2]) (by simp [results, Tryd.results12, go_sem, r0, r1, r2, r3]) rfl ⟨.torn, HR.out, rfl, S7.out.trans s9⟩
    · obtain ⟨A7, n7, c7, h7, ho7⟩ := t7
      have h8 : u 8 = .nilIface := t8
      simp only [List.foldl, h7, h8] at hact'
      simp only [Act.put, List.setIfInBounds_toArray, List.set_cons_succ, List.set_cons_zero] at hact'
      have HACT := Lib.hid hact'
      have O7 := Lib.hid ho7
      clear hu hact hact' h7 h8 ho7 t8 hall hdef hsz
      rw [HACT.out]
      by_cases hsame : ps = bs
      · have HE : Hid (sameB ps bs = true) := decide_eq_true hsame
        have HR : Hid (Hd.Reads bs (.valid (bs.take N) (Hd.headOf (bs.drop N)))) := reads_valid HL.out HF.out HK.out HAA.out HS.out HG.out ha1 (by rw [← HO.out, hsame])
        clear hsame
        go_wp2_with fail
        refine (equal_any A7 A n7 c7 n c ps bs _ O7.out.bytes HB7.out).mono ?_
        rw [HE.out]
        rintro e W8 ⟨rfl, hb8⟩
        have S8 := Lib.hid (below_chain S7.out hb8.out)
        have R8 := Lib.hid (R7.out.since hb8.out)
        have H8 := Lib.hid (H7.out.since hb8.out)
        clear hb8 S7 R7 H7
        go_wp2_with fail
        obtain ⟨W9, HW9⟩ : ∃ W9 : World, Hid (W9 = W8.drew) := ⟨_, rfl⟩
        have S9 : Hid (Below w.heap.size w W9) := by rw [HW9.out]; exact S8.out.drew
        have R9 : Hid (Row4 W9 w.heap.size 0 0 0 0) := by rw [HW9.out]; exact ⟨R8.out.row⟩
        have H9 : Hid (HeadAt W9 W4.heap.size K A2 S G) := by rw [HW9.out]; exact ⟨H8.out.k, H8.out.a, H8.out.s, H8.out.g⟩
        clear S8 R8 H8
        have HAN := Lib.hid (HA.out.first hNn)
        have HG9 : Hid (w.heap.size < W9.heap.size) := R9.out.lt
        refine region_of_steps2 (by kernel_rfl) (F8 W9.heap.size w.heap.size A n c N (bs.take N) K A2 S G) (fun _ => none) (Six w.heap.size) (SixI W9 w.heap.size) (by kernel_rfl)
          (fun i j v x y hij hd hn h hR => f8_stays HG9.out hij h hR) (fun j x y h k => six_inv h k) ⟨by rw [HW9.out]; exact World.grownBy.refl _ _, 0, 0, 0, 0, by rw [← HW9.out]; exact R9.out⟩ ?_ ?_
        · refine Steps2.cons ?_ (Steps2.cons ?_ (Steps2.cons ?_ (Steps2.cons ?_ (Steps2.cons ?_ (Steps2.cons ?_ (Steps2.cons ?_ (Steps2.cons ?_ (Steps2.nil))))))))
          · intro listed a W H hw hl hd
            have t0 : a.tmps.getD 0 undef = .slice A n c := (H.old 0 (by kernel_rfl)).trans rfl
            exact step2_value (i := 0) rfl rfl (run_op_move rfl t0) (six_later (by decide) (later_refl _)) rfl
          · intro listed a W H hw hl hd
            have t5 : a.tmps.getD 5 undef = .int .i64 (N : Int) := (H.old 5 (by kernel_rfl)).trans rfl
            exact step2_value (i := 1) rfl rfl (run_op_move rfl t5) (six_later (by decide) (later_refl _)) rfl
          · intro listed a W H hw hl hd
            have t40 : a.tmps.getD 40 undef = .slice A n c := H.get 0 40 (by kernel_rfl) (dep_of hd 0 (by kernel_rfl)) (fun j hj => by cases hj)
            have t41 : a.tmps.getD 41 undef = .int .i64 (N : Int) := H.get 1 41 (by kernel_rfl) (dep_of hd 1 (by kernel_rfl)) (fun j hj => by cases hj)
            exact step2_value (i := 2) rfl rfl (run_op_slice rfl (by show (Instr.sliceAt 22 (a.tmps.getD 40 undef) none (some (a.tmps.getD 41 undef)) none).run _ _ = _; rw [t40, t41]; rw [run_sliceAt_slice (h := under24)]; exact slice_to A n c N hNn HC.out W)) (six_later (by decide) (later_refl _)) rfl
          · intro listed a W H hw hl hd
            have t42 : a.tmps.getD 42 undef = .slice A N c := H.get 2 42 (by kernel_rfl) (dep_of hd 2 (by kernel_rfl)) (fun j hj => by cases hj)
            have hby := sixI_bytes HAN.out S9.out hw
            refine step2_call (i := 3) rfl rfl (run_op_call (vs := #[.slice A N c]) Tryd.func31 (by kernel_rfl) (by kernel_rfl) rfl (by simp only [List.map_toArray, List.map_cons, List.map_nil]; show #[a.tmps.getD 42 undef] = _; rw [t42])) ?_
            refine (clone_any A N c (bs.take N) W (by omega) hby).mono ?_
            rintro e W2 ⟨B, n2, c2, rfl, ho, hb⟩
            obtain rfl : N = n2 := by rw [← ho.len, HAN.out.len]
            exact ⟨_, rfl, six_later (by decide) hb, B, c2, rfl, ho.elder hw.1.size⟩
          · intro listed a W H hw hl hd
            have t6 : a.tmps.getD 6 undef = .pointer (some ⟨W4.heap.size, 0, none⟩) := (H.old 6 (by kernel_rfl)).trans rfl
            exact step2_value (i := 4) rfl rfl (run_op_load rfl t6 (run_load_head (H9.out.else_ hw.1 (by have := HLT.out; omega)))) (six_later (by decide) (later_refl _)) rfl
          · intro listed a W H hw hl hd
            obtain ⟨B, m, e, ho⟩ := (show ∃ B m, a.tmps.getD 43 undef = .slice B N m ∧ Own W W9.heap.size B N m (bs.take N) from H.get 3 43 (by kernel_rfl) (dep_of hd 3 (by kernel_rfl)) (fun j hj => by cases hj))
            exact step2_value (i := 5) rfl rfl (run_op_assign rfl e) (six_later (by decide) (later_refl _)) ⟨B, m, rfl, ho⟩
          · intro listed a W H hw hl hd
            have t3 : a.tmps.getD 3 undef = .pointer (some ⟨w.heap.size, 0, none⟩) := (H.old 3 (by kernel_rfl)).trans rfl
            have t44 : a.tmps.getD 44 undef = .agg #[.int .i64 K, .int .u64 A2, .int .i64 S, .int .i64 G] := H.get 4 44 (by kernel_rfl) (dep_of hd 4 (by kernel_rfl)) (fun j hj => by cases hj)
            obtain ⟨K0, A0, S0, G0, hrow⟩ := hw.2
            exact step2_done (i := 6) rfl rfl rfl (run_op_store rfl t3 t44 (run_store_head hrow K A2 S G)) ⟨fun _ => ⟨put_else W w.heap.size _ _ _ _, K, A2, S, G, hrow.put K A2 S G⟩, fun h => absurd rfl h⟩ (hrow.put K A2 S G)
          · intro listed a W H hw hl hd
            exact step2_value (i := 7) rfl rfl (run_op_assign rfl rfl) (six_later (by decide) (later_refl _)) rfl
        · intro a W hdef hsz hw hall hact
          obtain ⟨B, m, e2, ho2⟩ := (show ∃ B m, a.tmps.getD 2 undef = .slice B N m ∧ Own W W9.heap.size B N m (bs.take N) from hall 5 _ rfl rfl)
          have row : Row4 W w.heap.size K A2 S G := hall 6 _ rfl rfl
          have e4 : a.tmps.getD 4 undef = .int .i64 1 := hall 7 _ rfl rfl
          obtain ⟨u, hu⟩ : ∃ u : Nat → Value, ∀ k, a.tmps.getD k undef = u k := ⟨_, fun _ => rfl⟩
          simp only [hu] at hact e2 e4
          have hact' : a = ([40, 41, 42, 43, 44, 2, 4] : List Nat).foldl (fun b k => b.put (some k) (u k)) _ := hact
          simp only [List.foldl, e2, e4] at hact'
          simp only [Act.put, List.setIfInBounds_toArray, List.set_cons_succ, List.set_cons_zero] at hact'
          have HACT := Lib.hid hact'
          have S10 := Lib.hid (S9.out.grown hw.1 S9.out.size (fun q hq => by rw [← Option.some.inj hq]; exact Nat.le_refl _))
          have O10 := Lib.hid (ho2.elder (Nat.le_of_lt HG9.out))
          have HE := Lib.hid (⟨HK.out, HAA.out, HS.out, HG.out⟩ : K = ((Hd.headOf (bs.drop N)).k : Int) ∧ A2 = ((Hd.headOf (bs.drop N)).a : Int) ∧ S = ((Hd.headOf (bs.drop N)).s : Int) ∧ G = ((Hd.headOf (bs.drop N)).g : Int))
          clear hu hact hact' e2 e4 ho2 hall hdef hsz
          rw [HACT.out]
          obtain ⟨r0, r1, r2, r3⟩ := row.at_
          go_wp2_with fail
          exact bodyPost_ret (v := .tuple #[.slice B N m, .agg #[.int .i64 K, .int .u64 A2, .int .i64 S, .int .i64 G], .int .i64 1]) (by simp [results, Tryd.results12, go_sem, r0, r1, r2, r3]) rfl ⟨_, HR.out, B, N, m, K, A2, S, G, rfl, O10, HE, S10⟩
      · have HE : Hid (sameB ps bs = false) := decide_eq_false hsame
        have HR : Hid (Hd.Reads bs .torn) := reads_torn HL.out HF.out HA.out.lt256 HBL.out HK.out HAA.out HS.out HG.out (fun qs hp => by rw [← HO.out] at hp; rw [← Option.some.inj hp]; exact hsame)
        clear hsame
        go_wp2_with fail
        refine (equal_any A7 A n7 c7 n c ps bs _ O7.out.bytes HB7.out).mono ?_
        rw [HE.out]
        rintro e W8 ⟨rfl, hb8⟩
        have S8 := Lib.hid (below_chain S7.out hb8.out)
        have R8 := Lib.hid (R7.out.since hb8.out)
        clear hb8 S7 R7
        obtain ⟨q0, q1, q2, q3⟩ := R8.out.at_
        have f0 := R8.out.free 0
        have f1 := R8.out.free 1
        have f2 := R8.out.free 2
        have f3 := R8.out.free 3
        go_wp2_with fail
        obtain ⟨r9, s9⟩ := row4_put4 (B := w.heap.size) R8.out (Nat.le_refl _) 0 0 0 0
        obtain ⟨W9, HW9⟩ : ∃ W9, Hid (W9 = ((((W8.setCell ⟨w.heap.size, 0, none⟩ (.int .i64 0)).setCell ⟨w.heap.size, 1, none⟩ (.int .u64 0)).setCell ⟨w.heap.size, 2, none⟩ (.int .i64 0)).setCell ⟨w.heap.size, 3, none⟩ (.int .i64 0))) := ⟨_, rfl⟩
        rw [← HW9.out] at r9 s9 ⊢
        obtain ⟨r0, r1, r2, r3⟩ := r9.at_
        exact bodyPost_ret (v := .tuple #[.slice none 0 0, .agg #[.int .i64 0, .int .u64 0, .int .i64 0, .int .i64 0], .int .i64 2]) (by simp [results, Tryd.results12, go_sem, r0, r1, r2, r3]) rfl ⟨.torn, HR.out, rfl, S8.out.trans s9⟩
theorem read_any (A : Option Addr) (n c : Nat) (bs : List Nat) (w : World) (hT : Tabs w) (hW : Wid w) (hn : n ≤ 900) (hc : n ≤ c) (hA : Bytes w w.heap.size A n bs) :
    Calls Tryd.prog 12 #[.slice A n c] w fun e w' => ∃ r, Hd.Reads bs r ∧ ROut w r e w' := by
  by_cases h : Hd.fits (n - 28)
  · by_cases hb : blankB bs = true
    · exact (read_blank A n c bs w hn hA h hb).mono fun e w' he => ⟨.erased, ⟨by rw [hA.len]; exact h, blankB_iff.1 hb⟩, he⟩
    · exact read_page A n c (n - 28) bs w hT hW (by have := h.1; omega) hc hA h (by simpa using hb)
  · exact (read_size A n c bs w hn hA h).mono fun e w' he => ⟨.torn, reads_size (by rw [hA.len]; exact h), he⟩
theorem read_as (r : Hd.Rd) (A : Option Addr) (n c : Nat) (bs : List Nat) (w : World) (hT : Tabs w) (hW : Wid w) (hn : n ≤ 900) (hc : n ≤ c) (hA : Bytes w w.heap.size A n bs) (hr : Hd.Reads bs r) :
    Calls Tryd.prog 12 #[.slice A n c] w (ROut w r) :=
  (read_any A n c bs w hT hW hn hc hA).mono fun e w' ⟨r', hr', he⟩ => by rw [hr.one hr']; exact he
/-- Bytes that are a page, with the numbers of its head. -/
theorem read_valid (ds : List Nat) (h : Hd.H) (K A' S G : Int) (hh : K = (h.k : Int) ∧ A' = (h.a : Int) ∧ S = (h.s : Int) ∧ G = (h.g : Int)) (A : Option Addr) (n c : Nat) (bs : List Nat) (w : World) (hT : Tabs w) (hW : Wid w) (hn : n ≤ 900) (hc : n ≤ c) (hA : Bytes w w.heap.size A n bs) (hr : Hd.Reads bs (.valid ds h)) :
    Calls Tryd.prog 12 #[.slice A n c] w fun e w' => ∃ B m c', e = .returned (.tuple #[.slice B m c', .agg #[.int .i64 K, .int .u64 A', .int .i64 S, .int .i64 G], .int .i64 1]) ∧ Hid (Own w' w.heap.size B m c' ds) ∧ Hid (Below w.heap.size w w') := by
  refine (read_as _ A n c bs w hT hW hn hc hA hr).mono ?_
  rintro e w' ⟨B, m, c', K2, A2, S2, G2, rfl, ho, he, hb⟩
  obtain ⟨k1, k2, k3, k4⟩ := he.out
  refine ⟨B, m, c', ?_, ho, hb⟩
  rw [k1, k2, k3, k4, hh.1, hh.2.1, hh.2.2.1, hh.2.2.2]
/-- Bytes that are none: what state they are in. -/
theorem read_none (x : Int) (A : Option Addr) (n c : Nat) (bs : List Nat) (w : World) (hT : Tabs w) (hW : Wid w) (hn : n ≤ 900) (hc : n ≤ c) (hA : Bytes w w.heap.size A n bs) (hr : (x = 2 ∧ Hd.Reads bs .torn) ∨ (x = 0 ∧ Hd.Reads bs .erased)) :
    Calls Tryd.prog 12 #[.slice A n c] w fun e w' => e = .returned (.tuple #[.slice none 0 0, .agg #[.int .i64 0, .int .u64 0, .int .i64 0, .int .i64 0], .int .i64 x]) ∧ Hid (Below w.heap.size w w') := by
  rcases hr with ⟨rfl, hr⟩ | ⟨rfl, hr⟩
  · exact read_as _ A n c bs w hT hW hn hc hA hr
  · exact read_as _ A n c bs w hT hW hn hc hA hr
end Go.Proofs.YticjdjffmagdkaaDoor
