/- IdealLists: true, whatever its arguments are. No conditions. -/
import Derived.Test.YtfidamiomnohcaaListAll
import Derived.Test.YtfidamiomnohcaaDoubtMath
import Derived.Test.YtfidamiomnohcaaWordsShared
import Derived.Test.YtfidamiomnohcaaAppAll
set_option linter.unusedVariables false
set_option linter.unusedSimpArgs false
set_option maxRecDepth 20000
namespace Go.Proofs.Ytfidamiomnohcaa
open Go.RowKit

set_option maxHeartbeats 8000000 in
theorem lists_law (xm xc xo : Int) (w : World) : Calls Try.prog 6 #[.int .i64 xm, .int .i64 xc, .int .i64 xo] w (SaysB w true) := by
  have hb := lowM_bd xm 13 (by decide)
  obtain ⟨n, HN⟩ : ∃ n : Nat, Hid (lowM xm 13 = (n : Int)) := ⟨(lowM xm 13).toNat, by show _ = _; omega⟩
  have hn : n ≤ 12 := by have := HN.out; omega
  have HN12 := Lib.hid hn
  have CL := Lib.hid (low_any xm 13 (by decide) (by decide) w)
  rw [HN.out] at CL
  clear hb hn
  go_enter Try.func6, Try.ntmps6
  go_wp2_with fail
  refine CL.out.mono ?_
  rintro e w1 ⟨rfl, hw⟩
  rw [← hw]
  clear hw CL
  go_wp2_with fail
  refine (new_yes18 128 (by decide) (by decide) w).mono ?_
  rintro e W0 ⟨o, fp0, rfl, hI, hB⟩
  have S0 := Lib.hid hB.out
  have I0 := Lib.hid hI.out
  clear hI hB
  go_wp2_with fail
  obtain ⟨cl, HCL⟩ : ∃ cl : Nat → Bool, Hid ((fun i => bits BinOp.and IntKind.i64 (xc / 2 ^ i) 1 == 1) = cl) := ⟨_, rfl⟩
  have HL0 : Hid (LS (newS 128) cl 0) := ls_start cl
  have R0 : Hid (RestK wordK fp0 W0 w.heap.size none 0 0 (dlL cl 0)) := ⟨Kind.Row.none_, fun b hb => by cases hb⟩
  try go_frame
  go_loopw [8, 9] (fun t8 t9 wr => ∃ (i : Nat) (A8 : Option Addr) (n8 c8 : Nat) (fp : Nat → Prop) (s : IS), t9 = .int .i64 i ∧ i ≤ n ∧ t8 = .slice A8 n8 c8 ∧ Hid (IdAt wr w.heap.size fp o s) ∧ Hid (LS s cl i) ∧ Hid (RestK wordK fp wr w.heap.size A8 n8 c8 (dlL cl i)) ∧ Hid (Below w.heap.size w wr)) (fun _ t9 _ => n - (intOf t9).toNat)
  case atStart => exact ⟨0, none, 0, 0, fp0, newS 128, rfl, Nat.zero_le _, rfl, I0, HL0, R0, S0⟩
  case round =>
    clear I0 HL0 R0 S0
    obtain ⟨i, A8, n8, c8, fp, s, rfl, hin, rfl, HI, HLS, HR, HS⟩ := hrel
    have i0 : (0 : Int) ≤ (i : Int) := by omega
    by_cases hlt : i < n
    · have i1 : (i : Int) < (n : Int) := by omega
      have i2 : (n : Int) ≤ 12 := by have := HN12.out; omega
      have HIN : Hid (i < n) := hlt
      have HAU : Hid (U64 ((i : Int) * 7)) := ⟨by omega, by omega⟩
      have H8 : Hid (n8 ≤ 12) := by have h1 := HR.out.row.len; have h2 := dl_len cl i; have h3 := HN12.out; show _ ≤ _; omega
      have HKS : Hid (s.ks.length ≤ 900) := by have h1 := HLS.out.ks HI.out.ok; have h3 := HN12.out; show _ ≤ _; omega
      have HLE : Hid ((s.f ((i : Int) * 7)).length ≤ 400) := Nat.le_trans (HLS.out.small _) (by decide)
      have HT := Lib.hid (ls_take HLS.out)
      have HN1 := Lib.hid (ls_put HLS.out)
      have HDN := Lib.hid (dl_next cl i)
      rw [show (7 : Int) * (i : Int) = (i : Int) * 7 from Int.mul_comm _ _] at HT HN1 HDN
      cases hc : cl i
      · have hd : (bits BinOp.and IntKind.i64 (xc / 2 ^ i) 1 == 1) = false := by have := congrFun HCL.out i; rw [← this] at hc; exact hc
        rw [hc, if_neg (by decide)] at HT
        rw [hc, if_neg (by decide)] at HDN
        clear hc
        obtain ⟨A7, c7, W7, hrun, hR7, hT7⟩ := HR.out.append HS.out.size HI.out.lt ((i : Int) * 7) HAU.out #[.int .u64 ((i : Int) * 7)] rfl (by have := H8.out; omega)
        have RUN := Lib.hid hrun
        have R7 : Hid (RestK wordK fp W7 w.heap.size A7 (n8 + 1) c7 (dlL cl (i + 1))) := by show RestK _ _ _ _ _ _ _ _; rw [HDN.out]; exact hR7
        have S7 : Hid (Below w.heap.size w W7) := Turn.chain HS.out hT7 (fun b hb => Row.blk_ge HR.out.row b hb) HS.out.size
        have I7 : Hid (IdAt W7 w.heap.size fp o s) := HI.out.turn hT7 fun b hb e => HR.out.safe b e hb
        clear hrun hR7 hT7 HR HS HI
        go_wp2_with (at_builtin; refine wpList_append_run rfl (.tmp 31) (.tmp 35) 34 rfl rfl rfl RUN.out ?_)
        refine (fill_any (i : Int) 128 W7 (by decide)).mono ?_
        rintro e W5 ⟨A5, n5, c5, rfl, hO, hB⟩
        obtain rfl : 128 = n5 := by rw [← hO.len]; exact (fillL_len _ _).symm
        have S5 := Lib.hid (below_chain S7.out hB)
        have I5 := Lib.hid (I7.out.since hB)
        have R5 := Lib.hid (R7.out.since hB)
        have O5 : Hid (Bytes W5 W5.heap.size A5 128 (D1 i)) := hO.bytes
        clear hO hB
        go_wp2_with fail
        refine (take_at I5.out ⟨1, (i : Int) * 7, A5, 128, c5, 0⟩ ⟨1, 0, none, 0, 0, false, none, 0, 0⟩ (D1 i) [] _ HT.out HAU.out O5.out Bytes.none_ HLE.out HKS.out rfl).mono ?_
        rintro e W6 ⟨rfl, fp6, hI, hM⟩
        have S6 := Lib.hid (hM.out.below S5.out I5.out.ge S5.out.size)
        have R6 := Lib.hid (R5.out.step hM.out)
        have I6 := Lib.hid hI.out
        clear hI hM S5 I5 R5 O5
        go_wp2_with fail
        go_roundw
        case rel => exact ⟨i + 1, A7, n8 + 1, c7, fp6, _, by go_num, by have := HIN.out; omega, by go_num, I6, HN1, R6, S6⟩
        case measure => have := HIN.out; simp [intOf]; omega
      · have hd : (bits BinOp.and IntKind.i64 (xc / 2 ^ i) 1 == 1) = true := by have := congrFun HCL.out i; rw [← this] at hc; exact hc
        rw [hc, if_pos rfl] at HT
        rw [hc, if_pos rfl] at HDN
        rw [← HDN.out] at HR
        clear hc
        go_wp2_with fail
        refine (fill_any (i : Int) 128 wr (by decide)).mono ?_
        rintro e W5 ⟨A5, n5, c5, rfl, hO, hB⟩
        obtain rfl : 128 = n5 := by rw [← hO.len]; exact (fillL_len _ _).symm
        have S5 := Lib.hid (below_chain HS.out hB)
        have I5 := Lib.hid (HI.out.since hB)
        have R5 := Lib.hid (HR.out.since hB)
        have O5 : Hid (Bytes W5 W5.heap.size A5 128 (D1 i)) := hO.bytes
        clear hO hB
        go_wp2_with fail
        refine (take_at I5.out ⟨2, (i : Int) * 7, A5, 128, c5, 0⟩ ⟨1, 0, none, 0, 0, false, none, 0, 0⟩ (D1 i) [] _ HT.out HAU.out O5.out Bytes.none_ HLE.out HKS.out rfl).mono ?_
        rintro e W6 ⟨rfl, fp6, hI, hM⟩
        have S6 := Lib.hid (hM.out.below S5.out I5.out.ge S5.out.size)
        have R6 := Lib.hid (R5.out.step hM.out)
        have I6 := Lib.hid hI.out
        clear hI hM S5 I5 R5 O5
        go_wp2_with fail
        go_roundw
        case rel => exact ⟨i + 1, A8, n8, c8, fp6, _, by go_num, by have := HIN.out; omega, rfl, I6, HN1, R6, S6⟩
        case measure => have := HIN.out; simp [intOf]; omega
    · obtain rfl : n = i := by omega
      have HOK : Hid s.Ok := HI.out.ok
      have HKE : Hid (s.ks.length = n) := HLS.out.ks HI.out.ok
      have H8 : Hid (n8 ≤ 12) := by have h1 := HR.out.row.len; have h2 := dl_len cl n; have h3 := HN12.out; show _ ≤ _; omega
      go_wp2_with fail
      refine (dirty_at HI.out (by have := HKE.out; have := HN12.out; omega) (fun y => Nat.le_trans (HLS.out.small y) (by decide))).mono ?_
      rintro e W2 ⟨D1a, dn1, dc1, D2, dn2, dc2, rfl, hT, hB⟩
      rw [HLS.out.sure HOK.out, HLS.out.dirs HOK.out] at hT
      obtain rfl : dn1 = n8 := by rw [← hT.out.one.len]; exact HR.out.row.len
      obtain rfl : dn2 = dn1 := by rw [← hT.out.two.len]; exact HR.out.row.len
      have S2 := Lib.hid (below_chain HS.out hB.out)
      have I2 := Lib.hid (HI.out.since hB.out)
      have R2 := Lib.hid (HR.out.since hB.out)
      have T2 := Lib.hid hT.out
      clear hB hT HS HI HR
      obtain ⟨W3, HW3⟩ : ∃ W, Hid (W2.alloc (.cells #[.int .i64 6, .int .u64 0, .slice none 0 0, .int .i64 64] 32) = W) := ⟨_, rfl⟩
      obtain ⟨g3, HG3⟩ : ∃ g, Hid (W2.heap.size = g) := ⟨_, rfl⟩
      have hB3 : Below W2.heap.size W2 W3 := by rw [← HW3.out]; exact (Below.refl _ _).alloc (Nat.le_refl _) _
      have B3 : Hid (RestC fp W3 g3 #[.int .i64 6, .int .u64 0, .slice none 0 0, .int .i64 64] 32) := by show RestC _ _ _ _ _; rw [← HW3.out, ← HG3.out]; exact RestC.new W2 _ _ I2.out.lt
      have S3 := Lib.hid (below_chain S2.out hB3)
      have I3 := Lib.hid (I2.out.since hB3)
      have R3 := Lib.hid (R2.out.since hB3)
      have T3 := Lib.hid (T2.out.since hB3)
      clear hB3 S2 I2 R2 T2
      go_wp2_with fail
      rw [HW3.out, HG3.out]
      obtain ⟨WD, HWD⟩ : ∃ W, Hid (W3.drew = W) := ⟨_, rfl⟩
      have hBD : Below W3.heap.size W3 WD := by rw [← HWD.out]; exact (Below.refl _ _).drew
      have T4 := Lib.hid (T3.out.since hBD)
      have H9 : Hid (dn2 ≤ 4000) := Nat.le_trans H8.out (by decide)
      have G4 : Hid (LG ⟨w, w.heap.size, o, s, A8, dn2, c8, dlL cl n, A8, dn2, c8, dlL cl n, g3, #[.int .i64 6, .int .u64 0, .slice none 0 0, .int .i64 64], g3, #[.int .i64 6, .int .u64 0, .slice none 0 0, .int .i64 64]⟩ fp WD) := by
        show LG _ _ _; exact ⟨I3.out.since hBD, R3.out.since hBD, R3.out.since hBD, B3.out.since hBD, B3.out.since hBD, below_chain S3.out hBD, (below_chain S3.out hBD).size⟩
      clear hBD S3 I3 R3 T3 B3
      refine region_of_steps7 (by kernel_rfl) [some (.slice D1a dn2 dc1), some (.slice A8 dn2 c8), some (.bool true), some (.bool false), some (.bool false), some (.slice D2 dn2 dc2), some (.slice A8 dn2 c8), some (.bool true), some (.bool false), some (.bool false), some (.bool false), some (.pointer (some ⟨o, 0, none⟩)), some (.agg #[.int .i64 6, .int .u64 0, .slice none 0 0, .int .i64 64]), some (.slice A8 dn2 c8), some (.agg #[.int .i64 3, .int .i64 0, .slice none 0 0, .bool false, .slice A8 dn2 c8]), some (.bool true), some (.bool false), some (.bool false), some (.bool false), some (.pointer (some ⟨o, 0, none⟩)), some (.agg #[.int .i64 6, .int .u64 0, .slice none 0 0, .int .i64 64]), some (.slice A8 dn2 c8), none, none, none, none, some (.bool false), some (.bool false)] [22, 23, 24, 26, 15, 25] [76, 77, 78, 79] (J17 ⟨w, w.heap.size, o, s, A8, dn2, c8, dlL cl n, A8, dn2, c8, dlL cl n, g3, #[.int .i64 6, .int .u64 0, .slice none 0 0, .int .i64 64], g3, #[.int .i64 6, .int .u64 0, .slice none 0 0, .int .i64 64]⟩ WD) (by kernel_rfl) (by kernel_rfl) (by rw [HWD.out]; exact J17.start G4.out (by rw [slots_len]; rfl)) ?_ ?_
      · refine Steps7.cons ?_ (Steps7.cons ?_ (Steps7.cons ?_ (Steps7.cons ?_ (Steps7.cons ?_ (Steps7.cons ?_ (Steps7.cons ?_ (Steps7.cons ?_ (Steps7.cons ?_ (Steps7.cons ?_ (Steps7.cons ?_ (Steps7.cons ?_ (Steps7.cons ?_ (Steps7.cons ?_ (Steps7.cons ?_ (Steps7.cons ?_ (Steps7.cons ?_ (Steps7.cons ?_ (Steps7.cons ?_ (Steps7.cons ?_ (Steps7.cons ?_ (Steps7.cons ?_ (Steps7.cons ?_ (Steps7.cons ?_ (Steps7.cons ?_ (Steps7.cons ?_ (Steps7.cons ?_ (Steps7.cons ?_ (Steps7.nil))))))))))))))))))))))))))))
        · intro listed a W H hj hl hd
          have t11 : a.tmps.getD 11 undef = .slice D1a dn2 dc1 := (H.old 11 (by kernel_rfl)).trans rfl
          exact step7_value (i := 0) rfl rfl (run_op_move rfl t11) (calm7 (fun fs vs x y h hl => J17.later h hl) (by kernel_rfl) (by kernel_rfl) hj (later_refl _)) rfl
        · intro listed a W H hj hl hd
          have t8 : a.tmps.getD 8 undef = .slice A8 dn2 c8 := (H.old 8 (by kernel_rfl)).trans rfl
          exact step7_value (i := 1) rfl rfl (run_op_move rfl t8) (calm7 (fun fs vs x y h hl => J17.later h hl) (by kernel_rfl) (by kernel_rfl) hj (later_refl _)) rfl
        · intro listed a W H hj hl hd
          have t54 : a.tmps.getD 54 undef = .slice D1a dn2 dc1 := H.get 0 54 (by kernel_rfl) (dep_of hd 0 (by kernel_rfl)) (fun _ h => by cases h)
          have t55 : a.tmps.getD 55 undef = .slice A8 dn2 c8 := H.get 1 55 (by kernel_rfl) (dep_of hd 1 (by kernel_rfl)) (fun _ h => by cases h)
          refine step7_call (i := 2) rfl rfl (run_op_call (vs := #[.slice D1a dn2 dc1, .slice A8 dn2 c8]) Try.func22 (by kernel_rfl) (by kernel_rfl) rfl (by simp only [List.map_toArray, List.map_cons, List.map_nil]; show (#[a.tmps.getD 54 undef, a.tmps.getD 55 undef] : Array Value) = _; rw [t54, t55])) ?_
          have f4 := not_done H hl 12 (m := 15) (by kernel_rfl) (by decide)
          refine (samewords_yes _ _ dn2 _ c8 (dlL cl n) W (by have := H9.out; omega) (T4.out.one.lie.since (hj.old f4)) (G4.out.r1.row.lie.since (hj.old f4))).mono ?_
          rintro e W6 ⟨rfl, hb6⟩
          exact ⟨_, rfl, (calm7 (fun fs vs x y h hl => J17.later h hl) (by kernel_rfl) (by kernel_rfl) hj hb6), rfl⟩
        · intro listed a W H hj hl hd
          have t56 : a.tmps.getD 56 undef = .bool true := H.get 2 56 (by kernel_rfl) (dep_of hd 2 (by kernel_rfl)) (fun _ h => by cases h)
          exact step7_value (i := 3) rfl rfl (run_op_not rfl t56) (calm7 (fun fs vs x y h hl => J17.later h hl) (by kernel_rfl) (by kernel_rfl) hj (later_refl _)) rfl
        · intro listed a W H hj hl hd
          have t57 : a.tmps.getD 57 undef = .bool false := H.get 3 57 (by kernel_rfl) (dep_of hd 3 (by kernel_rfl)) (fun _ h => by cases h)
          exact step7_value (i := 4) rfl rfl (run_op_move rfl t57) (calm7 (fun fs vs x y h hl => J17.later h hl) (by kernel_rfl) (by kernel_rfl) hj (later_refl _)) rfl
        · intro listed a W H hj hl hd
          have t58 : a.tmps.getD 58 undef = .bool false := H.get 4 58 (by kernel_rfl) (dep_of hd 4 (by kernel_rfl)) (fun _ h => by cases h)
          have t12 : a.tmps.getD 12 undef = .slice D2 dn2 dc2 := (H.old 12 (by kernel_rfl)).trans rfl
          exact step7_value (i := 5) rfl (wanted_at (j := 4) (d := 58) (b := false) rfl (by kernel_rfl) t58) (run_op_move rfl t12) (calm7 (fun fs vs x y h hl => J17.later h hl) (by kernel_rfl) (by kernel_rfl) hj (later_refl _)) rfl
        · intro listed a W H hj hl hd
          have t58 : a.tmps.getD 58 undef = .bool false := H.get 4 58 (by kernel_rfl) (dep_of hd 4 (by kernel_rfl)) (fun _ h => by cases h)
          have t8 : a.tmps.getD 8 undef = .slice A8 dn2 c8 := (H.old 8 (by kernel_rfl)).trans rfl
          exact step7_value (i := 6) rfl (wanted_at (j := 4) (d := 58) (b := false) rfl (by kernel_rfl) t58) (run_op_move rfl t8) (calm7 (fun fs vs x y h hl => J17.later h hl) (by kernel_rfl) (by kernel_rfl) hj (later_refl _)) rfl
        · intro listed a W H hj hl hd
          have t58 : a.tmps.getD 58 undef = .bool false := H.get 4 58 (by kernel_rfl) (dep_of hd 4 (by kernel_rfl)) (fun _ h => by cases h)
          have t59 : a.tmps.getD 59 undef = .slice D2 dn2 dc2 := H.get 5 59 (by kernel_rfl) (dep_of hd 5 (by kernel_rfl)) (fun _ h => by cases h)
          have t60 : a.tmps.getD 60 undef = .slice A8 dn2 c8 := H.get 6 60 (by kernel_rfl) (dep_of hd 6 (by kernel_rfl)) (fun _ h => by cases h)
          refine step7_call (i := 7) rfl (wanted_at (j := 4) (d := 58) (b := false) rfl (by kernel_rfl) t58) (run_op_call (vs := #[.slice D2 dn2 dc2, .slice A8 dn2 c8]) Try.func22 (by kernel_rfl) (by kernel_rfl) rfl (by simp only [List.map_toArray, List.map_cons, List.map_nil]; show (#[a.tmps.getD 59 undef, a.tmps.getD 60 undef] : Array Value) = _; rw [t59, t60])) ?_
          have f4 := not_done H hl 12 (m := 15) (by kernel_rfl) (by decide)
          refine (samewords_yes _ _ dn2 _ c8 (dlL cl n) W (by have := H9.out; omega) (T4.out.two.lie.since (hj.old f4)) (G4.out.r1.row.lie.since (hj.old f4))).mono ?_
          rintro e W6 ⟨rfl, hb6⟩
          exact ⟨_, rfl, (calm7 (fun fs vs x y h hl => J17.later h hl) (by kernel_rfl) (by kernel_rfl) hj hb6), rfl⟩
        · intro listed a W H hj hl hd
          have t58 : a.tmps.getD 58 undef = .bool false := H.get 4 58 (by kernel_rfl) (dep_of hd 4 (by kernel_rfl)) (fun _ h => by cases h)
          have t61 : a.tmps.getD 61 undef = .bool true := H.get 7 61 (by kernel_rfl) (dep_of hd 7 (by kernel_rfl)) (fun _ h => by cases h)
          exact step7_value (i := 8) rfl (wanted_at (j := 4) (d := 58) (b := false) rfl (by kernel_rfl) t58) (run_op_not rfl t61) (calm7 (fun fs vs x y h hl => J17.later h hl) (by kernel_rfl) (by kernel_rfl) hj (later_refl _)) rfl
        · intro listed a W H hj hl hd
          have t58 : a.tmps.getD 58 undef = .bool false := H.get 4 58 (by kernel_rfl) (dep_of hd 4 (by kernel_rfl)) (fun _ h => by cases h)
          have t62 : a.tmps.getD 62 undef = .bool false := H.get 8 62 (by kernel_rfl) (dep_of hd 8 (by kernel_rfl)) (fun _ h => by cases h)
          exact step7_value (i := 9) rfl rfl (run_op_pickF rfl t58 t62) (calm7 (fun fs vs x y h hl => J17.later h hl) (by kernel_rfl) (by kernel_rfl) hj (later_refl _)) rfl
        · intro listed a W H hj hl hd
          have t63 : a.tmps.getD 63 undef = .bool false := H.get 9 63 (by kernel_rfl) (dep_of hd 9 (by kernel_rfl)) (fun _ h => by cases h)
          exact step7_value (i := 10) rfl rfl (run_op_move rfl t63) (calm7 (fun fs vs x y h hl => J17.later h hl) (by kernel_rfl) (by kernel_rfl) hj (later_refl _)) rfl
        · intro listed a W H hj hl hd
          have t64 : a.tmps.getD 64 undef = .bool false := H.get 10 64 (by kernel_rfl) (dep_of hd 10 (by kernel_rfl)) (fun _ h => by cases h)
          have t7 : a.tmps.getD 7 undef = .pointer (some ⟨o, 0, none⟩) := (H.old 7 (by kernel_rfl)).trans rfl
          exact step7_value (i := 11) rfl (wanted_at (j := 10) (d := 64) (b := false) rfl (by kernel_rfl) t64) (run_op_move rfl t7) (calm7 (fun fs vs x y h hl => J17.later h hl) (by kernel_rfl) (by kernel_rfl) hj (later_refl _)) rfl
        · intro listed a W H hj hl hd
          have t64 : a.tmps.getD 64 undef = .bool false := H.get 10 64 (by kernel_rfl) (dep_of hd 10 (by kernel_rfl)) (fun _ h => by cases h)
          have t13 : a.tmps.getD 13 undef = .pointer (some ⟨g3, 0, none⟩) := (H.old 13 (by kernel_rfl)).trans rfl
          obtain ⟨fpx, hgx⟩ := hj.ground
          exact step7_value (i := 12) rfl (wanted_at (j := 10) (d := 64) (b := false) rfl (by kernel_rfl) t64) (run_op_load rfl t13 (run_load_order _ _ _ _ _ _ _ _ hgx.b1.row)) (calm7 (fun fs vs x y h hl => J17.later h hl) (by kernel_rfl) (by kernel_rfl) hj (later_refl _)) rfl
        · intro listed a W H hj hl hd
          have t64 : a.tmps.getD 64 undef = .bool false := H.get 10 64 (by kernel_rfl) (dep_of hd 10 (by kernel_rfl)) (fun _ h => by cases h)
          have t8 : a.tmps.getD 8 undef = .slice A8 dn2 c8 := (H.old 8 (by kernel_rfl)).trans rfl
          exact step7_value (i := 13) rfl (wanted_at (j := 10) (d := 64) (b := false) rfl (by kernel_rfl) t64) (run_op_move rfl t8) (calm7 (fun fs vs x y h hl => J17.later h hl) (by kernel_rfl) (by kernel_rfl) hj (later_refl _)) rfl
        · intro listed a W H hj hl hd
          have t64 : a.tmps.getD 64 undef = .bool false := H.get 10 64 (by kernel_rfl) (dep_of hd 10 (by kernel_rfl)) (fun _ h => by cases h)
          have t67 : a.tmps.getD 67 undef = .slice A8 dn2 c8 := H.get 13 67 (by kernel_rfl) (dep_of hd 13 (by kernel_rfl)) (fun _ h => by cases h)
          exact step7_value (i := 14) rfl (wanted_at (j := 10) (d := 64) (b := false) rfl (by kernel_rfl) t64) (run_op_buildS rfl (by simp only [List.map_toArray, List.map_cons, List.map_nil]; show (Instr.build 36 #[(0, .int .i64 3), (4, a.tmps.getD 67 undef)]).run _ _ = _; rw [t67]; exact run_build_reply3 _ _ _ W)) (calm7 (fun fs vs x y h hl => J17.later h hl) (by kernel_rfl) (by kernel_rfl) hj (later_refl _)) rfl
        · intro listed a W H hj hl hd
          have t64 : a.tmps.getD 64 undef = .bool false := H.get 10 64 (by kernel_rfl) (dep_of hd 10 (by kernel_rfl)) (fun _ h => by cases h)
          have t65 : a.tmps.getD 65 undef = .pointer (some ⟨o, 0, none⟩) := H.get 11 65 (by kernel_rfl) (dep_of hd 11 (by kernel_rfl)) (fun _ h => by cases h)
          have t66 : a.tmps.getD 66 undef = .agg #[.int .i64 6, .int .u64 0, .slice none 0 0, .int .i64 64] := H.get 12 66 (by kernel_rfl) (dep_of hd 12 (by kernel_rfl)) (fun _ h => by cases h)
          have t68 : a.tmps.getD 68 undef = .agg #[.int .i64 3, .int .i64 0, .slice none 0 0, .bool false, .slice A8 dn2 c8] := H.get 14 68 (by kernel_rfl) (dep_of hd 14 (by kernel_rfl)) (fun _ h => by cases h)
          refine step7_call (i := 15) rfl (wanted_at (j := 10) (d := 64) (b := false) rfl (by kernel_rfl) t64) (run_op_call (vs := #[.pointer (some ⟨o, 0, none⟩), .agg #[.int .i64 6, .int .u64 0, .slice none 0 0, .int .i64 64], .agg #[.int .i64 3, .int .i64 0, .slice none 0 0, .bool false, .slice A8 dn2 c8]]) Try.func18 (by kernel_rfl) (by kernel_rfl) rfl (by simp only [List.map_toArray, List.map_cons, List.map_nil]; show (#[a.tmps.getD 65 undef, a.tmps.getD 66 undef, a.tmps.getD 68 undef] : Array Value) = _; rw [t65, t66, t68])) ?_
          have f0 := not_done H hl 12 (m := 22) (by kernel_rfl) (by decide)
          have f1 := not_done H hl 12 (m := 23) (by kernel_rfl) (by decide)
          have f2 := not_done H hl 12 (m := 24) (by kernel_rfl) (by decide)
          obtain ⟨fpx, hgx⟩ := hj.ground
          refine (take_list hgx.id (fun y => Nat.le_trans (HLS.out.small y) (by decide)) (by show s.ks.length ≤ _; have := HKE.out; have := HN12.out; omega) 0 64 A8 dn2 c8 (dlL cl n) (by decide) (by decide) H9.out hgx.r1.row.lie hgx.r1.safe (HLS.out.stay HOK.out)).mono ?_
          rintro e W6 ⟨v, rfl, hv, fp6, hI, hM⟩
          have hv1 : v = true := hv.2 (HLS.out.may_all HOK.out HN12.out)
          subst hv1
          have hk := hj.first (hgx.step hI.out hM.out) f0 f1 f2
          rw [← flags_put (m := 15) 4 rfl (by decide)] at hk
          exact ⟨_, rfl, by rw [slots_put (by intro k e; injection e with e; subst e; decide)]; exact hk, rfl⟩
        · intro listed a W H hj hl hd
          have t64 : a.tmps.getD 64 undef = .bool false := H.get 10 64 (by kernel_rfl) (dep_of hd 10 (by kernel_rfl)) (fun _ h => by cases h)
          have t69 : a.tmps.getD 69 undef = .bool true := H.get 15 69 (by kernel_rfl) (dep_of hd 15 (by kernel_rfl)) (fun _ h => by cases h)
          exact step7_value (i := 16) rfl (wanted_at (j := 10) (d := 64) (b := false) rfl (by kernel_rfl) t64) (run_op_not rfl t69) (calm7 (fun fs vs x y h hl => J17.later h hl) (by kernel_rfl) (by kernel_rfl) hj (later_refl _)) rfl
        · intro listed a W H hj hl hd
          have t64 : a.tmps.getD 64 undef = .bool false := H.get 10 64 (by kernel_rfl) (dep_of hd 10 (by kernel_rfl)) (fun _ h => by cases h)
          have t70 : a.tmps.getD 70 undef = .bool false := H.get 16 70 (by kernel_rfl) (dep_of hd 16 (by kernel_rfl)) (fun _ h => by cases h)
          exact step7_value (i := 17) rfl rfl (run_op_pickF rfl t64 t70) (calm7 (fun fs vs x y h hl => J17.later h hl) (by kernel_rfl) (by kernel_rfl) hj (later_refl _)) rfl
        · intro listed a W H hj hl hd
          have t71 : a.tmps.getD 71 undef = .bool false := H.get 17 71 (by kernel_rfl) (dep_of hd 17 (by kernel_rfl)) (fun _ h => by cases h)
          exact step7_value (i := 18) rfl rfl (run_op_move rfl t71) (calm7 (fun fs vs x y h hl => J17.later h hl) (by kernel_rfl) (by kernel_rfl) hj (later_refl _)) rfl
        · intro listed a W H hj hl hd
          have t72 : a.tmps.getD 72 undef = .bool false := H.get 18 72 (by kernel_rfl) (dep_of hd 18 (by kernel_rfl)) (fun _ h => by cases h)
          have t7 : a.tmps.getD 7 undef = .pointer (some ⟨o, 0, none⟩) := (H.old 7 (by kernel_rfl)).trans rfl
          exact step7_value (i := 19) rfl (wanted_at (j := 18) (d := 72) (b := false) rfl (by kernel_rfl) t72) (run_op_move rfl t7) (calm7 (fun fs vs x y h hl => J17.later h hl) (by kernel_rfl) (by kernel_rfl) hj (later_refl _)) rfl
        · intro listed a W H hj hl hd
          have t72 : a.tmps.getD 72 undef = .bool false := H.get 18 72 (by kernel_rfl) (dep_of hd 18 (by kernel_rfl)) (fun _ h => by cases h)
          have t13 : a.tmps.getD 13 undef = .pointer (some ⟨g3, 0, none⟩) := (H.old 13 (by kernel_rfl)).trans rfl
          obtain ⟨fpx, hgx⟩ := hj.ground
          exact step7_value (i := 20) rfl (wanted_at (j := 18) (d := 72) (b := false) rfl (by kernel_rfl) t72) (run_op_load rfl t13 (run_load_order _ _ _ _ _ _ _ _ hgx.b1.row)) (calm7 (fun fs vs x y h hl => J17.later h hl) (by kernel_rfl) (by kernel_rfl) hj (later_refl _)) rfl
        · intro listed a W H hj hl hd
          have t72 : a.tmps.getD 72 undef = .bool false := H.get 18 72 (by kernel_rfl) (dep_of hd 18 (by kernel_rfl)) (fun _ h => by cases h)
          have t8 : a.tmps.getD 8 undef = .slice A8 dn2 c8 := (H.old 8 (by kernel_rfl)).trans rfl
          exact step7_value (i := 21) rfl (wanted_at (j := 18) (d := 72) (b := false) rfl (by kernel_rfl) t72) (run_op_move rfl t8) (calm7 (fun fs vs x y h hl => J17.later h hl) (by kernel_rfl) (by kernel_rfl) hj (later_refl _)) rfl
        · intro listed a W H hj hl hd
          have t72 : a.tmps.getD 72 undef = .bool false := H.get 18 72 (by kernel_rfl) (dep_of hd 18 (by kernel_rfl)) (fun _ h => by cases h)
          have t75 : a.tmps.getD 75 undef = .slice A8 dn2 c8 := H.get 21 75 (by kernel_rfl) (dep_of hd 21 (by kernel_rfl)) (fun _ h => by cases h)
          have f2 := not_done H hl 12 (m := 24) (by kernel_rfl) (by decide)
          obtain ⟨A6, c6, W6, hr6, hl6, hk6⟩ := hj.app1 H9.out f2
          rw [← flags_put (m := 22) 0 rfl (by decide), ← slots_at (a := a) (d := 76) 0 rfl (by decide) (by rw [H.size]; exact of_decide_eq_true (by kernel_rfl))] at hk6
          exact step7_value (i := 22) rfl (wanted_at (j := 18) (d := 72) (b := false) rfl (by kernel_rfl) t72) (run_op_append_k rfl rfl t75 hr6) hk6 trivial
        · intro listed a W H hj hl hd
          have t72 : a.tmps.getD 72 undef = .bool false := H.get 18 72 (by kernel_rfl) (dep_of hd 18 (by kernel_rfl)) (fun _ h => by cases h)
          have f2 := not_done H hl 12 (m := 24) (by kernel_rfl) (by decide)
          have hk6 := hj.lit f2
          rw [← flags_put (m := 23) 1 rfl (by decide), ← slots_at (a := a) (d := 77) 1 rfl (by decide) (by rw [H.size]; exact of_decide_eq_true (by kernel_rfl))] at hk6
          exact step7_value (i := 23) rfl (wanted_at (j := 18) (d := 72) (b := false) rfl (by kernel_rfl) t72) (run_op_build rfl (by simp only [List.map_toArray, List.map_cons, List.map_nil]; exact run_build_w1 1000 W)) hk6 trivial
        · intro listed a W H hj hl hd
          have t72 : a.tmps.getD 72 undef = .bool false := H.get 18 72 (by kernel_rfl) (dep_of hd 18 (by kernel_rfl)) (fun _ h => by cases h)
          have d76 : listed.getD 22 false = true := dep_of hd 22 (by kernel_rfl)
          have d77 : listed.getD 23 false = true := dep_of hd 23 (by kernel_rfl)
          have f5 := not_done H hl 12 (m := 25) (by kernel_rfl) (by decide)
          obtain ⟨A6, c6, A1x, c1x, A2x, W6, e1, e2, hr6, hk6⟩ := hj.app2 H9.out (done_true d76) (done_true d77) hl (done_true (H.dones 12 d76 (by kernel_rfl))) f5
          rw [← flags_put (m := 24) 2 rfl (by decide), ← slots_at (a := a) (d := 78) 2 rfl (by decide) (by rw [H.size]; exact of_decide_eq_true (by kernel_rfl))] at hk6
          exact step7_value (i := 24) rfl (wanted_at (j := 18) (d := 72) (b := false) rfl (by kernel_rfl) t72) (run_op_append_k rfl e1 e2 hr6) hk6 trivial
        · intro listed a W H hj hl hd
          have t72 : a.tmps.getD 72 undef = .bool false := H.get 18 72 (by kernel_rfl) (dep_of hd 18 (by kernel_rfl)) (fun _ h => by cases h)
          have d78 : listed.getD 24 false = true := dep_of hd 24 (by kernel_rfl)
          have f3 := not_done H hl 12 (m := 26) (by kernel_rfl) (by decide)
          obtain ⟨fpx, Ax, cx, hgx, ex, hLx, hsx⟩ := hj.row (done_true d78) f3
          have hk6 := hj.built ex
          rw [← flags_put (m := 25) 5 rfl (by decide), ← slots_at (a := a) (d := 79) 3 rfl (by decide) (by rw [H.size]; exact of_decide_eq_true (by kernel_rfl))] at hk6
          exact step7_value (i := 25) rfl (wanted_at (j := 18) (d := 72) (b := false) rfl (by kernel_rfl) t72) (run_op_buildS rfl (by simp only [List.map_toArray, List.map_cons, List.map_nil]; show (Instr.build 36 #[(0, .int .i64 3), (4, a.tmps.getD 78 undef)]).run _ _ = _; rw [show a.tmps.getD 78 undef = .slice Ax (dn2 + 1) cx from ex]; exact run_build_reply3 _ _ _ W)) hk6 trivial
        · intro listed a W H hj hl hd
          have t72 : a.tmps.getD 72 undef = .bool false := H.get 18 72 (by kernel_rfl) (dep_of hd 18 (by kernel_rfl)) (fun _ h => by cases h)
          have t73 : a.tmps.getD 73 undef = .pointer (some ⟨o, 0, none⟩) := H.get 19 73 (by kernel_rfl) (dep_of hd 19 (by kernel_rfl)) (fun _ h => by cases h)
          have t74 : a.tmps.getD 74 undef = .agg #[.int .i64 6, .int .u64 0, .slice none 0 0, .int .i64 64] := H.get 20 74 (by kernel_rfl) (dep_of hd 20 (by kernel_rfl)) (fun _ h => by cases h)
          have d79 : listed.getD 25 false = true := dep_of hd 25 (by kernel_rfl)
          refine step7_call (i := 26) rfl (wanted_at (j := 18) (d := 72) (b := false) rfl (by kernel_rfl) t72) (run_op_call (vs := #[.pointer (some ⟨o, 0, none⟩), .agg #[.int .i64 6, .int .u64 0, .slice none 0 0, .int .i64 64], a.tmps.getD 79 undef]) Try.func18 (by kernel_rfl) (by kernel_rfl) rfl (by simp only [List.map_toArray, List.map_cons, List.map_nil]; show (#[a.tmps.getD 73 undef, a.tmps.getD 74 undef, a.tmps.getD 79 undef] : Array Value) = _; rw [t73, t74])) ?_
          have f2 : (flags [22, 23, 24, 26, 15, 25] listed).getD 2 false = true := done_true (H.dones 12 d79 (by kernel_rfl))
          have f4 : (flags [22, 23, 24, 26, 15, 25] listed).getD 4 false = true := done_true (H.dones 12 d79 (by kernel_rfl))
          obtain ⟨fpx, Ax, cx, hgx, ex, hLx, hsx⟩ := hj.row f2 hl
          have e3 := hj.agg (done_true d79)
          rw [ex] at e3
          rw [show a.tmps.getD 79 undef = .agg #[.int .i64 3, .int .i64 0, .slice none 0 0, .bool false, .slice Ax (dn2 + 1) cx] from e3]
          refine (take_list hgx.id (fun y => Nat.le_trans (HLS.out.small y) (by decide)) (by show s.ks.length ≤ _; have := HKE.out; have := HN12.out; omega) 0 64 Ax (dn2 + 1) cx (dlL cl n ++ [1000]) (by decide) (by decide) (by have := H8.out; omega) hLx hsx (HLS.out.stay HOK.out)).mono ?_
          rintro e W6 ⟨v, rfl, hv, fp6, hI, hM⟩
          have hv1 : v = false := by cases v with | false => rfl | true => exact absurd (hv.1 rfl) (HLS.out.may_more HN12.out)
          subst hv1
          have hk := hj.second (hgx.step hI.out hM.out) f2 f4
          rw [← flags_put (m := 26) 3 rfl (by decide)] at hk
          exact ⟨_, rfl, by rw [slots_put (by intro k e; injection e with e; subst e; decide)]; exact hk, rfl⟩
        · intro listed a W H hj hl hd
          have t72 : a.tmps.getD 72 undef = .bool false := H.get 18 72 (by kernel_rfl) (dep_of hd 18 (by kernel_rfl)) (fun _ h => by cases h)
          have t80 : a.tmps.getD 80 undef = .bool false := H.get 26 80 (by kernel_rfl) (dep_of hd 26 (by kernel_rfl)) (fun _ h => by cases h)
          exact step7_value (i := 27) rfl rfl (run_op_pickF rfl t72 t80) (calm7 (fun fs vs x y h hl => J17.later h hl) (by kernel_rfl) (by kernel_rfl) hj (later_refl _)) rfl
      · intro a WC hdef hsz hw hall hact
        obtain ⟨u, hu⟩ : ∃ u : Nat → Value, ∀ k, a.tmps.getD k undef = u k := ⟨_, fun _ => rfl⟩
        have h81 : u 81 = .bool false := by rw [← hu]; exact hall 27 _ rfl
        simp only [hu] at hact
        have hact' : a = ([54, 55, 56, 57, 58, 59, 60, 61, 62, 63, 64, 65, 66, 67, 68, 69, 70, 71, 72, 73, 74, 75, 76, 77, 78, 79, 80, 81] : List Nat).foldl (fun b k => b.put (some k) (u k)) _ := hact
        simp only [List.foldl] at hact'
        simp only [Act.put, List.setIfInBounds_toArray, List.set_cons_succ, List.set_cons_zero] at hact'
        have HAC := Lib.hid hact'
        have HX := Lib.hid hw
        clear hact hact' hall hdef hsz hw
        rw [h81] at HAC
        rw [HAC.out]
        obtain ⟨fp7, hg7⟩ := HX.out.ground
        have G7 := Lib.hid hg7
        clear hg7 HX hu
        have b0 := G7.out.b1.cell 0
        have b1 := G7.out.b1.cell 1
        have b2 := G7.out.b1.cell 2
        have b3 := G7.out.b1.cell 3
        simp only [List.getElem?_toArray, List.getElem?_cons_zero, List.getElem?_cons_succ] at b0 b1 b2 b3
        clear T4 G4 HWD
        by_cases hz : dn2 = 0
        · skip
          have HE : Hid (dlL cl n = []) := by have h1 := G7.out.r1.row.len; exact List.eq_nil_of_length_eq_zero (h1.trans hz)
          subst hz
          go_wp2_with fail
          clear b0 b1 b2 b3
          refine (take_list G7.out.id (fun y => Nat.le_trans (HLS.out.small y) (by decide)) (by show s.ks.length ≤ _; have := HKE.out; have := HN12.out; omega) 0 64 none 0 0 [] (by decide) (by decide) (by decide) Kind.Lie.none_ (fun b hb => by cases hb) (HLS.out.stay HOK.out)).mono ?_
          rintro e W6 ⟨v, rfl, hv, fp8, hI, hM⟩
          have hv1 : v = true := hv.2 (by have := HLS.out.may_all HOK.out HN12.out; rw [HE.out] at this; exact this)
          subst hv1
          have G8 := Lib.hid (G7.out.step hI.out hM.out)
          clear hv hI hM G7
          go_wp2_with fail
          refine (awake18_any _).mono ?_
          rintro e W7 ⟨rfl, hb7⟩
          have S9 := Lib.hid (below_chain G8.out.since hb7)
          go_wp2_with fail
          go_ret
          exact ⟨rfl, S9.out⟩
        · skip
          have hz1 : 0 < dn2 := Nat.pos_of_ne_zero hz
          have hz2 : (0 : Int) < (dn2 : Int) := by omega
          have hz3 : (dn2 : Int) ≤ 12 := by have := H8.out; omega
          have hb := lowM_bd xo (dn2 : Int) hz2
          obtain ⟨q, HQ⟩ : ∃ q : Nat, Hid (lowM xo (dn2 : Int) = (q : Int)) := ⟨(lowM xo (dn2 : Int)).toNat, by show _ = _; omega⟩
          have hq : q < dn2 := by have := HQ.out; omega
          have CQ := Lib.hid (low_any xo (dn2 : Int) hz2 (by omega) WC)
          rw [HQ.out] at CQ
          clear hb
          go_wp2_with fail
          refine CQ.out.mono ?_
          rintro e w8 ⟨rfl, hw8⟩
          rw [← hw8]
          clear hw8 CQ b0 b1 b2 b3
          go_wp2_with fail
          have HQ2 : Hid (q < dn2) := hq
          obtain ⟨WD2, HWD2⟩ : ∃ W, Hid (WC.drew = W) := ⟨_, rfl⟩
          have hBD2 : Below WC.heap.size WC WD2 := by rw [← HWD2.out]; exact (Below.refl _ _).drew
          have G8 := Lib.hid (G7.out.later hBD2)
          have HCAP : Hid (dn2 ≤ c8) := G8.out.r1.row.cap
          have X1 : Hid (wordK.Lie WD2 WD2.heap.size A8 q ((dlL cl n).take q)) := G8.out.r1.row.lie.first (Nat.le_of_lt hq)
          have X2 : Hid (wordK.Lie WD2 WD2.heap.size (if c8 = q + 1 then A8 else A8.map (·.add ((q + 1) * wordK.k))) (dn2 - (q + 1)) ((dlL cl n).drop (q + 1))) := G8.out.r1.row.lie.rest (k := q + 1) hq HCAP.out
          obtain ⟨A3, HA3⟩ : ∃ A, Hid ((if c8 = q + 1 then A8 else A8.map (·.add ((q + 1) * wordK.k))) = A) := ⟨_, rfl⟩
          rw [HA3.out] at X2
          have RF : Hid (∀ W, (Instr.slice wordK.L (.slice A8 dn2 c8) (some (.int .i64 ((q + 1 : Nat) : Int))) none none).run Try.prog W = .ok (.slice A3 (dn2 - (q + 1)) (c8 - (q + 1))) W) := fun W => by have := wordK.slice_from A8 dn2 c8 (q + 1) hq W; rw [HA3.out] at this; exact this
          clear hBD2 G7
          refine region_of_steps7 (by kernel_rfl) [some (.slice A8 dn2 c8), some (.int .i64 (q : Int)), some (.slice A8 q c8), none, some (.slice A8 dn2 c8), some (.int .i64 (q : Int)), some (.int .i64 ((q + 1 : Nat) : Int)), some (.slice A3 (dn2 - (q + 1)) (c8 - (q + 1))), none, none] [3, 8, 9] [99, 104, 14] (J22 WD2 q (dn2 - (q + 1)) ((dlL cl n).take q) ((dlL cl n).drop (q + 1))) (by kernel_rfl) (by kernel_rfl) (by rw [HWD2.out]; exact J22.start (by rw [slots_len]; rfl)) ?_ ?_
          · refine Steps7.cons ?_ (Steps7.cons ?_ (Steps7.cons ?_ (Steps7.cons ?_ (Steps7.cons ?_ (Steps7.cons ?_ (Steps7.cons ?_ (Steps7.cons ?_ (Steps7.cons ?_ (Steps7.cons ?_ (Steps7.nil))))))))))
            · intro listed a W H hj hl hd
              have t8 : a.tmps.getD 8 undef = .slice A8 dn2 c8 := (H.old 8 (by kernel_rfl)).trans rfl
              exact step7_value (i := 0) rfl rfl (run_op_move rfl t8) (calm7 (fun fs vs x y h hl => J22.later h hl) (by kernel_rfl) (by kernel_rfl) hj (later_refl _)) rfl
            · intro listed a W H hj hl hd
              have t2 : a.tmps.getD 2 undef = .int .i64 (q : Int) := (H.old 2 (by kernel_rfl)).trans rfl
              exact step7_value (i := 1) rfl rfl (run_op_move rfl t2) (calm7 (fun fs vs x y h hl => J22.later h hl) (by kernel_rfl) (by kernel_rfl) hj (later_refl _)) rfl
            · intro listed a W H hj hl hd
              have t96 : a.tmps.getD 96 undef = .slice A8 dn2 c8 := H.get 0 96 (by kernel_rfl) (dep_of hd 0 (by kernel_rfl)) (fun _ h => by cases h)
              have t97 : a.tmps.getD 97 undef = .int .i64 (q : Int) := H.get 1 97 (by kernel_rfl) (dep_of hd 1 (by kernel_rfl)) (fun _ h => by cases h)
              exact step7_value (i := 2) rfl rfl (run_op_slice rfl (by show (Instr.sliceAt 34 (a.tmps.getD 96 undef) none (some (a.tmps.getD 97 undef)) none).run _ _ = _; rw [t96, t97]; rw [run_sliceAt_slice (h := Try.underlying34)]; exact (wordK.slice_to A8 dn2 c8 q (Nat.le_of_lt HQ2.out) HCAP.out W))) (calm7 (fun fs vs x y h hl => J22.later h hl) (by kernel_rfl) (by kernel_rfl) hj (later_refl _)) rfl
            · intro listed a W H hj hl hd
              have t98 : a.tmps.getD 98 undef = .slice A8 q c8 := H.get 2 98 (by kernel_rfl) (dep_of hd 2 (by kernel_rfl)) (fun _ h => by cases h)
              have f1 := not_done H hl 12 (m := 8) (by kernel_rfl) (by decide)
              obtain ⟨A6, c6, W6, hr6, hk6⟩ := hj.app1 (by have := H9.out; have := HQ2.out; omega) A8 c8 X1.out f1
              rw [← flags_put (m := 3) 0 rfl (by decide), ← slots_at (a := a) (d := 99) 0 rfl (by decide) (by rw [H.size]; exact of_decide_eq_true (by kernel_rfl))] at hk6
              exact step7_value (i := 3) rfl rfl (run_op_append_k rfl rfl t98 hr6) hk6 trivial
            · intro listed a W H hj hl hd
              have t8 : a.tmps.getD 8 undef = .slice A8 dn2 c8 := (H.old 8 (by kernel_rfl)).trans rfl
              exact step7_value (i := 4) rfl rfl (run_op_move rfl t8) (calm7 (fun fs vs x y h hl => J22.later h hl) (by kernel_rfl) (by kernel_rfl) hj (later_refl _)) rfl
            · intro listed a W H hj hl hd
              have t2 : a.tmps.getD 2 undef = .int .i64 (q : Int) := (H.old 2 (by kernel_rfl)).trans rfl
              exact step7_value (i := 5) rfl rfl (run_op_move rfl t2) (calm7 (fun fs vs x y h hl => J22.later h hl) (by kernel_rfl) (by kernel_rfl) hj (later_refl _)) rfl
            · intro listed a W H hj hl hd
              have t101 : a.tmps.getD 101 undef = .int .i64 (q : Int) := H.get 5 101 (by kernel_rfl) (dep_of hd 5 (by kernel_rfl)) (fun _ h => by cases h)
              exact step7_value (i := 6) rfl rfl (run_op_bin rfl t101 rfl (bin_add _ _ _ (q : Int) 1 ((q + 1 : Nat) : Int) (by first | rfl | (simp; done) | (simp; omega) | decide) (by omega) (by omega))) (calm7 (fun fs vs x y h hl => J22.later h hl) (by kernel_rfl) (by kernel_rfl) hj (later_refl _)) rfl
            · intro listed a W H hj hl hd
              have t100 : a.tmps.getD 100 undef = .slice A8 dn2 c8 := H.get 4 100 (by kernel_rfl) (dep_of hd 4 (by kernel_rfl)) (fun _ h => by cases h)
              have t102 : a.tmps.getD 102 undef = .int .i64 ((q + 1 : Nat) : Int) := H.get 6 102 (by kernel_rfl) (dep_of hd 6 (by kernel_rfl)) (fun _ h => by cases h)
              exact step7_value (i := 7) rfl rfl (run_op_slice rfl (by show (Instr.sliceAt 34 (a.tmps.getD 100 undef) (some (a.tmps.getD 102 undef)) none none).run _ _ = _; rw [t100, t102]; rw [run_sliceAt_slice (h := Try.underlying34)]; exact (RF.out W))) (calm7 (fun fs vs x y h hl => J22.later h hl) (by kernel_rfl) (by kernel_rfl) hj (later_refl _)) rfl
            · intro listed a W H hj hl hd
              have d99 : listed.getD 3 false = true := dep_of hd 3 (by kernel_rfl)
              have t103 : a.tmps.getD 103 undef = .slice A3 (dn2 - (q + 1)) (c8 - (q + 1)) := H.get 7 103 (by kernel_rfl) (dep_of hd 7 (by kernel_rfl)) (fun _ h => by cases h)
              have f2 := not_done H hl 12 (m := 9) (by kernel_rfl) (by decide)
              obtain ⟨A1x, c1x, A6, c6, W6, e1, hr6, hk6⟩ := hj.app2 (by have := H9.out; have := HQ2.out; omega) A3 (c8 - (q + 1)) X2.out (done_true d99) hl f2
              rw [← flags_put (m := 8) 1 rfl (by decide), ← slots_at (a := a) (d := 104) 1 rfl (by decide) (by rw [H.size]; exact of_decide_eq_true (by kernel_rfl))] at hk6
              exact step7_value (i := 8) rfl rfl (run_op_append_k rfl e1 t103 hr6) hk6 trivial
            · intro listed a W H hj hl hd
              have d104 : listed.getD 8 false = true := dep_of hd 8 (by kernel_rfl)
              have hk6 := hj.set_
              rw [← flags_put (m := 9) 2 rfl (by decide), ← slots_at (a := a) (d := 14) 2 rfl (by decide) (by rw [H.size]; exact of_decide_eq_true (by kernel_rfl))] at hk6
              exact step7_value (i := 9) rfl rfl (run_op_assign rfl rfl) hk6 trivial
          · intro a WC2 hdef hsz hw hall hact
            obtain ⟨u, hu⟩ : ∃ u : Nat → Value, ∀ k, a.tmps.getD k undef = u k := ⟨_, fun _ => rfl⟩
            simp only [hu] at hact
            have hact' : a = ([96, 97, 98, 99, 100, 101, 102, 103, 104, 14] : List Nat).foldl (fun b k => b.put (some k) (u k)) _ := hact
            simp only [List.foldl] at hact'
            simp only [Act.put, List.setIfInBounds_toArray, List.set_cons_succ, List.set_cons_zero] at hact'
            have HAC2 := Lib.hid hact'
            have HX := Lib.hid hw
            clear hact hact' hall hdef hsz hw
            rw [HAC2.out]
            obtain ⟨A14, c14, e1, r14⟩ := HX.out.k2 rfl
            have e14 : u 14 = .slice A14 (q + (dn2 - (q + 1))) c14 := by rw [← hu]; exact (HX.out.asg rfl).trans e1
            rw [e14]
            obtain ⟨n14, H14⟩ : ∃ k, Hid (q + (dn2 - (q + 1)) = k) := ⟨_, rfl⟩
            rw [H14.out] at r14 ⊢
            have hn14 : n14 ≤ 12 := by have := H14.out; have := H8.out; have := HQ2.out; omega
            have H14L : Hid (n14 ≤ 12) := hn14
            have hg9 := G8.out.later HX.out.since
            have hwd := HX.out.since.size
            have R14 : Hid (RestK wordK fp7 WC2 w.heap.size A14 n14 c14 ((dlL cl n).take q ++ (dlL cl n).drop (q + 1))) := ⟨r14.elder G8.out.le, fun b h1 h2 => by have h3 := Row.blk_ge r14 b h1; have h4 := G8.out.id.lt b h2; omega⟩
            have G9 := Lib.hid hg9
            clear hg9 e14 e1 r14 hn14 G8 HX X1 X2 RF HA3 HWD2 hwd
            obtain ⟨ad, had, hblk, hcx⟩ := word_at G9.out.r1.row.lie HQ2.out
            subst had
            obtain ⟨x, HXQ⟩ : ∃ x, Hid ((dlL cl n).getD q 0 = x) := ⟨_, rfl⟩
            have hxw : U64 x := by rw [← HXQ.out]; exact G9.out.r1.row.lie.wf q
            rw [HXQ.out] at hcx
            obtain ⟨W9, HW9⟩ : ∃ W, Hid (WC2.alloc (.cells #[.int .i64 6, .int .u64 x, .slice none 0 0, .int .i64 1] 32) = W) := ⟨_, rfl⟩
            obtain ⟨g9, HG9⟩ : ∃ g, Hid (WC2.heap.size = g) := ⟨_, rfl⟩
            have hB9 : Below WC2.heap.size WC2 W9 := by rw [← HW9.out]; exact (Below.refl _ _).alloc (Nat.le_refl _) _
            have B9 : Hid (RestC fp7 W9 g9 #[.int .i64 6, .int .u64 x, .slice none 0 0, .int .i64 1] 32) := by show RestC _ _ _ _ _; rw [← HW9.out, ← HG9.out]; exact RestC.new WC2 _ _ G9.out.id.lt
            have GA := Lib.hid (G9.out.later hB9)
            have RA := Lib.hid (R14.out.since hB9)
            go_wp2_with fail
            rw [HW9.out, HG9.out]
            clear hcx hB9 G9 R14
            obtain ⟨WE, HWE⟩ : ∃ W, Hid (W9.drew = W) := ⟨_, rfl⟩
            have hBE : Below W9.heap.size W9 WE := by rw [← HWE.out]; exact (Below.refl _ _).drew
            have GE : Hid (LG ⟨w, w.heap.size, o, s, some ad, dn2, c8, dlL cl n, A14, n14, c14, (dlL cl n).take q ++ (dlL cl n).drop (q + 1), g3, #[.int .i64 6, .int .u64 0, .slice none 0 0, .int .i64 64], g9, #[.int .i64 6, .int .u64 x, .slice none 0 0, .int .i64 1]⟩ fp7 WE) := by show LG _ _ _; exact ⟨GA.out.id.since hBE, GA.out.r1.since hBE, RA.out.since hBE, GA.out.b1.since hBE, B9.out.since hBE, below_chain GA.out.since hBE, Nat.le_trans GA.out.le hBE.size⟩
            have HQL : Hid (q < (dlL cl n).length) := by have h1 : (dlL cl n).length = dn2 := GE.out.r1.row.len; rw [h1]; exact HQ2
            have HXM : Hid (x ∈ dlL cl n) := by show x ∈ dlL cl n; rw [← HXQ.out, List.getD_eq_getElem?_getD, List.getElem?_eq_getElem HQL.out]; exact List.getElem_mem HQL.out
            have HXW : Hid (U64 x) := hxw
            clear hxw hblk GA RA B9 hBE HW9 HG9
            refine region_of_steps7 (by kernel_rfl) [some (.pointer (some ⟨o, 0, none⟩)), some (.agg #[.int .i64 6, .int .u64 0, .slice none 0 0, .int .i64 64]), some (.slice A14 n14 c14), some (.agg #[.int .i64 3, .int .i64 0, .slice none 0 0, .bool false, .slice A14 n14 c14]), some (.bool false), some (.bool true), some (.bool true), some (.pointer (some ⟨o, 0, none⟩)), some (.agg #[.int .i64 6, .int .u64 x, .slice none 0 0, .int .i64 1]), some (.slice (some ad) dn2 c8), some (.int .i64 (q : Int)), some (.int .i64 (q : Int)), some (.int .i64 ((q + 1 : Nat) : Int)), some (.slice (midA (some ad) c8 q) 1 (c8 - q)), some (.agg #[.int .i64 3, .int .i64 0, .slice none 0 0, .bool false, .slice (midA (some ad) c8 q) 1 (c8 - q)]), some (.bool true), some (.bool true), some (.bool true), some (.pointer (some ⟨o, 0, none⟩)), none, some (.int .i64 (n : Int)), some (.int .i64 (n : Int)), some (.bool true), some (.bool true), some (.bool true), some (.bool true), some (.bool true), some (.bool true)] [19] [129] (J24 ⟨w, w.heap.size, o, s, some ad, dn2, c8, dlL cl n, A14, n14, c14, (dlL cl n).take q ++ (dlL cl n).drop (q + 1), g3, #[.int .i64 6, .int .u64 0, .slice none 0 0, .int .i64 64], g9, #[.int .i64 6, .int .u64 x, .slice none 0 0, .int .i64 1]⟩ n) (by kernel_rfl) (by kernel_rfl) (by rw [HWE.out]; exact J24.start GE.out (by rw [slots_len]; rfl)) ?_ ?_
            · refine Steps7.cons ?_ (Steps7.cons ?_ (Steps7.cons ?_ (Steps7.cons ?_ (Steps7.cons ?_ (Steps7.cons ?_ (Steps7.cons ?_ (Steps7.cons ?_ (Steps7.cons ?_ (Steps7.cons ?_ (Steps7.cons ?_ (Steps7.cons ?_ (Steps7.cons ?_ (Steps7.cons ?_ (Steps7.cons ?_ (Steps7.cons ?_ (Steps7.cons ?_ (Steps7.cons ?_ (Steps7.cons ?_ (Steps7.cons ?_ (Steps7.cons ?_ (Steps7.cons ?_ (Steps7.cons ?_ (Steps7.cons ?_ (Steps7.cons ?_ (Steps7.cons ?_ (Steps7.cons ?_ (Steps7.cons ?_ (Steps7.nil))))))))))))))))))))))))))))
              · intro listed a W H hj hl hd
                have t7 : a.tmps.getD 7 undef = .pointer (some ⟨o, 0, none⟩) := (H.old 7 (by kernel_rfl)).trans rfl
                exact step7_value (i := 0) rfl rfl (run_op_move rfl t7) (calm7 (fun fs vs x y h hl => J24.later h hl) (by kernel_rfl) (by kernel_rfl) hj (later_refl _)) rfl
              · intro listed a W H hj hl hd
                have t13 : a.tmps.getD 13 undef = .pointer (some ⟨g3, 0, none⟩) := (H.old 13 (by kernel_rfl)).trans rfl
                obtain ⟨fpx, hgx⟩ := hj.ground
                exact step7_value (i := 1) rfl rfl (run_op_load rfl t13 (run_load_order _ _ _ _ _ _ _ _ hgx.b1.row)) (calm7 (fun fs vs x y h hl => J24.later h hl) (by kernel_rfl) (by kernel_rfl) hj (later_refl _)) rfl
              · intro listed a W H hj hl hd
                have t14 : a.tmps.getD 14 undef = .slice A14 n14 c14 := (H.old 14 (by kernel_rfl)).trans rfl
                exact step7_value (i := 2) rfl rfl (run_op_move rfl t14) (calm7 (fun fs vs x y h hl => J24.later h hl) (by kernel_rfl) (by kernel_rfl) hj (later_refl _)) rfl
              · intro listed a W H hj hl hd
                have t112 : a.tmps.getD 112 undef = .slice A14 n14 c14 := H.get 2 112 (by kernel_rfl) (dep_of hd 2 (by kernel_rfl)) (fun _ h => by cases h)
                exact step7_value (i := 3) rfl rfl (run_op_buildS rfl (by simp only [List.map_toArray, List.map_cons, List.map_nil]; show (Instr.build 36 #[(0, .int .i64 3), (4, a.tmps.getD 112 undef)]).run _ _ = _; rw [t112]; exact run_build_reply3 _ _ _ W)) (calm7 (fun fs vs x y h hl => J24.later h hl) (by kernel_rfl) (by kernel_rfl) hj (later_refl _)) rfl
              · intro listed a W H hj hl hd
                have t110 : a.tmps.getD 110 undef = .pointer (some ⟨o, 0, none⟩) := H.get 0 110 (by kernel_rfl) (dep_of hd 0 (by kernel_rfl)) (fun _ h => by cases h)
                have t111 : a.tmps.getD 111 undef = .agg #[.int .i64 6, .int .u64 0, .slice none 0 0, .int .i64 64] := H.get 1 111 (by kernel_rfl) (dep_of hd 1 (by kernel_rfl)) (fun _ h => by cases h)
                have t113 : a.tmps.getD 113 undef = .agg #[.int .i64 3, .int .i64 0, .slice none 0 0, .bool false, .slice A14 n14 c14] := H.get 3 113 (by kernel_rfl) (dep_of hd 3 (by kernel_rfl)) (fun _ h => by cases h)
                refine step7_call (i := 4) rfl rfl (run_op_call (vs := #[.pointer (some ⟨o, 0, none⟩), .agg #[.int .i64 6, .int .u64 0, .slice none 0 0, .int .i64 64], .agg #[.int .i64 3, .int .i64 0, .slice none 0 0, .bool false, .slice A14 n14 c14]]) Try.func18 (by kernel_rfl) (by kernel_rfl) rfl (by simp only [List.map_toArray, List.map_cons, List.map_nil]; show (#[a.tmps.getD 110 undef, a.tmps.getD 111 undef, a.tmps.getD 113 undef] : Array Value) = _; rw [t110, t111, t113])) ?_
                obtain ⟨fpx, hgx⟩ := hj.ground
                refine (take_list hgx.id (fun y => Nat.le_trans (HLS.out.small y) (by decide)) (by show s.ks.length ≤ _; have := HKE.out; have := HN12.out; omega) 0 64 A14 n14 c14 ((dlL cl n).take q ++ (dlL cl n).drop (q + 1)) (by decide) (by decide) (by have := H14L.out; omega) hgx.r2.row.lie hgx.r2.safe (HLS.out.stay HOK.out)).mono ?_
                rintro e W6 ⟨z, rfl, hv, fp6, hI, hM⟩
                have hv1 : z = false := by cases z with | false => rfl | true => exact absurd (hv.1 rfl) (HLS.out.may_less HOK.out HN12.out HQL.out)
                subst hv1
                have hk := hj.step (hgx.step hI.out hM.out)
                exact ⟨_, rfl, by rw [flags_other (by decide), slots_put (by intro k e; injection e with e; subst e; decide)]; exact hk, rfl⟩
              · intro listed a W H hj hl hd
                have t114 : a.tmps.getD 114 undef = .bool false := H.get 4 114 (by kernel_rfl) (dep_of hd 4 (by kernel_rfl)) (fun _ h => by cases h)
                exact step7_value (i := 5) rfl rfl (run_op_not rfl t114) (calm7 (fun fs vs x y h hl => J24.later h hl) (by kernel_rfl) (by kernel_rfl) hj (later_refl _)) rfl
              · intro listed a W H hj hl hd
                have t115 : a.tmps.getD 115 undef = .bool true := H.get 5 115 (by kernel_rfl) (dep_of hd 5 (by kernel_rfl)) (fun _ h => by cases h)
                exact step7_value (i := 6) rfl rfl (run_op_move rfl t115) (calm7 (fun fs vs x y h hl => J24.later h hl) (by kernel_rfl) (by kernel_rfl) hj (later_refl _)) rfl
              · intro listed a W H hj hl hd
                have t116 : a.tmps.getD 116 undef = .bool true := H.get 6 116 (by kernel_rfl) (dep_of hd 6 (by kernel_rfl)) (fun _ h => by cases h)
                have t7 : a.tmps.getD 7 undef = .pointer (some ⟨o, 0, none⟩) := (H.old 7 (by kernel_rfl)).trans rfl
                exact step7_value (i := 7) rfl (wanted_at (j := 6) (d := 116) (b := true) rfl (by kernel_rfl) t116) (run_op_move rfl t7) (calm7 (fun fs vs x y h hl => J24.later h hl) (by kernel_rfl) (by kernel_rfl) hj (later_refl _)) rfl
              · intro listed a W H hj hl hd
                have t116 : a.tmps.getD 116 undef = .bool true := H.get 6 116 (by kernel_rfl) (dep_of hd 6 (by kernel_rfl)) (fun _ h => by cases h)
                have t15 : a.tmps.getD 15 undef = .pointer (some ⟨g9, 0, none⟩) := (H.old 15 (by kernel_rfl)).trans rfl
                obtain ⟨fpx, hgx⟩ := hj.ground
                exact step7_value (i := 8) rfl (wanted_at (j := 6) (d := 116) (b := true) rfl (by kernel_rfl) t116) (run_op_load rfl t15 (run_load_order _ _ _ _ _ _ _ _ hgx.b2.row)) (calm7 (fun fs vs x y h hl => J24.later h hl) (by kernel_rfl) (by kernel_rfl) hj (later_refl _)) rfl
              · intro listed a W H hj hl hd
                have t116 : a.tmps.getD 116 undef = .bool true := H.get 6 116 (by kernel_rfl) (dep_of hd 6 (by kernel_rfl)) (fun _ h => by cases h)
                have t8 : a.tmps.getD 8 undef = .slice (some ad) dn2 c8 := (H.old 8 (by kernel_rfl)).trans rfl
                exact step7_value (i := 9) rfl (wanted_at (j := 6) (d := 116) (b := true) rfl (by kernel_rfl) t116) (run_op_move rfl t8) (calm7 (fun fs vs x y h hl => J24.later h hl) (by kernel_rfl) (by kernel_rfl) hj (later_refl _)) rfl
              · intro listed a W H hj hl hd
                have t116 : a.tmps.getD 116 undef = .bool true := H.get 6 116 (by kernel_rfl) (dep_of hd 6 (by kernel_rfl)) (fun _ h => by cases h)
                have t2 : a.tmps.getD 2 undef = .int .i64 (q : Int) := (H.old 2 (by kernel_rfl)).trans rfl
                exact step7_value (i := 10) rfl (wanted_at (j := 6) (d := 116) (b := true) rfl (by kernel_rfl) t116) (run_op_move rfl t2) (calm7 (fun fs vs x y h hl => J24.later h hl) (by kernel_rfl) (by kernel_rfl) hj (later_refl _)) rfl
              · intro listed a W H hj hl hd
                have t116 : a.tmps.getD 116 undef = .bool true := H.get 6 116 (by kernel_rfl) (dep_of hd 6 (by kernel_rfl)) (fun _ h => by cases h)
                have t2 : a.tmps.getD 2 undef = .int .i64 (q : Int) := (H.old 2 (by kernel_rfl)).trans rfl
                exact step7_value (i := 11) rfl (wanted_at (j := 6) (d := 116) (b := true) rfl (by kernel_rfl) t116) (run_op_move rfl t2) (calm7 (fun fs vs x y h hl => J24.later h hl) (by kernel_rfl) (by kernel_rfl) hj (later_refl _)) rfl
              · intro listed a W H hj hl hd
                have t116 : a.tmps.getD 116 undef = .bool true := H.get 6 116 (by kernel_rfl) (dep_of hd 6 (by kernel_rfl)) (fun _ h => by cases h)
                have t121 : a.tmps.getD 121 undef = .int .i64 (q : Int) := H.get 11 121 (by kernel_rfl) (dep_of hd 11 (by kernel_rfl)) (fun _ h => by cases h)
                exact step7_value (i := 12) rfl (wanted_at (j := 6) (d := 116) (b := true) rfl (by kernel_rfl) t116) (run_op_bin rfl t121 rfl (bin_add _ _ _ (q : Int) 1 ((q + 1 : Nat) : Int) (by first | rfl | (simp; done) | (simp; omega) | decide) (by omega) (by omega))) (calm7 (fun fs vs x y h hl => J24.later h hl) (by kernel_rfl) (by kernel_rfl) hj (later_refl _)) rfl
              · intro listed a W H hj hl hd
                have t116 : a.tmps.getD 116 undef = .bool true := H.get 6 116 (by kernel_rfl) (dep_of hd 6 (by kernel_rfl)) (fun _ h => by cases h)
                have t119 : a.tmps.getD 119 undef = .slice (some ad) dn2 c8 := H.get 9 119 (by kernel_rfl) (dep_of hd 9 (by kernel_rfl)) (fun _ h => by cases h)
                have t120 : a.tmps.getD 120 undef = .int .i64 (q : Int) := H.get 10 120 (by kernel_rfl) (dep_of hd 10 (by kernel_rfl)) (fun _ h => by cases h)
                have t122 : a.tmps.getD 122 undef = .int .i64 ((q + 1 : Nat) : Int) := H.get 12 122 (by kernel_rfl) (dep_of hd 12 (by kernel_rfl)) (fun _ h => by cases h)
                exact step7_value (i := 13) rfl (wanted_at (j := 6) (d := 116) (b := true) rfl (by kernel_rfl) t116) (run_op_slice rfl (by show (Instr.sliceAt 34 (a.tmps.getD 119 undef) (some (a.tmps.getD 120 undef)) (some (a.tmps.getD 122 undef)) none).run _ _ = _; rw [t119, t120, t122]; rw [run_sliceAt_slice (h := Try.underlying34)]; exact (mid_run (some ad) dn2 c8 q HQ2.out HCAP.out W))) (calm7 (fun fs vs x y h hl => J24.later h hl) (by kernel_rfl) (by kernel_rfl) hj (later_refl _)) rfl
              · intro listed a W H hj hl hd
                have t116 : a.tmps.getD 116 undef = .bool true := H.get 6 116 (by kernel_rfl) (dep_of hd 6 (by kernel_rfl)) (fun _ h => by cases h)
                have t123 : a.tmps.getD 123 undef = .slice (midA (some ad) c8 q) 1 (c8 - q) := H.get 13 123 (by kernel_rfl) (dep_of hd 13 (by kernel_rfl)) (fun _ h => by cases h)
                exact step7_value (i := 14) rfl (wanted_at (j := 6) (d := 116) (b := true) rfl (by kernel_rfl) t116) (run_op_buildS rfl (by simp only [List.map_toArray, List.map_cons, List.map_nil]; show (Instr.build 36 #[(0, .int .i64 3), (4, a.tmps.getD 123 undef)]).run _ _ = _; rw [t123]; exact run_build_reply3 _ _ _ W)) (calm7 (fun fs vs x y h hl => J24.later h hl) (by kernel_rfl) (by kernel_rfl) hj (later_refl _)) rfl
              · intro listed a W H hj hl hd
                have t116 : a.tmps.getD 116 undef = .bool true := H.get 6 116 (by kernel_rfl) (dep_of hd 6 (by kernel_rfl)) (fun _ h => by cases h)
                have t117 : a.tmps.getD 117 undef = .pointer (some ⟨o, 0, none⟩) := H.get 7 117 (by kernel_rfl) (dep_of hd 7 (by kernel_rfl)) (fun _ h => by cases h)
                have t118 : a.tmps.getD 118 undef = .agg #[.int .i64 6, .int .u64 x, .slice none 0 0, .int .i64 1] := H.get 8 118 (by kernel_rfl) (dep_of hd 8 (by kernel_rfl)) (fun _ h => by cases h)
                have t124 : a.tmps.getD 124 undef = .agg #[.int .i64 3, .int .i64 0, .slice none 0 0, .bool false, .slice (midA (some ad) c8 q) 1 (c8 - q)] := H.get 14 124 (by kernel_rfl) (dep_of hd 14 (by kernel_rfl)) (fun _ h => by cases h)
                refine step7_call (i := 15) rfl (wanted_at (j := 6) (d := 116) (b := true) rfl (by kernel_rfl) t116) (run_op_call (vs := #[.pointer (some ⟨o, 0, none⟩), .agg #[.int .i64 6, .int .u64 x, .slice none 0 0, .int .i64 1], .agg #[.int .i64 3, .int .i64 0, .slice none 0 0, .bool false, .slice (midA (some ad) c8 q) 1 (c8 - q)]]) Try.func18 (by kernel_rfl) (by kernel_rfl) rfl (by simp only [List.map_toArray, List.map_cons, List.map_nil]; show (#[a.tmps.getD 117 undef, a.tmps.getD 118 undef, a.tmps.getD 124 undef] : Array Value) = _; rw [t117, t118, t124])) ?_
                obtain ⟨fpx, hgx⟩ := hj.ground
                have hLx := mid_lie hgx.r1.row.lie HQ2.out HCAP.out
                dsimp only at hLx
                rw [HXQ.out] at hLx
                refine (take_list hgx.id (fun y => Nat.le_trans (HLS.out.small y) (by decide)) (by show s.ks.length ≤ _; have := HKE.out; have := HN12.out; omega) x 1 (midA (some ad) c8 q) 1 (c8 - q) [x] (by decide) (by decide) (by decide) hLx (fun b h => hgx.r1.safe b (mid_blk h)) (HLS.out.stay HOK.out)).mono ?_
                rintro e W6 ⟨z, rfl, hv, fp6, hI, hM⟩
                have hv1 : z = true := hv.2 (HLS.out.may_one HOK.out HXM.out)
                subst hv1
                have hk := hj.step (hgx.step hI.out hM.out)
                exact ⟨_, rfl, by rw [flags_other (by decide), slots_put (by intro k e; injection e with e; subst e; decide)]; exact hk, rfl⟩
              · intro listed a W H hj hl hd
                have t116 : a.tmps.getD 116 undef = .bool true := H.get 6 116 (by kernel_rfl) (dep_of hd 6 (by kernel_rfl)) (fun _ h => by cases h)
                have t125 : a.tmps.getD 125 undef = .bool true := H.get 15 125 (by kernel_rfl) (dep_of hd 15 (by kernel_rfl)) (fun _ h => by cases h)
                exact step7_value (i := 16) rfl rfl (run_op_pick rfl t116 t125) (calm7 (fun fs vs x y h hl => J24.later h hl) (by kernel_rfl) (by kernel_rfl) hj (later_refl _)) rfl
              · intro listed a W H hj hl hd
                have t126 : a.tmps.getD 126 undef = .bool true := H.get 16 126 (by kernel_rfl) (dep_of hd 16 (by kernel_rfl)) (fun _ h => by cases h)
                exact step7_value (i := 17) rfl rfl (run_op_move rfl t126) (calm7 (fun fs vs x y h hl => J24.later h hl) (by kernel_rfl) (by kernel_rfl) hj (later_refl _)) rfl
              · intro listed a W H hj hl hd
                have t127 : a.tmps.getD 127 undef = .bool true := H.get 17 127 (by kernel_rfl) (dep_of hd 17 (by kernel_rfl)) (fun _ h => by cases h)
                have t7 : a.tmps.getD 7 undef = .pointer (some ⟨o, 0, none⟩) := (H.old 7 (by kernel_rfl)).trans rfl
                exact step7_value (i := 18) rfl (wanted_at (j := 17) (d := 127) (b := true) rfl (by kernel_rfl) t127) (run_op_move rfl t7) (calm7 (fun fs vs x y h hl => J24.later h hl) (by kernel_rfl) (by kernel_rfl) hj (later_refl _)) rfl
              · intro listed a W H hj hl hd
                have t127 : a.tmps.getD 127 undef = .bool true := H.get 17 127 (by kernel_rfl) (dep_of hd 17 (by kernel_rfl)) (fun _ h => by cases h)
                have t128 : a.tmps.getD 128 undef = .pointer (some ⟨o, 0, none⟩) := H.get 18 128 (by kernel_rfl) (dep_of hd 18 (by kernel_rfl)) (fun _ h => by cases h)
                refine step7_call (i := 19) rfl (wanted_at (j := 17) (d := 127) (b := true) rfl (by kernel_rfl) t127) (run_op_call (vs := #[.pointer (some ⟨o, 0, none⟩)]) Try.func21 (by kernel_rfl) (by kernel_rfl) rfl (by simp only [List.map_toArray, List.map_cons, List.map_nil]; show (#[a.tmps.getD 128 undef] : Array Value) = _; rw [t128])) ?_
                obtain ⟨fpx, hgx⟩ := hj.ground
                refine (addrs_at hgx.id (by show s.ks.length ≤ _; have := HKE.out; have := HN12.out; omega)).mono ?_
                rintro e W6 ⟨A9, n9, c9, rfl, hr9, hb9⟩
                obtain rfl : n = n9 := by rw [← HKE.out]; exact hr9.out.len
                have hk6 := hj.addrs (A := A9) (c := c9) hb9.out
                rw [← flags_put (m := 19) 0 rfl (by decide), ← slots_at (a := a) (d := 129) 0 rfl (by decide) (by rw [H.size]; exact of_decide_eq_true (by kernel_rfl))] at hk6
                exact ⟨_, rfl, hk6, trivial⟩
              · intro listed a W H hj hl hd
                have t127 : a.tmps.getD 127 undef = .bool true := H.get 17 127 (by kernel_rfl) (dep_of hd 17 (by kernel_rfl)) (fun _ h => by cases h)
                have d129 : listed.getD 19 false = true := dep_of hd 19 (by kernel_rfl)
                obtain ⟨A9, c9, e9⟩ := hj.told (done_true d129)
                exact step7_value (i := 20) rfl (wanted_at (j := 17) (d := 127) (b := true) rfl (by kernel_rfl) t127) (run_op_len Try.underlying34 rfl e9) (calm7 (fun fs vs x y h hl => J24.later h hl) (by kernel_rfl) (by kernel_rfl) hj (later_refl _)) rfl
              · intro listed a W H hj hl hd
                have t127 : a.tmps.getD 127 undef = .bool true := H.get 17 127 (by kernel_rfl) (dep_of hd 17 (by kernel_rfl)) (fun _ h => by cases h)
                have t0 : a.tmps.getD 0 undef = .int .i64 (n : Int) := (H.old 0 (by kernel_rfl)).trans rfl
                exact step7_value (i := 21) rfl (wanted_at (j := 17) (d := 127) (b := true) rfl (by kernel_rfl) t127) (run_op_move rfl t0) (calm7 (fun fs vs x y h hl => J24.later h hl) (by kernel_rfl) (by kernel_rfl) hj (later_refl _)) rfl
              · intro listed a W H hj hl hd
                have t127 : a.tmps.getD 127 undef = .bool true := H.get 17 127 (by kernel_rfl) (dep_of hd 17 (by kernel_rfl)) (fun _ h => by cases h)
                have t130 : a.tmps.getD 130 undef = .int .i64 (n : Int) := H.get 20 130 (by kernel_rfl) (dep_of hd 20 (by kernel_rfl)) (fun _ h => by cases h)
                have t131 : a.tmps.getD 131 undef = .int .i64 (n : Int) := H.get 21 131 (by kernel_rfl) (dep_of hd 21 (by kernel_rfl)) (fun _ h => by cases h)
                exact step7_value (i := 22) rfl (wanted_at (j := 17) (d := 127) (b := true) rfl (by kernel_rfl) t127) (run_op_bin rfl t130 t131 (bin_eql _ _ _ (n : Int) (n : Int) true (by first | rfl | (simp; done) | (simp; omega) | decide))) (calm7 (fun fs vs x y h hl => J24.later h hl) (by kernel_rfl) (by kernel_rfl) hj (later_refl _)) rfl
              · intro listed a W H hj hl hd
                have t127 : a.tmps.getD 127 undef = .bool true := H.get 17 127 (by kernel_rfl) (dep_of hd 17 (by kernel_rfl)) (fun _ h => by cases h)
                have t132 : a.tmps.getD 132 undef = .bool true := H.get 22 132 (by kernel_rfl) (dep_of hd 22 (by kernel_rfl)) (fun _ h => by cases h)
                exact step7_value (i := 23) rfl rfl (run_op_pick rfl t127 t132) (calm7 (fun fs vs x y h hl => J24.later h hl) (by kernel_rfl) (by kernel_rfl) hj (later_refl _)) rfl
              · intro listed a W H hj hl hd
                have t133 : a.tmps.getD 133 undef = .bool true := H.get 23 133 (by kernel_rfl) (dep_of hd 23 (by kernel_rfl)) (fun _ h => by cases h)
                exact step7_value (i := 24) rfl rfl (run_op_move rfl t133) (calm7 (fun fs vs x y h hl => J24.later h hl) (by kernel_rfl) (by kernel_rfl) hj (later_refl _)) rfl
              · intro listed a W H hj hl hd
                have t134 : a.tmps.getD 134 undef = .bool true := H.get 24 134 (by kernel_rfl) (dep_of hd 24 (by kernel_rfl)) (fun _ h => by cases h)
                refine step7_call (i := 25) rfl (wanted_at (j := 24) (d := 134) (b := true) rfl (by kernel_rfl) t134) (run_op_call (vs := #[]) Try.func9 (by kernel_rfl) (by kernel_rfl) rfl (by simp)) ?_
                refine (awake18_any W).mono ?_
                rintro e W6 ⟨rfl, hb6⟩
                exact ⟨_, rfl, (calm7 (fun fs vs x y h hl => J24.later h hl) (by kernel_rfl) (by kernel_rfl) hj hb6), rfl⟩
              · intro listed a W H hj hl hd
                have t134 : a.tmps.getD 134 undef = .bool true := H.get 24 134 (by kernel_rfl) (dep_of hd 24 (by kernel_rfl)) (fun _ h => by cases h)
                have t135 : a.tmps.getD 135 undef = .bool true := H.get 25 135 (by kernel_rfl) (dep_of hd 25 (by kernel_rfl)) (fun _ h => by cases h)
                exact step7_value (i := 26) rfl rfl (run_op_pick rfl t134 t135) (calm7 (fun fs vs x y h hl => J24.later h hl) (by kernel_rfl) (by kernel_rfl) hj (later_refl _)) rfl
              · intro listed a W H hj hl hd
                have t136 : a.tmps.getD 136 undef = .bool true := H.get 26 136 (by kernel_rfl) (dep_of hd 26 (by kernel_rfl)) (fun _ h => by cases h)
                exact step7_value (i := 27) rfl rfl (run_op_assign rfl t136) (calm7 (fun fs vs x y h hl => J24.later h hl) (by kernel_rfl) (by kernel_rfl) hj (later_refl _)) rfl
            · intro a WC3 hdef hsz hw hall hact
              obtain ⟨u, hu⟩ : ∃ u : Nat → Value, ∀ k, a.tmps.getD k undef = u k := ⟨_, fun _ => rfl⟩
              have h6 : u 6 = .bool true := by rw [← hu]; exact hall 27 _ rfl
              simp only [hu] at hact
              have hact' : a = ([110, 111, 112, 113, 114, 115, 116, 117, 118, 119, 120, 121, 122, 123, 124, 125, 126, 127, 128, 129, 130, 131, 132, 133, 134, 135, 136, 6] : List Nat).foldl (fun b k => b.put (some k) (u k)) _ := hact
              simp only [List.foldl] at hact'
              simp only [Act.put, List.setIfInBounds_toArray, List.set_cons_succ, List.set_cons_zero] at hact'
              have HAC3 := Lib.hid hact'
              have HX := Lib.hid hw
              clear hact hact' hall hdef hsz hw
              rw [h6] at HAC3
              rw [HAC3.out]
              obtain ⟨fp9, hg9⟩ := HX.out.ground
              have SF := Lib.hid hg9.since
              clear hg9 HX hu
              go_wp2_with fail
              go_ret
              exact ⟨rfl, SF.out⟩
end Go.Proofs.Ytfidamiomnohcaa
