/- The contract of the document's own Lay. Conditions: the slice's cells; at most 900 bytes. -/
import Derived.Test.YticjdjffmagdkaaDoorHeadOut
import Derived.Test.YticjdjffmagdkaaDoorRefSum
import Derived.Test.YticjdjffmagdkaaDoorRefPack
set_option linter.unusedVariables false
set_option linter.unusedSimpArgs false
namespace Go.Proofs.YticjdjffmagdkaaDoor
open Go.RowKit

section
variable {P : Program} {a : Act} {o : Oper} {w w' : World}
theorem run_op_fieldAddr {t : TypeId} {x : Operand} {k : Nat} {vx r : Value} (ho : o.op = .fieldAddr t x k) (hx : a.eval x = vx) (hrun : (Instr.fieldAt t vx k).run P w = .ok r w') : (execOp a.eval o).run P w = .ok (.value r) w' := by
  unfold execOp
  simp only [ho, Sem.run_bind, hx, hrun, Result.andThen_ok]
  rfl
end
theorem run_field0 (g : Nat) (w : World) : (Instr.fieldAt 25 (.pointer (some ⟨g, 0, none⟩)) 0).run Tryd.prog w = .ok (.pointer (some ⟨g, 0, none⟩)) w := by go_simp
theorem run_field1 (g : Nat) (w : World) : (Instr.fieldAt 25 (.pointer (some ⟨g, 0, none⟩)) 1).run Tryd.prog w = .ok (.pointer (some ⟨g, 1, none⟩)) w := by go_simp
theorem run_field2 (g : Nat) (w : World) : (Instr.fieldAt 25 (.pointer (some ⟨g, 0, none⟩)) 2).run Tryd.prog w = .ok (.pointer (some ⟨g, 2, none⟩)) w := by go_simp
theorem run_field3 (g : Nat) (w : World) : (Instr.fieldAt 25 (.pointer (some ⟨g, 0, none⟩)) 3).run Tryd.prog w = .ok (.pointer (some ⟨g, 3, none⟩)) w := by go_simp
theorem run_load_int (p : Addr) (z : Int) (w : World) (hc : w.cell? p = some (.int .i64 z)) : (Instr.loadAt 3 (.pointer (some p))).run Tryd.prog w = .ok (.int .i64 z) w := by go_simp
theorem run_load_u64 (p : Addr) (z : Int) (w : World) (hc : w.cell? p = some (.int .u64 z)) : (Instr.loadAt 23 (.pointer (some p))).run Tryd.prog w = .ok (.int .u64 z) w := by go_simp
theorem run_conv_u8 (z : Int) (h0 : 0 ≤ z) (h1 : z ≤ 255) (w : World) : (convert 3 5 (.int .i64 z)).run Tryd.prog w = .ok (.int .u8 z) w := by
  go_simp
  rw [IntKind.wrap_u8]; omega
theorem run_conv_u64 (z : Int) (h0 : 0 ≤ z) (h1 : z ≤ 9223372036854775807) (w : World) : (convert 3 23 (.int .i64 z)).run Tryd.prog w = .ok (.int .u64 z) w := by
  go_simp
  rw [IntKind.wrap_u64]; omega
theorem run_build_u8_1 (y : Int) (w : World) : (Instr.buildSlice 22 1 #[(0, .int .u8 y)]).run Tryd.prog w = .ok (.slice (some ⟨w.heap.size, 0, none⟩) 1 1) (w.alloc (.cells [.int .u8 y].toArray 5)) := by
  go_simp
theorem bytes_at1 {W : World} {g a : Nat} {y : Int} (hg : g < W.heap.size) (h0 : W.cell? ⟨g, 0, none⟩ = some (.int .u8 y)) (hy : y = (a : Int) ∧ a < 256) : Bytes W W.heap.size (some ⟨g, 0, none⟩) 1 [a] := by
  refine ⟨rfl, fun k hk => ⟨_, rfl, hg, ?_⟩, getD_small (by simp; omega)⟩
  rw [add_zero_addr]
  obtain rfl : k = 0 := by omega
  rw [h0, hy.1]; rfl
theorem bytes_lit6 (W : World) : Bytes (W.alloc (.cells #[.int .u8 0, .int .u8 0, .int .u8 0, .int .u8 0, .int .u8 0, .int .u8 0] 5)) (W.alloc (.cells #[.int .u8 0, .int .u8 0, .int .u8 0, .int .u8 0, .int .u8 0, .int .u8 0] 5)).heap.size (some ⟨W.heap.size, 0, none⟩) 6 (Pk.fix 0 6) :=
  bytes_lit W _ 6 _ (Pk.fix_len 0 6) (Pk.fix_byte 0 6) fun k hk => by
    rcases (by omega : k = 0 ∨ k = 1 ∨ k = 2 ∨ k = 3 ∨ k = 4 ∨ k = 5) with rfl | rfl | rfl | rfl | rfl | rfl <;> (unfold byteAt; rw [Hd.fix_zero]; rfl)
/-- The document's own Fix, at so many bytes. -/
theorem reffix_at (A : Option Addr) (n c : Nat) (bs : List Nat) (x m : Int) (v k : Nat) (w : World) (h0 : 0 ≤ x) (h1 : x ≤ 18446744073709551615) (HX : Hid (x = (v : Int))) (hm : m = (k : Int)) (hk : k ≤ 8) (hn : n ≤ 800) (hA : Bytes w w.heap.size A n bs) :
    Calls Tryd.prog 26 #[.slice A n c, .int .u64 x, .int .i64 m] w fun e w' => ∃ B d, e = .returned (.slice B (n + k) d) ∧ Own w' w.heap.size B (n + k) d (bs ++ Pk.fix v k) ∧ Below w.heap.size w w' := by
  refine (reffix_any A n c bs x m v w h0 h1 HX (by omega) hA (by omega) (by omega)).mono ?_
  have e : fixMany m = k := by rw [fixMany_yes (by omega), hm, Int.toNat_natCast]
  rw [e]
  rintro e W1 ⟨B, n1, d, rfl, HO, HB⟩
  obtain rfl : n + k = n1 := by rw [← HO.len, List.length_append, Pk.fix_len, hA.len]
  exact ⟨B, d, rfl, HO, HB⟩
/-- What a call of the document's own Lay leaves. -/
def RefLays (w : World) (o : Option (List Nat)) (e : Ending) (w' : World) : Prop := ∃ v, e = .returned v ∧ OutT RefE w.heap.size o v w' ∧ Hid (Below w.heap.size w w')
set_option maxHeartbeats 2000000 in
theorem reflay_no (A : Option Addr) (n c : Nat) (K A' S G : Int) (w : World) (hn : n ≤ 9223372036854775807) (h : ¬(dataB n = true ∧ mayB K A' S G = true)) :
    Calls Tryd.prog 11 #[.slice A n c, .agg #[.int .i64 K, .int .u64 A', .int .i64 S, .int .i64 G]] w (RefLays w none) := by
  have S1 := Lib.hid (since_alloc (Below.refl w.heap.size w) (.cells #[.int .i64 K, .int .u64 A', .int .i64 S, .int .i64 G] 25))
  have HH := Lib.hid (headAt_new w K A' S G 25)
  by_cases h0 : n < 128
  · clear h HH
    go_enter Tryd.func11, Tryd.ntmps11
    go_wp2_with fail
    go_ret2
    exact ⟨_, rfl, ⟨_, _, rfl, rfl, rfl⟩, S1⟩
  by_cases h1 : 256 < n
  · clear h HH
    go_enter Tryd.func11, Tryd.ntmps11
    go_wp2_with fail
    go_ret2
    exact ⟨_, rfl, ⟨_, _, rfl, rfl, rfl⟩, S1⟩
  have HM : Hid (mayB K A' S G = false) := by
    cases hb : mayB K A' S G with
    | false => rfl
    | true => exact absurd ⟨dataB_yes (by omega) (by omega), hb⟩ h
  clear h HH
  go_enter Tryd.func11, Tryd.ntmps11
  go_wp2_with fail
  refine (refmay_any _ _ _ _ _).mono ?_
  rw [HM.out]
  rintro e W2 ⟨rfl, hb2⟩
  have S2 := Lib.hid (S1.out.trans (hb2.out.mono (by simp)))
  go_wp2_with fail
  go_ret2
  exact ⟨_, rfl, ⟨_, _, rfl, rfl, rfl⟩, S2⟩
set_option maxHeartbeats 8000000 in
theorem reflay_yes (A : Option Addr) (n c : Nat) (bs : List Nat) (K A2 S G : Int) (h : Hd.H) (w : World) (hn0 : 128 ≤ n) (hn1 : n ≤ 256) (hA : Bytes w w.heap.size A n bs)
    (hm : mayB K A2 S G = true) (HK : Hid (K = (h.k : Int))) (HAA : Hid (A2 = (h.a : Int))) (HS : Hid (S = (h.s : Int))) (HG : Hid (G = (h.g : Int))) (ha0 : 0 ≤ A2) (ha1 : A2 ≤ 18446744073709551615) :
    Calls Tryd.prog 11 #[.slice A n c, .agg #[.int .i64 K, .int .u64 A2, .int .i64 S, .int .i64 G]] w (RefLays w (some (Hd.page bs h))) := by
  have S1 := Lib.hid (since_alloc (Below.refl w.heap.size w) (.cells #[.int .i64 K, .int .u64 A2, .int .i64 S, .int .i64 G] 25))
  have HH := Lib.hid (headAt_new w K A2 S G 25)
  have HM := Lib.hid hm
  have HA := Lib.hid hA
  have bd := mayB_out hm
  have bs0 : 1 ≤ S := bd.1
  have bs1 : S ≤ 1099511627775 := bd.2.1
  have bg0 : 0 ≤ G := bd.2.2.1
  have bg1 : G ≤ 16777215 := bd.2.2.2.1
  have bk0 : 0 ≤ K := by omega
  have bk1 : K ≤ 4 := by omega
  have HKL : Hid (h.k < 256) := by have := HK.out; show _ < _; omega
  have h0 : ¬ n < 128 := by omega
  have h1 : ¬ 256 < n := by omega
  clear hm hA bd
  go_enter Tryd.func11, Tryd.ntmps11
  go_wp2_with fail
  refine (refmay_any _ _ _ _ _).mono ?_
  rw [HM.out]
  rintro e W2 ⟨rfl, hb2⟩
  have S2 := Lib.hid (S1.out.trans (hb2.out.mono (by simp)))
  have H2 := Lib.hid (HH.out.since hb2.out)
  clear S1 HH hb2
  go_wp2_with fail
  obtain ⟨W0, HD0⟩ : ∃ W, Hid (W = W2.drew) := ⟨_, rfl⟩
  have S0 : Hid (Below w.heap.size w W0) := by rw [HD0.out]; exact S2.out.drew
  have HH0 : Hid (HeadAt W0 w.heap.size K A2 S G) := by rw [HD0.out]; exact ⟨H2.out.k, H2.out.a, H2.out.s, H2.out.g⟩
  have HA0 := Lib.hid (HA.out.since S0.out)
  refine region_of_steps2 (by kernel_rfl) (fact2Of [.is (.slice A n c), .own W0.heap.size n bs, .is (.pointer (some ⟨w.heap.size, 0, none⟩)), .is (.int .i64 K), .is (.int .u8 K), .row [.int .u8 K], .own W0.heap.size (n + 1) (bs ++ [h.k]), .own W0.heap.size (n + 1) (bs ++ [h.k])]) (deadOf [(1, 6), (5, 6)]) (But 6 W0.heap.size) (fun W => Below W0.heap.size W0 W ∧ W0.heap.size ≤ W.heap.size) (by kernel_rfl)
    (fun i j v w w' hm hd hn h hR => fact2_stays _ _ 6 W0.heap.size [(1, 6), (5, 6)] (hds_of (by kernel_rfl)) i j v w w' hm hd hn h hR) (fun j w w' h k => but_inv h k) ⟨by rw [HD0.out]; exact Below.refl _ _, by rw [HD0.out]; exact Nat.le_refl _⟩ ?_ ?_
  · refine Steps2.cons ?_ (Steps2.cons ?_ (Steps2.cons ?_ (Steps2.cons ?_ (Steps2.cons ?_ (Steps2.cons ?_ (Steps2.cons ?_ (Steps2.cons ?_ (Steps2.nil))))))))
    · intro listed a W H hw hl hd
      have t0 : a.tmps.getD 0 undef = .slice A n c := (H.old 0 (by kernel_rfl)).trans rfl
      exact step2_value (i := 0) rfl rfl (run_op_move rfl t0) (but_refl _) rfl
    · intro listed a W H hw hl hd
      have t20 : a.tmps.getD 20 undef = .slice A n c := H.get 0 20 (by kernel_rfl) (dep_of hd 0 (by kernel_rfl)) (alive_none (by kernel_rfl))
      obtain ⟨A2, q2, W2, hr, ho, hb⟩ := own_append (c' := c) (Below.refl W.heap.size W) Own.none_ (HA0.out.since hw.1) (by omega)
      rw [Nat.zero_add] at hr ho
      rw [List.nil_append] at ho
      exact step2_value (i := 1) rfl rfl (run_op_append rfl rfl t20 hr) (but_later (by decide) hb) ⟨A2, q2, rfl, ho.elder hw.2⟩
    · intro listed a W H hw hl hd
      have t3 : a.tmps.getD 3 undef = .pointer (some ⟨w.heap.size, 0, none⟩) := (H.old 3 (by kernel_rfl)).trans rfl
      exact step2_value (i := 2) rfl rfl (run_op_fieldAddr rfl t3 (run_field0 _ W)) (but_refl _) rfl
    · intro listed a W H hw hl hd
      have t22 : a.tmps.getD 22 undef = .pointer (some ⟨w.heap.size, 0, none⟩) := H.get 2 22 (by kernel_rfl) (dep_of hd 2 (by kernel_rfl)) (alive_none (by kernel_rfl))
      exact step2_value (i := 3) rfl rfl (run_op_load rfl t22 (run_load_int _ _ W (HH0.out.since hw.1).k)) (but_refl _) rfl
    · intro listed a W H hw hl hd
      have t23 : a.tmps.getD 23 undef = .int .i64 K := H.get 3 23 (by kernel_rfl) (dep_of hd 3 (by kernel_rfl)) (alive_none (by kernel_rfl))
      exact step2_value (i := 4) rfl rfl (run_op_convert rfl t23 (run_conv_u8 K (by omega) (by omega) W)) (but_refl _) rfl
    · intro listed a W H hw hl hd
      have t24 : a.tmps.getD 24 undef = .int .u8 K := H.get 4 24 (by kernel_rfl) (dep_of hd 4 (by kernel_rfl)) (alive_none (by kernel_rfl))
      exact step2_value (i := 5) rfl rfl (run_op_build rfl (by simp only [List.map_toArray, List.map_cons, List.map_nil]; show (Instr.buildSlice 22 1 #[(0, a.tmps.getD 24 undef)]).run _ _ = _; rw [t24]; exact run_build_u8_1 ..)) (but_later (by decide) (later_alloc _ _)) (row2_made _ _ _ rfl)
    · intro listed a W H hw hl hd
      obtain ⟨A21, q21, t21, o21⟩ := H.get 1 21 (by kernel_rfl) (dep_of hd 1 (by kernel_rfl)) (alive_now (by kernel_rfl) hl)
      obtain ⟨g25, t25, c25, b25⟩ := H.get 5 25 (by kernel_rfl) (dep_of hd 5 (by kernel_rfl)) (alive_now (by kernel_rfl) hl)
      obtain ⟨A3, q3, W3, hr, ho, hb⟩ := own_append_at (c' := 1) hw.1 o21 (bytes_at1 b25 (c25 0 _ rfl) ⟨HK.out, HKL.out⟩) (by omega)
      exact step2_value (i := 6) rfl rfl (run_op_append rfl t21 t25 hr) (but_own hb) ⟨A3, q3, rfl, ho⟩
    · intro listed a W H hw hl hd
      obtain ⟨A26, q26, t26, o26⟩ := H.get 6 26 (by kernel_rfl) (dep_of hd 6 (by kernel_rfl)) (alive_none (by kernel_rfl))
      exact step2_value (i := 7) rfl rfl (run_op_assign rfl t26) (but_refl _) ⟨_, _, rfl, o26⟩
  · intro a WA hdef hsz hw hall hact
    obtain ⟨A6, c6, t6, o6⟩ := hall 7 _ rfl (by kernel_rfl)
    have t6' : a.tmps.getD 6 undef = .slice A6 (n + 1) c6 := t6
    obtain ⟨ua, hu⟩ : ∃ u : Nat → Value, ∀ k, a.tmps.getD k undef = u k := ⟨_, fun _ => rfl⟩
    simp only [hu] at hact t6'
    have hact' : a = ([20, 21, 22, 23, 24, 25, 26, 6] : List Nat).foldl (fun b k => b.put (some k) (ua k)) _ := hact
    simp only [List.foldl, t6'] at hact'
    simp only [Act.put, List.setIfInBounds_toArray, List.set_cons_succ, List.set_cons_zero] at hact'
    have HACT1 := Lib.hid hact'
    have SA := Lib.hid (S0.out.trans (hw.1.mono S0.out.size))
    have HHA := Lib.hid (HH0.out.since hw.1)
    have OA := Lib.hid o6
    clear hu hact hact' t6 t6' o6 hall hdef hsz hw S0 HH0 HA0 HD0 S2 H2
    rw [HACT1.out]
    clear HACT1
    go_wp2_with fail
    obtain ⟨WB0, HDB⟩ : ∃ W, Hid (W = WA.drew) := ⟨_, rfl⟩
    have SB : Hid (Below w.heap.size w WB0) := by rw [HDB.out]; exact SA.out.drew
    have HHB : Hid (HeadAt WB0 w.heap.size K A2 S G) := by rw [HDB.out]; exact ⟨HHA.out.k, HHA.out.a, HHA.out.s, HHA.out.g⟩
    have HB6 : Hid (Bytes WB0 WB0.heap.size A6 (n + 1) (bs ++ [h.k])) := by rw [HDB.out]; exact (OA.out.since (Below.refl _ _).drew).bytes
    obtain ⟨l1, HL1⟩ : ∃ l, Hid ((bs ++ [h.k]) ++ Pk.fix h.a 8 = l) := ⟨_, rfl⟩
    obtain ⟨l2, HL2⟩ : ∃ l, Hid (l1 ++ Pk.fix h.s 5 = l) := ⟨_, rfl⟩
    obtain ⟨l3, HL3⟩ : ∃ l, Hid (l2 ++ Pk.fix h.g 3 = l) := ⟨_, rfl⟩
    have HLB : Hid (l3 ++ Pk.fix 0 6 = Hd.body bs h) := by
      have e : Pk.fix h.k 1 = [h.k] := by
        show [h.k / 256 ^ 0 % 256] = [h.k]
        have := HKL.out
        simp; omega
      show _ = bs ++ Hd.tail h
      unfold Hd.tail
      rw [← HL3.out, ← HL2.out, ← HL1.out, e]
      simp only [List.append_assoc]
    clear OA SA HHA
    refine region_of_steps2 (by kernel_rfl) (fact2Of [.is (.slice A6 (n + 1) c6), .is (.pointer (some ⟨w.heap.size, 1, none⟩)), .is (.int .u64 A2), .own WB0.heap.size (n + 9) l1, .is (.pointer (some ⟨w.heap.size, 2, none⟩)), .is (.int .i64 S), .is (.int .u64 S), .own WB0.heap.size (n + 14) l2, .is (.pointer (some ⟨w.heap.size, 3, none⟩)), .is (.int .i64 G), .is (.int .u64 G), .own WB0.heap.size (n + 17) l3, .own WB0.heap.size (n + 17) l3]) (deadOf []) Calm (fun W => Below WB0.heap.size WB0 W ∧ WB0.heap.size ≤ W.heap.size) (by kernel_rfl)
      (fun i j v w w' hm hd hn h hR => fact2_calm _ i j v w w' h hR) (fun j w w' h k => calm_inv h k) ⟨by rw [HDB.out]; exact Below.refl _ _, by rw [HDB.out]; exact Nat.le_refl _⟩ ?_ ?_
    · refine Steps2.cons ?_ (Steps2.cons ?_ (Steps2.cons ?_ (Steps2.cons ?_ (Steps2.cons ?_ (Steps2.cons ?_ (Steps2.cons ?_ (Steps2.cons ?_ (Steps2.cons ?_ (Steps2.cons ?_ (Steps2.cons ?_ (Steps2.cons ?_ (Steps2.cons ?_ (Steps2.nil)))))))))))))
      · intro listed a W H hw hl hd
        have t6 : a.tmps.getD 6 undef = .slice A6 (n + 1) c6 := (H.before 6 12 0 (by kernel_rfl) (by kernel_rfl) hl).trans rfl
        exact step2_value (i := 0) rfl rfl (run_op_move rfl t6) (calm_refl _) rfl
      · intro listed a W H hw hl hd
        have t3 : a.tmps.getD 3 undef = .pointer (some ⟨w.heap.size, 0, none⟩) := (H.old 3 (by kernel_rfl)).trans rfl
        exact step2_value (i := 1) rfl rfl (run_op_fieldAddr rfl t3 (run_field1 _ W)) (calm_refl _) rfl
      · intro listed a W H hw hl hd
        have t28 : a.tmps.getD 28 undef = .pointer (some ⟨w.heap.size, 1, none⟩) := H.get 1 28 (by kernel_rfl) (dep_of hd 1 (by kernel_rfl)) (alive_none (by kernel_rfl))
        exact step2_value (i := 2) rfl rfl (run_op_load rfl t28 (run_load_u64 _ _ W (HHB.out.since hw.1).a)) (calm_refl _) rfl
      · intro listed a W H hw hl hd
        have t27 : a.tmps.getD 27 undef = .slice A6 (n + 1) c6 := H.get 0 27 (by kernel_rfl) (dep_of hd 0 (by kernel_rfl)) (alive_none (by kernel_rfl))
        have t29 : a.tmps.getD 29 undef = .int .u64 A2 := H.get 2 29 (by kernel_rfl) (dep_of hd 2 (by kernel_rfl)) (alive_none (by kernel_rfl))
        refine step2_call (i := 3) rfl rfl (run_op_call (vs := #[.slice A6 (n + 1) c6, .int .u64 A2, .int .i64 8]) Tryd.func26 (by kernel_rfl) (by kernel_rfl) rfl (by simp only [List.map_toArray, List.map_cons, List.map_nil]; show #[a.tmps.getD 27 undef, a.tmps.getD 29 undef, .int .i64 8] = _; rw [t27, t29])) ?_
        refine (reffix_at A6 (n + 1) c6 _ A2 8 h.a 8 W ha0 ha1 HAA.out rfl (by omega) (by omega) (HB6.out.since hw.1)).mono ?_
        rintro e W2 ⟨B, d, rfl, ho, hb⟩
        exact ⟨_, rfl, calm_later hb, B, d, rfl, (ho.elder hw.2).same HL1.out⟩
      · intro listed a W H hw hl hd
        have t3 : a.tmps.getD 3 undef = .pointer (some ⟨w.heap.size, 0, none⟩) := (H.old 3 (by kernel_rfl)).trans rfl
        exact step2_value (i := 4) rfl rfl (run_op_fieldAddr rfl t3 (run_field2 _ W)) (calm_refl _) rfl
      · intro listed a W H hw hl hd
        have t31 : a.tmps.getD 31 undef = .pointer (some ⟨w.heap.size, 2, none⟩) := H.get 4 31 (by kernel_rfl) (dep_of hd 4 (by kernel_rfl)) (alive_none (by kernel_rfl))
        exact step2_value (i := 5) rfl rfl (run_op_load rfl t31 (run_load_int _ _ W (HHB.out.since hw.1).s)) (calm_refl _) rfl
      · intro listed a W H hw hl hd
        have t32 : a.tmps.getD 32 undef = .int .i64 S := H.get 5 32 (by kernel_rfl) (dep_of hd 5 (by kernel_rfl)) (alive_none (by kernel_rfl))
        exact step2_value (i := 6) rfl rfl (run_op_convert rfl t32 (run_conv_u64 S (by omega) (by omega) W)) (calm_refl _) rfl
      · intro listed a W H hw hl hd
        obtain ⟨A30, q30, t30, o30⟩ := H.get 3 30 (by kernel_rfl) (dep_of hd 3 (by kernel_rfl)) (alive_none (by kernel_rfl))
        have t33 : a.tmps.getD 33 undef = .int .u64 S := H.get 6 33 (by kernel_rfl) (dep_of hd 6 (by kernel_rfl)) (alive_none (by kernel_rfl))
        refine step2_call (i := 7) rfl rfl (run_op_call (vs := #[.slice A30 (n + 9) q30, .int .u64 S, .int .i64 5]) Tryd.func26 (by kernel_rfl) (by kernel_rfl) rfl (by simp only [List.map_toArray, List.map_cons, List.map_nil]; show #[a.tmps.getD 30 undef, a.tmps.getD 33 undef, .int .i64 5] = _; rw [t30, t33])) ?_
        refine (reffix_at A30 (n + 9) q30 _ S 5 h.s 5 W (by omega) (by omega) HS.out rfl (by omega) (by omega) o30.bytes).mono ?_
        rintro e W2 ⟨B, d, rfl, ho, hb⟩
        exact ⟨_, rfl, calm_later hb, B, d, rfl, (ho.elder hw.2).same HL2.out⟩
      · intro listed a W H hw hl hd
        have t3 : a.tmps.getD 3 undef = .pointer (some ⟨w.heap.size, 0, none⟩) := (H.old 3 (by kernel_rfl)).trans rfl
        exact step2_value (i := 8) rfl rfl (run_op_fieldAddr rfl t3 (run_field3 _ W)) (calm_refl _) rfl
      · intro listed a W H hw hl hd
        have t35 : a.tmps.getD 35 undef = .pointer (some ⟨w.heap.size, 3, none⟩) := H.get 8 35 (by kernel_rfl) (dep_of hd 8 (by kernel_rfl)) (alive_none (by kernel_rfl))
        exact step2_value (i := 9) rfl rfl (run_op_load rfl t35 (run_load_int _ _ W (HHB.out.since hw.1).g)) (calm_refl _) rfl
      · intro listed a W H hw hl hd
        have t36 : a.tmps.getD 36 undef = .int .i64 G := H.get 9 36 (by kernel_rfl) (dep_of hd 9 (by kernel_rfl)) (alive_none (by kernel_rfl))
        exact step2_value (i := 10) rfl rfl (run_op_convert rfl t36 (run_conv_u64 G (by omega) (by omega) W)) (calm_refl _) rfl
      · intro listed a W H hw hl hd
        obtain ⟨A34, q34, t34, o34⟩ := H.get 7 34 (by kernel_rfl) (dep_of hd 7 (by kernel_rfl)) (alive_none (by kernel_rfl))
        have t37 : a.tmps.getD 37 undef = .int .u64 G := H.get 10 37 (by kernel_rfl) (dep_of hd 10 (by kernel_rfl)) (alive_none (by kernel_rfl))
        refine step2_call (i := 11) rfl rfl (run_op_call (vs := #[.slice A34 (n + 14) q34, .int .u64 G, .int .i64 3]) Tryd.func26 (by kernel_rfl) (by kernel_rfl) rfl (by simp only [List.map_toArray, List.map_cons, List.map_nil]; show #[a.tmps.getD 34 undef, a.tmps.getD 37 undef, .int .i64 3] = _; rw [t34, t37])) ?_
        refine (reffix_at A34 (n + 14) q34 _ G 3 h.g 3 W (by omega) (by omega) HG.out rfl (by omega) (by omega) o34.bytes).mono ?_
        rintro e W2 ⟨B, d, rfl, ho, hb⟩
        exact ⟨_, rfl, calm_later hb, B, d, rfl, (ho.elder hw.2).same HL3.out⟩
      · intro listed a W H hw hl hd
        obtain ⟨A38, q38, t38, o38⟩ := H.get 11 38 (by kernel_rfl) (dep_of hd 11 (by kernel_rfl)) (alive_none (by kernel_rfl))
        exact step2_value (i := 12) rfl rfl (run_op_assign rfl t38) (calm_refl _) ⟨_, _, rfl, o38⟩
    · intro a WC hdef hsz hw hall hact
      obtain ⟨A7, c7, t6, o7⟩ := hall 12 _ rfl (by kernel_rfl)
      have t6' : a.tmps.getD 6 undef = .slice A7 (n + 17) c7 := t6
      obtain ⟨ub, hu⟩ : ∃ u : Nat → Value, ∀ k, a.tmps.getD k undef = u k := ⟨_, fun _ => rfl⟩
      simp only [hu] at hact t6'
      have hact' : a = ([27, 28, 29, 30, 31, 32, 33, 34, 35, 36, 37, 38, 6] : List Nat).foldl (fun b k => b.put (some k) (ub k)) _ := hact
      simp only [List.foldl, t6'] at hact'
      simp only [Act.put, List.setIfInBounds_toArray, List.set_cons_succ, List.set_cons_zero] at hact'
      have HACT2 := Lib.hid hact'
      have SC := Lib.hid (SB.out.trans (hw.1.mono SB.out.size))
      have OC : Hid (Own WC w.heap.size A7 (n + 17) c7 l3) := o7.elder SB.out.size
      clear hu hact hact' t6 t6' o7 hall hdef hsz hw SB HHB HB6 HDB
      rw [HACT2.out]
      clear HACT2
      obtain ⟨A8, c8, W8, hr, ho, hb⟩ := own_append (c' := 6) (since_alloc SC.out (.cells #[.int .u8 0, .int .u8 0, .int .u8 0, .int .u8 0, .int .u8 0, .int .u8 0] 5)) (OC.out.since (later_alloc WC _)) (bytes_lit6 WC) (by omega)
      have R8 := Lib.hid hr
      have O8 := Lib.hid (ho.same HLB.out)
      have S8 := Lib.hid hb
      clear hr ho hb SC OC
      go_wp2_with (at_builtin; refine wpList_append_run rfl (.tmp 39) (.tmp 40) 22 rfl rfl rfl R8.out ?_)
      have e23 : n + 17 + 6 = n + 23 := rfl
      refine (refmore_since 0 0#32 A8 (n + 23) c8 (Hd.body bs h) _ (by omega) (by omega) rfl (by omega) O8.out.bytes).mono ?_
      rintro e W9 ⟨rfl, hb9⟩
      have S9 := Lib.hid (below_chain S8.out hb9)
      have O9 := Lib.hid (O8.out.since hb9)
      obtain ⟨z, hz0, hz1, HZ⟩ : ∃ z : Int, 0 ≤ z ∧ z ≤ 4294967295 ∧ Hid (((Crc.more 0#32 (Hd.body bs h)).toNat : Int) = z) := ⟨_, by omega, bv_le _, rfl⟩
      rw [HZ.out]
      clear hb9 S8 O8 R8
      go_wp2_with fail
      refine (reffix_at A8 (n + 23) c8 _ z 4 (Hd.crc (Hd.body bs h)) 4 _ hz0 (by omega) HZ.out.symm rfl (by omega) (by omega) O9.out.bytes).mono ?_
      rintro e W10 ⟨B, d, rfl, ho10, hb10⟩
      have S10 := Lib.hid (below_chain S9.out hb10)
      obtain ⟨A11, c11, W11, hr, ho, hb⟩ := own_append_one S10.out (ho10.elder S9.out.size) 0 0 rfl (by omega) (by omega)
      have R11 := Lib.hid hr
      have O11 : Hid (Own W11 w.heap.size A11 (n + 23 + 4 + 1) c11 (Hd.page bs h)) := ho.same (by rw [List.append_assoc]; rfl)
      have S11 := Lib.hid hb
      clear hr ho hb ho10 hb10
      go_wp2_with (at_builtin; refine wpList_append_run rfl (.tmp 46) (.tmp 47) 22 rfl rfl rfl R11.out ?_)
      go_ret2
      exact ⟨_, rfl, ⟨_, _, rfl, ⟨_, _, _, rfl, O11.out⟩, rfl⟩, S11⟩
theorem reflay_any (A : Option Addr) (n c : Nat) (bs : List Nat) (K A' S G : Int) (w : World) (hn : n ≤ 900) (hA : Bytes w w.heap.size A n bs) (a0 : 0 ≤ A') (a1 : A' ≤ 18446744073709551615) :
    Calls Tryd.prog 11 #[.slice A n c, .agg #[.int .i64 K, .int .u64 A', .int .i64 S, .int .i64 G]] w (RefLays w (layO bs K A' S G)) := by
  by_cases h : dataB (bs.length : Int) = true ∧ mayB K A' S G = true
  · rw [layO_yes h.1 h.2]
    have b := mayB_out h.2
    have hd : 128 ≤ (n : Int) ∧ (n : Int) ≤ 256 := by have := of_decide_eq_true h.1; rwa [hA.len] at this
    exact reflay_yes A n c bs K A' S G (hN K A' S G) w (by omega) (by omega) hA h.2 (by show K = (K.toNat : Int); omega) (by show A' = (A'.toNat : Int); omega) (by show S = (S.toNat : Int); omega) (by show G = (G.toNat : Int); omega) a0 a1
  · rw [layO_no h]
    rw [hA.len] at h
    exact reflay_no A n c K A' S G w (by omega) h
end Go.Proofs.YticjdjffmagdkaaDoor
