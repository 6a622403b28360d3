/- The document's own bytes. Conditions: the slice's cells; at most 100 notes. -/
import Derived.Test.YtaocppgekinocaaNotePage
import Derived.Test.YtaocppgekinocaaRefPack
import Derived.Test.YtaocppgekinocaaRegion3
set_option linter.unusedVariables false
set_option linter.unusedSimpArgs false
namespace Go.Proofs.Ytaocppgekinocaa
open Go.RowKit

section
variable {P : Program} {a : Act} {o : Oper} {w w' : World}
theorem run_op_fieldAddr {t : TypeId} {x : Operand} {k : Nat} {vx r : Value} (ho : o.op = .fieldAddr t x k) (hx : a.eval x = vx) (hrun : (Instr.fieldAt t vx k).run P w = .ok r w') : (execOp a.eval o).run P w = .ok (.value r) w' := by
  unfold execOp
  simp only [ho, Sem.run_bind, hx, hrun, Result.andThen_ok]
  rfl
end
theorem run_field0 (g : Nat) (w : World) : (Instr.fieldAt 41 (.pointer (some ⟨g, 0, none⟩)) 0).run Try.prog w = .ok (.pointer (some ⟨g, 0, none⟩)) w := by go_simp
theorem run_field1 (g : Nat) (w : World) : (Instr.fieldAt 41 (.pointer (some ⟨g, 0, none⟩)) 1).run Try.prog w = .ok (.pointer (some ⟨g, 1, none⟩)) w := by go_simp
theorem run_field3 (g : Nat) (w : World) : (Instr.fieldAt 41 (.pointer (some ⟨g, 0, none⟩)) 3).run Try.prog w = .ok (.pointer (some ⟨g, 3, none⟩)) w := by go_simp
theorem run_load_int (p : Addr) (z : Int) (w : World) (hc : w.cell? p = some (.int .i64 z)) : (Instr.loadAt 3 (.pointer (some p))).run Try.prog w = .ok (.int .i64 z) w := by go_simp
theorem run_load_u64 (p : Addr) (z : Int) (w : World) (hc : w.cell? p = some (.int .u64 z)) : (Instr.loadAt 39 (.pointer (some p))).run Try.prog w = .ok (.int .u64 z) w := by go_simp
theorem run_conv_u64 (z : Int) (h0 : 0 ≤ z) (h1 : z ≤ 9223372036854775807) (w : World) : (convert 3 39 (.int .i64 z)).run Try.prog w = .ok (.int .u64 z) w := by
  go_simp
  rw [IntKind.wrap_u64]; omega
theorem run_build_u8_1 (y : Int) (w : World) : (Instr.buildSlice 25 1 #[(0, .int .u8 y)]).run Try.prog w = .ok (.slice (some ⟨w.heap.size, 0, none⟩) 1 1) (w.alloc (.cells [.int .u8 y].toArray 5)) := by
  go_simp
theorem bytes_at1 {W : World} {g a : Nat} {y : Int} (hg : g < W.heap.size) (h0 : W.cell? ⟨g, 0, none⟩ = some (.int .u8 y)) (hy : y = (a : Int) ∧ a < 256) : Bytes W W.heap.size (some ⟨g, 0, none⟩) 1 [a] := by
  refine ⟨rfl, fun k hk => ⟨_, rfl, hg, ?_⟩, getD_small (by simp; omega)⟩
  rw [add_zero_addr]
  obtain rfl : k = 0 := by omega
  rw [h0, hy.1]; rfl
/-- An entry, a row of the call's own. -/
structure RowE (w : World) (g : Nat) (v : V) : Prop where
  c0 : w.cell? ⟨g, 0, none⟩ = some (.int .u64 v.addr)
  c1 : w.cell? ⟨g, 1, none⟩ = some (.int .i64 v.page)
  c2 : w.cell? ⟨g, 2, none⟩ = some (.bool v.dirty)
  c3 : w.cell? ⟨g, 3, none⟩ = some (.int .i64 v.seq)
theorem RowE.since {w w' : World} {g : Nat} {v : V} (h : RowE w g v) (hb : Below w.heap.size w w') : RowE w' g v := ⟨later_cell hb h.c0, later_cell hb h.c1, later_cell hb h.c2, later_cell hb h.c3⟩
theorem rowE_new (W : World) (v : V) (t : TypeId) : RowE (W.alloc (.cells #[.int .u64 v.addr, .int .i64 v.page, .bool v.dirty, .int .i64 v.seq] t)) W.heap.size v := ⟨cell_first rfl, cell_first rfl, cell_first rfl, cell_first rfl⟩
set_option maxHeartbeats 16000000 in
theorem refbytes_any (A : Option Addr) (n c : Nat) (vs : List V) (w : World) (hn : n ≤ 100) (hok : allB vs = true) (hA : Notes w w.heap.size A n vs) :
    Calls Try.prog 34 #[.slice A n c] w (GivesBytes w (encL vs)) := by
  have HA := Lib.hid hA
  have HL := Lib.hid hA.len
  have HOK := Lib.hid hok
  have HF := Lib.hid (flatL_len hok hA.all)
  have HPL : Hid ((Pk.put n).length ≤ 10) := Pk.put_len10 (by omega)
  clear hA hok
  go_enter Try.func34, Try.ntmps34
  go_wp2_with fail
  refine (refput_any none 0 0 [] (n : Int) n _ (by omega) (by omega) rfl (by omega) Bytes.none_).mono ?_
  rw [List.nil_append]
  rintro e W1 ⟨A1, n1, q1, rfl, ho1, hb1⟩
  have HO1 := Lib.hid ho1
  have HB1 := Lib.hid hb1
  clear ho1 hb1
  go_wp2_with fail
  go_loopw [3, 4] (fun t3 t4 wr => ∃ (k : Nat) (A3 : Option Addr) (k3 c3 : Nat) (us : List Nat), t4 = .int .i64 k ∧ k ≤ n ∧ t3 = .slice A3 k3 c3 ∧ Hid (us = Pk.put n ++ flatL (vs.take k)) ∧ Hid (Own wr w.heap.size A3 k3 c3 us) ∧ Hid (Below w.heap.size w wr)) (fun _ t4 _ => n - (intOf t4).toNat)
  case atStart => exact ⟨0, A1, n1, q1, Pk.put n, rfl, Nat.zero_le _, rfl, by show _ = _; simp [flatL, Nt.flat], HO1, HB1⟩
  case round =>
    obtain ⟨k, A3, k3, q3, us, rfl, hk, rfl, HU, HO, HB⟩ := hrel
    by_cases hlt : k < n
    · obtain ⟨ad, hA, hblk, hat⟩ := (HA.out.since HB.out).each k hlt
      have hwf := HA.out.wf k
      have hkk := allB_at HOK.out (k := k) (by have := HL.out; omega)
      subst hA
      have HU2 := Lib.hid (flatL_snoc (vs := vs) (k := k) (by have := HL.out; omega))
      obtain ⟨v, HV⟩ : ∃ v, Hid (v = vs.getD k V.zero) := ⟨_, rfl⟩
      rw [← HV.out] at hat hwf hkk HU2
      have HAT := Lib.hid hat
      obtain ⟨ha0, ha1, _, _, _, _⟩ := hwf
      obtain ⟨hs0, hs1, hpg⟩ := okB_out hkk
      have HPG := Lib.hid hpg
      have HENC := Lib.hid (enc_eq v)
      have hk3 : k3 ≤ 2000 := by
        rw [← HO.out.len, HU.out, List.length_append]
        have h1 := HF.out k
        have h2 := HPL.out
        have h3 := HL.out
        omega
      have XA : Hid (v.addr = ((v.addr.toNat : Nat) : Int)) := by show _ = _; omega
      have XS : Hid (v.seq = ((v.seq.toNat : Nat) : Int)) := by show _ = _; omega
      have LA : Hid ((Pk.put v.addr.toNat).length ≤ 10) := Pk.put_len10 (by omega)
      have LS : Hid ((Pk.put v.seq.toNat).length ≤ 10) := Pk.put_len10 (by omega)
      obtain ⟨l1, HL1⟩ : ∃ l, Hid (us ++ Pk.put v.addr.toNat = l) := ⟨_, rfl⟩
      obtain ⟨N1, HN1⟩ : ∃ N, Hid (N = (us ++ Pk.put v.addr.toNat).length) := ⟨_, rfl⟩
      obtain ⟨l2, HL2⟩ : ∃ l, Hid (l1 ++ Pk.put v.seq.toNat = l) := ⟨_, rfl⟩
      obtain ⟨N2, HN2⟩ : ∃ N, Hid (N = (l1 ++ Pk.put v.seq.toNat).length) := ⟨_, rfl⟩
      have hn1 : N1 ≤ 2010 := by rw [HN1.out, List.length_append, HO.out.len]; have := LA.out; omega
      have hn2 : N2 ≤ 2020 := by rw [HN2.out, List.length_append, ← HL1.out, ← HN1.out]; have := LS.out; omega
      have i0 : (0 : Int) ≤ (k : Int) := by omega
      have i1 : (k : Int) < (n : Int) := by omega
      have S8 := Lib.hid (since_alloc HB.out (.cells #[.int .u64 v.addr, .int .i64 v.page, .bool v.dirty, .int .i64 v.seq] 41))
      have E8 := Lib.hid (rowE_new wr v 41)
      have B8 := Lib.hid (HO.out.bytes.since (later_alloc wr (.cells #[.int .u64 v.addr, .int .i64 v.page, .bool v.dirty, .int .i64 v.seq] 41)))
      obtain ⟨c0, c1, c2, c3, c4⟩ := hat
      clear hkk hpg
      go_wp2_with fail
      obtain ⟨W0, HD0⟩ : ∃ W, Hid (W = (wr.alloc (.cells #[.int .u64 v.addr, .int .i64 v.page, .bool v.dirty, .int .i64 v.seq] 41)).drew) := ⟨_, rfl⟩
      obtain ⟨g, HGG⟩ : ∃ g, Hid (g = wr.heap.size) := ⟨_, rfl⟩
      rw [← HGG.out] at E8 ⊢
      have S0 : Hid (Below w.heap.size w W0) := by rw [HD0.out]; exact S8.out.drew
      have HE0 : Hid (RowE W0 g v) := by rw [HD0.out]; exact ⟨E8.out.c0, E8.out.c1, E8.out.c2, E8.out.c3⟩
      have HBY : Hid (Bytes W0 W0.heap.size A3 k3 us) := by rw [HD0.out]; exact B8.out.drewN 1
      have HAT0 : Hid (NoteAt W0 (ad.add (k * 5)) v) := by
        rw [HD0.out]
        have h := HAT.out.since (later_alloc wr (.cells #[.int .u64 v.addr, .int .i64 v.page, .bool v.dirty, .int .i64 v.seq] 41))
        exact ⟨h.c0, h.c1, h.c2, h.c3, h.c4⟩
      clear c0 c1 c2 c3 c4 S8 E8 B8
      refine region_of_steps2 (by kernel_rfl) (fact2Of [.is (.slice A3 k3 q3), .is (.pointer (some ⟨g, 0, none⟩)), .is (.int .u64 v.addr), .own W0.heap.size N1 l1, .is (.pointer (some ⟨g, 3, none⟩)), .is (.int .i64 v.seq), .is (.int .u64 v.seq), .own W0.heap.size N2 l2, .own W0.heap.size N2 l2]) (deadOf []) Calm (fun W => Below W0.heap.size W0 W ∧ W0.heap.size ≤ W.heap.size) (by kernel_rfl)
        (fun i j v w w' hm hd hn h hR => fact2_calm _ i j v w w' h hR) (fun j w w' h k => calm_inv h k) ⟨by rw [HD0.out]; exact Below.refl _ _, by rw [HD0.out]; exact Nat.le_refl _⟩ ?_ ?_
      · refine Steps2.cons ?_ (Steps2.cons ?_ (Steps2.cons ?_ (Steps2.cons ?_ (Steps2.cons ?_ (Steps2.cons ?_ (Steps2.cons ?_ (Steps2.cons ?_ (Steps2.cons ?_ (Steps2.nil)))))))))
        · intro listed a W H hw hl hd
          have t3 : a.tmps.getD 3 undef = .slice A3 k3 q3 := (H.before 3 8 0 (by kernel_rfl) (by kernel_rfl) hl).trans rfl
          exact step2_value (i := 0) rfl rfl (run_op_move rfl t3) (calm_refl _) rfl
        · intro listed a W H hw hl hd
          have t5 : a.tmps.getD 5 undef = .pointer (some ⟨g, 0, none⟩) := (H.old 5 (by kernel_rfl)).trans rfl
          exact step2_value (i := 1) rfl rfl (run_op_fieldAddr rfl t5 (run_field0 _ W)) (calm_refl _) rfl
        · intro listed a W H hw hl hd
          have t22 : a.tmps.getD 22 undef = .pointer (some ⟨g, 0, none⟩) := H.get 1 22 (by kernel_rfl) (dep_of hd 1 (by kernel_rfl)) (alive_none (by kernel_rfl))
          exact step2_value (i := 2) rfl rfl (run_op_load rfl t22 (run_load_u64 _ _ W (HE0.out.since hw.1).c0)) (calm_refl _) rfl
        · intro listed a W H hw hl hd
          have t21 : a.tmps.getD 21 undef = .slice A3 k3 q3 := H.get 0 21 (by kernel_rfl) (dep_of hd 0 (by kernel_rfl)) (alive_none (by kernel_rfl))
          have t23 : a.tmps.getD 23 undef = .int .u64 v.addr := H.get 2 23 (by kernel_rfl) (dep_of hd 2 (by kernel_rfl)) (alive_none (by kernel_rfl))
          refine step2_call (i := 3) rfl rfl (run_op_call (vs := #[.slice A3 k3 q3, .int .u64 v.addr]) Try.func41 (by kernel_rfl) (by kernel_rfl) rfl (by simp only [List.map_toArray, List.map_cons, List.map_nil]; show #[a.tmps.getD 21 undef, a.tmps.getD 23 undef] = _; rw [t21, t23])) ?_
          refine (refput_any A3 k3 q3 us v.addr v.addr.toNat W ha0 ha1 XA (by omega) (HBY.out.since hw.1)).mono ?_
          rintro e W2 ⟨B, n2, d, rfl, ho, hb⟩
          obtain rfl : N1 = n2 := by rw [← ho.len]; exact HN1.out
          exact ⟨_, rfl, calm_later hb, B, d, rfl, (ho.elder hw.2).same HL1.out⟩
        · intro listed a W H hw hl hd
          have t5 : a.tmps.getD 5 undef = .pointer (some ⟨g, 0, none⟩) := (H.old 5 (by kernel_rfl)).trans rfl
          exact step2_value (i := 4) rfl rfl (run_op_fieldAddr rfl t5 (run_field3 _ W)) (calm_refl _) rfl
        · intro listed a W H hw hl hd
          have t25 : a.tmps.getD 25 undef = .pointer (some ⟨g, 3, none⟩) := H.get 4 25 (by kernel_rfl) (dep_of hd 4 (by kernel_rfl)) (alive_none (by kernel_rfl))
          exact step2_value (i := 5) rfl rfl (run_op_load rfl t25 (run_load_int _ _ W (HE0.out.since hw.1).c3)) (calm_refl _) rfl
        · intro listed a W H hw hl hd
          have t26 : a.tmps.getD 26 undef = .int .i64 v.seq := H.get 5 26 (by kernel_rfl) (dep_of hd 5 (by kernel_rfl)) (alive_none (by kernel_rfl))
          exact step2_value (i := 6) rfl rfl (run_op_convert rfl t26 (run_conv_u64 v.seq (by omega) (by omega) W)) (calm_refl _) rfl
        · intro listed a W H hw hl hd
          obtain ⟨A24, q24, t24, o24⟩ := H.get 3 24 (by kernel_rfl) (dep_of hd 3 (by kernel_rfl)) (alive_none (by kernel_rfl))
          have t27 : a.tmps.getD 27 undef = .int .u64 v.seq := H.get 6 27 (by kernel_rfl) (dep_of hd 6 (by kernel_rfl)) (alive_none (by kernel_rfl))
          refine step2_call (i := 7) rfl rfl (run_op_call (vs := #[.slice A24 N1 q24, .int .u64 v.seq]) Try.func41 (by kernel_rfl) (by kernel_rfl) rfl (by simp only [List.map_toArray, List.map_cons, List.map_nil]; show #[a.tmps.getD 24 undef, a.tmps.getD 27 undef] = _; rw [t24, t27])) ?_
          refine (refput_any A24 N1 q24 l1 v.seq v.seq.toNat W (by omega) (by omega) XS (by omega) o24.bytes).mono ?_
          rintro e W2 ⟨B, n2, d, rfl, ho, hb⟩
          obtain rfl : N2 = n2 := by rw [← ho.len]; exact HN2.out
          exact ⟨_, rfl, calm_later hb, B, d, rfl, (ho.elder hw.2).same HL2.out⟩
        · intro listed a W H hw hl hd
          obtain ⟨A28, q28, t28, o28⟩ := H.get 7 28 (by kernel_rfl) (dep_of hd 7 (by kernel_rfl)) (alive_none (by kernel_rfl))
          exact step2_value (i := 8) rfl rfl (run_op_assign rfl t28) (calm_refl _) ⟨_, _, rfl, o28⟩
      · intro a WA hdef hsz hw hall hact
        obtain ⟨A4, c4, t3, o3⟩ := hall 8 _ rfl (by kernel_rfl)
        have t3' : a.tmps.getD 3 undef = .slice A4 N2 c4 := t3
        obtain ⟨u, hu⟩ : ∃ u : Nat → Value, ∀ k, a.tmps.getD k undef = u k := ⟨_, fun _ => rfl⟩
        simp only [hu] at hact t3'
        have hact' : a = ([21, 22, 23, 24, 25, 26, 27, 28, 3] : List Nat).foldl (fun b k => b.put (some k) (u k)) _ := hact
        simp only [List.foldl, t3'] at hact'
        simp only [Act.put, List.setIfInBounds_toArray, List.set_cons_succ, List.set_cons_zero] at hact'
        have HACT := Lib.hid hact'
        have SA0 := Lib.hid hw.1
        have SW := S0
        have SA := Lib.hid (S0.out.trans (hw.1.mono S0.out.size))
        have OA := Lib.hid o3
        have HATA := Lib.hid (HAT0.out.since hw.1)
        have EA := Lib.hid (HE0.out.since hw.1)
        clear hu hact hact' t3 hall hdef hsz hw o3
        rw [HACT.out]
        clear HACT
        obtain ⟨c0, c1, c2, c3, q4⟩ := HATA.out
        obtain ⟨e0, e1, e2, e3⟩ := EA.out
        rcases hg : v.gone
        · rw [hg] at c0
          have HGON := Lib.hid hg
          have hpp : 0 ≤ v.page ∧ v.page ≤ 255 := by
            rcases HPG.out with ⟨h, _⟩ | ⟨_, h⟩
            · rw [hg] at h; cases h
            · exact h
          obtain ⟨hp0, hp1⟩ := hpp
          have XP : Hid (v.page = ((v.page.toNat : Nat) : Int)) := by show _ = _; omega
          clear hg
          rcases hdd : v.dirty
          · rw [hdd] at c3 e2
            have HDIR := Lib.hid hdd
            clear hdd
            obtain ⟨l3, HL3⟩ : ∃ l : List Nat, Hid ((l2 ++ ([1] : List Nat)) ++ Pk.put v.page.toNat = l) := ⟨_, rfl⟩
            obtain ⟨N3, HN3⟩ : ∃ N : Nat, Hid (N = ((l2 ++ ([1] : List Nat)) ++ Pk.put v.page.toNat).length) := ⟨_, rfl⟩
            go_wp2_with fail
            obtain ⟨WB, HDB⟩ : ∃ W, Hid (W = WA.drew) := ⟨_, rfl⟩
            have SB : Hid (Below W0.heap.size W0 WB) := by rw [HDB.out]; exact SA0.out.drew
            have O4 : Hid (Own WB W0.heap.size A4 N2 c4 l2) := by rw [HDB.out]; exact OA.out.since ((Below.refl _ _).drew)
            refine region_of_steps3 (by kernel_rfl) (fact2Of [.is (.slice A4 N2 c4), .row [.int .u8 1], .own W0.heap.size (N2 + 1) (l2 ++ [1]), .is (.pointer (some ⟨g, 1, none⟩)), .is (.int .i64 v.page), .is (.int .u64 v.page), .own W0.heap.size N3 l3, .own W0.heap.size N3 l3]) (deadOf [(1, 2)]) (But 2 W0.heap.size) (Until 2 W0 WB) (by kernel_rfl)
              (fun i j v w w' hm hd hn h hR => fact2_stays _ _ 2 W0.heap.size [(1, 2)] (hds_of (by kernel_rfl)) i j v w w' hm hd hn h hR) (fun listed j w w' h hl k => until_step h hl k) (fun listed => by rw [← HDB.out]; exact until_start SB.out listed) ?_ ?_
            · refine Steps3.cons ?_ (Steps3.cons ?_ (Steps3.cons ?_ (Steps3.cons ?_ (Steps3.cons ?_ (Steps3.cons ?_ (Steps3.cons ?_ (Steps3.cons ?_ (Steps3.nil))))))))
              · intro listed a W H hw hl hd
                have t3 : a.tmps.getD 3 undef = .slice A4 N2 c4 := (H.before 3 7 0 (by kernel_rfl) (by kernel_rfl) hl).trans rfl
                exact step2_value (i := 0) rfl rfl (run_op_move rfl t3) (but_refl _) rfl
              · intro listed a W H hw hl hd
                exact step2_value (i := 1) rfl rfl (run_op_build rfl (by simp only [List.map_toArray, List.map_cons, List.map_nil]; show (Instr.buildSlice 25 1 #[(0, .int .u8 1)]).run _ _ = _; exact run_build_u8_1 ..)) (but_later (by decide) (later_alloc _ _)) (row2_made _ _ _ rfl)
              · intro listed a W H hw hl hd
                have t29 : a.tmps.getD 29 undef = .slice A4 N2 c4 := H.get 0 29 (by kernel_rfl) (dep_of hd 0 (by kernel_rfl)) (alive_none (by kernel_rfl))
                obtain ⟨g30, t30, c30, b30⟩ := H.get 1 30 (by kernel_rfl) (dep_of hd 1 (by kernel_rfl)) (alive_now (by kernel_rfl) hl)
                obtain ⟨A5, q5, W2, hr, ho, hb⟩ := own_append_at (c' := 1) hw.1 (O4.out.since (hw.2.2 hl)) (bytes_at1 (a := 1) b30 (c30 0 _ rfl) ⟨rfl, by omega⟩) (by omega)
                exact step2_value (i := 2) rfl rfl (run_op_append rfl t29 t30 hr) (but_own hb) ⟨A5, q5, rfl, ho⟩
              · intro listed a W H hw hl hd
                have t5 : a.tmps.getD 5 undef = .pointer (some ⟨g, 0, none⟩) := (H.old 5 (by kernel_rfl)).trans rfl
                exact step2_value (i := 3) rfl rfl (run_op_fieldAddr rfl t5 (run_field1 _ W)) (but_refl _) rfl
              · intro listed a W H hw hl hd
                have t32 : a.tmps.getD 32 undef = .pointer (some ⟨g, 1, none⟩) := H.get 3 32 (by kernel_rfl) (dep_of hd 3 (by kernel_rfl)) (alive_none (by kernel_rfl))
                exact step2_value (i := 4) rfl rfl (run_op_load rfl t32 (run_load_int _ _ W (HE0.out.since hw.1).c1)) (but_refl _) rfl
              · intro listed a W H hw hl hd
                have t33 : a.tmps.getD 33 undef = .int .i64 v.page := H.get 4 33 (by kernel_rfl) (dep_of hd 4 (by kernel_rfl)) (alive_none (by kernel_rfl))
                exact step2_value (i := 5) rfl rfl (run_op_convert rfl t33 (run_conv_u64 v.page (by omega) (by omega) W)) (but_refl _) rfl
              · intro listed a W H hw hl hd
                obtain ⟨A31, q31, t31, o31⟩ := H.get 2 31 (by kernel_rfl) (dep_of hd 2 (by kernel_rfl)) (alive_none (by kernel_rfl))
                have t34 : a.tmps.getD 34 undef = .int .u64 v.page := H.get 5 34 (by kernel_rfl) (dep_of hd 5 (by kernel_rfl)) (alive_none (by kernel_rfl))
                refine step2_call (i := 6) rfl rfl (run_op_call (vs := #[.slice A31 (N2 + 1) q31, .int .u64 v.page]) Try.func41 (by kernel_rfl) (by kernel_rfl) rfl (by simp only [List.map_toArray, List.map_cons, List.map_nil]; show #[a.tmps.getD 31 undef, a.tmps.getD 34 undef] = _; rw [t31, t34])) ?_
                refine (refput_any A31 (N2 + 1) q31 (l2 ++ [1]) v.page v.page.toNat W hp0 (by omega) XP (by omega) o31.bytes).mono ?_
                rintro e W2 ⟨B, n2, d, rfl, ho, hb⟩
                obtain rfl : N3 = n2 := by rw [← ho.len]; exact HN3.out
                exact ⟨_, rfl, but_later (by decide) hb, B, d, rfl, (ho.elder hw.2.1).same HL3.out⟩
              · intro listed a W H hw hl hd
                obtain ⟨A35, q35, t35, o35⟩ := H.get 6 35 (by kernel_rfl) (dep_of hd 6 (by kernel_rfl)) (alive_none (by kernel_rfl))
                exact step2_value (i := 7) rfl rfl (run_op_assign rfl t35) (but_refl _) ⟨_, _, rfl, o35⟩
            · intro a WC listed hdef hsz hw hall hact
              obtain ⟨A6, c6, t3, o3⟩ := hall 7 _ rfl (by kernel_rfl)
              have t3' : a.tmps.getD 3 undef = .slice A6 N3 c6 := t3
              obtain ⟨u, hu⟩ : ∃ u : Nat → Value, ∀ k, a.tmps.getD k undef = u k := ⟨_, fun _ => rfl⟩
              simp only [hu] at hact t3'
              have hact' : a = ([29, 30, 31, 32, 33, 34, 35, 3] : List Nat).foldl (fun b k => b.put (some k) (u k)) _ := hact
              simp only [List.foldl, t3'] at hact'
              simp only [Act.put, List.setIfInBounds_toArray, List.set_cons_succ, List.set_cons_zero] at hact'
              have HACT := Lib.hid hact'
              have SC := Lib.hid (SW.out.trans (hw.1.mono SW.out.size))
              have OC := Lib.hid (o3.elder SW.out.size)
              clear hu hact hact' t3 hall hdef hsz hw o3
              have HFIN : Hid (l3 = Pk.put n ++ flatL (vs.take (k + 1))) := by
                show _ = _
                rw [← HL3.out, ← HL2.out, ← HL1.out, HU2.out, HENC.out, HU.out]
                have e : (if v.gone = true then ([] : List Nat) else Pk.put v.page.toNat) = Pk.put v.page.toNat := by rw [HGON.out]; rfl
                have e2 : Nt.kind (toN v) = 1 := by unfold Nt.kind toN; rw [HGON.out, HDIR.out]; rfl
                rw [e, e2]
                simp [List.append_assoc]
              rw [HACT.out]
              go_wp2_with fail
              go_roundw
              case rel => exact ⟨k + 1, A6, N3, c6, l3, by go_num, by omega, rfl, HFIN, OC, SC⟩
              case measure => simp [intOf]; omega
          · rw [hdd] at c3 e2
            have HDIR := Lib.hid hdd
            clear hdd
            obtain ⟨l3, HL3⟩ : ∃ l : List Nat, Hid ((l2 ++ ([2] : List Nat)) ++ Pk.put v.page.toNat = l) := ⟨_, rfl⟩
            obtain ⟨N3, HN3⟩ : ∃ N : Nat, Hid (N = ((l2 ++ ([2] : List Nat)) ++ Pk.put v.page.toNat).length) := ⟨_, rfl⟩
            go_wp2_with fail
            obtain ⟨WB, HDB⟩ : ∃ W, Hid (W = WA.drew) := ⟨_, rfl⟩
            have SB : Hid (Below W0.heap.size W0 WB) := by rw [HDB.out]; exact SA0.out.drew
            have O4 : Hid (Own WB W0.heap.size A4 N2 c4 l2) := by rw [HDB.out]; exact OA.out.since ((Below.refl _ _).drew)
            refine region_of_steps3 (by kernel_rfl) (fact2Of [.is (.slice A4 N2 c4), .row [.int .u8 2], .own W0.heap.size (N2 + 1) (l2 ++ [2]), .is (.pointer (some ⟨g, 1, none⟩)), .is (.int .i64 v.page), .is (.int .u64 v.page), .own W0.heap.size N3 l3, .own W0.heap.size N3 l3]) (deadOf [(1, 2)]) (But 2 W0.heap.size) (Until 2 W0 WB) (by kernel_rfl)
              (fun i j v w w' hm hd hn h hR => fact2_stays _ _ 2 W0.heap.size [(1, 2)] (hds_of (by kernel_rfl)) i j v w w' hm hd hn h hR) (fun listed j w w' h hl k => until_step h hl k) (fun listed => by rw [← HDB.out]; exact until_start SB.out listed) ?_ ?_
            · refine Steps3.cons ?_ (Steps3.cons ?_ (Steps3.cons ?_ (Steps3.cons ?_ (Steps3.cons ?_ (Steps3.cons ?_ (Steps3.cons ?_ (Steps3.cons ?_ (Steps3.nil))))))))
              · intro listed a W H hw hl hd
                have t3 : a.tmps.getD 3 undef = .slice A4 N2 c4 := (H.before 3 7 0 (by kernel_rfl) (by kernel_rfl) hl).trans rfl
                exact step2_value (i := 0) rfl rfl (run_op_move rfl t3) (but_refl _) rfl
              · intro listed a W H hw hl hd
                exact step2_value (i := 1) rfl rfl (run_op_build rfl (by simp only [List.map_toArray, List.map_cons, List.map_nil]; show (Instr.buildSlice 25 1 #[(0, .int .u8 2)]).run _ _ = _; exact run_build_u8_1 ..)) (but_later (by decide) (later_alloc _ _)) (row2_made _ _ _ rfl)
              · intro listed a W H hw hl hd
                have t48 : a.tmps.getD 48 undef = .slice A4 N2 c4 := H.get 0 48 (by kernel_rfl) (dep_of hd 0 (by kernel_rfl)) (alive_none (by kernel_rfl))
                obtain ⟨g49, t49, c49, b49⟩ := H.get 1 49 (by kernel_rfl) (dep_of hd 1 (by kernel_rfl)) (alive_now (by kernel_rfl) hl)
                obtain ⟨A5, q5, W2, hr, ho, hb⟩ := own_append_at (c' := 1) hw.1 (O4.out.since (hw.2.2 hl)) (bytes_at1 (a := 2) b49 (c49 0 _ rfl) ⟨rfl, by omega⟩) (by omega)
                exact step2_value (i := 2) rfl rfl (run_op_append rfl t48 t49 hr) (but_own hb) ⟨A5, q5, rfl, ho⟩
              · intro listed a W H hw hl hd
                have t5 : a.tmps.getD 5 undef = .pointer (some ⟨g, 0, none⟩) := (H.old 5 (by kernel_rfl)).trans rfl
                exact step2_value (i := 3) rfl rfl (run_op_fieldAddr rfl t5 (run_field1 _ W)) (but_refl _) rfl
              · intro listed a W H hw hl hd
                have t51 : a.tmps.getD 51 undef = .pointer (some ⟨g, 1, none⟩) := H.get 3 51 (by kernel_rfl) (dep_of hd 3 (by kernel_rfl)) (alive_none (by kernel_rfl))
                exact step2_value (i := 4) rfl rfl (run_op_load rfl t51 (run_load_int _ _ W (HE0.out.since hw.1).c1)) (but_refl _) rfl
              · intro listed a W H hw hl hd
                have t52 : a.tmps.getD 52 undef = .int .i64 v.page := H.get 4 52 (by kernel_rfl) (dep_of hd 4 (by kernel_rfl)) (alive_none (by kernel_rfl))
                exact step2_value (i := 5) rfl rfl (run_op_convert rfl t52 (run_conv_u64 v.page (by omega) (by omega) W)) (but_refl _) rfl
              · intro listed a W H hw hl hd
                obtain ⟨A50, q50, t50, o50⟩ := H.get 2 50 (by kernel_rfl) (dep_of hd 2 (by kernel_rfl)) (alive_none (by kernel_rfl))
                have t53 : a.tmps.getD 53 undef = .int .u64 v.page := H.get 5 53 (by kernel_rfl) (dep_of hd 5 (by kernel_rfl)) (alive_none (by kernel_rfl))
                refine step2_call (i := 6) rfl rfl (run_op_call (vs := #[.slice A50 (N2 + 1) q50, .int .u64 v.page]) Try.func41 (by kernel_rfl) (by kernel_rfl) rfl (by simp only [List.map_toArray, List.map_cons, List.map_nil]; show #[a.tmps.getD 50 undef, a.tmps.getD 53 undef] = _; rw [t50, t53])) ?_
                refine (refput_any A50 (N2 + 1) q50 (l2 ++ [2]) v.page v.page.toNat W hp0 (by omega) XP (by omega) o50.bytes).mono ?_
                rintro e W2 ⟨B, n2, d, rfl, ho, hb⟩
                obtain rfl : N3 = n2 := by rw [← ho.len]; exact HN3.out
                exact ⟨_, rfl, but_later (by decide) hb, B, d, rfl, (ho.elder hw.2.1).same HL3.out⟩
              · intro listed a W H hw hl hd
                obtain ⟨A54, q54, t54, o54⟩ := H.get 6 54 (by kernel_rfl) (dep_of hd 6 (by kernel_rfl)) (alive_none (by kernel_rfl))
                exact step2_value (i := 7) rfl rfl (run_op_assign rfl t54) (but_refl _) ⟨_, _, rfl, o54⟩
            · intro a WC listed hdef hsz hw hall hact
              obtain ⟨A6, c6, t3, o3⟩ := hall 7 _ rfl (by kernel_rfl)
              have t3' : a.tmps.getD 3 undef = .slice A6 N3 c6 := t3
              obtain ⟨u, hu⟩ : ∃ u : Nat → Value, ∀ k, a.tmps.getD k undef = u k := ⟨_, fun _ => rfl⟩
              simp only [hu] at hact t3'
              have hact' : a = ([48, 49, 50, 51, 52, 53, 54, 3] : List Nat).foldl (fun b k => b.put (some k) (u k)) _ := hact
              simp only [List.foldl, t3'] at hact'
              simp only [Act.put, List.setIfInBounds_toArray, List.set_cons_succ, List.set_cons_zero] at hact'
              have HACT := Lib.hid hact'
              have SC := Lib.hid (SW.out.trans (hw.1.mono SW.out.size))
              have OC := Lib.hid (o3.elder SW.out.size)
              clear hu hact hact' t3 hall hdef hsz hw o3
              have HFIN : Hid (l3 = Pk.put n ++ flatL (vs.take (k + 1))) := by
                show _ = _
                rw [← HL3.out, ← HL2.out, ← HL1.out, HU2.out, HENC.out, HU.out]
                have e : (if v.gone = true then ([] : List Nat) else Pk.put v.page.toNat) = Pk.put v.page.toNat := by rw [HGON.out]; rfl
                have e2 : Nt.kind (toN v) = 2 := by unfold Nt.kind toN; rw [HGON.out, HDIR.out]; rfl
                rw [e, e2]
                simp [List.append_assoc]
              rw [HACT.out]
              go_wp2_with fail
              go_roundw
              case rel => exact ⟨k + 1, A6, N3, c6, l3, by go_num, by omega, rfl, HFIN, OC, SC⟩
              case measure => simp [intOf]; omega
        · rw [hg] at c0
          have HGON := Lib.hid hg
          clear hg
          obtain ⟨A5, c5, W5, hr, ho5, hb5⟩ := own_append_one SA.out (OA.out.elder S0.out.size) 0 0 rfl (by omega) (by omega)
          have R := Lib.hid hr
          have O5 := Lib.hid ho5
          have S5 := Lib.hid hb5
          have HFIN : Hid (l2 ++ [0] = Pk.put n ++ flatL (vs.take (k + 1))) := by
            show _ = _
            rw [← HL2.out, ← HL1.out, HU2.out, HENC.out, HU.out]
            have e : (if v.gone = true then ([] : List Nat) else Pk.put v.page.toNat) = [] := by rw [HGON.out]; rfl
            have e2 : Nt.kind (toN v) = 0 := by unfold Nt.kind toN; rw [HGON.out]; rfl
            rw [e, e2]
            simp [List.append_assoc]
          clear hr ho5 hb5
          go_wp2_with (at_builtin; refine wpList_append_run rfl (.tmp 42) (.tmp 43) 25 rfl rfl rfl R.out ?_)
          go_roundw
          case rel => exact ⟨k + 1, A5, N2 + 1, c5, l2 ++ [0], by go_num, by omega, rfl, HFIN, O5, S5⟩
          case measure => simp [intOf]; omega
    · have HE : Hid (us = encL vs) := by
        show _ = _
        have hl := HL.out
        rw [HU.out, encL_eq, show k = vs.length by omega, flatL_all, hl]
      go_wp2_with fail
      go_ret
      exact ⟨_, _, _, rfl, HO.out.same HE.out, HB.out⟩
end Go.Proofs.Ytaocppgekinocaa
