/- The document's own part of a checkpoint: the same bytes. Conditions: the part may be; its entries' cells. -/
import Derived.Test.YtopfdeihjjikiaaSegLaid
import Derived.Test.YtopfdeihjjikiaaRefPack
import Derived.Lib.AppendStr
set_option linter.unusedVariables false
set_option linter.unusedSimpArgs false
namespace Go.Proofs.Ytopfdeihjjikiaa
open Go.RowKit

theorem run_index_ent {ad : Addr} {n c k : Nat} (h : k < n) (W : World) : (Instr.indexAt 22 (.slice (some ad) n c) (.int .i64 (k : Int))).run Try.prog W = .ok (.pointer (some (ad.add (k * 4)))) W := by
  have i0 : (0 : Int) ≤ (k : Int) := by omega
  have i1 : (k : Int) < (n : Int) := by omega
  go_simp
theorem run_fieldp0 (p : Addr) (w : World) : (Instr.fieldAt 48 (.pointer (some p)) 0).run Try.prog w = .ok (.pointer (some (p.add 0))) w := by go_simp
theorem run_fieldp3 (p : Addr) (w : World) : (Instr.fieldAt 48 (.pointer (some p)) 3).run Try.prog w = .ok (.pointer (some (p.add 3))) w := by go_simp
theorem run_loadp_int (p : Addr) (z : Int) (w : World) (hc : w.cell? p = some (.int .i64 z)) : (Instr.loadAt 3 (.pointer (some p))).run Try.prog w = .ok (.int .i64 z) w := by go_simp
theorem run_loadp_u64 (p : Addr) (z : Int) (w : World) (hc : w.cell? p = some (.int .u64 z)) : (Instr.loadAt 45 (.pointer (some p))).run Try.prog w = .ok (.int .u64 z) w := by go_simp
theorem run_convp_u64 (z : Int) (h0 : 0 ≤ z) (h1 : z ≤ 9223372036854775807) (w : World) : (convert 3 45 (.int .i64 z)).run Try.prog w = .ok (.int .u64 z) w := by
  go_simp
  rw [IntKind.wrap_u64]; omega
theorem or_dirtyU_at : ∀ q : Fin 256, bits .or .u64 ((q.val : Nat) : Int) 32768 = ((q.val + 32768 : Nat) : Int) := by decide +kernel
theorem or_dirtyU {q : Nat} (h : q ≤ 255) : bits .or .u64 (q : Int) 32768 = ((q + 32768 : Nat) : Int) := or_dirtyU_at ⟨q, by omega⟩
/-- append(row, text...) -/
theorem own_append_str {w W : World} {A : Option Addr} {n c : Nat} {bs : List Nat} (hS : Below w.heap.size w W) (h : Own W w.heap.size A n c bs) (nm : List Nat) (hsm : ∀ b ∈ nm, b < 256) (s : ByteArray) (hs : s = strOf nm) (hnm : n + s.size ≤ 8000) :
    ∃ A2 c2 W2, (Builtin.append_ #[38, 9] 38 #[.slice A n c, .string s]).run Try.prog W = .ok (.slice A2 (n + s.size) c2) W2 ∧ Own W2 w.heap.size A2 (n + s.size) c2 (bs ++ nm) ∧ Below w.heap.size w W2 := by
  obtain ⟨i0, hi, hz0, hz1, hz2⟩ := info_parts info5
  obtain ⟨v', W', hr, ho, hg, _⟩ := Lib.run_append_own_string (P := Try.prog) W w.heap.size 38 9 38 5 i0 Try.underlying38 Try.underlying9 hi hz0 hz1 hz2 (.slice A n c) n (cellsOf bs) h.row s (by unfold maxLen; omega) (by omega) hS.size
  have hform : ∃ A' c', v' = .slice A' (n + s.size) c' := by
    rcases ho.2 with ⟨hv, hx⟩ | ⟨g, cap, cur, hv, _⟩
    · exact ⟨none, 0, by rw [hv, hx]⟩
    · exact ⟨_, _, hv⟩
  obtain ⟨A', c', rfl⟩ := hform
  have hcs : Lib.strCells s = cellsOf nm := by
    unfold Lib.strCells cellsOf
    rw [hs, strOf_data]
    unfold lettersOf
    rw [List.map_map]
    refine List.map_congr_left fun b hb => ?_
    have := hsm b hb
    show Value.int .u8 ((UInt8.ofNat b).toNat : Int) = _
    rw [UInt8.toNat_ofNat', Nat.mod_eq_of_lt (by omega)]
  have e : cellsOf bs ++ Lib.strCells s = cellsOf (bs ++ nm) := by rw [hcs]; unfold cellsOf; rw [List.map_append]
  rw [e] at ho
  refine ⟨A', c', W', hr, ⟨ho, getD_append _ _ h.small (getD_small hsm)⟩, hS.grown hg hS.size fun k hk => (h.row.lt k hk).1⟩
set_option maxHeartbeats 16000000 in
set_option maxRecDepth 20000 in
theorem refpart_any (s i m : Nat) (nm : List Nat) (ns : List Sg.E) (A : Option Addr) (n c : Nat) (w : World) (hs : Sg.sizeOk s) (hi : i < 65536) (hm : m < 65536) (hnm : OkN nm) (hn : ns.length ≤ Sg.each s) (hok : ∀ e ∈ ns, Sg.OkE e) (hA : entK.Lie w w.heap.size A n (ns.map ofE)) :
    Calls Try.prog 27 #[.int .i64 (s : Int), .string (strOf nm), .int .i64 (i : Int), .int .i64 (m : Int), .slice A n c] w (GivesBytes w (Sg.part s i m nm ns)) := by
  have HA := Lib.hid hA
  have HL : Hid (ns.length = n) := by have := hA.len; rw [List.length_map] at this; exact this
  have HOK := Lib.hid hok
  have HNM := Lib.hid hnm
  have hnl := hnm.len
  obtain ⟨hb1, hb2, hb3⟩ := Sg.each_bd hs
  obtain ⟨hs0, hs1⟩ := hs
  have hn14 : n ≤ 14 := by rw [← HL.out]; omega
  have HNE : Hid (15 * n ≤ s - 42) := by show _ ≤ _; rw [← HL.out]; have : 15 * ns.length ≤ 15 * Sg.each s := Nat.mul_le_mul_left _ hn; omega
  obtain ⟨st, HST⟩ : ∃ st, Hid (st = strOf nm) := ⟨_, rfl⟩
  have hsz : st.size = nm.length := by rw [HST.out, strOf_size]
  have hl36 : st.size ≤ 36 := by rw [hsz]; exact hnl
  have HSZ := Lib.hid hsz
  have F2 : Hid (fixMany 2 = 2) := rfl
  have F5 : Hid (fixMany 5 = 5) := rfl
  have F8 : Hid (fixMany 8 = 8) := rfl
  rw [← HST.out]
  clear hA hok hnm hnl hb1 hb2 hb3 hn hsz
  go_enter Try.func27, Try.ntmps27
  go_wp2_with fail
  refine (reffix_any none 0 0 [] (i : Int) 2 i w (by omega) (by omega) rfl (by omega) Bytes.none_ (by omega) (by omega)).mono ?_
  rw [List.nil_append, F2.out]
  rintro e W1 ⟨A1, n1, c1, rfl, ho1, hb1⟩
  obtain rfl : 2 = n1 := by rw [← ho1.len, Pk.fix_len]
  have O1 := Lib.hid ho1
  have S1 := Lib.hid hb1
  clear ho1 hb1
  go_wp2_with fail
  refine (reffix_any A1 2 c1 _ (m : Int) 2 m W1 (by omega) (by omega) rfl (by omega) O1.out.bytes (by omega) (by omega)).mono ?_
  rw [F2.out]
  rintro e W2 ⟨A2, n2, c2, rfl, ho2, hb2⟩
  obtain rfl : 4 = n2 := by rw [← ho2.len, List.length_append, Pk.fix_len, Pk.fix_len]
  have S2 := Lib.hid (below_chain S1.out hb2)
  have O2 := Lib.hid (ho2.elder S1.out.size)
  clear ho2 hb2 O1 S1
  obtain ⟨A3, c3, W3, hr3, ho3, hb3⟩ := own_append (c' := 2) (since_alloc S2.out _) (O2.out.since (later_alloc W2 _)) (bytes_lit2 W2 n st.size (by omega) (by omega)) (by omega)
  obtain ⟨A4, c4, W4, hr4, ho4, hb4⟩ := own_append_str hb3 ho3 nm HNM.out.small st HST.out (by omega)
  rw [show 4 + 2 = 6 by rfl] at hr3 hr4 ho4
  obtain ⟨fr, HFR⟩ : ∃ fr, Hid (fr = Pk.fix i 2 ++ Pk.fix m 2 ++ [n, st.size] ++ nm) := ⟨_, rfl⟩
  rw [← HFR.out] at ho4
  obtain ⟨A5, c5, W5, hr5, ho5, hb5⟩ := own_append_zeros (k := 36 - st.size) hb4 ho4 (42 - (((6 + st.size : Nat)) : Int)) (by omega) (by omega) (by omega)
  rw [show 6 + st.size + (36 - st.size) = 42 by omega] at hr5 ho5
  have R3 := Lib.hid hr3
  have R4 := Lib.hid hr4
  have R5 := Lib.hid hr5
  have O5 := Lib.hid ho5
  have S5 := Lib.hid hb5
  obtain ⟨fw, HFW⟩ : ∃ fw : List Nat, Hid (fw = fr ++ List.replicate (36 - st.size) (0 : Nat)) := ⟨fr ++ List.replicate (36 - st.size) (0 : Nat), Lib.hid rfl⟩
  rw [← HFW.out] at O5
  have HFT : Hid (fw = Sg.front i m nm ns) := by
    show _ = _
    rw [HFW.out, HFR.out]
    unfold Sg.front
    rw [HSZ.out, HL.out]
    simp
  clear hr3 ho3 hb3 hr4 ho4 hb4 hr5 ho5 hb5
  go_wp2_with (first | (at_builtin; refine wpList_append_run rfl (.tmp 20) (.tmp 27) 38 rfl rfl rfl R3.out ?_) | (at_builtin; refine Lib.wpList_append_run _ rfl (.tmp 28) (.tmp 29) 38 9 rfl _ _ rfl rfl _ _ R4.out ?_) | (at_builtin; refine Lib.wpList_append_run _ rfl (.tmp 31) (.tmp 34) 38 3 rfl _ _ rfl rfl _ _ R5.out ?_))
  clear R3 R4 R5 HFW HFR O2 S2
  go_loopw [11, 12] (fun t11 t12 wr => ∃ (j k3 : Nat) (A3 : Option Addr) (c3 : Nat) (us : List Nat), t12 = .int .i64 j ∧ j ≤ n ∧ t11 = .slice A3 k3 c3 ∧ k3 ≤ 252 ∧ Hid (k3 = 42 + 15 * j) ∧ Hid (us = fw ++ Sg.ents (ns.take j)) ∧ Hid (Own wr w.heap.size A3 k3 c3 us) ∧ Hid (Below w.heap.size w wr)) (fun _ t12 _ => n - (intOf t12).toNat)
  case atStart => exact ⟨0, 42, A5, c5, fw, rfl, by omega, rfl, by omega, rfl, by show _ = _; simp [Sg.ents], O5, S5⟩
  case round =>
    obtain ⟨j, k3, A3, q3, us, rfl, hj, rfl, hk3, HK3, HU, HO, HB⟩ := hrel
    by_cases hlt : j < n
    · obtain ⟨ad, hA, hblk, hat⟩ := (HA.out.since HB.out).each j hlt
      obtain ⟨en, he⟩ : ∃ e, ns[j]? = some e := ⟨_, List.getElem?_eq_getElem (by rw [HL.out]; exact hlt)⟩
      have hge : (ns.map ofE).getD j entK.dflt = ofE en := by rw [List.getD_eq_getElem?_getD, List.getElem?_map, he]; rfl
      rw [hge] at hat
      have HOE : Hid (Sg.OkE en) := HOK.out en (List.mem_of_getElem? he)
      have HSN := Lib.hid (ents_snoc he)
      subst hA
      have i0 : (0 : Int) ≤ (j : Int) := by omega
      have i1 : (j : Int) < (n : Int) := by omega
      have HIX := Lib.hid fun W : World => run_index_ent (ad := ad) (n := n) (c := c) hlt W
      have HBP : Hid ((ad.add (j * 4)).block < wr.heap.size) := by rw [addr_block]; exact hblk
      have HAT : Hid (entK.At wr (ad.add (j * 4)) (ofE en)) := hat
      obtain ⟨d0, d1, d2, d3⟩ := entAt_of (show entK.At wr (ad.add (j * 4)) (ofE en) from hat)
      unfold ofE at d0 d1 d2 d3
      dsimp only at d0 d1 d2 d3
      obtain ⟨p, HP⟩ : ∃ p, Hid (p = ad.add (j * 4)) := ⟨_, rfl⟩
      rw [← HP.out] at HIX HBP HAT
      have HK11 : Hid (k3 + 15 = 42 + 15 * (j + 1)) := by show _ = _; have := HK3.out; omega
      have hk11 : k3 + 15 ≤ 252 := by rw [HK11.out]; have : 15 * (j + 1) ≤ 15 * 14 := Nat.mul_le_mul_left _ (by omega); omega
      obtain ⟨o0, o1, o2, o3⟩ := HOE.out
      have hs40 : (en.seq : Int) ≤ 1099511627775 := by omega
      have ha64 : (en.addr : Int) ≤ 18446744073709551615 := by omega
      have hpg9 : (en.page : Int) ≤ 255 := by omega
      have HOR := Lib.hid (or_dirtyU o3)
      have HPN : Hid (Sg.pageN en = en.page + if en.dirty then 32768 else 0) := rfl
      obtain ⟨l1, HL1⟩ : ∃ l, Hid (us ++ Pk.fix en.addr (fixMany 8) = l) := ⟨_, rfl⟩
      obtain ⟨l2, HL2⟩ : ∃ l, Hid (l1 ++ Pk.fix en.seq (fixMany 5) = l) := ⟨_, rfl⟩
      obtain ⟨l3, HL3⟩ : ∃ l, Hid (l2 ++ Pk.fix (Sg.pageN en) (fixMany 2) = l) := ⟨_, rfl⟩
      have HN1 : Hid (k3 + 8 = l1.length) := by show _ = _; rw [← HL1.out, F8.out, List.length_append, Pk.fix_len, HO.out.len]
      have HN2 : Hid (k3 + 8 + 5 = l2.length) := by show _ = _; rw [← HL2.out, F5.out, List.length_append, Pk.fix_len, ← HN1.out]
      have HN3 : Hid (k3 + 15 = l3.length) := by show _ = _; rw [← HL3.out, F2.out, List.length_append, Pk.fix_len, ← HN2.out]
      have HU3 : Hid (l3 = fw ++ Sg.ents (ns.take (j + 1))) := by
        show _ = _
        rw [HSN.out, ← HL3.out, ← HL2.out, ← HL1.out, F2.out, F5.out, F8.out, HU.out]
        unfold Sg.encE
        simp only [List.append_assoc]
      clear hat hge he o0 o1 o2 HSN
      rcases hdd : en.dirty
      · rw [hdd] at d2
        obtain ⟨pg, HPG⟩ : ∃ pg : Int, Hid (pg = ((Sg.pageN en : Nat) : Int)) := ⟨_, rfl⟩
        have hpe : ((en.page : Nat) : Int) = pg := by rw [HPG.out, HPN.out, hdd]; simp
        have pg0 : 0 ≤ pg := by omega
        have pg1 : pg ≤ 65535 := by omega
        rw [hpe] at d1
        clear hdd hpe o3 hpg9
        go_wp2_with fail
        obtain ⟨W0, HD0⟩ : ∃ W : World, Hid (W = wr.drew) := ⟨_, rfl⟩
        have S0 : Hid (Below w.heap.size w W0) := by rw [HD0.out]; exact HB.out.drew
        have HBY : Hid (Bytes W0 W0.heap.size A3 k3 us) := by rw [HD0.out]; exact HO.out.bytes.drewN 1
        have HC0 : Hid (W0.cell? (p.add 0) = some (.int .u64 (en.addr : Int))) := by rw [HD0.out]; exact HAT.out 0 _ rfl
        have HC3 : Hid (W0.cell? (p.add 3) = some (.int .i64 (en.seq : Int))) := by rw [HD0.out]; exact HAT.out 3 _ rfl
        have HBK : Hid (p.block < W0.heap.size) := by rw [HD0.out]; exact HBP.out
        clear d0 d1 d2 d3
        refine region_of_steps2 (by kernel_rfl) (fact2Of [.is (.slice A3 k3 q3), .is (.slice (some ad) n c), .is (.int .i64 (j : Int)), .is (.pointer (some p)), .is (.pointer (some (p.add 0))), .is (.int .u64 (en.addr : Int)), .own W0.heap.size (k3 + 8) l1, .is (.slice (some ad) n c), .is (.int .i64 (j : Int)), .is (.pointer (some p)), .is (.pointer (some (p.add 3))), .is (.int .i64 (en.seq : Int)), .is (.int .u64 (en.seq : Int)), .own W0.heap.size (k3 + 8 + 5) l2, .is (.int .u64 pg), .own W0.heap.size (k3 + 15) l3, .own W0.heap.size (k3 + 15) l3]) (deadOf []) Calm (fun W => Below W0.heap.size W0 W ∧ W0.heap.size ≤ W.heap.size) (by kernel_rfl)
          (fun i j v w w' hm hd hn h hR => fact2_calm _ i j v w w' h hR) (fun j w w' h k => calm_inv h k) ⟨by rw [HD0.out]; exact Below.refl _ _, by rw [HD0.out]; exact Nat.le_refl _⟩ ?_ ?_
        · refine Steps2.cons ?_ (Steps2.cons ?_ (Steps2.cons ?_ (Steps2.cons ?_ (Steps2.cons ?_ (Steps2.cons ?_ (Steps2.cons ?_ (Steps2.cons ?_ (Steps2.cons ?_ (Steps2.cons ?_ (Steps2.cons ?_ (Steps2.cons ?_ (Steps2.cons ?_ (Steps2.cons ?_ (Steps2.cons ?_ (Steps2.cons ?_ (Steps2.cons ?_ (Steps2.nil)))))))))))))))))
          · intro listed a W H hw hl hd
            have t11 : a.tmps.getD 11 undef = .slice A3 k3 q3 := (H.before 11 16 0 (by kernel_rfl) (by kernel_rfl) hl).trans rfl
            exact step2_value (i := 0) rfl rfl (run_op_move rfl t11) (calm_refl _) rfl
          · intro listed a W H hw hl hd
            have t4 : a.tmps.getD 4 undef = .slice (some ad) n c := (H.old 4 (by kernel_rfl)).trans rfl
            exact step2_value (i := 1) rfl rfl (run_op_move rfl t4) (calm_refl _) rfl
          · intro listed a W H hw hl hd
            have t12 : a.tmps.getD 12 undef = .int .i64 (j : Int) := (H.old 12 (by kernel_rfl)).trans rfl
            exact step2_value (i := 2) rfl rfl (run_op_move rfl t12) (calm_refl _) rfl
          · intro listed a W H hw hl hd
            have t56 : a.tmps.getD 56 undef = .slice (some ad) n c := H.get 1 56 (by kernel_rfl) (dep_of hd 1 (by kernel_rfl)) (alive_none (by kernel_rfl))
            have t57 : a.tmps.getD 57 undef = .int .i64 (j : Int) := H.get 2 57 (by kernel_rfl) (dep_of hd 2 (by kernel_rfl)) (alive_none (by kernel_rfl))
            exact step2_value (i := 3) rfl rfl (run_op_index rfl t56 t57 (HIX.out W)) (calm_refl _) rfl
          · intro listed a W H hw hl hd
            have t58 : a.tmps.getD 58 undef = .pointer (some p) := H.get 3 58 (by kernel_rfl) (dep_of hd 3 (by kernel_rfl)) (alive_none (by kernel_rfl))
            exact step2_value (i := 4) rfl rfl (run_op_fieldAddr rfl t58 (run_fieldp0 _ W)) (calm_refl _) rfl
          · intro listed a W H hw hl hd
            have t59 : a.tmps.getD 59 undef = .pointer (some (p.add 0)) := H.get 4 59 (by kernel_rfl) (dep_of hd 4 (by kernel_rfl)) (alive_none (by kernel_rfl))
            exact step2_value (i := 5) rfl rfl (run_op_load rfl t59 (run_loadp_u64 _ _ W ((hw.1.cell HBK.out).trans HC0.out))) (calm_refl _) rfl
          · intro listed a W H hw hl hd
            have t55 : a.tmps.getD 55 undef = .slice A3 k3 q3 := H.get 0 55 (by kernel_rfl) (dep_of hd 0 (by kernel_rfl)) (alive_none (by kernel_rfl))
            have t60 : a.tmps.getD 60 undef = .int .u64 (en.addr : Int) := H.get 5 60 (by kernel_rfl) (dep_of hd 5 (by kernel_rfl)) (alive_none (by kernel_rfl))
            refine step2_call (i := 6) rfl rfl (run_op_call (vs := #[.slice A3 k3 q3, .int .u64 (en.addr : Int), .int .i64 8]) Try.func38 (by kernel_rfl) (by kernel_rfl) rfl (by simp only [List.map_toArray, List.map_cons, List.map_nil]; show #[a.tmps.getD 55 undef, a.tmps.getD 60 undef, .int .i64 8] = _; rw [t55, t60])) ?_
            refine (reffix_any A3 k3 q3 us (en.addr : Int) 8 en.addr W (by omega) (by omega) rfl (by omega) (HBY.out.since hw.1) (by omega) (by omega)).mono ?_
            rw [HL1.out]
            rintro e W2 ⟨B, n2, d, rfl, ho, hb⟩
            obtain rfl : k3 + 8 = n2 := by rw [← ho.len]; exact HN1.out
            exact ⟨_, rfl, calm_later hb, B, d, rfl, ho.elder hw.2⟩
          · intro listed a W H hw hl hd
            have t4 : a.tmps.getD 4 undef = .slice (some ad) n c := (H.old 4 (by kernel_rfl)).trans rfl
            exact step2_value (i := 7) rfl rfl (run_op_move rfl t4) (calm_refl _) rfl
          · intro listed a W H hw hl hd
            have t12 : a.tmps.getD 12 undef = .int .i64 (j : Int) := (H.old 12 (by kernel_rfl)).trans rfl
            exact step2_value (i := 8) rfl rfl (run_op_move rfl t12) (calm_refl _) rfl
          · intro listed a W H hw hl hd
            have t62 : a.tmps.getD 62 undef = .slice (some ad) n c := H.get 7 62 (by kernel_rfl) (dep_of hd 7 (by kernel_rfl)) (alive_none (by kernel_rfl))
            have t63 : a.tmps.getD 63 undef = .int .i64 (j : Int) := H.get 8 63 (by kernel_rfl) (dep_of hd 8 (by kernel_rfl)) (alive_none (by kernel_rfl))
            exact step2_value (i := 9) rfl rfl (run_op_index rfl t62 t63 (HIX.out W)) (calm_refl _) rfl
          · intro listed a W H hw hl hd
            have t64 : a.tmps.getD 64 undef = .pointer (some p) := H.get 9 64 (by kernel_rfl) (dep_of hd 9 (by kernel_rfl)) (alive_none (by kernel_rfl))
            exact step2_value (i := 10) rfl rfl (run_op_fieldAddr rfl t64 (run_fieldp3 _ W)) (calm_refl _) rfl
          · intro listed a W H hw hl hd
            have t65 : a.tmps.getD 65 undef = .pointer (some (p.add 3)) := H.get 10 65 (by kernel_rfl) (dep_of hd 10 (by kernel_rfl)) (alive_none (by kernel_rfl))
            exact step2_value (i := 11) rfl rfl (run_op_load rfl t65 (run_loadp_int _ _ W ((hw.1.cell (p := p.add 3) (by rw [addr_block]; exact HBK.out)).trans HC3.out))) (calm_refl _) rfl
          · intro listed a W H hw hl hd
            have t66 : a.tmps.getD 66 undef = .int .i64 (en.seq : Int) := H.get 11 66 (by kernel_rfl) (dep_of hd 11 (by kernel_rfl)) (alive_none (by kernel_rfl))
            exact step2_value (i := 12) rfl rfl (run_op_convert rfl t66 (run_convp_u64 (en.seq : Int) (by omega) (by omega) W)) (calm_refl _) rfl
          · intro listed a W H hw hl hd
            obtain ⟨A61, q61, t61, o61⟩ := H.get 6 61 (by kernel_rfl) (dep_of hd 6 (by kernel_rfl)) (alive_none (by kernel_rfl))
            have t67 : a.tmps.getD 67 undef = .int .u64 (en.seq : Int) := H.get 12 67 (by kernel_rfl) (dep_of hd 12 (by kernel_rfl)) (alive_none (by kernel_rfl))
            refine step2_call (i := 13) rfl rfl (run_op_call (vs := #[.slice A61 (k3 + 8) q61, .int .u64 (en.seq : Int), .int .i64 5]) Try.func38 (by kernel_rfl) (by kernel_rfl) rfl (by simp only [List.map_toArray, List.map_cons, List.map_nil]; show #[a.tmps.getD 61 undef, a.tmps.getD 67 undef, .int .i64 5] = _; rw [t61, t67])) ?_
            refine (reffix_any A61 (k3 + 8) q61 l1 (en.seq : Int) 5 en.seq W (by omega) (by omega) rfl (by omega) o61.bytes (by omega) (by omega)).mono ?_
            rw [HL2.out]
            rintro e W2 ⟨B, n2, d, rfl, ho, hb⟩
            obtain rfl : k3 + 8 + 5 = n2 := by rw [← ho.len]; exact HN2.out
            exact ⟨_, rfl, calm_later hb, B, d, rfl, ho.elder hw.2⟩
          · intro listed a W H hw hl hd
            have t13 : a.tmps.getD 13 undef = .int .u64 pg := (H.old 13 (by kernel_rfl)).trans rfl
            exact step2_value (i := 14) rfl rfl (run_op_move rfl t13) (calm_refl _) rfl
          · intro listed a W H hw hl hd
            obtain ⟨A68, q68, t68, o68⟩ := H.get 13 68 (by kernel_rfl) (dep_of hd 13 (by kernel_rfl)) (alive_none (by kernel_rfl))
            have t69 : a.tmps.getD 69 undef = .int .u64 pg := H.get 14 69 (by kernel_rfl) (dep_of hd 14 (by kernel_rfl)) (alive_none (by kernel_rfl))
            refine step2_call (i := 15) rfl rfl (run_op_call (vs := #[.slice A68 (k3 + 8 + 5) q68, .int .u64 pg, .int .i64 2]) Try.func38 (by kernel_rfl) (by kernel_rfl) rfl (by simp only [List.map_toArray, List.map_cons, List.map_nil]; show #[a.tmps.getD 68 undef, a.tmps.getD 69 undef, .int .i64 2] = _; rw [t68, t69])) ?_
            refine (reffix_any A68 (k3 + 8 + 5) q68 l2 pg 2 (Sg.pageN en) W (by omega) (by omega) HPG (by omega) o68.bytes (by omega) (by omega)).mono ?_
            rw [HL3.out]
            rintro e W2 ⟨B, n2, d, rfl, ho, hb⟩
            obtain rfl : k3 + 15 = n2 := by rw [← ho.len]; exact HN3.out
            exact ⟨_, rfl, calm_later hb, B, d, rfl, ho.elder hw.2⟩
          · intro listed a W H hw hl hd
            obtain ⟨A70, q70, t70, o70⟩ := H.get 15 70 (by kernel_rfl) (dep_of hd 15 (by kernel_rfl)) (alive_none (by kernel_rfl))
            exact step2_value (i := 16) rfl rfl (run_op_assign rfl t70) (calm_refl _) ⟨_, _, rfl, o70⟩
        · intro a WA hdef hsz hw hall hact
          obtain ⟨A4, c4, t11, o11⟩ := hall 16 _ rfl (by kernel_rfl)
          have t11' : a.tmps.getD 11 undef = .slice A4 (k3 + 15) c4 := t11
          obtain ⟨u, hu⟩ : ∃ u : Nat → Value, ∀ k, a.tmps.getD k undef = u k := ⟨_, fun _ => rfl⟩
          simp only [hu] at hact t11'
          have hact' : a = ([55, 56, 57, 58, 59, 60, 61, 62, 63, 64, 65, 66, 67, 68, 69, 70, 11] : List Nat).foldl (fun b k => b.put (some k) (u k)) _ := hact
          simp only [List.foldl, t11'] at hact'
          simp only [Act.put, List.setIfInBounds_toArray, List.set_cons_succ, List.set_cons_zero] at hact'
          have HACT := Lib.hid hact'
          have SA := Lib.hid (S0.out.trans (hw.1.mono S0.out.size))
          have OA := Lib.hid (o11.elder S0.out.size)
          clear hu hact hact' t11 hall hdef hsz hw o11
          rw [HACT.out]
          clear HACT
          go_wp2_with fail
          go_roundw
          case rel => exact ⟨j + 1, k3 + 15, A4, c4, l3, by go_num, by omega, rfl, hk11, HK11, HU3, OA, SA⟩
          case measure => simp [intOf]; omega
      · rw [hdd] at d2
        obtain ⟨pg, HPG⟩ : ∃ pg : Int, Hid (pg = ((Sg.pageN en : Nat) : Int)) := ⟨_, rfl⟩
        have hpe : bits .or .u64 ((en.page : Nat) : Int) 32768 = pg := by rw [HPG.out, HPN.out, hdd, HOR.out]; simp
        have pg0 : 0 ≤ pg := by rw [HPG.out]; omega
        have pg1 : pg ≤ 65535 := by rw [HPG.out, HPN.out, hdd]; simp; omega
        have HPE := Lib.hid hpe
        clear hdd hpe o3
        go_wp2_with (simp only [HPE.out])
        obtain ⟨W0, HD0⟩ : ∃ W : World, Hid (W = wr.drew) := ⟨_, rfl⟩
        have S0 : Hid (Below w.heap.size w W0) := by rw [HD0.out]; exact HB.out.drew
        have HBY : Hid (Bytes W0 W0.heap.size A3 k3 us) := by rw [HD0.out]; exact HO.out.bytes.drewN 1
        have HC0 : Hid (W0.cell? (p.add 0) = some (.int .u64 (en.addr : Int))) := by rw [HD0.out]; exact HAT.out 0 _ rfl
        have HC3 : Hid (W0.cell? (p.add 3) = some (.int .i64 (en.seq : Int))) := by rw [HD0.out]; exact HAT.out 3 _ rfl
        have HBK : Hid (p.block < W0.heap.size) := by rw [HD0.out]; exact HBP.out
        clear d0 d1 d2 d3
        refine region_of_steps2 (by kernel_rfl) (fact2Of [.is (.slice A3 k3 q3), .is (.slice (some ad) n c), .is (.int .i64 (j : Int)), .is (.pointer (some p)), .is (.pointer (some (p.add 0))), .is (.int .u64 (en.addr : Int)), .own W0.heap.size (k3 + 8) l1, .is (.slice (some ad) n c), .is (.int .i64 (j : Int)), .is (.pointer (some p)), .is (.pointer (some (p.add 3))), .is (.int .i64 (en.seq : Int)), .is (.int .u64 (en.seq : Int)), .own W0.heap.size (k3 + 8 + 5) l2, .is (.int .u64 pg), .own W0.heap.size (k3 + 15) l3, .own W0.heap.size (k3 + 15) l3]) (deadOf []) Calm (fun W => Below W0.heap.size W0 W ∧ W0.heap.size ≤ W.heap.size) (by kernel_rfl)
          (fun i j v w w' hm hd hn h hR => fact2_calm _ i j v w w' h hR) (fun j w w' h k => calm_inv h k) ⟨by rw [HD0.out]; exact Below.refl _ _, by rw [HD0.out]; exact Nat.le_refl _⟩ ?_ ?_
        · refine Steps2.cons ?_ (Steps2.cons ?_ (Steps2.cons ?_ (Steps2.cons ?_ (Steps2.cons ?_ (Steps2.cons ?_ (Steps2.cons ?_ (Steps2.cons ?_ (Steps2.cons ?_ (Steps2.cons ?_ (Steps2.cons ?_ (Steps2.cons ?_ (Steps2.cons ?_ (Steps2.cons ?_ (Steps2.cons ?_ (Steps2.cons ?_ (Steps2.cons ?_ (Steps2.nil)))))))))))))))))
          · intro listed a W H hw hl hd
            have t11 : a.tmps.getD 11 undef = .slice A3 k3 q3 := (H.before 11 16 0 (by kernel_rfl) (by kernel_rfl) hl).trans rfl
            exact step2_value (i := 0) rfl rfl (run_op_move rfl t11) (calm_refl _) rfl
          · intro listed a W H hw hl hd
            have t4 : a.tmps.getD 4 undef = .slice (some ad) n c := (H.old 4 (by kernel_rfl)).trans rfl
            exact step2_value (i := 1) rfl rfl (run_op_move rfl t4) (calm_refl _) rfl
          · intro listed a W H hw hl hd
            have t12 : a.tmps.getD 12 undef = .int .i64 (j : Int) := (H.old 12 (by kernel_rfl)).trans rfl
            exact step2_value (i := 2) rfl rfl (run_op_move rfl t12) (calm_refl _) rfl
          · intro listed a W H hw hl hd
            have t56 : a.tmps.getD 56 undef = .slice (some ad) n c := H.get 1 56 (by kernel_rfl) (dep_of hd 1 (by kernel_rfl)) (alive_none (by kernel_rfl))
            have t57 : a.tmps.getD 57 undef = .int .i64 (j : Int) := H.get 2 57 (by kernel_rfl) (dep_of hd 2 (by kernel_rfl)) (alive_none (by kernel_rfl))
            exact step2_value (i := 3) rfl rfl (run_op_index rfl t56 t57 (HIX.out W)) (calm_refl _) rfl
          · intro listed a W H hw hl hd
            have t58 : a.tmps.getD 58 undef = .pointer (some p) := H.get 3 58 (by kernel_rfl) (dep_of hd 3 (by kernel_rfl)) (alive_none (by kernel_rfl))
            exact step2_value (i := 4) rfl rfl (run_op_fieldAddr rfl t58 (run_fieldp0 _ W)) (calm_refl _) rfl
          · intro listed a W H hw hl hd
            have t59 : a.tmps.getD 59 undef = .pointer (some (p.add 0)) := H.get 4 59 (by kernel_rfl) (dep_of hd 4 (by kernel_rfl)) (alive_none (by kernel_rfl))
            exact step2_value (i := 5) rfl rfl (run_op_load rfl t59 (run_loadp_u64 _ _ W ((hw.1.cell HBK.out).trans HC0.out))) (calm_refl _) rfl
          · intro listed a W H hw hl hd
            have t55 : a.tmps.getD 55 undef = .slice A3 k3 q3 := H.get 0 55 (by kernel_rfl) (dep_of hd 0 (by kernel_rfl)) (alive_none (by kernel_rfl))
            have t60 : a.tmps.getD 60 undef = .int .u64 (en.addr : Int) := H.get 5 60 (by kernel_rfl) (dep_of hd 5 (by kernel_rfl)) (alive_none (by kernel_rfl))
            refine step2_call (i := 6) rfl rfl (run_op_call (vs := #[.slice A3 k3 q3, .int .u64 (en.addr : Int), .int .i64 8]) Try.func38 (by kernel_rfl) (by kernel_rfl) rfl (by simp only [List.map_toArray, List.map_cons, List.map_nil]; show #[a.tmps.getD 55 undef, a.tmps.getD 60 undef, .int .i64 8] = _; rw [t55, t60])) ?_
            refine (reffix_any A3 k3 q3 us (en.addr : Int) 8 en.addr W (by omega) (by omega) rfl (by omega) (HBY.out.since hw.1) (by omega) (by omega)).mono ?_
            rw [HL1.out]
            rintro e W2 ⟨B, n2, d, rfl, ho, hb⟩
            obtain rfl : k3 + 8 = n2 := by rw [← ho.len]; exact HN1.out
            exact ⟨_, rfl, calm_later hb, B, d, rfl, ho.elder hw.2⟩
          · intro listed a W H hw hl hd
            have t4 : a.tmps.getD 4 undef = .slice (some ad) n c := (H.old 4 (by kernel_rfl)).trans rfl
            exact step2_value (i := 7) rfl rfl (run_op_move rfl t4) (calm_refl _) rfl
          · intro listed a W H hw hl hd
            have t12 : a.tmps.getD 12 undef = .int .i64 (j : Int) := (H.old 12 (by kernel_rfl)).trans rfl
            exact step2_value (i := 8) rfl rfl (run_op_move rfl t12) (calm_refl _) rfl
          · intro listed a W H hw hl hd
            have t62 : a.tmps.getD 62 undef = .slice (some ad) n c := H.get 7 62 (by kernel_rfl) (dep_of hd 7 (by kernel_rfl)) (alive_none (by kernel_rfl))
            have t63 : a.tmps.getD 63 undef = .int .i64 (j : Int) := H.get 8 63 (by kernel_rfl) (dep_of hd 8 (by kernel_rfl)) (alive_none (by kernel_rfl))
            exact step2_value (i := 9) rfl rfl (run_op_index rfl t62 t63 (HIX.out W)) (calm_refl _) rfl
          · intro listed a W H hw hl hd
            have t64 : a.tmps.getD 64 undef = .pointer (some p) := H.get 9 64 (by kernel_rfl) (dep_of hd 9 (by kernel_rfl)) (alive_none (by kernel_rfl))
            exact step2_value (i := 10) rfl rfl (run_op_fieldAddr rfl t64 (run_fieldp3 _ W)) (calm_refl _) rfl
          · intro listed a W H hw hl hd
            have t65 : a.tmps.getD 65 undef = .pointer (some (p.add 3)) := H.get 10 65 (by kernel_rfl) (dep_of hd 10 (by kernel_rfl)) (alive_none (by kernel_rfl))
            exact step2_value (i := 11) rfl rfl (run_op_load rfl t65 (run_loadp_int _ _ W ((hw.1.cell (p := p.add 3) (by rw [addr_block]; exact HBK.out)).trans HC3.out))) (calm_refl _) rfl
          · intro listed a W H hw hl hd
            have t66 : a.tmps.getD 66 undef = .int .i64 (en.seq : Int) := H.get 11 66 (by kernel_rfl) (dep_of hd 11 (by kernel_rfl)) (alive_none (by kernel_rfl))
            exact step2_value (i := 12) rfl rfl (run_op_convert rfl t66 (run_convp_u64 (en.seq : Int) (by omega) (by omega) W)) (calm_refl _) rfl
          · intro listed a W H hw hl hd
            obtain ⟨A61, q61, t61, o61⟩ := H.get 6 61 (by kernel_rfl) (dep_of hd 6 (by kernel_rfl)) (alive_none (by kernel_rfl))
            have t67 : a.tmps.getD 67 undef = .int .u64 (en.seq : Int) := H.get 12 67 (by kernel_rfl) (dep_of hd 12 (by kernel_rfl)) (alive_none (by kernel_rfl))
            refine step2_call (i := 13) rfl rfl (run_op_call (vs := #[.slice A61 (k3 + 8) q61, .int .u64 (en.seq : Int), .int .i64 5]) Try.func38 (by kernel_rfl) (by kernel_rfl) rfl (by simp only [List.map_toArray, List.map_cons, List.map_nil]; show #[a.tmps.getD 61 undef, a.tmps.getD 67 undef, .int .i64 5] = _; rw [t61, t67])) ?_
            refine (reffix_any A61 (k3 + 8) q61 l1 (en.seq : Int) 5 en.seq W (by omega) (by omega) rfl (by omega) o61.bytes (by omega) (by omega)).mono ?_
            rw [HL2.out]
            rintro e W2 ⟨B, n2, d, rfl, ho, hb⟩
            obtain rfl : k3 + 8 + 5 = n2 := by rw [← ho.len]; exact HN2.out
            exact ⟨_, rfl, calm_later hb, B, d, rfl, ho.elder hw.2⟩
          · intro listed a W H hw hl hd
            have t13 : a.tmps.getD 13 undef = .int .u64 pg := (H.old 13 (by kernel_rfl)).trans rfl
            exact step2_value (i := 14) rfl rfl (run_op_move rfl t13) (calm_refl _) rfl
          · intro listed a W H hw hl hd
            obtain ⟨A68, q68, t68, o68⟩ := H.get 13 68 (by kernel_rfl) (dep_of hd 13 (by kernel_rfl)) (alive_none (by kernel_rfl))
            have t69 : a.tmps.getD 69 undef = .int .u64 pg := H.get 14 69 (by kernel_rfl) (dep_of hd 14 (by kernel_rfl)) (alive_none (by kernel_rfl))
            refine step2_call (i := 15) rfl rfl (run_op_call (vs := #[.slice A68 (k3 + 8 + 5) q68, .int .u64 pg, .int .i64 2]) Try.func38 (by kernel_rfl) (by kernel_rfl) rfl (by simp only [List.map_toArray, List.map_cons, List.map_nil]; show #[a.tmps.getD 68 undef, a.tmps.getD 69 undef, .int .i64 2] = _; rw [t68, t69])) ?_
            refine (reffix_any A68 (k3 + 8 + 5) q68 l2 pg 2 (Sg.pageN en) W (by omega) (by omega) HPG (by omega) o68.bytes (by omega) (by omega)).mono ?_
            rw [HL3.out]
            rintro e W2 ⟨B, n2, d, rfl, ho, hb⟩
            obtain rfl : k3 + 15 = n2 := by rw [← ho.len]; exact HN3.out
            exact ⟨_, rfl, calm_later hb, B, d, rfl, ho.elder hw.2⟩
          · intro listed a W H hw hl hd
            obtain ⟨A70, q70, t70, o70⟩ := H.get 15 70 (by kernel_rfl) (dep_of hd 15 (by kernel_rfl)) (alive_none (by kernel_rfl))
            exact step2_value (i := 16) rfl rfl (run_op_assign rfl t70) (calm_refl _) ⟨_, _, rfl, o70⟩
        · intro a WA hdef hsz hw hall hact
          obtain ⟨A4, c4, t11, o11⟩ := hall 16 _ rfl (by kernel_rfl)
          have t11' : a.tmps.getD 11 undef = .slice A4 (k3 + 15) c4 := t11
          obtain ⟨u, hu⟩ : ∃ u : Nat → Value, ∀ k, a.tmps.getD k undef = u k := ⟨_, fun _ => rfl⟩
          simp only [hu] at hact t11'
          have hact' : a = ([55, 56, 57, 58, 59, 60, 61, 62, 63, 64, 65, 66, 67, 68, 69, 70, 11] : List Nat).foldl (fun b k => b.put (some k) (u k)) _ := hact
          simp only [List.foldl, t11'] at hact'
          simp only [Act.put, List.setIfInBounds_toArray, List.set_cons_succ, List.set_cons_zero] at hact'
          have HACT := Lib.hid hact'
          have SA := Lib.hid (S0.out.trans (hw.1.mono S0.out.size))
          have OA := Lib.hid (o11.elder S0.out.size)
          clear hu hact hact' t11 hall hdef hsz hw o11
          rw [HACT.out]
          clear HACT
          go_wp2_with fail
          go_roundw
          case rel => exact ⟨j + 1, k3 + 15, A4, c4, l3, by go_num, by omega, rfl, hk11, HK11, HU3, OA, SA⟩
          case measure => simp [intOf]; omega
    · have HJ : Hid (j = n) := by show j = n; omega
      have hk0 : k3 ≤ s := by rw [HK3.out, HJ.out]; have := HNE.out; omega
      obtain ⟨A12, c12, W12, hr, ho, hb⟩ := own_append_zeros (k := s - k3) HB.out HO.out ((s : Int) - (k3 : Int)) (by omega) (by rw [HK3.out]; omega) (by omega)
      rw [show k3 + (s - k3) = s by omega] at hr ho
      have R := Lib.hid hr
      have O12 := Lib.hid ho
      have S12 := Lib.hid hb
      have HF : Hid (us ++ List.replicate (s - k3) 0 = Sg.part s i m nm ns) := by
        show _ = _
        unfold Sg.part
        rw [HU.out, HJ.out, List.take_of_length_le (by rw [HL.out]; exact Nat.le_refl _), HFT.out, HK3.out, HJ.out, HL.out, List.append_assoc, show s - (42 + 15 * n) = s - 42 - 15 * n by omega]
      have k30 : 0 ≤ (k3 : Int) := by omega
      have k31 : (k3 : Int) ≤ 252 := by omega
      clear hr ho hb
      go_wp2_with (at_builtin; refine Lib.wpList_append_run _ rfl (.tmp 71) (.tmp 75) 38 3 rfl _ _ rfl rfl _ _ R.out ?_)
      go_ret
      exact ⟨_, _, _, rfl, O12.out.same HF.out, S12.out⟩
end Go.Proofs.Ytopfdeihjjikiaa
