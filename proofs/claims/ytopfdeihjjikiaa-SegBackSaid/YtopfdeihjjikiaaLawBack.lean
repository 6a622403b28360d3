/- SegBack answers true, for all sizes, labels and entries. Conditions: the entries' cells; the label's length. -/
import Derived.Test.YtopfdeihjjikiaaBackMath
set_option linter.unusedVariables false
set_option linter.unusedSimpArgs false
namespace Go.Proofs.Ytopfdeihjjikiaa
open Go.RowKit

theorem low_natB (x : Int) (n : Nat) (hn : 0 < n) : ∃ q : Nat, q < n ∧ Hid (lowM x (n : Int) = (q : Int)) := by
  have := lowM_bd x (n : Int) (by omega)
  exact ⟨(lowM x (n : Int)).toNat, by omega, by show _ = _; omega⟩
theorem grown_none {w w' : World} (h : w.grownBy w' none) : Below w.heap.size w w' := ⟨h.os, h.tape, h.output, h.size, fun i hi => h.block i hi (by simp)⟩
/-- append(nil, vs...): a new row, or nil. -/
theorem copy_any {α : Type} (K : Kind α) {W : World} {A : Option Addr} {n c : Nat} {vs : List α} (hA : K.Lie W W.heap.size A n vs) (hn : n ≤ 8000) :
    ∃ A2 c2 W2, (Builtin.append_ #[K.L, K.L] K.L #[.slice none 0 0, .slice A n c]).run Try.prog W = .ok (.slice A2 n c2) W2 ∧ K.Row W2 W.heap.size A2 n c2 vs ∧ Below W.heap.size W W2 := by
  obtain ⟨A2, c2, W2, hr, ho, hg⟩ := Kind.append_b (c' := c) (Nat.le_refl _) Kind.Row.none_ hA (by omega)
  rw [Nat.zero_add] at hr ho
  rw [List.nil_append] at ho
  exact ⟨A2, c2, W2, hr, ho, grown_none hg⟩
/-- A slice of slices of the call's own. -/
def RowsS (base n : Nat) (us : List SV) (v : Value) (w : World) : Prop := ∃ A c, v = .slice A n c ∧ sliceK.Row w base A n c us
theorem rowsS_later {base n : Nat} {us : List SV} {v : Value} {w w' : World} (h : RowsS base n us v w) (hb : Later w w') : RowsS base n us v w' := by
  obtain ⟨A, c, e, ho⟩ := h
  exact ⟨A, c, e, ho.since hb⟩
/-- What Join answers of parts that are not all. -/
def NoneOf (v : Value) : Prop := ∃ x, v = .tuple #[.string ⟨#[]⟩, .slice none 0 0, .iface 53 x]
def WrongOf (v : Value) : Prop := ∃ x, v = .iface 53 x
theorem underSS : Try.prog.underlying 24 = some (.slice (Try.prog.elem 24)) := by rw [show Try.prog.elem 24 = 38 from sliceK.elem]; exact Try.underlying24
set_option maxHeartbeats 16000000 in
set_option maxRecDepth 20000 in
theorem back_law (x y : Int) (st : ByteArray) (A : Option Addr) (n c : Nat) (es : List E) (w : World) (hst : st.size ≤ 9223372036854775807) (hn : n ≤ 9223372036854775807) (hc : n ≤ c) (hA : entK.Lie w w.heap.size A n es) :
    Calls Try.prog 4 #[.int .i64 x, .string st, .slice A n c, .int .i64 y] w (SaysB w true) := by
  by_cases hgt : 256 < n ∨ 100 < st.size
  · clear hA
    by_cases h1 : 256 < n
    · go_enter Try.func4, Try.ntmps4
      go_wp2_with fail
      refine (awake_any _).mono ?_
      rintro e W1 ⟨rfl, hb⟩
      go_wp2_with fail
      go_ret
      exact ⟨rfl, hb⟩
    · have h2 : 100 < st.size := by omega
      go_enter Try.func4, Try.ntmps4
      go_wp2_with fail
      refine (awake_any _).mono ?_
      rintro e W1 ⟨rfl, hb⟩
      go_wp2_with fail
      go_ret
      exact ⟨rfl, hb⟩
  · have hn256 : n ≤ 256 := by omega
    have hst100 : st.size ≤ 100 := by omega
    clear hgt
    have HA := Lib.hid hA
    have HL := Lib.hid hA.len
    obtain ⟨q, hq, HQ⟩ := low_natB x 129 (by omega)
    obtain ⟨s, HS⟩ : ∃ s : Nat, Hid (s = 128 + q) := ⟨_, rfl⟩
    have hs : Sg.sizeOk s := by rw [HS.out]; exact ⟨by omega, by omega⟩
    have HSZ := Lib.hid hs
    have HSI : Hid ((128 : Int) + (q : Int) = (s : Int)) := by show _ = _; rw [HS.out]; omega
    obtain ⟨hs0, hs1⟩ := hs
    clear hA
    go_enter Try.func4, Try.ntmps4
    go_wp2_with fail
    refine (low_any x 129 (by omega) (by omega) _).mono ?_
    rw [show lowM x 129 = (q : Int) from HQ.out]
    rintro e w' ⟨rfl, rfl⟩
    go_wp2_with fail
    rw [HSI.out]
    by_cases hok : mayL st.data.toList = true ∧ mayE es = true
    · obtain ⟨hm1, hm2⟩ := hok
      obtain ⟨e1, e2⟩ := mayE_ok hm2 HA.out.all
      obtain ⟨ns, HNS⟩ : ∃ ns, Hid (ns = es.map toE) := ⟨_, rfl⟩
      obtain ⟨nm, HNM⟩ : ∃ nm, Hid (nm = natsOf st) := ⟨_, rfl⟩
      have hse : strOf nm = st := by rw [HNM.out]; exact strOf_nats st
      have HON : Hid (OkN nm) := by rw [HNM.out]; exact ⟨natsOf_lt st, by rw [← strOf_data, strOf_nats]; exact hm1⟩
      rw [← HNS.out] at e1 e2
      have HOK := Lib.hid e2
      have HAN : Hid (entK.Lie w w.heap.size A n (ns.map ofE)) := by rw [← e1]; exact HA.out
      have HLN : Hid (ns.length = n) := by have := HAN.out.len; rw [List.length_map] at this; exact this
      obtain ⟨P, HP⟩ : ∃ P, Hid (Sg.parts s n = P) := ⟨_, rfl⟩
      have hP1 : 1 ≤ P := by rw [← HP.out]; exact (Sg.parts_bd HSZ.out).1
      have hP2 : P ≤ 257 := by rw [← HP.out]; exact Sg.parts_few HSZ.out hn256
      obtain ⟨ps, HPS⟩ : ∃ ps, Hid (Sg.cut s nm ns = ps) := ⟨_, rfl⟩
      have HPL : Hid (ps.length = P) := by rw [← HPS.out, Sg.cut_len, HLN.out]; exact HP.out
      have HC := Lib.hid (cut_yes s nm A n c ns w HSZ.out HON.out HOK.out hc HAN.out)
      rw [HPS.out, hse] at HC
      have HSE := Lib.hid hse
      clear e1 e2 hm1 hm2 hse
      refine HC.out.mono ?_
      rintro e W1 ⟨g, B, C, rfl, R1, hb1⟩
      have S1 := Lib.hid hb1.out
      have R1 := Lib.hid R1.out
      rw [HPL.out] at R1 ⊢
      have HLY := Lib.hid (R1.out.lays HPL.out)
      have hly := HLY.out
      rw [← HPS.out] at hly
      have HJ := Lib.hid (join_cut (some ⟨g, 0, none⟩) P P s _ nm ns W1 HSZ.out HON.out HOK.out hly)
      rw [HSE.out] at HJ
      clear hly hb1 HC
      go_wp2_with fail
      refine HJ.out.mono ?_
      rintro e W2 ⟨A2, n2, c2, rfl, O2, hb2⟩
      obtain rfl : n = n2 := by have := O2.out.len; rw [List.length_map, HLN.out] at this; exact this
      have S2 := Lib.hid (below_chain S1.out hb2.out)
      have R2 := Lib.hid (R1.out.since hb2.out)
      clear HJ hb2 R1 S1 HLY
      go_wp2_with fail
      refine (sameentries_since A2 A n c2 c _ _ hn O2.out.lie (HAN.out.since S2.out)).mono ?_
      rintro e W3 ⟨rfl, hb3⟩
      have S3 := Lib.hid (below_chain S2.out hb3.out)
      have R3 := Lib.hid (R2.out.since hb3.out)
      clear hb3 R2 S2 O2
      go_wp2_with fail
      refine (parts_any (s : Int) (n : Int) _ (by omega)).mono ?_
      rw [partsI_nat HSZ.out, HP.out]
      rintro e w' ⟨rfl, rfl⟩
      have bP : ((P : Int) == 0) = false := by simp; omega
      go_wp2_with fail
      go_loopw [14] (fun t14 wr => ∃ j : Nat, t14 = .int .i64 j ∧ j ≤ P ∧ Hid (Rows2 wr w.heap.size g P P s ps B C) ∧ Hid (Below w.heap.size w wr)) (fun t14 _ => P - (intOf t14).toNat)
      case atStart => exact ⟨0, rfl, Nat.zero_le _, R3, S3⟩
      case round =>
        obtain ⟨j, rfl, hj, HR, HB⟩ := hrel
        by_cases hlt : j < P
        · have hcell := HR.out.cell hlt
          have hpart : Sg.IsPart OkN (ps.getD j []) j P nm (Sg.chunk s ns j) := by
            have hj' : j < Sg.parts s ns.length := by rw [HLN.out, HP.out]; exact hlt
            have := Sg.cut_part HSZ.out HON.out HON.out.len HOK.out hj'
            rw [← HPS.out, cut_getD hj']
            rw [HLN.out, HP.out] at this ⊢
            exact this
          have C1 := Lib.hid (number_any (some ⟨B j, 0, none⟩) s (C j) j P nm _ _ wr (HR.out.each j hlt).2.cap hpart (HR.out.each j hlt).2.bytes)
          have i0 : (0 : Int) ≤ (j : Int) := by omega
          have i1 : (j : Int) < (P : Int) := by omega
          clear hpart
          go_wp2_with fail
          refine C1.out.mono ?_
          rintro e W4 ⟨rfl, hb4⟩
          have S4 := Lib.hid (below_chain HB.out hb4.out)
          have R4 := Lib.hid (HR.out.since hb4.out)
          go_wp2_with fail
          go_roundw
          case rel => exact ⟨j + 1, by go_num, by omega, R4, S4⟩
          case measure => simp [intOf]; omega
        · obtain ⟨k, hk, HK⟩ := low_natB y P (by omega)
          clear R3 S3
          go_wp2_with fail
          refine (low_any y (P : Int) (by omega) (by omega) _).mono ?_
          rw [HK.out]
          rintro e w' ⟨rfl, rfl⟩
          go_wp2_with fail
          obtain ⟨Wd, HWD⟩ : ∃ Wd : World, Hid (Wd = wr.drew) := ⟨_, rfl⟩
          have LD : Hid (Below wr.heap.size wr Wd) := by rw [HWD.out]; exact (Below.refl _ _).drew
          have RD := Lib.hid (HR.out.since LD.out)
          have SD := Lib.hid (below_chain HB.out LD.out)
          have YD := Lib.hid (RD.out.lays HPL.out)
          obtain ⟨vs, HVS⟩ : ∃ vs, Hid (vs = valsOf B C s P) := ⟨_, rfl⟩
          rw [← HVS.out] at YD
          have HVL : Hid (vs.length = P) := YD.out.lie.len
          have hs1' := fun W => sliceK.slice_to (some ⟨g, 0, none⟩) P P k (by omega) (Nat.le_refl P) W
          have hs2' : ∀ W : World, (Instr.slice 24 (.slice (some ⟨g, 0, none⟩) P P) (some (.int .i64 ((k : Int) + 1))) none none).run Try.prog W = .ok (.slice (if P = k + 1 then some ⟨g, 0, none⟩ else (some (⟨g, 0, none⟩ : Addr)).map (·.add ((k + 1) * 1))) (P - (k + 1)) (P - (k + 1))) W := fun W => by
            have := sliceK.slice_from (some ⟨g, 0, none⟩) P P (k + 1) (by omega) W
            rwa [show ((k + 1 : Nat) : Int) = (k : Int) + 1 by omega] at this
          obtain ⟨A7, HA7⟩ : ∃ A7 : Option Addr, Hid (A7 = if P = k + 1 then some ⟨g, 0, none⟩ else (some (⟨g, 0, none⟩ : Addr)).map (·.add ((k + 1) * 1))) := ⟨_, rfl⟩
          rw [← HA7.out] at hs2'
          have L7 : Hid (sliceK.Lie Wd Wd.heap.size A7 (P - (k + 1)) (vs.drop (k + 1))) := by
            rw [HA7.out]; exact YD.out.lie.rest (k := k + 1) (c := P) (by omega) (Nat.le_refl P)
          have HS1 := Lib.hid hs1'
          have HS2 := Lib.hid hs2'
          have HLS : Hid (Hold Wd Wd.heap.size (vs.take k ++ vs.drop (k + 1)) (ps.take k ++ ps.drop (k + 1))) := YD.out.hold.less (by rw [HVL.out]; exact hk)
          have hkp : k < (ptsOf s nm ns).length := by rw [ptsOf_len, HLN.out, HP.out]; exact hk
          have hpts := (cut_pts HSZ.out HON.out HOK.out).less hkp
          rw [HPS.out] at hpts
          have HPT := Lib.hid hpts
          have HNJ : Hid (¬ Joint ((ptsOf s nm ns).take k ++ (ptsOf s nm ns).drop (k + 1))) := less_not (by rw [HLN.out, HP.out]; exact hk)
          clear hs1' hs2' hpts hkp
          refine region_of_steps2 (by kernel_rfl) (factFree (fun | 9 => some NoneOf | 10 => some NoneOf | 13 => some WrongOf | 16 => some WrongOf | _ => none) [.is (.slice (some ⟨g, 0, none⟩) P P), .is (.int .i64 (k : Int)), .is (.slice (some ⟨g, 0, none⟩) k P), .that (RowsS Wd.heap.size k (vs.take k)) (fun _ _ _ h l => rowsS_later h l), .is (.slice (some ⟨g, 0, none⟩) P P), .is (.int .i64 (k : Int)), .is (.int .i64 ((k : Int) + 1)), .is (.slice A7 (P - (k + 1)) (P - (k + 1))), .that (RowsS Wd.heap.size (P - 1) (vs.take k ++ vs.drop (k + 1))) (fun _ _ _ h l => rowsS_later h l), .is undef, .is undef, .is (.string ⟨#[]⟩), .is (.slice none 0 0), .is undef, .is (.string ⟨#[]⟩), .is (.slice none 0 0), .is undef]) (deadOf [(3, 8)]) (But 8 Wd.heap.size) (fun W => Below Wd.heap.size Wd W ∧ Wd.heap.size ≤ W.heap.size) (by kernel_rfl)
            (fun i j v w w' hm hd hn h hR => factFree_stays _ _ _ 8 Wd.heap.size [(3, 8)] (hds_of (by kernel_rfl)) i j v w w' hm hd hn h hR) (fun j w w' h l => but_inv h l) ⟨by rw [HWD.out]; exact Below.refl _ _, by rw [HWD.out]; exact Nat.le_refl _⟩ ?_ ?_
          · refine Steps2.cons ?_ (Steps2.cons ?_ (Steps2.cons ?_ (Steps2.cons ?_ (Steps2.cons ?_ (Steps2.cons ?_ (Steps2.cons ?_ (Steps2.cons ?_ (Steps2.cons ?_ (Steps2.cons ?_ (Steps2.cons ?_ (Steps2.cons ?_ (Steps2.cons ?_ (Steps2.cons ?_ (Steps2.cons ?_ (Steps2.cons ?_ (Steps2.cons ?_ (Steps2.nil)))))))))))))))))
            · intro listed a W H hw hl hd
              have t9 : a.tmps.getD 9 undef = .slice (some ⟨g, 0, none⟩) P P := (H.old 9 (by kernel_rfl)).trans rfl
              exact step2_value (i := 0) rfl rfl (run_op_move rfl t9) (but_refl _) rfl
            · intro listed a W H hw hl hd
              have t3 : a.tmps.getD 3 undef = .int .i64 (k : Int) := (H.old 3 (by kernel_rfl)).trans rfl
              exact step2_value (i := 1) rfl rfl (run_op_move rfl t3) (but_refl _) rfl
            · intro listed a W H hw hl hd
              have t124 : a.tmps.getD 124 undef = .slice (some ⟨g, 0, none⟩) P P := H.get 0 124 (by kernel_rfl) (dep_of hd 0 (by kernel_rfl)) (alive_none (by kernel_rfl))
              have t125 : a.tmps.getD 125 undef = .int .i64 (k : Int) := H.get 1 125 (by kernel_rfl) (dep_of hd 1 (by kernel_rfl)) (alive_none (by kernel_rfl))
              exact step2_value (i := 2) rfl rfl (run_op_slice rfl (by show (Instr.sliceAt 24 (a.tmps.getD 124 undef) none (some (a.tmps.getD 125 undef)) none).run _ _ = _; rw [t124, t125]; rw [run_sliceAt_slice (h := underSS)]; exact HS1.out W)) (but_refl _) rfl
            · intro listed a W H hw hl hd
              have t126 : a.tmps.getD 126 undef = .slice (some ⟨g, 0, none⟩) k P := H.get 2 126 (by kernel_rfl) (dep_of hd 2 (by kernel_rfl)) (alive_none (by kernel_rfl))
              obtain ⟨A2, c2, W2, hr, ho, hb⟩ := copy_any sliceK (c := P) ((YD.out.since hw.1).lie.first (k := k) (by omega)) (by omega)
              exact step2_value (i := 3) rfl rfl (run_op_append rfl rfl t126 hr) (but_later (by decide) hb) ⟨A2, c2, rfl, ho.elder hw.2⟩
            · intro listed a W H hw hl hd
              have t9 : a.tmps.getD 9 undef = .slice (some ⟨g, 0, none⟩) P P := (H.old 9 (by kernel_rfl)).trans rfl
              exact step2_value (i := 4) rfl rfl (run_op_move rfl t9) (but_refl _) rfl
            · intro listed a W H hw hl hd
              have t3 : a.tmps.getD 3 undef = .int .i64 (k : Int) := (H.old 3 (by kernel_rfl)).trans rfl
              exact step2_value (i := 5) rfl rfl (run_op_move rfl t3) (but_refl _) rfl
            · intro listed a W H hw hl hd
              have t129 : a.tmps.getD 129 undef = .int .i64 (k : Int) := H.get 5 129 (by kernel_rfl) (dep_of hd 5 (by kernel_rfl)) (alive_none (by kernel_rfl))
              exact step2_value (i := 6) rfl rfl (run_op_bin rfl t129 rfl (run_add_i64 _ _ _ _ _ rfl (by omega) (by omega) _)) (but_refl _) rfl
            · intro listed a W H hw hl hd
              have t128 : a.tmps.getD 128 undef = .slice (some ⟨g, 0, none⟩) P P := H.get 4 128 (by kernel_rfl) (dep_of hd 4 (by kernel_rfl)) (alive_none (by kernel_rfl))
              have t130 : a.tmps.getD 130 undef = .int .i64 ((k : Int) + 1) := H.get 6 130 (by kernel_rfl) (dep_of hd 6 (by kernel_rfl)) (alive_none (by kernel_rfl))
              exact step2_value (i := 7) rfl rfl (run_op_slice rfl (by show (Instr.sliceAt 24 (a.tmps.getD 128 undef) (some (a.tmps.getD 130 undef)) none none).run _ _ = _; rw [t128, t130]; rw [run_sliceAt_slice (h := underSS)]; exact HS2.out W)) (but_refl _) rfl
            · intro listed a W H hw hl hd
              have T127 : RowsS Wd.heap.size k (vs.take k) (a.tmps.getD 127 undef) W := H.get 3 127 (by kernel_rfl) (dep_of hd 3 (by kernel_rfl)) (alive_now (by kernel_rfl) hl)
              obtain ⟨A3, c3, t127, o3⟩ := T127
              have t131 : a.tmps.getD 131 undef = .slice A7 (P - (k + 1)) (P - (k + 1)) := H.get 7 131 (by kernel_rfl) (dep_of hd 7 (by kernel_rfl)) (alive_none (by kernel_rfl))
              obtain ⟨A4, c4, W4, hr, ho, hg⟩ := Kind.append_b (c' := P - (k + 1)) hw.2 o3 ((L7.out.since hw.1)) (by omega)
              rw [show k + (P - (k + 1)) = P - 1 by omega] at hr ho
              exact step2_value (i := 8) rfl rfl (run_op_append rfl t127 t131 hr) (but_own ((Below.refl _ _).grown hg hw.2 fun b hb => (o3.row.lt b hb).1)) ⟨A4, c4, rfl, ho⟩
            · intro listed a W H hw hl hd
              have T132 : RowsS Wd.heap.size (P - 1) (vs.take k ++ vs.drop (k + 1)) (a.tmps.getD 132 undef) W := H.get 8 132 (by kernel_rfl) (dep_of hd 8 (by kernel_rfl)) (alive_none (by kernel_rfl))
              obtain ⟨A4, c4, t132, o4⟩ := T132
              refine step2_call (i := 9) rfl rfl (run_op_call (vs := #[.slice A4 (P - 1) c4]) Try.func21 (by kernel_rfl) (by kernel_rfl) rfl (by simp only [List.map_toArray, List.map_cons, List.map_nil]; show #[a.tmps.getD 132 undef] = _; rw [t132])) ?_
              refine (join_none A4 (P - 1) c4 s _ _ _ W (by omega) HPT.out ⟨o4.lie, HLS.out.since hw.1⟩ HNJ.out).mono ?_
              rintro e W2 ⟨v, rfl, HW, hb⟩
              obtain ⟨x, rfl⟩ := HW.out.ne
              exact ⟨_, rfl, but_later (by decide) hb.out, ⟨x, rfl⟩⟩
            · intro listed a W H hw hl hd
              have T133 : NoneOf (a.tmps.getD 133 undef) := H.get 9 133 (by kernel_rfl) (dep_of hd 9 (by kernel_rfl)) (alive_none (by kernel_rfl))
              exact step2_value (i := 10) rfl rfl (run_op_move rfl rfl) (but_refl _) T133
            · intro listed a W H hw hl hd
              have T123 : NoneOf (a.tmps.getD 123 undef) := H.get 10 123 (by kernel_rfl) (dep_of hd 10 (by kernel_rfl)) (alive_none (by kernel_rfl))
              obtain ⟨z, e123⟩ := T123
              exact step2_value (i := 11) rfl rfl (run_op_extract rfl e123 rfl) (but_refl _) rfl
            · intro listed a W H hw hl hd
              have T123 : NoneOf (a.tmps.getD 123 undef) := H.get 10 123 (by kernel_rfl) (dep_of hd 10 (by kernel_rfl)) (alive_none (by kernel_rfl))
              obtain ⟨z, e123⟩ := T123
              exact step2_value (i := 12) rfl rfl (run_op_extract rfl e123 rfl) (but_refl _) rfl
            · intro listed a W H hw hl hd
              have T123 : NoneOf (a.tmps.getD 123 undef) := H.get 10 123 (by kernel_rfl) (dep_of hd 10 (by kernel_rfl)) (alive_none (by kernel_rfl))
              obtain ⟨z, e123⟩ := T123
              exact step2_value (i := 13) rfl rfl (run_op_extract rfl e123 rfl) (but_refl _) ⟨z, rfl⟩
            · intro listed a W H hw hl hd
              have t134 : a.tmps.getD 134 undef = .string ⟨#[]⟩ := H.get 11 134 (by kernel_rfl) (dep_of hd 11 (by kernel_rfl)) (alive_none (by kernel_rfl))
              exact step2_value (i := 14) rfl rfl (run_op_assign rfl t134) (but_refl _) rfl
            · intro listed a W H hw hl hd
              have t135 : a.tmps.getD 135 undef = .slice none 0 0 := H.get 12 135 (by kernel_rfl) (dep_of hd 12 (by kernel_rfl)) (alive_none (by kernel_rfl))
              exact step2_value (i := 15) rfl rfl (run_op_assign rfl t135) (but_refl _) rfl
            · intro listed a W H hw hl hd
              have T136 : WrongOf (a.tmps.getD 136 undef) := H.get 13 136 (by kernel_rfl) (dep_of hd 13 (by kernel_rfl)) (alive_none (by kernel_rfl))
              exact step2_value (i := 16) rfl rfl (run_op_assign rfl rfl) (but_refl _) T136
          · intro a WC hdef hsz hw hall hact
            have t18 : a.tmps.getD 18 undef = .string ⟨#[]⟩ := hall 14 _ rfl (by kernel_rfl)
            have t19 : a.tmps.getD 19 undef = .slice none 0 0 := hall 15 _ rfl (by kernel_rfl)
            have T20 : WrongOf (a.tmps.getD 20 undef) := hall 16 _ rfl (by kernel_rfl)
            obtain ⟨z20, t20⟩ := T20
            obtain ⟨u, hu⟩ : ∃ u : Nat → Value, ∀ k, a.tmps.getD k undef = u k := ⟨_, fun _ => rfl⟩
            simp only [hu] at hact t18 t19 t20
            have hact' : a = ([124, 125, 126, 127, 128, 129, 130, 131, 132, 133, 123, 134, 135, 136, 18, 19, 20] : List Nat).foldl (fun b k => b.put (some k) (u k)) _ := hact
            simp only [List.foldl, t18, t19, t20] at hact'
            simp only [Act.put, List.setIfInBounds_toArray, List.set_cons_succ, List.set_cons_zero] at hact'
            have HACT := Lib.hid hact'
            have SC := Lib.hid (below_chain SD.out hw.1)
            have RC := Lib.hid (RD.out.since hw.1)
            clear hu hact hact' t18 t19 t20 hall hdef hsz hw
            rw [HACT.out]
            by_cases h1 : P = 1
            · have b1 : ((P : Int) == 1) = true := by simp [h1]
              go_wp2_with fail
              refine (awake_any _).mono ?_
              rintro e W9 ⟨rfl, hb9⟩
              have S9 := Lib.hid (below_chain SC.out hb9.out)
              go_wp2_with fail
              go_ret
              exact ⟨rfl, S9⟩
            · have b1 : ((P : Int) == 1) = false := by simp; omega
              obtain ⟨o, HO⟩ : ∃ o, Hid (o = (k + 1) % P) := ⟨_, rfl⟩
              have ho : o < P := by rw [HO.out]; exact Nat.mod_lt _ (by omega)
              have hok : k ≠ o := by
                rw [HO.out]
                rcases (by omega : k + 1 < P ∨ k + 1 = P) with h | h
                · rw [Nat.mod_eq_of_lt h]; omega
                · rw [h, Nat.mod_self]; omega
              have HREM : Hid (((k : Int) + 1) % (P : Int) = (o : Int)) := by show _ = _; rw [HO.out]; simp
              have YC := Lib.hid (RC.out.lays HPL.out)
              have ycl := YC.out.lie
              rw [← HVS.out] at ycl
              obtain ⟨A8, c8, W8, hr8, ho8, hb8⟩ := copy_any sliceK (c := P) ycl (by omega)
              obtain ⟨g8, rfl, hg8, _⟩ := sliceRow_some ho8 (by omega)
              have R8 := Lib.hid hr8
              obtain ⟨uk, HUK⟩ : ∃ u, Hid (u = vs.getD k sliceK.dflt) := ⟨_, rfl⟩
              obtain ⟨uo, HUO⟩ : ∃ u, Hid (u = vs.getD o sliceK.dflt) := ⟨_, rfl⟩
              have ck := sliceRow_cell ho8 hk
              have co := sliceRow_cell ho8 ho
              rw [← HUK.out] at ck
              rw [← HUO.out] at co
              have fk := sliceRow_free ho8 k
              have fo := sliceRow_free ho8 o
              obtain ⟨hw1, hg1⟩ := sliceRow_set ho8 hk uo
              obtain ⟨hw2, hg2⟩ := sliceRow_set hw1 ho uk
              obtain ⟨W9, HW9⟩ : ∃ W9 : World, Hid (W9 = ((W8.setCell ⟨g8, k, none⟩ (.slice uo.a uo.n uo.c)).setCell ⟨g8, o, none⟩ (.slice uk.a uk.n uk.c)).drew) := ⟨_, rfl⟩
              have L9 : Hid (Below WC.heap.size WC W9) := by
                rw [HW9.out]
                exact (hb8.grown (grownBy_trans hg1 hg2) hb8.size (fun b hb => by rw [← Option.some.inj hb]; exact hg8)).drew
              have O9 : Hid (sliceK.Row W9 WC.heap.size (some ⟨g8, 0, none⟩) P c8 ((vs.set k uo).set o uk)) := by rw [HW9.out]; exact hw2.since (Below.refl _ _).drew
              have ych := (YC.out.hold).since L9.out
              rw [← HVS.out] at ych
              have yk := ych.each k (by rw [HVL.out]; exact hk)
              have yo := ych.each o (by rw [HVL.out]; exact ho)
              rw [← HUK.out] at yk
              rw [← HUO.out] at yo
              have h2 := (ych.set (by rw [HVL.out]; exact hk) uo _ yo.1 yo.2).set (by rw [List.length_set, HVL.out]; exact ho) uk _ yk.1 yk.2
              have H2 := Lib.hid h2
              have hkp : k < (ptsOf s nm ns).length := by rw [ptsOf_len, HLN.out, HP.out]; exact hk
              have hop : o < (ptsOf s nm ns).length := by rw [ptsOf_len, HLN.out, HP.out]; exact ho
              have hp0 := cut_pts HSZ.out HON.out HOK.out
              rw [HPS.out] at hp0
              have hp2 := (hp0.set hkp (ptAt (ptsOf s nm ns) o) _ (hp0.each o hop).1 (hp0.each o hop).2).set (by rw [List.length_set]; exact hop) (ptAt (ptsOf s nm ns) k) _ (hp0.each k hkp).1 (hp0.each k hkp).2
              have HP2 := Lib.hid hp2
              have HNJ2 : Hid (¬ Joint (((ptsOf s nm ns).set k (ptAt (ptsOf s nm ns) o)).set o (ptAt (ptsOf s nm ns) k))) := turn_not (by rw [HLN.out, HP.out]; exact hk) (by rw [HLN.out, HP.out]; exact ho) hok
              have i0 : (0 : Int) ≤ (k : Int) := by omega
              have i1 : (k : Int) < (P : Int) := by omega
              have i2 : (0 : Int) ≤ (o : Int) := by omega
              have i3 : (o : Int) < (P : Int) := by omega
              have hko : ¬ k = o := hok
              have hok' : ¬ o = k := fun e => hok e.symm
              clear hr8 ho8 hw1 hg1 hw2 hg2 ych yk yo h2 hp0 hp2 hkp hop ycl hok
              go_wp2_with (first | (simp only [HREM.out]) | (at_builtin; refine wpList_append_run rfl (.const (.slice none 0 0)) (.tmp 145) 24 rfl rfl rfl R8.out ?_))
              go_region
              rw [← HW9.out]
              have S9 := Lib.hid (below_chain SC.out L9.out)
              clear ck co fk fo i0 i1 i2 i3 hko hok' R8
              go_wp2_with fail
              refine (join_none (some ⟨g8, 0, none⟩) P c8 s _ _ _ W9 (by omega) HP2.out ⟨O9.out.lie, H2.out⟩ HNJ2.out).mono ?_
              rintro e W10 ⟨v, rfl, HW, hb10⟩
              obtain ⟨x10, rfl⟩ := HW.out.ne
              have S10 := Lib.hid (below_chain S9.out hb10.out)
              go_wp2_with fail
              refine (awake_any _).mono ?_
              rintro e W11 ⟨rfl, hb11⟩
              have S11 := Lib.hid (below_chain S10.out hb11.out)
              go_wp2_with fail
              go_ret
              exact ⟨rfl, S11⟩
    · have HC := Lib.hid (cut_no (s : Int) st A n c es w hst hn HA.out (fun h => hok h.2))
      refine HC.out.mono ?_
      rintro e W1 ⟨v, rfl, HW, hb1⟩
      have S1 := Lib.hid hb1.out
      obtain ⟨z1, hz1⟩ := HW.out.ne
      subst hz1
      clear HC hb1 hok
      go_wp2_with fail
      refine (num_wrong 2 (by omega) _ _ HW.out).mono ?_
      rintro e w' ⟨rfl, rfl⟩
      go_wp2_with fail
      refine (awake_any _).mono ?_
      rintro e W2 ⟨rfl, hb2⟩
      have S2 := Lib.hid (below_chain S1.out hb2.out)
      go_wp2_with fail
      go_ret
      exact ⟨rfl, S2⟩
end Go.Proofs.Ytopfdeihjjikiaa
