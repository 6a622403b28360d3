/- IdealDoubts: true, whatever its arguments are. Conditions: the list's cells. -/
import Derived.Test.YtfmlognahcaacaaDoubtMath
import Derived.Test.YtfmlognahcaacaaWordsShared
set_option linter.unusedVariables false
set_option linter.unusedSimpArgs false
set_option maxRecDepth 20000
namespace Go.Proofs.Ytfmlognahcaacaa
open Go.RowKit

theorem row_int1 (W : World) (x : Int) (hx : intK.wf x) : intK.Row (W.alloc (.cells #[.int .i64 x] 3)) W.heap.size (some ⟨W.heap.size, 0, none⟩) 1 1 [x] := by
  refine ⟨?_, fun v hv => by rw [List.mem_singleton.1 hv]; exact hx⟩
  have := World.ownsRow_lit (base := W.heap.size) (e := intK.T) (size := intK.k) W #[.int .i64 x] 1 (Nat.le_refl _) (by unfold maxLen; omega) rfl
  exact this
theorem u64_9 : U64 9 := ⟨by decide, by decide⟩
theorem u64_8 : U64 8 := ⟨by decide, by decide⟩
/-- A box of an order is written: its data. -/
theorem box_put {fp : Nat → Prop} {w : World} {base o : Nat} {s : IS} {g : Nat} {cs : Array Value} {T : TypeId} (hB : RestC fp w g cs T) (k : Nat) (v : Value) : Turn (fun b => b = g) w (w.setCell ⟨g, k, none⟩ v) := Turn.of_setCell _ _ rfl
set_option maxHeartbeats 8000000 in
theorem doubts_great (x0 : Int) (A : Option Addr) (n c : Nat) (xa xb : Int) (w : World) (hn : 6 < (n : Int)) : Calls Try.prog 7 #[.int .i64 x0, .slice A n c, .int .i64 xa, .int .i64 xb] w (SaysB w true) := by
  have d1 : decide (6 < (n : Int)) = true := decide_eq_true hn
  go_enter Try.func7, Try.ntmps7
  go_wp2_with fail
  refine (new_yes18 200 (by decide) (by decide) w).mono ?_
  rintro e W0 ⟨o, fp, rfl, hI, hB⟩
  have S0 := Lib.hid hB.out
  clear hI hB
  go_wp2_with fail
  refine (awake18_any W0).mono ?_
  rintro e W1 ⟨rfl, hB⟩
  have S1 := Lib.hid (below_chain S0.out hB.out)
  clear hB S0
  go_wp2_with fail
  go_ret
  exact ⟨rfl, S1⟩
theorem rest_or {fp fq : Nat → Prop} {w w' : World} {base n c : Nat} {A : Option Addr} {bs : List Nat} (h : Rest fp w base A n c bs) (hb : Below w.heap.size w w') (hq : ∀ b, fq b → w.heap.size ≤ b) : Rest (Or2 fp fq) w' base A n c bs := ⟨(h.since hb).own, fun b hb hf => by
  rcases hf with h1 | h1
  · exact h.safe b hb h1
  · have := hq b h1; have := h.own.blk_lt b hb; omega⟩
theorem restk_or {fp fq : Nat → Prop} {w w' : World} {base n c : Nat} {A : Option Addr} {vs : List Int} (h : RestK intK fp w base A n c vs) (hb : Below w.heap.size w w') (hq : ∀ b, fq b → w.heap.size ≤ b) : RestK intK (Or2 fp fq) w' base A n c vs := ⟨(h.since hb).row, fun b hb hf => by
  rcases hf with h1 | h1
  · exact h.safe b hb h1
  · have := hq b h1; have := Row.blk_lt h.row b hb; omega⟩
theorem restc_or {fp fq : Nat → Prop} {w w' : World} {b : Nat} {cs : Array Value} {T : TypeId} (h : RestC fp w b cs T) (hb : Below w.heap.size w w') (hq : ∀ b, fq b → w.heap.size ≤ b) : RestC (Or2 fp fq) w' b cs T := ⟨(h.since hb).row, fun hf => by
  rcases hf with h1 | h1
  · exact h.safe h1
  · have := hq b h1; have := h.lt; omega⟩
theorem cell_since {w w' : World} (hb : Below w.heap.size w w') {p : Addr} {v : Value} (h : w.cell? p = some v) : w'.cell? p = some v := (Below.cell hb (World.block_lt_of_cell? w p h)).trans h
theorem cell_turn {fp : Nat → Prop} {w w' : World} (ht : Turn fp w w') {p : Addr} {v : Value} (hp : ¬ fp p.block) (h : w.cell? p = some v) : w'.cell? p = some v := (same_cell (ht.block p.block (World.block_lt_of_cell? w p h) hp) rfl).trans h
set_option maxHeartbeats 8000000 in
theorem doubts_main (x0 : Int) (A : Option Addr) (n c : Nat) (l : List Int) (xa xb : Int) (w : World) (hn : n ≤ 6) (hA : intK.Lie w w.heap.size A n l) (hx0 : intK.wf x0) : Calls Try.prog 7 #[.int .i64 x0, .slice A n c, .int .i64 xa, .int .i64 xb] w (SaysB w true) := by
  have d1 : decide (6 < (n : Int)) = false := decide_eq_false (by omega)
  have HNN : Hid (n ≤ 6) := by show _ ≤ _; omega
  have HA := Lib.hid hA
  have HX0 := Lib.hid hx0
  clear hA hx0
  have HSMALL : Hid (∀ (k : Nat), k ≤ n → (x0 :: l.take k).length ≤ 7) := fun k hk => by have := HNN.out; rw [List.length_cons, List.length_take]; omega
  go_enter Try.func7, Try.ntmps7
  go_wp2_with fail
  refine (new_yes18 200 (by decide) (by decide) w).mono ?_
  rintro e W0 ⟨o, fp0, rfl, hI, hB⟩
  have S0 := Lib.hid hB.out
  have I0 := Lib.hid hI.out
  clear hI hB
  go_wp2_with fail
  refine (fill_any x0 200 W0 (by decide)).mono ?_
  rintro e W1 ⟨A1, n1, c1, rfl, hO, hB⟩
  obtain rfl : 200 = n1 := by rw [← hO.len]; exact (F2_len x0).symm
  have S1 := Lib.hid (below_chain S0.out hB)
  have O1 := Lib.hid hO
  have I1 := Lib.hid (I0.out.since hB)
  clear hO hB S0 I0
  obtain ⟨g, HG⟩ : ∃ g, Hid (W1.heap.size = g) := ⟨_, rfl⟩
  obtain ⟨W2, HW2⟩ : ∃ W, Hid (W1.alloc (.cells #[.int .i64 1, .int .u64 9, .slice A1 200 c1, .int .i64 0] 32) = W) := ⟨_, rfl⟩
  have hB2 : Below W1.heap.size W1 W2 := by rw [← HW2.out]; exact (Below.refl _ _).alloc (Nat.le_refl _) _
  have B2 : Hid (RestC fp0 W2 g #[.int .i64 1, .int .u64 9, .slice A1 200 c1, .int .i64 0] 32) := by show RestC _ _ _ _ _; rw [← HW2.out, ← HG.out]; exact RestC.new W1 _ _ I1.out.lt
  have HGW : Hid (w.heap.size ≤ g) := by show _ ≤ _; rw [← HG.out]; exact S1.out.size
  have S2 := Lib.hid (below_chain S1.out hB2)
  have I2 := Lib.hid (I1.out.since hB2)
  have O2 := Lib.hid ((O1.out.since hB2).bytes)
  clear hB2 S1 I1 O1
  obtain ⟨s0, ht0, hdb0⟩ := db_start x0
  have HT0 := Lib.hid ht0
  have HD0 := Lib.hid hdb0
  clear ht0 hdb0
  go_wp2_with fail
  rw [HW2.out, HG.out]
  refine (take_at I2.out ⟨1, 9, A1, 200, c1, 0⟩ ⟨1, 0, none, 0, 0, false, none, 0, 0⟩ (F2 x0) [] _ HT0.out u64_9 O2.out Bytes.none_ (by show 1 ≤ 400; decide) (by show 0 ≤ 900; decide) rfl).mono ?_
  rintro e W3 ⟨rfl, fp3, hI, hM⟩
  have S3 := Lib.hid (hM.out.below S2.out I2.out.ge S2.out.size)
  have B3 := Lib.hid (B2.out.step hM.out)
  have I3 := Lib.hid hI.out
  clear hI hM S2 I2 O2 B2 HW2
  obtain ⟨W4, HW4⟩ : ∃ W, Hid (W3.alloc (.cells #[.int .i64 x0] 3) = W) := ⟨_, rfl⟩
  obtain ⟨g4, HG4⟩ : ∃ g, Hid (W3.heap.size = g) := ⟨_, rfl⟩
  have hB4 : Below W3.heap.size W3 W4 := by rw [← HW4.out]; exact (Below.refl _ _).alloc (Nat.le_refl _) _
  have R4 : Hid (RestK intK fp3 W4 w.heap.size (some ⟨g4, 0, none⟩) 1 1 [x0]) := by
    have h1 := RestK.new (fp := fp3) (K := intK) (w := W3) (row_int1 W3 x0 HX0.out) I3.out.lt
    rw [HW4.out, HG4.out] at h1
    exact ⟨h1.row.elder (by rw [← HG4.out]; exact S3.out.size), h1.safe⟩
  have S4 := Lib.hid (below_chain S3.out hB4)
  have I4 := Lib.hid (I3.out.since hB4)
  have B4 := Lib.hid (B3.out.since hB4)
  clear hB4 S3 I3 B3
  go_wp2_with fail
  rw [HW4.out, HG4.out]
  try go_frame
  go_loopw [11, 12] (fun t11 t12 wr => ∃ (k : Nat) (A3 A11 : Option Addr) (c3 c11 : Nat) (fp : Nat → Prop) (s : IS), t12 = .int .i64 k ∧ k ≤ n ∧ t11 = .slice A11 (k + 1) c11 ∧ Hid (IdAt wr w.heap.size fp o s) ∧ Hid (DB s (x0 :: l.take k)) ∧ Hid (RestK intK fp wr w.heap.size A11 (k + 1) c11 (x0 :: l.take k)) ∧ Hid (RestC fp wr g #[.int .i64 1, .int .u64 9, .slice A3 200 c3, .int .i64 0] 32) ∧ Hid (Below w.heap.size w wr)) (fun _ t12 _ => n - (intOf t12).toNat)
  case atStart => exact ⟨0, A1, some ⟨g4, 0, none⟩, c1, 1, fp3, s0, rfl, Nat.zero_le _, rfl, I4, HD0, R4, B4, S4⟩
  case round =>
    clear I4 HD0 R4 B4 S4 HT0
    obtain ⟨k, A3, A11, c3, c11, fp, s, rfl, hk, rfl, HI, HDB, HR, HB, HS⟩ := hrel
    have i0 : (0 : Int) ≤ (k : Int) := by omega
    by_cases hlt : k < n
    · have i1 : (k : Int) < (n : Int) := by omega
      have i2 : (n : Int) ≤ 6 := by have := HNN.out; omega
      have HKN : Hid (k < n) := hlt
      have lA := (HA.out.below HS.out)
      obtain ⟨ad, rfl, hadb, hcell⟩ := int_at lA hlt
      obtain ⟨v, HV⟩ : ∃ v, Hid (l.getD k 0 = v) := ⟨_, rfl⟩
      have HNX : Hid (l.take (k + 1) = l.take k ++ [v]) := by
        show _ = _
        have hkl : k < l.length := by have := lA.len; omega
        rw [List.take_add_one, List.getElem?_eq_getElem hkl, ← HV.out, List.getD_eq_getElem?_getD, List.getElem?_eq_getElem hkl]; rfl
      have HVW : Hid (intK.wf v) := by
        have hkl : k < l.length := by have := lA.len; omega
        have h1 := lA.wf k
        rw [show intK.dflt = 0 from rfl, HV.out] at h1; exact h1
      rw [HV.out] at hcell
      have HADB := Lib.hid hadb
      have HCELL := Lib.hid hcell
      clear lA hadb
      go_wp2_with fail
      refine (fill_any v 200 wr (by decide)).mono ?_
      rintro e W5 ⟨A5, n5, c5, rfl, hO, hB⟩
      obtain rfl : 200 = n5 := by rw [← hO.len]; exact (F2_len v).symm
      have S5 := Lib.hid (below_chain HS.out hB)
      have Z5 := Lib.hid (Rest.new hO HI.out.lt)
      have I5 := Lib.hid (HI.out.since hB)
      have R5 := Lib.hid (HR.out.since hB)
      have B5 := Lib.hid (HB.out.since hB)
      have hcell := cell_since hB HCELL.out
      have HCELL := Lib.hid hcell
      clear hO hB HS HI HR HB hcell
      have hT6 := box_put (base := 0) (o := 0) (s := s) B5.out 2 (.slice A5 200 c5)
      have B6 : Hid (RestC fp (W5.setCell ⟨g, 2, none⟩ (.slice A5 200 c5)) g #[.int .i64 1, .int .u64 9, .slice A5 200 c5, .int .i64 0] 32) := B5.out.put 2 (.slice A5 200 c5)
      obtain ⟨W6, HW6⟩ : ∃ W, Hid (W5.setCell ⟨g, 2, none⟩ (.slice A5 200 c5) = W) := ⟨_, rfl⟩
      have e0 := B6.out.cell 0
      have e1 := B6.out.cell 1
      have e2 := B6.out.cell 2
      have e3 := B6.out.cell 3
      simp only [List.getElem?_toArray, List.getElem?_cons_zero, List.getElem?_cons_succ] at e0 e1 e2 e3
      have b0 := B5.out.cell 0
      have b1 := B5.out.cell 1
      have b2 := B5.out.cell 2
      have b3 := B5.out.cell 3
      simp only [List.getElem?_toArray, List.getElem?_cons_zero, List.getElem?_cons_succ] at b0 b1 b2 b3
      have f2 := B5.out.free 2
      rw [HW6.out] at hT6 B6
      have S6 : Hid (Below w.heap.size w W6) := Turn.chain S5.out hT6 (fun b hb => by rw [hb]; exact HGW.out) S5.out.size
      have I6 : Hid (IdAt W6 w.heap.size fp o s) := I5.out.turn hT6 fun b hb e => B5.out.safe (by rw [← e]; exact hb)
      have R6 : Hid (RestK intK fp W6 w.heap.size A11 (k + 1) c11 (x0 :: l.take k)) := R5.out.keep hT6 fun b hb e => B5.out.not_row R5.out.row (by decide) (by rw [← e]; exact hb)
      have O6 : Hid (Bytes W6 W6.heap.size A5 200 (F2 v)) := (Own.at_block Z5.out.own fun b hb => hT6.block b (Own.blk_lt Z5.out.own b hb) fun e => by
        obtain ⟨cur, hc⟩ := Own.typed Z5.out.own b hb
        rw [e] at hc
        exact absurd (other_type hc B5.out.row) (by decide)).bytes
      have hcell : W6.cell? (ad.add k) = some (.int .i64 v) := (cell_turn hT6 (fun e => by have := HADB.out; have := HGW.out; rw [addr_block] at e; omega) HCELL.out)
      have HCELL := Lib.hid hcell
      obtain ⟨s7, ht7, hdb7⟩ := db_next HDB.out (by simp) v
      have HT7 := Lib.hid ht7
      have HD7 : Hid (DB s7 (x0 :: l.take (k + 1))) := by show DB _ _; rw [HNX.out]; exact hdb7
      have HSM := Lib.hid (HDB.out.small (HSMALL.out k hk))
      clear hT6 hcell ht7 hdb7 S5 I5 R5 Z5 B5 HDB
      go_wp2_with fail
      rw [HW6.out]
      clear b0 b1 b2 b3
      clear f2
      clear e0 e1 e2 e3
      refine (take_at I6.out ⟨1, 9, A5, 200, c5, 0⟩ ⟨4, 4, none, 0, 0, false, none, 0, 0⟩ (F2 v) [] _ HT7.out u64_9 O6.out Bytes.none_ (Nat.le_trans (HSM.out.l 9) (by decide)) (Nat.le_trans HSM.out.k (by decide)) rfl).mono ?_
      rintro e W7 ⟨rfl, fp7, hI, hM⟩
      have S7 := Lib.hid (hM.out.below S6.out I6.out.ge S6.out.size)
      have B7 := Lib.hid (B6.out.step hM.out)
      have R7 := Lib.hid (R6.out.step hM.out)
      have I7 := Lib.hid hI.out
      have hcell := (HA.out.below S7.out)
      obtain ⟨ad2, ea, _, hcell⟩ := int_at hcell HKN.out
      obtain rfl := Option.some.inj ea
      rw [HV.out] at hcell
      obtain ⟨A8, c8, W8, hrun, hR8, hT8⟩ := R7.out.append S7.out.size I7.out.lt v HVW.out #[.int .i64 v] rfl (by have := HNN.out; have := HKN.out; omega)
      have RUN := Lib.hid hrun
      have R8 : Hid (RestK intK fp7 W8 w.heap.size A8 (k + 1 + 1) c8 (x0 :: l.take (k + 1))) := by show RestK _ _ _ _ _ _ _ _; rw [HNX.out]; exact hR8
      have S8 : Hid (Below w.heap.size w W8) := Turn.chain S7.out hT8 (fun b hb => Row.blk_ge R7.out.row b hb) S7.out.size
      have I8 : Hid (IdAt W8 w.heap.size fp7 o s7) := I7.out.turn hT8 fun b hb e => R7.out.safe b e hb
      have B8 : Hid (RestC fp7 W8 g #[.int .i64 1, .int .u64 9, .slice A5 200 c5, .int .i64 0] 32) := B7.out.keep hT8 (B7.out.not_row R7.out.row (by decide))
      clear hI hM S6 I6 R6 B6 O6 ea hrun hR8 hT8 S7 I7 R7 B7 HT7
      go_wp2_with (at_builtin; refine wpList_append_run rfl (.tmp 61) (.tmp 66) 56 rfl rfl rfl RUN.out ?_)
      go_roundw
      case rel => exact ⟨k + 1, A5, A8, c5, c8, fp7, s7, by go_num, by have := HKN.out; omega, by go_num, I8, HD7, R8, B8, S8⟩
      case measure => have := HKN.out; simp [intOf]; omega
    · have HKE : Hid (k = n) := by show _ = _; omega
      have i1 : ¬ (k : Int) < (n : Int) := by omega
      have HTK : Hid (l.take k = l) := by show _ = _; rw [HKE.out, ← HA.out.len]; exact List.take_length
      rw [HTK.out] at HDB HR
      have HLL : Hid ((x0 :: l).length = k + 1) := by show _ = _; rw [List.length_cons, HA.out.len, HKE.out]
      have HL7 : Hid ((x0 :: l).length ≤ 7) := by show _ ≤ _; have := HLL.out; have := HKE.out; have := HNN.out; omega
      have HK6 : Hid (k ≤ 6) := by show _ ≤ _; rw [HKE.out]; exact HNN.out
      have i2 : (k : Int) ≤ 6 := by have := HK6.out; omega
      obtain ⟨W9, HW9⟩ : ∃ W, Hid (wr.alloc (.cells #[.int .i64 3, .int .u64 9, .slice none 0 0, .int .i64 0] 32) = W) := ⟨_, rfl⟩
      obtain ⟨g9, HG9⟩ : ∃ g, Hid (wr.heap.size = g) := ⟨_, rfl⟩
      have hB9 : Below wr.heap.size wr W9 := by rw [← HW9.out]; exact (Below.refl _ _).alloc (Nat.le_refl _) _
      have B9 : Hid (RestC fp W9 g9 #[.int .i64 3, .int .u64 9, .slice none 0 0, .int .i64 0] 32) := by show RestC _ _ _ _ _; rw [← HW9.out, ← HG9.out]; exact RestC.new wr _ _ HI.out.lt
      have S9 := Lib.hid (below_chain HS.out hB9)
      have I9 := Lib.hid (HI.out.since hB9)
      have R9 := Lib.hid (HR.out.since hB9)
      clear hB9 HS HI HR HB
      obtain ⟨pa, HPA⟩ : ∃ q : Nat, Hid (lowM xa ((k : Int) + 1) = (q : Int)) := ⟨(lowM xa ((k : Int) + 1)).toNat, by show _ = _; have := lowM_bd xa ((k : Int) + 1) (by omega); omega⟩
      obtain ⟨pb, HPB⟩ : ∃ q : Nat, Hid (lowM xb ((k : Int) + 1) = (q : Int)) := ⟨(lowM xb ((k : Int) + 1)).toNat, by show _ = _; have := lowM_bd xb ((k : Int) + 1) (by omega); omega⟩
      have hpa : pa < k + 1 := by have h1 := lowM_bd xa ((k : Int) + 1) (by omega); rw [HPA.out] at h1; omega
      have hpb : pb < k + 1 := by have h1 := lowM_bd xb ((k : Int) + 1) (by omega); rw [HPB.out] at h1; omega
      obtain ⟨va, HVA⟩ : ∃ v, Hid ((x0 :: l).getD pa 0 = v) := ⟨_, rfl⟩
      obtain ⟨vb, HVB⟩ : ∃ v, Hid ((x0 :: l).getD pb 0 = v) := ⟨_, rfl⟩
      have HMEM : Hid (∀ j, j < k + 1 → (x0 :: l).getD j 0 ∈ x0 :: l) := fun j hj => by
        have h1 : j < (x0 :: l).length := by have := HLL.out; omega
        rw [List.getD_eq_getElem?_getD, List.getElem?_eq_getElem h1]; exact List.getElem_mem h1
      have HMA : Hid (va ∈ x0 :: l) := by show _ ∈ _; rw [← HVA.out]; exact HMEM.out pa hpa
      have HMB : Hid (vb ∈ x0 :: l) := by show _ ∈ _; rw [← HVB.out]; exact HMEM.out pb hpb
      have CLA := Lib.hid (low_any xa ((k : Int) + 1) (by omega) (by omega) W9)
      rw [HPA.out] at CLA
      obtain ⟨ad, rfl, hadb, hca⟩ := int_at R9.out.row.lie hpa
      rw [HVA.out] at hca
      have p0 : (0 : Int) ≤ (pa : Int) := by omega
      have p1 : (pa : Int) < (k : Int) + 1 := by omega
      have p2 : (0 : Int) ≤ (pb : Int) := by omega
      have p3 : (pb : Int) < (k : Int) + 1 := by omega
      have HPAB : Hid (pa < k + 1 ∧ pb < k + 1) := ⟨hpa, hpb⟩
      clear hpa hpb hadb
      go_wp2_with fail
      rw [HW9.out, HG9.out]
      refine CLA.out.mono ?_
      rintro e w10 ⟨rfl, hw⟩
      rw [← hw]
      clear hw CLA
      go_wp2_with fail
      refine (fill_any va 200 W9 (by decide)).mono ?_
      rintro e W10 ⟨A10, n10, c10, rfl, hO, hB⟩
      obtain rfl : 200 = n10 := by rw [← hO.len]; exact (F2_len va).symm
      have Zx := Lib.hid (Rest.new hO I9.out.lt)
      have S10 := Lib.hid (below_chain S9.out hB)
      have I10 := Lib.hid (I9.out.since hB)
      have R10 := Lib.hid (R9.out.since hB)
      have B10 := Lib.hid (B9.out.since hB)
      clear hO hB hca S9 I9 R9 B9
      have CLB := Lib.hid (low_any xb ((k : Int) + 1) (by omega) (by omega) W10)
      rw [HPB.out] at CLB
      obtain ⟨ad2, ea, _, hcb⟩ := int_at R10.out.row.lie HPAB.out.2
      obtain rfl := Option.some.inj ea
      rw [HVB.out] at hcb
      clear ea
      go_wp2_with fail
      refine CLB.out.mono ?_
      rintro e w10 ⟨rfl, hw⟩
      rw [← hw]
      clear hw CLB
      go_wp2_with fail
      refine (fill_any vb 200 W10 (by decide)).mono ?_
      rintro e W11 ⟨A11, n11, c11, rfl, hO, hB⟩
      obtain rfl : 200 = n11 := by rw [← hO.len]; exact (F2_len vb).symm
      have Zy := Lib.hid (Rest.new hO I10.out.lt)
      have S11 := Lib.hid (below_chain S10.out hB)
      have I11 := Lib.hid (I10.out.since hB)
      have R11 := Lib.hid (R10.out.since hB)
      have B11 := Lib.hid (B10.out.since hB)
      have Zx := Lib.hid (Zx.out.since hB)
      clear hO hB hcb S10 I10 R10 B10
      have HSM := Lib.hid (HDB.out.small HL7.out)
      go_wp2_with fail
      refine (copy_at I11.out (Nat.le_trans HSM.out.k (by decide)) (fun y => Nat.le_trans (HSM.out.l y) (by decide))).mono ?_
      rintro e W12 ⟨oc, fc, rfl, hC, hB⟩
      have S12 := Lib.hid (below_chain S11.out hB.out)
      have I12 := Lib.hid (I11.out.since hB.out)
      have C12 := Lib.hid hC.out
      have T12 : Hid (Two fp fc) := fun b h1 h2 => by have h3 := I11.out.lt b h1; have h4 := hC.out.ge b h2; omega
      have HCG : Hid (∀ b, fc b → w.heap.size ≤ b) := fun b h2 => Nat.le_trans S11.out.size (hC.out.ge b h2)
      have Zx := Lib.hid (rest_or Zx.out hB.out hC.out.ge)
      have Zy := Lib.hid (rest_or Zy.out hB.out hC.out.ge)
      have R12 := Lib.hid (restk_or R11.out hB.out hC.out.ge)
      have B12 := Lib.hid (restc_or B11.out hB.out hC.out.ge)
      clear hC hB S11 I11 R11 B11
      go_wp2_with fail
      try go_frame
      go_loopw [17] (fun t17 wr => ∃ j : Nat, t17 = .int .i64 j ∧ j ≤ k + 1 ∧ Hid (Below W12.heap.size W12 wr)) (fun t17 _ => k + 1 - (intOf t17).toNat)
      case atStart => exact ⟨0, rfl, Nat.zero_le _, Below.refl _ _⟩
      case round =>
        obtain ⟨j, rfl, hj, HBJ⟩ := hrel
        have j0 : (0 : Int) ≤ (j : Int) := by omega
        have I13 := Lib.hid (I12.out.since HBJ.out)
        have R13 := Lib.hid (R12.out.since HBJ.out)
        by_cases hjl : j < k + 1
        · have j1 : (j : Int) < (k : Int) + 1 := by omega
          have j2 : (j : Int) ≤ 6 := by omega
          have HJL : Hid (j < k + 1) := hjl
          obtain ⟨v, HV⟩ : ∃ v, Hid ((x0 :: l).getD j 0 = v) := ⟨_, rfl⟩
          have HM : Hid (v ∈ x0 :: l) := by show _ ∈ _; rw [← HV.out]; exact HMEM.out j hjl
          obtain ⟨ad2, ea, _, hcb⟩ := int_at R13.out.row.lie hjl
          obtain rfl := Option.some.inj ea
          rw [HV.out] at hcb
          clear ea
          go_wp2_with fail
          refine (fill_any v 200 _ (by decide)).mono ?_
          rintro e W14 ⟨A14, n14, c14, rfl, hO, hB⟩
          obtain rfl : 200 = n14 := by rw [← hO.len]; exact (F2_len v).symm
          have HBJ := Lib.hid (below_chain HBJ.out hB)
          have I14 := Lib.hid (I13.out.since hB)
          have R14 := Lib.hid (R13.out.since hB)
          have O14 := Lib.hid hO.bytes
          clear hO hB hcb I13 R13
          go_wp2_with fail
          refine (can_at I14.out 9 ⟨2, 0, A14, 200, c14, true, none, 0, 0⟩ (F2 v) _ (db_can HDB.out HM.out) u64_9 O14.out (Nat.le_trans (HSM.out.l 9) (by decide))).mono ?_
          rintro e W15 ⟨rfl, hB⟩
          have HBJ := Lib.hid (below_chain HBJ.out hB)
          have I15 := Lib.hid (I14.out.since hB)
          have R15 := Lib.hid (R14.out.since hB)
          clear hB I14 R14 O14
          obtain ⟨ad2, ea, _, hcb⟩ := int_at R15.out.row.lie HJL.out
          obtain rfl := Option.some.inj ea
          rw [HV.out] at hcb
          clear ea
          go_wp2_with fail
          refine (fill_any v 200 _ (by decide)).mono ?_
          rintro e W16 ⟨A16, n16, c16, rfl, hO, hB⟩
          obtain rfl : 200 = n16 := by rw [← hO.len]; exact (F2_len v).symm
          have HBJ := Lib.hid (below_chain HBJ.out hB)
          have I16 := Lib.hid (I15.out.since hB)
          have O16 := Lib.hid hO.bytes
          clear hO hB hcb I15 R15
          go_wp2_with fail
          refine (can_at I16.out 9 ⟨2, 0, A16, 200, c16, false, none, 0, 0⟩ (F2 v) _ (db_cannot HDB.out v) u64_9 O16.out (Nat.le_trans (HSM.out.l 9) (by decide))).mono ?_
          rintro e W17 ⟨rfl, hB⟩
          have HBJ := Lib.hid (below_chain HBJ.out hB)
          clear hB I16 O16
          go_wp2_with fail
          go_roundw
          case rel => exact ⟨j + 1, by go_num, by have := HJL.out; omega, HBJ⟩
          case measure => have := HJL.out; simp [intOf]; omega
        · have HJE : Hid (j = k + 1) := by show _ = _; omega
          have j1 : ¬ (j : Int) < (k : Int) + 1 := by omega
          have S13 := Lib.hid (below_chain S12.out HBJ.out)
          have C13 := Lib.hid (C12.out.since HBJ.out)
          have Zx := Lib.hid (Zx.out.since HBJ.out)
          have Zy := Lib.hid (Zy.out.since HBJ.out)
          have B13 := Lib.hid (B12.out.since HBJ.out)
          obtain ⟨sx, htx, hdx⟩ := db_told HDB.out HL7.out HMA.out
          have HTX := Lib.hid htx
          have HDX := Lib.hid hdx
          obtain ⟨sy, hty, hdy⟩ := db_told HDB.out HL7.out HMB.out
          have HTY := Lib.hid hty
          have HDY := Lib.hid hdy
          obtain ⟨q, HQ⟩ : ∃ q, Hid (decide (F2 va = F2 vb) = q) := ⟨_, rfl⟩
          clear htx hdx hty hdy HBJ S12 C12 B12 I12 R12 R13
          have b0 := B13.out.cell 0
          have b1 := B13.out.cell 1
          have b2 := B13.out.cell 2
          have b3 := B13.out.cell 3
          simp only [List.getElem?_toArray, List.getElem?_cons_zero, List.getElem?_cons_succ] at b0 b1 b2 b3
          go_wp2_with fail
          clear b0 b1 b2 b3
          refine (take_at I13.out ⟨3, 9, none, 0, 0, 0⟩ ⟨2, 0, A10, 200, c10, true, none, 0, 0⟩ [] (F2 va) _ HTX.out u64_9 Bytes.none_ Zx.out.own.bytes (Nat.le_trans (HSM.out.l 9) (by decide)) (Nat.le_trans HSM.out.k (by decide)) rfl).mono ?_
          rintro e W14 ⟨rfl, fp14, hI, hM⟩
          have S14 := Lib.hid (hM.out.below S13.out I13.out.ge S13.out.size)
          have T14 := Lib.hid (T12.out.left hM.out C13.out.lt)
          have C14 := Lib.hid (C13.out.turn hM.out.turn fun b h1 h2 => T12.out b h2 h1)
          have Zx := Lib.hid (Zx.out.step (hM.out.orL fc))
          have Zy := Lib.hid (Zy.out.step (hM.out.orL fc))
          have B14 := Lib.hid (B13.out.step (hM.out.orL fc))
          have I14 := Lib.hid hI.out
          clear hI hM S13 T12 C13 B13 I13
          have b0 := B14.out.cell 0
          have b1 := B14.out.cell 1
          have b2 := B14.out.cell 2
          have b3 := B14.out.cell 3
          simp only [List.getElem?_toArray, List.getElem?_cons_zero, List.getElem?_cons_succ] at b0 b1 b2 b3
          go_wp2_with fail
          clear b0 b1 b2 b3
          refine (take_at C14.out ⟨3, 9, none, 0, 0, 0⟩ ⟨2, 0, A11, 200, c11, true, none, 0, 0⟩ [] (F2 vb) _ HTY.out u64_9 Bytes.none_ Zy.out.own.bytes (Nat.le_trans (HSM.out.l 9) (by decide)) (Nat.le_trans HSM.out.k (by decide)) rfl).mono ?_
          rintro e W15 ⟨rfl, fc15, hI, hM⟩
          have S15 := Lib.hid (hM.out.below S14.out HCG.out S14.out.size)
          have I15 := Lib.hid (I14.out.turn hM.out.turn T14.out)
          have Zx := Lib.hid (Zx.out.step (hM.out.orR fp14))
          have Zy := Lib.hid (Zy.out.step (hM.out.orR fp14))
          have C15 := Lib.hid hI.out
          clear hI hM S14 T14 C14 I14 B14
          go_wp2_with fail
          refine (same_at A10 A11 200 200 c10 c11 (F2 va) (F2 vb) q W15 (by decide) (by decide) Zx.out.own.bytes Zy.out.own.bytes HQ.out).mono ?_
          rintro e W16 ⟨rfl, hB⟩
          have S16 := Lib.hid (below_chain S15.out hB)
          have I16 := Lib.hid (I15.out.since hB)
          have C16 := Lib.hid (C15.out.since hB)
          have Zx := Lib.hid (Zx.out.since hB)
          have Zy := Lib.hid (Zy.out.since hB)
          clear S15 I15 C15
          clear hB
          go_wp2_with fail
          refine (dirty_at I16.out (by rw [HDX.out.ks]; decide) (fun y => Nat.le_trans (HDX.out.small.l y) (by decide))).mono ?_
          rintro e W17 ⟨D1, dn1, dc1, D2, dn2, dc2, rfl, hT, hB⟩
          rw [dt_sure HDX.out, dt_dirs HDX.out] at hT
          obtain rfl : 1 = dn1 := hT.out.one.len
          obtain rfl : 1 = dn2 := hT.out.two.len
          have S17 := Lib.hid (below_chain S16.out hB.out)
          have I17 := Lib.hid (I16.out.since hB.out)
          have C17 := Lib.hid (C16.out.since hB.out)
          have Zx := Lib.hid (Zx.out.since hB.out)
          have Zy := Lib.hid (Zy.out.since hB.out)
          clear S16 I16 C16
          have TW := Lib.hid hT.out
          clear hB hT
          have HQ2 : Hid (decide (F2 vb = F2 va) = q) := by show _ = _; rw [← HQ.out]; exact decide_eq_decide.2 eq_comm
          cases q
          · go_wp2_with fail
            refine (can_at I17.out 9 ⟨2, 0, A11, 200, c11, true, none, 0, 0⟩ (F2 vb) _ ((dt_can HDX.out F2_lt F2_lt).trans HQ.out) u64_9 Zy.out.own.bytes (Nat.le_trans (HDX.out.small.l 9) (by decide))).mono ?_
            rintro e W18 ⟨rfl, hB⟩
            have S18 := Lib.hid (below_chain S17.out hB)
            have I18 := Lib.hid (I17.out.since hB)
            have C18 := Lib.hid (C17.out.since hB)
            have Zx := Lib.hid (Zx.out.since hB)
            have Zy := Lib.hid (Zy.out.since hB)
            have TW := Lib.hid (TW.out.since hB)
            clear S17 I17 C17
            clear hB
            go_wp2_with fail
            refine (can_at C18.out 9 ⟨2, 0, A10, 200, c10, true, none, 0, 0⟩ (F2 va) _ ((dt_can HDY.out F2_lt F2_lt).trans HQ2.out) u64_9 Zx.out.own.bytes (Nat.le_trans (HDY.out.small.l 9) (by decide))).mono ?_
            rintro e W19 ⟨rfl, hB⟩
            have S19 := Lib.hid (below_chain S18.out hB)
            have I19 := Lib.hid (I18.out.since hB)
            have C19 := Lib.hid (C18.out.since hB)
            have Zx := Lib.hid (Zx.out.since hB)
            have Zy := Lib.hid (Zy.out.since hB)
            have TW := Lib.hid (TW.out.since hB)
            clear S18 I18 C18
            clear hB
            obtain ⟨W20, HW20⟩ : ∃ W, Hid (W19.alloc (.cells #[.int .u64 9] 29) = W) := ⟨_, rfl⟩
            have hL20 := Kind.new1 (K := wordK) W19 9 u64_9 #[.int .u64 9] rfl
            have hB20 : Below W19.heap.size W19 W20 := by rw [← HW20.out]; exact (Below.refl _ _).alloc (Nat.le_refl _) _
            have hL20 : wordK.Lie W20 W20.heap.size (some ⟨W19.heap.size, 0, none⟩) 1 [9] := by rw [← HW20.out]; exact hL20
            have HL20 := Lib.hid hL20
            have S20 := Lib.hid (below_chain S19.out hB20)
            have I20 := Lib.hid (I19.out.since hB20)
            have C20 := Lib.hid (C19.out.since hB20)
            have Zx := Lib.hid (Zx.out.since hB20)
            have Zy := Lib.hid (Zy.out.since hB20)
            have TW := Lib.hid (TW.out.since hB20)
            clear S19 I19 C19
            clear hB20 hL20
            go_wp2_with fail
            rw [HW20.out]
            refine (samewords_yes D1 _ 1 dc1 1 [9] W20 (by decide) TW.out.one.lie HL20.out).mono ?_
            rintro e W21 ⟨rfl, hB⟩
            have S21 := Lib.hid (below_chain S20.out hB)
            have I21 := Lib.hid (I20.out.since hB)
            have C21 := Lib.hid (C20.out.since hB)
            have Zx := Lib.hid (Zx.out.since hB)
            have Zy := Lib.hid (Zy.out.since hB)
            have TW := Lib.hid (TW.out.since hB)
            clear S20 I20 C20
            clear hB HL20
            obtain ⟨W22, HW22⟩ : ∃ W, Hid (W21.alloc (.cells #[.int .u64 9] 29) = W) := ⟨_, rfl⟩
            have hL22 := Kind.new1 (K := wordK) W21 9 u64_9 #[.int .u64 9] rfl
            have hB22 : Below W21.heap.size W21 W22 := by rw [← HW22.out]; exact (Below.refl _ _).alloc (Nat.le_refl _) _
            have hL22 : wordK.Lie W22 W22.heap.size (some ⟨W21.heap.size, 0, none⟩) 1 [9] := by rw [← HW22.out]; exact hL22
            have HL22 := Lib.hid hL22
            have S22 := Lib.hid (below_chain S21.out hB22)
            have I22 := Lib.hid (I21.out.since hB22)
            have C22 := Lib.hid (C21.out.since hB22)
            have Zx := Lib.hid (Zx.out.since hB22)
            have Zy := Lib.hid (Zy.out.since hB22)
            have TW := Lib.hid (TW.out.since hB22)
            clear S21 I21 C21
            clear hB22 hL22
            go_wp2_with fail
            rw [HW22.out]
            refine (samewords_yes D2 _ 1 dc2 1 [9] W22 (by decide) TW.out.two.lie HL22.out).mono ?_
            rintro e W23 ⟨rfl, hB⟩
            have S23 := Lib.hid (below_chain S22.out hB)
            have I23 := Lib.hid (I22.out.since hB)
            have C23 := Lib.hid (C22.out.since hB)
            have Zx := Lib.hid (Zx.out.since hB)
            have Zy := Lib.hid (Zy.out.since hB)
            have TW := Lib.hid (TW.out.since hB)
            clear S22 I22 C22
            clear hB HL22
            go_wp2_with fail
            refine (can_at I23.out 8 ⟨2, 0, A10, 200, c10, true, none, 0, 0⟩ (F2 va) _ (dt_eight HDX.out) u64_8 Zx.out.own.bytes (Nat.le_trans (HDX.out.small.l 8) (by decide))).mono ?_
            rintro e W24 ⟨rfl, hB⟩
            have S24 := Lib.hid (below_chain S23.out hB)
            have I24 := Lib.hid (I23.out.since hB)
            have C24 := Lib.hid (C23.out.since hB)
            have Zx := Lib.hid (Zx.out.since hB)
            have Zy := Lib.hid (Zy.out.since hB)
            clear S23 I23 C23
            clear hB
            go_wp2_with fail
            refine (awake18_any W24).mono ?_
            rintro e W25 ⟨rfl, hB⟩
            have S25 := Lib.hid (below_chain S24.out hB.out)
            clear hB
            go_wp2_with fail
            go_ret
            exact ⟨rfl, S25⟩
          · go_wp2_with fail
            refine (can_at I17.out 9 ⟨2, 0, A11, 200, c11, true, none, 0, 0⟩ (F2 vb) _ ((dt_can HDX.out F2_lt F2_lt).trans HQ.out) u64_9 Zy.out.own.bytes (Nat.le_trans (HDX.out.small.l 9) (by decide))).mono ?_
            rintro e W18 ⟨rfl, hB⟩
            have S18 := Lib.hid (below_chain S17.out hB)
            have I18 := Lib.hid (I17.out.since hB)
            have C18 := Lib.hid (C17.out.since hB)
            have Zx := Lib.hid (Zx.out.since hB)
            have Zy := Lib.hid (Zy.out.since hB)
            have TW := Lib.hid (TW.out.since hB)
            clear S17 I17 C17
            clear hB
            go_wp2_with fail
            refine (can_at C18.out 9 ⟨2, 0, A10, 200, c10, true, none, 0, 0⟩ (F2 va) _ ((dt_can HDY.out F2_lt F2_lt).trans HQ2.out) u64_9 Zx.out.own.bytes (Nat.le_trans (HDY.out.small.l 9) (by decide))).mono ?_
            rintro e W19 ⟨rfl, hB⟩
            have S19 := Lib.hid (below_chain S18.out hB)
            have I19 := Lib.hid (I18.out.since hB)
            have C19 := Lib.hid (C18.out.since hB)
            have Zx := Lib.hid (Zx.out.since hB)
            have Zy := Lib.hid (Zy.out.since hB)
            have TW := Lib.hid (TW.out.since hB)
            clear S18 I18 C18
            clear hB
            obtain ⟨W20, HW20⟩ : ∃ W, Hid (W19.alloc (.cells #[.int .u64 9] 29) = W) := ⟨_, rfl⟩
            have hL20 := Kind.new1 (K := wordK) W19 9 u64_9 #[.int .u64 9] rfl
            have hB20 : Below W19.heap.size W19 W20 := by rw [← HW20.out]; exact (Below.refl _ _).alloc (Nat.le_refl _) _
            have hL20 : wordK.Lie W20 W20.heap.size (some ⟨W19.heap.size, 0, none⟩) 1 [9] := by rw [← HW20.out]; exact hL20
            have HL20 := Lib.hid hL20
            have S20 := Lib.hid (below_chain S19.out hB20)
            have I20 := Lib.hid (I19.out.since hB20)
            have C20 := Lib.hid (C19.out.since hB20)
            have Zx := Lib.hid (Zx.out.since hB20)
            have Zy := Lib.hid (Zy.out.since hB20)
            have TW := Lib.hid (TW.out.since hB20)
            clear S19 I19 C19
            clear hB20 hL20
            go_wp2_with fail
            rw [HW20.out]
            refine (samewords_yes D1 _ 1 dc1 1 [9] W20 (by decide) TW.out.one.lie HL20.out).mono ?_
            rintro e W21 ⟨rfl, hB⟩
            have S21 := Lib.hid (below_chain S20.out hB)
            have I21 := Lib.hid (I20.out.since hB)
            have C21 := Lib.hid (C20.out.since hB)
            have Zx := Lib.hid (Zx.out.since hB)
            have Zy := Lib.hid (Zy.out.since hB)
            have TW := Lib.hid (TW.out.since hB)
            clear S20 I20 C20
            clear hB HL20
            obtain ⟨W22, HW22⟩ : ∃ W, Hid (W21.alloc (.cells #[.int .u64 9] 29) = W) := ⟨_, rfl⟩
            have hL22 := Kind.new1 (K := wordK) W21 9 u64_9 #[.int .u64 9] rfl
            have hB22 : Below W21.heap.size W21 W22 := by rw [← HW22.out]; exact (Below.refl _ _).alloc (Nat.le_refl _) _
            have hL22 : wordK.Lie W22 W22.heap.size (some ⟨W21.heap.size, 0, none⟩) 1 [9] := by rw [← HW22.out]; exact hL22
            have HL22 := Lib.hid hL22
            have S22 := Lib.hid (below_chain S21.out hB22)
            have I22 := Lib.hid (I21.out.since hB22)
            have C22 := Lib.hid (C21.out.since hB22)
            have Zx := Lib.hid (Zx.out.since hB22)
            have Zy := Lib.hid (Zy.out.since hB22)
            have TW := Lib.hid (TW.out.since hB22)
            clear S21 I21 C21
            clear hB22 hL22
            go_wp2_with fail
            rw [HW22.out]
            refine (samewords_yes D2 _ 1 dc2 1 [9] W22 (by decide) TW.out.two.lie HL22.out).mono ?_
            rintro e W23 ⟨rfl, hB⟩
            have S23 := Lib.hid (below_chain S22.out hB)
            have I23 := Lib.hid (I22.out.since hB)
            have C23 := Lib.hid (C22.out.since hB)
            have Zx := Lib.hid (Zx.out.since hB)
            have Zy := Lib.hid (Zy.out.since hB)
            have TW := Lib.hid (TW.out.since hB)
            clear S22 I22 C22
            clear hB HL22
            go_wp2_with fail
            refine (can_at I23.out 8 ⟨2, 0, A10, 200, c10, true, none, 0, 0⟩ (F2 va) _ (dt_eight HDX.out) u64_8 Zx.out.own.bytes (Nat.le_trans (HDX.out.small.l 8) (by decide))).mono ?_
            rintro e W24 ⟨rfl, hB⟩
            have S24 := Lib.hid (below_chain S23.out hB)
            have I24 := Lib.hid (I23.out.since hB)
            have C24 := Lib.hid (C23.out.since hB)
            have Zx := Lib.hid (Zx.out.since hB)
            have Zy := Lib.hid (Zy.out.since hB)
            clear S23 I23 C23
            clear hB
            go_wp2_with fail
            refine (awake18_any W24).mono ?_
            rintro e W25 ⟨rfl, hB⟩
            have S25 := Lib.hid (below_chain S24.out hB.out)
            clear hB
            go_wp2_with fail
            go_ret
            exact ⟨rfl, S25⟩
theorem doubts_law (x0 : Int) (A : Option Addr) (n c : Nat) (l : List Int) (xa xb : Int) (w : World) (hA : intK.Lie w w.heap.size A n l) (hx0 : intK.wf x0) : Calls Try.prog 7 #[.int .i64 x0, .slice A n c, .int .i64 xa, .int .i64 xb] w (SaysB w true) := by
  by_cases h : n ≤ 6
  · exact doubts_main x0 A n c l xa xb w h hA hx0
  · exact doubts_great x0 A n c xa xb w (by omega)
end Go.Proofs.Ytfmlognahcaacaa
