/- The statements' own awake: true. No conditions. -/
import Derived.Test.YtaocppgekinocaaNoteNotes
import Derived.Test.YtaocppgekinocaaNoteShared
set_option linter.unusedVariables false
set_option linter.unusedSimpArgs false
namespace Go.Proofs.Ytaocppgekinocaa
open Go.RowKit

def oneV : V := ⟨false, 1, 2, true, 1⟩
def goneOne : V := ⟨true, 1, 0, false, 1⟩
theorem wf_one : Wf oneV := ⟨by decide, by decide, by decide, by decide, by decide, by decide⟩
theorem wf_gone : Wf goneOne := ⟨by decide, by decide, by decide, by decide, by decide, by decide⟩
theorem one_any (w : World) : Calls Try.prog 29 #[] w fun e w' => e = .returned (noteV oneV) ∧ Hid (Below w.heap.size w w') := by
  have S := Lib.hid (since_alloc (Below.refl w.heap.size w) (.cells #[.bool false, .int .u64 1, .int .i64 2, .bool true, .int .i64 1] 43))
  go_enter Try.func29, Try.ntmps29
  go_wp2
  obtain ⟨r0, r1, r2, r3, r4⟩ := (rowN_new w oneV).at_
  unfold oneV at r0 r1 r2 r3 r4
  dsimp only at r0 r1 r2 r3 r4
  exact bodyPost_ret (v := .agg #[.bool false, .int .u64 1, .int .i64 2, .bool true, .int .i64 1]) (by simp [results, Try.results29, go_sem, r0, r1, r2, r3, r4]) rfl ⟨rfl, S⟩
theorem enc_one : Nt.enc (toN oneV) = [1, 1, 2, 2] := by
  rw [enc_eq]
  show Pk.put 1 ++ (Pk.put 1 ++ (2 :: Pk.put 2)) = _
  rw [Pk.put_small (by omega), Pk.put_small (by omega)]; rfl
theorem enc_gone : Nt.enc (toN goneOne) = [1, 1, 0] := by
  rw [enc_eq]
  show Pk.put 1 ++ (Pk.put 1 ++ (0 :: [])) = _
  rw [Pk.put_small (by omega)]; rfl
theorem flat_one : flatL [oneV] = [1, 1, 2, 2] := by unfold flatL; simp [Nt.flat, enc_one]
theorem flat_two : flatL [oneV, oneV] = [1, 1, 2, 2, 1, 1, 2, 2] := by unfold flatL; simp [Nt.flat, enc_one]
theorem encL_one : encL [oneV] = [1, 1, 1, 2, 2] := by rw [encL_eq, flat_one]; show Pk.put 1 ++ _ = _; rw [Pk.put_small (by omega)]; rfl
theorem size_gone : sizeM [goneOne] = 4 := by
  unfold sizeM
  rw [if_pos (by decide), encL_eq]
  unfold flatL
  simp [Nt.flat, enc_gone, Pk.put_small]
theorem lay_one : layR 128 [oneV] = .inr (Nt.page 128 ([oneV].map toN)) := layR_yes (by decide) (by decide) (by rw [encL_one]; decide)
theorem read_one : readR (Nt.page 128 ([oneV].map toN)) = some [oneV] := readR_laid (by decide) (fun v hv => by rw [List.mem_singleton.1 hv]; exact wf_one) (by omega) (by omega) (by rw [encL_one]; decide)
theorem len_one : (Nt.page 128 ([oneV].map toN)).length = 128 := Nt.page_len (by show (encL [oneV]).length ≤ _; rw [encL_one]; decide)
theorem read_nil : readR [] = none := readR_len (by simp)
theorem fit_one : FitM 5 [oneV, oneV] 1 := by
  refine ⟨fun _ => ⟨by decide, Or.inr ?_, Or.inr ?_⟩, fun h => by cases h⟩
  · rw [szL (by decide)]
    show (((Pk.put 1).length + (flatL [oneV]).length : Nat) : Int) ≤ 5
    rw [flat_one, Pk.put_small (by omega)]; decide
  · rw [szL (by decide)]
    show (5 : Int) < (((Pk.put 2).length + (flatL [oneV, oneV]).length : Nat) : Int)
    rw [flat_two, Pk.put_small (by omega)]; decide
theorem notes_new2 (W : World) (u v : V) (hu : Wf u) (hv : Wf v) (cs : Array Value) (hcs : cs = (cellsN [u, v]).toArray) : Notes (W.alloc (.cells cs 43)) (W.alloc (.cells cs 43)).heap.size (some ⟨W.heap.size, 0, none⟩) 2 [u, v] := by
  subst hcs
  exact notes_of rfl (fun x hx => by
    rcases List.mem_cons.1 hx with rfl | hx
    · exact hu
    · rw [List.mem_singleton.1 hx]; exact hv) (by simp) fun j x hx => by rw [cell_new]; simpa using hx
set_option maxHeartbeats 8000000 in
theorem awake_with (ps : List Nat) (w : World) (HLAY : Hid (layR 128 [oneV] = .inr ps)) (HRD : Hid (readR ps = some [oneV])) (HLEN : Hid (ps.length = 128)) : Calls Try.prog 8 #[] w (SaysB w true) := by
  go_enter Try.func8, Try.ntmps8
  go_wp2_with fail
  refine (one_any _).mono ?_
  rintro e W1 ⟨rfl, hb1⟩
  have S1 := Lib.hid (since_alloc hb1.out (.cells #[.bool false, .int .u64 1, .int .i64 2, .bool true, .int .i64 1] 43))
  have N1 : Hid (Notes (W1.alloc (.cells #[.bool false, .int .u64 1, .int .i64 2, .bool true, .int .i64 1] 43)) (W1.alloc (.cells #[.bool false, .int .u64 1, .int .i64 2, .bool true, .int .i64 1] 43)).heap.size (some ⟨W1.heap.size, 0, none⟩) 1 [oneV]) := notes_new1 W1 oneV wf_one
  unfold noteV oneV
  dsimp only
  go_wp2_with fail
  refine (lay_any (some ⟨W1.heap.size, 0, none⟩) 1 1 128 [oneV] _ (by omega) N1.out).mono ?_
  rw [HLAY.out]
  rintro e W2 ⟨A2, n2, c2, rfl, HO2, hb2⟩
  have S2 := Lib.hid (below_chain S1.out hb2.out)
  obtain rfl : 128 = n2 := by rw [← HO2.out.len, HLEN.out]
  clear S1 N1 hb1 hb2
  go_wp2_with fail
  refine (read_any A2 128 c2 ps _ (by omega) HO2.out.cap HO2.out.bytes).mono ?_
  rw [HRD.out]
  rintro e W3 ⟨A3, n3, c3, rfl, HO3, hb3⟩
  have S3 := Lib.hid (below_chain S2.out hb3.out)
  obtain rfl : 1 = n3 := HO3.out.len
  clear S2 hb3 HO2
  go_wp2_with fail
  refine (read_any none 0 0 [] _ (by omega) (Nat.le_refl _) Bytes.none_).mono ?_
  rw [read_nil]
  rintro e W4 ⟨v4, rfl, HW4, hb4⟩
  have S4 := Lib.hid (below_chain S3.out hb4.out)
  have N4 := Lib.hid ((HO3.out.since hb4.out).notes)
  clear S3 hb4 HO3
  go_wp2_with fail
  have S5 := Lib.hid (since_alloc S4.out (.cells #[.bool true, .int .u64 1, .int .i64 0, .bool false, .int .i64 1] 43))
  have G5 : Hid (Notes (W4.alloc (.cells #[.bool true, .int .u64 1, .int .i64 0, .bool false, .int .i64 1] 43)) (W4.alloc (.cells #[.bool true, .int .u64 1, .int .i64 0, .bool false, .int .i64 1] 43)).heap.size (some ⟨W4.heap.size, 0, none⟩) 1 [goneOne]) := notes_new1 W4 goneOne wf_gone
  have N5 := Lib.hid (N4.out.since (later_alloc W4 (.cells #[.bool true, .int .u64 1, .int .i64 0, .bool false, .int .i64 1] 43)))
  have E5 := Lib.hid (HW4.out.since (later_alloc W4 (.cells #[.bool true, .int .u64 1, .int .i64 0, .bool false, .int .i64 1] 43)))
  refine (size_any (some ⟨W4.heap.size, 0, none⟩) 1 1 [goneOne] _ (by omega) G5.out).mono ?_
  rw [size_gone]
  rintro e W6 ⟨rfl, hb6⟩
  have S6 := Lib.hid (below_chain S5.out hb6.out)
  have N6 := Lib.hid (N5.out.since hb6.out)
  have E6 := Lib.hid (E5.out.since hb6.out)
  clear S4 S5 G5 N5 N4 hb6 E5 HW4
  go_wp2_with fail
  refine (one_any _).mono ?_
  rintro e W7 ⟨rfl, hb7⟩
  have S7 := Lib.hid (since_alloc (below_chain S6.out hb7.out) (.cells #[.bool false, .int .u64 1, .int .i64 2, .bool true, .int .i64 1] 43))
  have G7 : Hid (Notes (W7.alloc (.cells #[.bool false, .int .u64 1, .int .i64 2, .bool true, .int .i64 1] 43)) (W7.alloc (.cells #[.bool false, .int .u64 1, .int .i64 2, .bool true, .int .i64 1] 43)).heap.size (some ⟨W7.heap.size, 0, none⟩) 1 [oneV]) := notes_new1 W7 oneV wf_one
  have N7 := Lib.hid ((N6.out.since hb7.out).since (later_alloc W7 (.cells #[.bool false, .int .u64 1, .int .i64 2, .bool true, .int .i64 1] 43)))
  have E7 := Lib.hid ((E6.out.since hb7.out).since (later_alloc W7 (.cells #[.bool false, .int .u64 1, .int .i64 2, .bool true, .int .i64 1] 43)))
  unfold noteV oneV
  dsimp only
  clear S6 N6 E6 hb7
  go_wp2_with fail
  refine (samenotes_since A3 (some ⟨W7.heap.size, 0, none⟩) 1 c3 1 [oneV] _ (by omega) N7.out G7.out).mono ?_
  rintro e W8 ⟨rfl, hb8⟩
  have S8 := Lib.hid (below_chain S7.out hb8.out)
  have E8 := Lib.hid (E7.out.since hb8.out)
  clear S7 N7 E7 G7 hb8
  go_wp2_with fail
  refine (num_wrong 3 (by omega) v4 _ E8.out).mono ?_
  rintro e W9 ⟨rfl, hw9⟩
  subst hw9
  clear E8
  go_wp2_with fail
  refine (one_any _).mono ?_
  rintro e W10 ⟨rfl, hb10⟩
  have S10 := Lib.hid (below_chain S8.out hb10.out)
  clear S8 hb10
  unfold noteV oneV
  dsimp only
  go_wp2_with fail
  refine (one_any _).mono ?_
  rintro e W11 ⟨rfl, hb11⟩
  have S11 := Lib.hid (below_chain S10.out hb11.out)
  clear S10 hb11
  unfold noteV oneV
  dsimp only
  go_wp2_with fail
  have S12 := Lib.hid (since_alloc S11.out (.cells #[.bool false, .int .u64 1, .int .i64 2, .bool true, .int .i64 1, .bool false, .int .u64 1, .int .i64 2, .bool true, .int .i64 1] 43))
  have G12 := Lib.hid (notes_new2 W11 oneV oneV wf_one wf_one #[.bool false, .int .u64 1, .int .i64 2, .bool true, .int .i64 1, .bool false, .int .u64 1, .int .i64 2, .bool true, .int .i64 1] rfl)
  refine (fit_any (some ⟨W11.heap.size, 0, none⟩) 2 2 5 [oneV, oneV] _ (by omega) G12.out).mono ?_
  rintro e W13 ⟨k, rfl, HK, hb13⟩
  obtain rfl : 1 = k := fit_one.one HK.out
  have S13 := Lib.hid (below_chain S12.out hb13.out)
  clear S11 S12 G12 hb13 HK
  go_wp2_with fail
  refine (one_any _).mono ?_
  rintro e W14 ⟨rfl, hb14⟩
  have S14 := Lib.hid (below_chain S13.out hb14.out)
  clear S13 hb14
  unfold noteV oneV
  dsimp only
  go_wp2_with fail
  refine (may_any ⟨false, 1, 2, true, 1⟩ _).mono ?_
  rw [show okB ⟨false, 1, 2, true, 1⟩ = true by decide]
  rintro e W15 ⟨rfl, hb15⟩
  have S15 := Lib.hid (below_chain S14.out hb15.out)
  clear S14 hb15
  go_wp2_with fail
  go_ret
  exact ⟨rfl, S15⟩
theorem awake_any (w : World) : Calls Try.prog 8 #[] w (SaysB w true) :=
  awake_with _ w lay_one read_one len_one

theorem SaysB.plain {w w' : World} {b : Bool} {e : Ending} (h : SaysB w b e w') : e = .returned (.bool b) ∧ Below w.heap.size w w' := ⟨h.1, h.2.out⟩
end Go.Proofs.Ytaocppgekinocaa
