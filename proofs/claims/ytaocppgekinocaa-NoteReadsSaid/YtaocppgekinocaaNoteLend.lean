/- LendNotes, KeptNotes, OverNotes. Conditions: the slices' cells; at most 900 notes. -/
import Derived.Test.YtaocppgekinocaaNoteShared
set_option linter.unusedVariables false
set_option linter.unusedSimpArgs false
namespace Go.Proofs.Ytaocppgekinocaa
open Go.RowKit

def markV : V := ⟨false, 0, -777, false, 0⟩
/-- A row of the call's own at the first new block: the notes, then j marks, then others; below it all is as it was. -/
structure LentN (w wr : World) (n j : Nat) (vs : List V) : Prop where
  below : Below w.heap.size w wr
  row : ∃ cur : Array Value, wr.heap[w.heap.size]? = some (.cells cur 43 (0, 0)) ∧ cur.size = (n + 3) * 5 ∧ (∀ (i : Nat) (u : Value), (cellsN vs)[i]? = some u → cur[i]? = some u) ∧ (∀ k, k < j → ∀ i, i < 5 → cur[n * 5 + k * 5 + i]? = (noteCells markV)[i]?)
theorem LentN.lt {w wr : World} {n j : Nat} {vs : List V} (h : LentN w wr n j vs) : w.heap.size < wr.heap.size := by
  obtain ⟨cur, e, _⟩ := h.row
  exact (Array.getElem?_eq_some_iff.1 e).1
theorem LentN.free {w wr : World} {n j : Nat} {vs : List V} (h : LentN w wr n j vs) (k : Nat) : wr.frozen? ⟨w.heap.size, k, none⟩ = false := by
  obtain ⟨cur, e, _⟩ := h.row
  simp [World.frozen?, e]
theorem LentN.cell {w wr : World} {n j : Nat} {vs : List V} (h : LentN w wr n j vs) (k i : Nat) (hk : k < 3) (hi : i < 5) : ∃ u, wr.cell? ⟨w.heap.size, n * 5 + k * 5 + i, none⟩ = some u := by
  obtain ⟨cur, e, hs, _, _⟩ := h.row
  exact ⟨cur[n * 5 + k * 5 + i]'(by omega), by rw [cell_of_row _ _ _ cur 43 (0, 0) e]; exact Array.getElem?_eq_getElem (by omega)⟩
theorem LentN.mark {w wr : World} {n j : Nat} {vs : List V} (h : LentN w wr n j vs) (k i : Nat) (hk : k < j) (hi : i < 5) : wr.cell? ⟨w.heap.size, n * 5 + k * 5 + i, none⟩ = (noteCells markV)[i]? := by
  obtain ⟨cur, e, hs, _, hm⟩ := h.row
  rw [cell_of_row _ _ _ cur 43 (0, 0) e]; exact hm k hk i hi
theorem LentN.notes {w wr : World} {n j : Nat} {vs : List V} (h : LentN w wr n j vs) (hl : vs.length = n) (hw : ∀ v ∈ vs, Wf v) : Notes wr wr.heap.size (some ⟨w.heap.size, 0, none⟩) n vs := by
  obtain ⟨cur, e, hs, hb, _⟩ := h.row
  refine notes_of hl hw h.lt fun i u hu => ?_
  rw [cell_of_row _ _ _ cur 43 (0, 0) e]
  exact hb i u hu
theorem LentN.since {w wr w' : World} {n j : Nat} {vs : List V} (h : LentN w wr n j vs) (hb : Below wr.heap.size wr w') : LentN w w' n j vs := by
  refine ⟨h.below.trans (hb.mono (Nat.le_of_lt h.lt)), ?_⟩
  obtain ⟨cur, e, rest⟩ := h.row
  exact ⟨cur, (hb.block _ h.lt).trans e, rest⟩
def markAt (w : World) (g p : Nat) : World := ((((w.setCell ⟨g, p, none⟩ (.bool false)).setCell ⟨g, p + 1, none⟩ (.int .u64 0)).setCell ⟨g, p + 2, none⟩ (.int .i64 (-777))).setCell ⟨g, p + 3, none⟩ (.bool false)).setCell ⟨g, p + 4, none⟩ (.int .i64 0)
theorem LentN.step {w wr : World} {n j : Nat} {vs : List V} (h : LentN w wr n j vs) (hl : vs.length = n) (hj : j < 3) : LentN w (markAt wr w.heap.size (n * 5 + j * 5)) n (j + 1) vs := by
  obtain ⟨cur, e, hs, hb, hm⟩ := h.row
  obtain ⟨p, hp⟩ : ∃ p, p = n * 5 + j * 5 := ⟨_, rfl⟩
  have hcl : ∀ i u, (cellsN vs)[i]? = some u → i < n * 5 := fun i u hu => by
    rcases Nat.lt_or_ge i (cellsN vs).length with h' | h'
    · rw [cellsN_len, hl] at h'; exact h'
    · rw [List.getElem?_eq_none h'] at hu; cases hu
  refine ⟨?_, ((((cur.setIfInBounds p (.bool false)).setIfInBounds (p + 1) (.int .u64 0)).setIfInBounds (p + 2) (.int .i64 (-777))).setIfInBounds (p + 3) (.bool false)).setIfInBounds (p + 4) (.int .i64 0), ?_, by simpa using hs, fun i u hu => ?_, fun k hk i hi => ?_⟩
  · unfold markAt
    exact ((((h.below.setCell (Nat.le_refl _) _).setCell (Nat.le_refl _) _).setCell (Nat.le_refl _) _).setCell (Nat.le_refl _) _).setCell (Nat.le_refl _) _
  · rw [← hp]
    unfold markAt
    simp [World.setCell, Array.getElem?_modify, e]
  · have := hcl i u hu
    rw [Array.getElem?_setIfInBounds_ne (by omega), Array.getElem?_setIfInBounds_ne (by omega), Array.getElem?_setIfInBounds_ne (by omega), Array.getElem?_setIfInBounds_ne (by omega), Array.getElem?_setIfInBounds_ne (by omega)]
    exact hb i u hu
  · by_cases hkj : k = j
    · subst hkj
      rw [← hp]
      rcases (by omega : i = 0 ∨ i = 1 ∨ i = 2 ∨ i = 3 ∨ i = 4) with rfl | rfl | rfl | rfl | rfl
      · rw [Array.getElem?_setIfInBounds_ne (by omega), Array.getElem?_setIfInBounds_ne (by omega), Array.getElem?_setIfInBounds_ne (by omega), Array.getElem?_setIfInBounds_ne (by omega), Nat.add_zero, Array.getElem?_setIfInBounds_self_of_lt (by omega)]; rfl
      · rw [Array.getElem?_setIfInBounds_ne (by omega), Array.getElem?_setIfInBounds_ne (by omega), Array.getElem?_setIfInBounds_ne (by omega), Array.getElem?_setIfInBounds_self_of_lt (by simp; omega)]; rfl
      · rw [Array.getElem?_setIfInBounds_ne (by omega), Array.getElem?_setIfInBounds_ne (by omega), Array.getElem?_setIfInBounds_self_of_lt (by simp; omega)]; rfl
      · rw [Array.getElem?_setIfInBounds_ne (by omega), Array.getElem?_setIfInBounds_self_of_lt (by simp; omega)]; rfl
      · rw [Array.getElem?_setIfInBounds_self_of_lt (by simp; omega)]; rfl
    · rw [Array.getElem?_setIfInBounds_ne (by omega), Array.getElem?_setIfInBounds_ne (by omega), Array.getElem?_setIfInBounds_ne (by omega), Array.getElem?_setIfInBounds_ne (by omega), Array.getElem?_setIfInBounds_ne (by omega)]
      exact hm k (by omega) i hi
theorem make_runN (n : Nat) (hn : n ≤ 900) (W : World) : (Instr.makeSlice 22 (.int .i64 0) (.int .i64 ((n : Int) + 3))).run Try.prog W =
    .ok (.slice (some ⟨W.heap.size, 0, none⟩) 0 (n + 3)) (W.alloc (.cells (madeCells #[.bool false, .int .u64 0, .int .i64 0, .bool false, .int .i64 0] ((n + 3) * 5)) 43)) := by
  obtain ⟨i0, hi, hz0, hz1, hz2⟩ := info_parts infoN
  have h := run_make (P := Try.prog) W 22 43 i0 _ Try.underlying22 hi hz0 .i64 .i64 0 ((n : Int) + 3) (by omega) (by omega) (by rw [hz2]; omega) (by omega)
  rw [h, hz1]
  have e : ((n : Int) + 3).toNat = n + 3 := by omega
  rw [e]
  rfl
theorem append_runN (A : Option Addr) (n c : Nat) (vs : List V) (w : World) (hA : Notes w w.heap.size A n vs) :
    ∃ W2, (∀ ty, (Builtin.append_ #[22, 22] ty #[.slice (some ⟨w.heap.size, 0, none⟩) 0 (n + 3), .slice A n c]).run Try.prog (w.alloc (.cells (madeCells #[.bool false, .int .u64 0, .int .i64 0, .bool false, .int .i64 0] ((n + 3) * 5)) 43)) =
      .ok (.slice (some ⟨w.heap.size, 0, none⟩) n (n + 3)) W2) ∧ LentN w W2 n 0 vs := by
  obtain ⟨i0, hi, hz0, hz1, hz2⟩ := info_parts infoN
  have hnew := heap_alloc_new w (.cells (madeCells #[.bool false, .int .u64 0, .int .i64 0, .bool false, .int .i64 0] ((n + 3) * 5)) 43)
  have hsz := size_madeCells #[Value.bool false, .int .u64 0, .int .i64 0, .bool false, .int .i64 0] ((n + 3) * 5)
  rcases A with _ | ad
  · have hn0 : n = 0 := by
      rcases Nat.eq_zero_or_pos n with h | h
      · exact h
      · obtain ⟨ad, h', _⟩ := hA.each 0 h
        cases h'
    subst hn0
    obtain rfl := List.eq_nil_of_length_eq_zero hA.len
    refine ⟨_, fun ty => ?_, ⟨(Below.refl _ _).alloc (Nat.le_refl _) _, _, hnew, hsz, fun k u hk => by simp [cellsN] at hk, fun k hk => absurd hk (Nat.not_lt_zero k)⟩⟩
    simp [Builtin.append_, run_underlying Try.underlying22, sizeOf, typeInfo, hi, Builtin.lenOf, Builtin.firstCells, storeCells]
  · have hlen := hA.len
    have hcells : ∀ j u, (cellsN vs)[j]? = some u → (w.alloc (.cells (madeCells #[.bool false, .int .u64 0, .int .i64 0, .bool false, .int .i64 0] ((n + 3) * 5)) 43)).cell? (ad.add j) = some u := fun j u hu => cell_old (hA.cells j u hu)
    have hl : (cellsN vs).length = n * i0.size := by rw [hz1, cellsN_len, hlen]
    have hr := fun ty => run_append_room (P := Try.prog) (w.alloc (.cells (madeCells #[.bool false, .int .u64 0, .int .i64 0, .bool false, .int .i64 0] ((n + 3) * 5)) 43)) 22 ty 43 i0 Try.underlying22 hi w.heap.size 0 (n + 3) _ hnew ad n c (cellsN vs) hl hcells (cellsN_one vs) (by omega) (by rw [hsz, hl, hz1]; omega)
    simp only [Nat.zero_add] at hr
    refine ⟨_, hr, below_setRow ((Below.refl _ _).alloc (Nat.le_refl _) _) (Nat.le_refl _) _, _, setRow_heap _ _ _ _ _ _ hnew, ?_, fun k u hk => ?_, fun k hk => absurd hk (Nat.not_lt_zero k)⟩
    · have := cellsN_len vs
      simp [hsz, this, hlen]
      omega
    · have hkl : k < (cellsN vs).length := by
        rcases Nat.lt_or_ge k (cellsN vs).length with h' | h'
        · exact h'
        · rw [List.getElem?_eq_none h'] at hk; cases hk
      simp only [Nat.zero_mul, List.take_zero, List.nil_append, List.getElem?_toArray]
      rw [List.getElem?_append_left (by simpa using hkl)]
      exact hk
set_option maxHeartbeats 2000000 in
theorem lendnotes_any (A : Option Addr) (n c : Nat) (vs : List V) (w : World) (hn : n ≤ 900) (hA : Notes w w.heap.size A n vs) :
    Calls Try.prog 9 #[.slice A n c] w fun e w' => e = .returned (.slice (some ⟨w.heap.size, 0, none⟩) n (n + 3)) ∧ LentN w w' n 3 vs := by
  obtain ⟨W2, happ', hL⟩ := append_runN A n c vs w hA
  have hmk := make_runN n hn
  have happ := Lib.hid happ'
  have HL := Lib.hid hL
  have HVL := Lib.hid hA.len
  have h3 : n + 3 - n = 3 := by omega
  clear happ' hL hA
  go_enter Try.func9, Try.ntmps9
  go_wp2_with (at_builtin; refine wpList_append_run rfl (.tmp 10) (.tmp 11) 22 rfl rfl rfl (happ.out _) ?_)
  clear hmk happ h3
  go_loopw [5] (fun t5 wr => ∃ j : Nat, j ≤ 3 ∧ t5 = .int .i64 j ∧ Hid (LentN w wr n j vs)) (fun t5 _ => 3 - (intOf t5).toNat)
  case atStart => exact ⟨0, by omega, rfl, HL⟩
  case round =>
    obtain ⟨j, hj, rfl, HJ⟩ := hrel
    by_cases hlt : j < 3
    · obtain ⟨u0, k0⟩ := HJ.out.cell j 0 hlt (by omega)
      obtain ⟨u1, k1⟩ := HJ.out.cell j 1 hlt (by omega)
      obtain ⟨u2, k2⟩ := HJ.out.cell j 2 hlt (by omega)
      obtain ⟨u3, k3⟩ := HJ.out.cell j 3 hlt (by omega)
      obtain ⟨u4, k4⟩ := HJ.out.cell j 4 hlt (by omega)
      have f0 := HJ.out.free (n * 5 + j * 5)
      have f1 := HJ.out.free (n * 5 + j * 5 + 1)
      have f2 := HJ.out.free (n * 5 + j * 5 + 2)
      have f3 := HJ.out.free (n * 5 + j * 5 + 3)
      have f4 := HJ.out.free (n * 5 + j * 5 + 4)
      rw [Nat.add_zero] at k0
      have HJ2 := Lib.hid (HJ.out.step HVL.out hlt)
      unfold markAt at HJ2
      go_wp2
      go_roundw
      case rel => exact ⟨j + 1, by omega, by go_num, HJ2⟩
      case measure => simp [intOf]; omega
    · have hj3 : j = 3 := by omega
      rw [hj3] at HJ
      clear hj3
      go_wp2
      go_ret
      exact ⟨rfl, HJ.out⟩
set_option maxHeartbeats 2000000 in
theorem keptnotes_any (A : Option Addr) (n c : Nat) (vs : List V) (w wr : World) (hn : n ≤ 900) (hL : LentN w wr n 3 vs) (hl : vs.length = n) (hw : ∀ v ∈ vs, Wf v) (hA : Notes wr wr.heap.size A n vs) :
    Calls Try.prog 21 #[.slice (some ⟨w.heap.size, 0, none⟩) n (n + 3), .slice A n c] wr (SaysB wr true) := by
  have hB := hL.notes hl hw
  have hs := samenotes_since (some ⟨w.heap.size, 0, none⟩) A n (n + 3) c vs wr (by omega) hB hA
  have HS := Lib.hid hs
  have HL := Lib.hid hL
  have h3 : n + 3 - n = 3 := by omega
  clear hl hw hA hB hs hL
  go_enter Try.func21, Try.ntmps21
  go_wp2
  clear h3
  go_loop [6] (fun t6 => ∃ j : Nat, j ≤ 3 ∧ t6 = .int .i64 j) (fun t6 => 3 - (intOf t6).toNat)
  case atStart => exact ⟨0, by omega, rfl⟩
  case round =>
    obtain ⟨j, hj, rfl⟩ := hrel
    by_cases hlt : j < 3
    · have k0 := HL.out.mark j 0 hlt (by omega)
      have k1 := HL.out.mark j 1 hlt (by omega)
      have k2 := HL.out.mark j 2 hlt (by omega)
      have k3 := HL.out.mark j 3 hlt (by omega)
      have k4 := HL.out.mark j 4 hlt (by omega)
      rw [Nat.add_zero] at k0
      replace k0 : wr.cell? ⟨w.heap.size, n * 5 + j * 5, none⟩ = some (.bool false) := k0
      replace k1 : wr.cell? ⟨w.heap.size, n * 5 + j * 5 + 1, none⟩ = some (.int .u64 0) := k1
      replace k2 : wr.cell? ⟨w.heap.size, n * 5 + j * 5 + 2, none⟩ = some (.int .i64 (-777)) := k2
      replace k3 : wr.cell? ⟨w.heap.size, n * 5 + j * 5 + 3, none⟩ = some (.bool false) := k3
      replace k4 : wr.cell? ⟨w.heap.size, n * 5 + j * 5 + 4, none⟩ = some (.int .i64 0) := k4
      go_wp2
      go_round
      case rel => exact ⟨j + 1, by omega, by go_num⟩
      case measure => simp [intOf]; omega
    · go_wp2_with fail
      refine HS.out.mono ?_
      rintro e w' ⟨rfl, hb⟩
      go_wp2_with fail
      go_ret
      exact ⟨rfl, hb⟩
theorem notes_append_g {W : World} {v : Value} {n base : Nat} {xs : List Value} (h : W.ownsRow base 43 5 v n xs) (hbase : base ≤ W.heap.size) (hn : n + 1 ≤ 8000) :
    ∃ v2 W2, (Builtin.append_ #[22, 22] 22 #[v, .slice (some ⟨W.heap.size, 0, none⟩) 1 1]).run Try.prog (W.alloc (.cells #[.bool false, .int .u64 0, .int .i64 (-9), .bool false, .int .i64 0] 43)) = .ok v2 W2 ∧ W.grownBy W2 v.ownBlock := by
  obtain ⟨i0, hi, hz0, hz1, hz2⟩ := info_parts infoN
  obtain ⟨v', W', hr, ho, hg, _⟩ := run_append_own (P := Try.prog) (W.alloc (.cells #[.bool false, .int .u64 0, .int .i64 (-9), .bool false, .int .i64 0] 43)) base 22 22 43 i0 _ 5 40 Try.underlying22 hi hz0 hz1 hz2 rfl (by omega) v n xs (h.alloc _) ⟨W.heap.size, 0, none⟩ 1 1 [.bool false, .int .u64 0, .int .i64 (-9), .bool false, .int .i64 0] rfl
    (fun j u hu => by
      rw [add_zero_addr, cell_new]
      rw [← hu]
      simp) (by intro u hu; simp at hu; rcases hu with rfl | rfl | rfl | rfl | rfl <;> rfl) (by unfold maxLen; omega) (by omega) (by simp; omega)
  exact ⟨v', W', hr, grownBy_trans (World.grownBy_alloc _ _ _) hg⟩
theorem row_cell {W : World} {base g n c : Nat} {xs : List Value} (h : W.ownsRow base 43 5 (.slice (some ⟨g, 0, none⟩) n c) n xs) (j : Nat) (hj : j < n * 5) : ∃ u, W.cell? ⟨g, j, none⟩ = some u := by
  have := h.cellAt j hj
  rw [List.getElem?_eq_getElem (by rw [h.1]; exact hj)] at this
  exact ⟨_, this⟩
set_option maxHeartbeats 2000000 in
theorem overnotes_any (A : Option Addr) (n c base : Nat) (vs : List V) (w : World) (hn : n ≤ 900) (hbase : base ≤ w.heap.size) (hO : OwnN w base A n c vs) :
    Calls Try.prog 26 #[.slice A n c] w fun e w' => e = .returned (.tuple #[]) ∧ w.grownBy w' (Value.slice A n c).ownBlock := by
  rcases hO.row.2 with ⟨hv, hn0⟩ | ⟨g, cap, cur, hv, hbg, hg, hrest⟩
  · injection hv with e1 e2 e3
    subst e1 e3
    subst hn0
    obtain ⟨v2, W2, hr, hg2⟩ := notes_append_g hO.row hbase (by omega)
    have R := Lib.hid hr
    have HG := Lib.hid hg2
    clear hO hr hg2
    go_enter Try.func26, Try.ntmps26
    go_wp2_with fail
    go_loop [2] (fun t2 => t2 = .int .i64 0) (fun _ => 0)
    case atStart => rfl
    case round =>
      subst hrel
      go_wp2_with (at_builtin; refine wpList_append_run rfl (.tmp 14) (.tmp 17) 22 rfl rfl rfl R.out ?_)
      go_end0
      exact ⟨rfl, HG.out⟩
  · injection hv with e1 e2 e3
    subst e1
    subst e3
    have HO := Lib.hid hO.row
    clear hO hg e2 hbg hrest
    go_enter Try.func26, Try.ntmps26
    go_wp2_with fail
    go_loopw [2] (fun t2 wr => ∃ (j : Nat) (xs : List Value), t2 = .int .i64 j ∧ j ≤ n ∧ Hid (wr.ownsRow base 43 5 (.slice (some ⟨g, 0, none⟩) n c) n xs) ∧ Hid (w.grownBy wr (some g))) (fun t2 _ => n - (intOf t2).toNat)
    case atStart => exact ⟨0, _, rfl, by omega, HO, World.grownBy.refl _ _⟩
    case round =>
      obtain ⟨j, xs, rfl, hj, HO2, HG⟩ := hrel
      by_cases hlt : j < n
      · obtain ⟨u0, k0⟩ := row_cell HO2.out (j * 5) (by omega)
        obtain ⟨u1, k1⟩ := row_cell HO2.out (j * 5 + 1) (by omega)
        obtain ⟨u2, k2⟩ := row_cell HO2.out (j * 5 + 2) (by omega)
        obtain ⟨u3, k3⟩ := row_cell HO2.out (j * 5 + 3) (by omega)
        obtain ⟨u4, k4⟩ := row_cell HO2.out (j * 5 + 4) (by omega)
        have f0 : wr.frozen? ⟨g, j * 5, none⟩ = false := HO2.out.frozenAt _
        have f1 : wr.frozen? ⟨g, j * 5 + 1, none⟩ = false := HO2.out.frozenAt _
        have f2 : wr.frozen? ⟨g, j * 5 + 2, none⟩ = false := HO2.out.frozenAt _
        have f3 : wr.frozen? ⟨g, j * 5 + 3, none⟩ = false := HO2.out.frozenAt _
        have f4 : wr.frozen? ⟨g, j * 5 + 4, none⟩ = false := HO2.out.frozenAt _
        obtain ⟨o0, g0⟩ := HO2.out.stored (j * 5) (.bool false)
        obtain ⟨o1, g1⟩ := o0.stored (j * 5 + 1) (.int .u64 0)
        obtain ⟨o2, g2⟩ := o1.stored (j * 5 + 2) (.int .i64 (-9))
        obtain ⟨o3, g3⟩ := o2.stored (j * 5 + 3) (.bool false)
        obtain ⟨o4, g4⟩ := o3.stored (j * 5 + 4) (.int .i64 0)
        have HO3 := Lib.hid o4
        have HG3 := Lib.hid (grownBy_trans HG.out (grownBy_trans (grownBy_trans (grownBy_trans (grownBy_trans g0 g1) g2) g3) g4))
        clear o0 o1 o2 o3 o4 g0 g1 g2 g3 g4
        go_wp2
        go_roundw
        case rel => exact ⟨j + 1, _, by go_num, by omega, HO3, HG3⟩
        case measure => simp [intOf]; omega
      · obtain ⟨v2, W2, hr, hg2⟩ := notes_append_g HO2.out (Nat.le_trans hbase HG.out.size) (by omega)
        have R := Lib.hid hr
        have HG2 := Lib.hid (grownBy_trans HG.out hg2)
        clear hr hg2
        go_wp2_with (at_builtin; refine wpList_append_run rfl (.tmp 14) (.tmp 17) 22 rfl rfl rfl R.out ?_)
        go_end0
        exact ⟨rfl, HG2.out⟩
end Go.Proofs.Ytaocppgekinocaa
