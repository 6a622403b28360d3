/- The landed yard: which blocks are of a state. Conditions: the slice's cells. -/
import Derived.Test.YtmfpelgkjgpfmaaYardWhich
set_option linter.unusedVariables false
set_option linter.unusedSimpArgs false
namespace Go.Proofs.Ytmfpelgkjgpfmaa
open Go.RowKit

theorem ylistone_any (st tk x : Int) (a : Option Addr) (n c : Nat) (p : Addr) (w : World) (hp : w.cell? p = some (.int .i64 x)) (hl : p.block < w.heap.size) : Calls Try.prog 36 #[.agg #[.int .i64 st, .int .i64 tk, .slice a n c], .pointer (some p)] w fun e w' => e = .returned (.bool (st == x)) ∧ Below w.heap.size w w' := by
  have HB : Hid (Below w.heap.size w (w.alloc (.cells #[.int .i64 st, .int .i64 tk, .slice a n c] 54))) := (Below.refl _ _).alloc (Nat.le_refl _) _
  have d0 : (w.alloc (.cells #[.int .i64 st, .int .i64 tk, .slice a n c] 54)).cell? ⟨w.heap.size, 0, none⟩ = some (.int .i64 st) := by rw [cell_new]; rfl
  have d1 : (w.alloc (.cells #[.int .i64 st, .int .i64 tk, .slice a n c] 54)).cell? p = some (.int .i64 x) := (HB.out.cell hl).trans hp
  obtain ⟨q, HQ⟩ : ∃ q, Hid ((st == x) = q) := ⟨_, rfl⟩
  rw [HQ.out]
  clear hp
  cases q with
  | true =>
    obtain rfl : st = x := by simpa using HQ.out
    clear HQ
    go_enter Try.func36, Try.ntmps36
    go_wp2_with fail
    go_ret
    exact ⟨rfl, HB.out⟩
  | false =>
    go_enter Try.func36, Try.ntmps36
    go_wp2_with fail
    go_ret
    exact ⟨by rw [← HQ.out]; rfl, HB.out⟩
set_option maxHeartbeats 2000000 in
theorem ywhichb_any (A : Option Addr) (n c : Nat) (vs : List BkV) (x : Int) (p : Addr) (w : World) (hn : n ≤ 1000) (hA : blkK.Lie w w.heap.size A n vs) (hp : w.cell? p = some (.int .i64 x)) (hl : p.block < w.heap.size) :
    Calls Try.prog 35 #[.slice A n c, .func (.func 36) #[] #[.pointer (some p)]] w (GivesI w (idxF (fun v => v.st == x) BkV.zero vs n)) := by
  have HA := Lib.hid hA
  have HP := Lib.hid hp
  have HPL := Lib.hid hl
  have S0 := Lib.hid (Below.refl w.heap.size w)
  clear hA hp hl
  go_enter Try.func35, Try.ntmps35
  go_wp2_with fail
  go_loopw [5, 10] (fun t5 t10 wr => ∃ (k m : Nat) (A3 : Option Addr) (c3 : Nat), t10 = .int .i64 k ∧ k ≤ n ∧ t5 = .slice A3 m c3 ∧ Hid (intK.Row wr w.heap.size A3 m c3 (idxF (fun v => v.st == x) BkV.zero vs k)) ∧ Hid (Below w.heap.size w wr)) (fun _ t10 _ => n - (intOf t10).toNat)
  case atStart => exact ⟨0, 0, none, 0, rfl, Nat.zero_le _, rfl, Kind.Row.none_, S0⟩
  case round =>
    obtain ⟨k, m, A3, c3, rfl, hk, rfl, HR, HB⟩ := hrel
    by_cases hlt : k < n
    · obtain ⟨ad, hA, hblk, hc0, hc1, hc2⟩ := bk_at (HA.out.below HB.out) hlt
      obtain ⟨st, HST⟩ : ∃ st, Hid ((vs.getD k BkV.zero).st = st) := ⟨_, rfl⟩
      obtain ⟨tk, HTK⟩ : ∃ tk, Hid ((vs.getD k BkV.zero).tk = tk) := ⟨_, rfl⟩
      obtain ⟨a5, n5, c5, HAA⟩ : ∃ a5 n5 c5, Hid ((vs.getD k BkV.zero).a = (⟨a5, n5, c5⟩ : BV)) := ⟨_, _, _, rfl⟩
      rw [HST.out] at hc0
      rw [HTK.out] at hc1
      rw [HAA.out] at hc2
      dsimp only at hc2
      subst hA
      have i0 : (0 : Int) ≤ (k : Int) := by omega
      have i1 : (k : Int) < (n : Int) := by omega
      have hm : m ≤ k := by rw [← HR.out.len]; exact idxF_len _ _ _ _
      obtain ⟨W1, HW1⟩ : ∃ W1, Hid (W1 = wr.alloc (.cells #[.int .i64 st, .int .i64 tk, .slice a5 n5 c5] 54)) := ⟨_, rfl⟩
      have L1 : Hid (Below wr.heap.size wr W1) := by rw [HW1.out]; exact (Below.refl _ _).alloc (Nat.le_refl _) _
      have d0 : W1.cell? ⟨wr.heap.size, 0, none⟩ = some (.int .i64 st) := by rw [HW1.out, cell_new]; rfl
      have d1 : W1.cell? ⟨wr.heap.size, 1, none⟩ = some (.int .i64 tk) := by rw [HW1.out, cell_new]; rfl
      have d2 : W1.cell? ⟨wr.heap.size, 2, none⟩ = some (.slice a5 n5 c5) := by rw [HW1.out, cell_new]; rfl
      have C := Lib.hid (ylistone_any st tk x a5 n5 c5 p W1 ((L1.out.cell (Nat.lt_of_lt_of_le HPL.out HB.out.size)).trans ((HB.out.cell HPL.out).trans HP.out)) (Nat.lt_of_lt_of_le (Nat.lt_of_lt_of_le HPL.out HB.out.size) L1.out.size))
      go_wp2_with fail
      rw [← HW1.out]
      go_wp2_with fail
      refine C.out.mono ?_
      rintro e W2 ⟨rfl, hB2⟩
      have B2 := Lib.hid (below_chain HB.out (below_chain L1.out hB2))
      have R2 := Lib.hid ((HR.out.since L1.out).since hB2)
      clear hB2 d0 d1 d2 hc0 hc1 hc2
      by_cases hf : ((vs.getD k BkV.zero).st == x) = true
      · have HF : Hid (idxF (fun v => v.st == x) BkV.zero vs (k + 1) = idxF (fun v => v.st == x) BkV.zero vs k ++ [(k : Int)]) := idxF_yes hf
        rw [HST.out] at hf
        rw [hf]
        obtain ⟨A4, c4, W4, hr4, ho4, hb4, _⟩ := Kind.append_one (K := intK) B2.out R2.out (k : Int) ⟨by omega, by omega⟩ #[.int .i64 (k : Int)] rfl (by omega)
        have R4 := Lib.hid (ho4.same HF.out.symm)
        have B4 := Lib.hid hb4
        have HR4 := Lib.hid hr4
        clear ho4 hb4 hr4 hf
        go_wp2_with (at_builtin; refine wpList_append_run rfl (.tmp 18) (.tmp 20) 36 rfl rfl rfl HR4.out ?_)
        go_roundw
        case rel => exact ⟨k + 1, m + 1, A4, c4, by go_num, by omega, rfl, R4, B4⟩
        case measure => simp [intOf]; omega
      · have hf := Bool.eq_false_iff.2 hf
        have HF : Hid (idxF (fun v => v.st == x) BkV.zero vs (k + 1) = idxF (fun v => v.st == x) BkV.zero vs k) := idxF_no hf
        have R3 := Lib.hid (R2.out.same HF.out.symm)
        rw [HST.out] at hf
        rw [hf]
        clear hf
        go_wp2_with fail
        go_roundw
        case rel => exact ⟨k + 1, m, A3, c3, by go_num, by omega, rfl, R3, B2⟩
        case measure => simp [intOf]; omega
    · obtain rfl : k = n := by omega
      go_wp2_with fail
      go_ret
      exact ⟨A3, m, c3, rfl, HR, HB⟩
end Go.Proofs.Ytmfpelgkjgpfmaa
