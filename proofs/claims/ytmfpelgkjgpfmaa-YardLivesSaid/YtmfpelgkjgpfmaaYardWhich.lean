/- The landed yard: slices.ContainsFunc of pages, which pages, which blocks. Conditions: the slices' cells. -/
import Derived.Test.YtmfpelgkjgpfmaaYardLeaf
set_option linter.unusedVariables false
set_option linter.unusedSimpArgs false
namespace Go.Proofs.Ytmfpelgkjgpfmaa
open Go.RowKit

theorem use_at {w : World} {B n : Nat} {A : Option Addr} {us : List (Bool × Bool)} (h : useK.Lie w B A n us) {k : Nat} (hk : k < n) : ∃ ad, A = some ad ∧ ad.block < B ∧ w.cell? (ad.add (k * 2)) = some (.bool (us.getD k (false, false)).1) ∧ w.cell? ⟨(ad.add (k * 2)).block, (ad.add (k * 2)).off + 1, none⟩ = some (.bool (us.getD k (false, false)).2) := by
  obtain ⟨ad, e1, e2, e3⟩ := h.each k hk
  have c0 := e3 0 (.bool (us.getD k (false, false)).1) rfl
  have c1 := e3 1 (.bool (us.getD k (false, false)).2) rfl
  rw [add_none] at c0
  rw [add_at _ 0] at c1
  exact ⟨ad, e1, e2, c0, c1⟩
theorem bk_at {w : World} {B n : Nat} {A : Option Addr} {vs : List BkV} (h : blkK.Lie w B A n vs) {k : Nat} (hk : k < n) : ∃ ad, A = some ad ∧ ad.block < B ∧ w.cell? (ad.add (k * 3)) = some (.int .i64 (vs.getD k BkV.zero).st) ∧ w.cell? ⟨(ad.add (k * 3)).block, (ad.add (k * 3)).off + 1, none⟩ = some (.int .i64 (vs.getD k BkV.zero).tk) ∧ w.cell? ⟨(ad.add (k * 3)).block, (ad.add (k * 3)).off + 2, none⟩ = some (.slice (vs.getD k BkV.zero).a.a (vs.getD k BkV.zero).a.n (vs.getD k BkV.zero).a.c) := by
  obtain ⟨ad, e1, e2, e3⟩ := h.each k hk
  have c0 := e3 0 (.int .i64 (vs.getD k BkV.zero).st) rfl
  have c1 := e3 1 (.int .i64 (vs.getD k BkV.zero).tk) rfl
  have c2 := e3 2 (.slice (vs.getD k BkV.zero).a.a (vs.getD k BkV.zero).a.n (vs.getD k BkV.zero).a.c) rfl
  rw [add_none] at c0
  rw [add_at _ 0] at c1
  rw [add_at _ 1] at c2
  exact ⟨ad, e1, e2, c0, c1, c2⟩
/- which of the first so many are so -/
def idxF {α : Type} (f : α → Bool) (d : α) (l : List α) (n : Nat) : List Int := ((List.range n).filter fun k => f (l.getD k d)).map fun (k : Nat) => (k : Int)
theorem idxF_zero {α : Type} (f : α → Bool) (d : α) (l : List α) : idxF f d l 0 = [] := rfl
theorem idxF_yes {α : Type} {f : α → Bool} {d : α} {l : List α} {n : Nat} (h : f (l.getD n d) = true) : idxF f d l (n + 1) = idxF f d l n ++ [(n : Int)] := by
  unfold idxF
  rw [List.range_succ, List.filter_append, List.map_append]
  simp only [List.filter_cons, List.filter_nil, h, if_true, List.map_cons, List.map_nil]
theorem idxF_no {α : Type} {f : α → Bool} {d : α} {l : List α} {n : Nat} (h : f (l.getD n d) = false) : idxF f d l (n + 1) = idxF f d l n := by
  unfold idxF
  rw [List.range_succ, List.filter_append, List.map_append]
  simp only [List.filter_cons, List.filter_nil, h, List.map_nil, List.append_nil]
  simp
theorem idxF_len {α : Type} (f : α → Bool) (d : α) (l : List α) (n : Nat) : (idxF f d l n).length ≤ n := by
  unfold idxF
  rw [List.length_map]
  exact Nat.le_trans (List.length_filter_le _ _) (by rw [List.length_range]; exact Nat.le_refl _)
set_option maxHeartbeats 1000000 in
theorem yindexf_any (A : Option Addr) (n c : Nat) (us : List (Bool × Bool)) (w : World) (hn : n ≤ 1000) (hA : useK.Lie w w.heap.size A n us) :
    Calls Try.prog 46 #[.slice A n c, .func (.func 31) #[] #[]] w fun e w' => ∃ r : Int, e = .returned (.int .i64 r) ∧ decide (0 ≤ r) = us.any (·.1) ∧ Below w.heap.size w w' := by
  have HA := Lib.hid hA
  have HL : Hid (us.length = n) := hA.len
  have S0 := Lib.hid (Below.refl w.heap.size w)
  clear hA
  go_enter Try.func46, Try.ntmps46
  go_wp2_with fail
  go_loopw [8] (fun t8 wr => ∃ (k : Nat), k ≤ n ∧ t8 = .int .i64 k ∧ Hid (∀ j, j < k → (us.getD j (false, false)).1 = false) ∧ Hid (Below w.heap.size w wr)) (fun t8 _ => n - (intOf t8).toNat)
  case atStart => exact ⟨0, Nat.zero_le _, rfl, fun j hj => absurd hj (Nat.not_lt_zero j), S0⟩
  case round =>
    obtain ⟨k, hk, rfl, HK, HB⟩ := hrel
    by_cases hlt : k < n
    · obtain ⟨ad, hA, hblk, hc0, hc1⟩ := use_at (HA.out.below HB.out) hlt
      obtain ⟨nn, HN⟩ : ∃ nn, Hid ((us.getD k (false, false)).1 = nn) := ⟨_, rfl⟩
      obtain ⟨dd, HD⟩ : ∃ dd, Hid ((us.getD k (false, false)).2 = dd) := ⟨_, rfl⟩
      rw [HN.out] at hc0
      rw [HD.out] at hc1
      subst hA
      have i0 : (0 : Int) ≤ (k : Int) := by omega
      have i1 : (k : Int) < (n : Int) := by omega
      have C := Lib.hid (yisneeded_any nn dd wr)
      go_wp2_with fail
      refine C.out.mono ?_
      rintro e W1 ⟨rfl, hB1⟩
      have B1 := Lib.hid (below_chain HB.out hB1)
      clear hB1
      cases nn with
      | true =>
        have HC : Hid (us.any (·.1) = true) := by
          show _ = _
          have hm : us.getD k (false, false) ∈ us := by
            rw [List.getD_eq_getElem?_getD, List.getElem?_eq_getElem (by rw [HL.out]; exact hlt)]
            exact List.getElem_mem _
          exact List.any_eq_true.2 ⟨_, hm, HN.out⟩
        go_wp2_with fail
        go_ret
        exact ⟨_, rfl, by rw [HC.out]; exact decide_eq_true i0, B1.out⟩
      | false =>
        go_wp2_with fail
        go_roundw
        case rel => exact ⟨k + 1, by omega, by go_num, fun j hj => by
          by_cases e : j = k
          · subst e; exact HN.out
          · exact HK.out j (by omega), B1⟩
        case measure => simp [intOf]; omega
    · have HC : Hid (us.any (·.1) = false) := by
        refine Bool.eq_false_iff.2 fun h => ?_
        obtain ⟨u, hu, e⟩ := List.any_eq_true.1 h
        obtain ⟨j, hj, e2⟩ := List.mem_iff_getElem.1 hu
        have := HK.out j (by rw [HL.out] at hj; omega)
        rw [List.getD_eq_getElem?_getD, List.getElem?_eq_getElem hj] at this
        rw [← e2] at e
        exact Bool.false_ne_true (this.symm.trans e)
      go_wp2_with fail
      go_ret
      exact ⟨_, rfl, by rw [HC.out]; decide, HB.out⟩
theorem ycontainsf_any (A : Option Addr) (n c : Nat) (us : List (Bool × Bool)) (w : World) (hn : n ≤ 1000) (hA : useK.Lie w w.heap.size A n us) :
    Calls Try.prog 30 #[.slice A n c, .func (.func 31) #[] #[]] w fun e w' => e = .returned (.bool (us.any (·.1))) ∧ Below w.heap.size w w' := by
  have C := Lib.hid (yindexf_any A n c us w hn hA)
  clear hA
  obtain ⟨q, HQ⟩ : ∃ q, Hid (us.any (·.1) = q) := ⟨_, rfl⟩
  rw [HQ.out] at C ⊢
  clear HQ
  go_enter Try.func30, Try.ntmps30
  go_wp2_with fail
  refine C.out.mono ?_
  rintro e W1 ⟨r, rfl, HR, hB⟩
  have HR := Lib.hid HR
  have HB := Lib.hid hB
  clear hB
  by_cases h0 : 0 ≤ r
  · obtain rfl : q = true := by rw [← HR.out]; exact decide_eq_true h0
    go_wp2_with fail
    go_ret
    exact ⟨rfl, HB.out⟩
  · obtain rfl : q = false := by rw [← HR.out]; exact decide_eq_false h0
    go_wp2_with fail
    go_ret
    exact ⟨rfl, HB.out⟩
/- which -/
set_option maxHeartbeats 2000000 in
theorem ywhichn_any (A : Option Addr) (n c : Nat) (us : List (Bool × Bool)) (w : World) (hn : n ≤ 1000) (hA : useK.Lie w w.heap.size A n us) :
    Calls Try.prog 33 #[.slice A n c, .func (.func 31) #[] #[]] w (GivesI w (idxF (·.1) (false, false) us n)) := by
  have HA := Lib.hid hA
  have S0 := Lib.hid (Below.refl w.heap.size w)
  clear hA
  go_enter Try.func33, Try.ntmps33
  go_wp2_with fail
  go_loopw [5, 10] (fun t5 t10 wr => ∃ (k m : Nat) (A3 : Option Addr) (c3 : Nat), t10 = .int .i64 k ∧ k ≤ n ∧ t5 = .slice A3 m c3 ∧ Hid (intK.Row wr w.heap.size A3 m c3 (idxF (·.1) (false, false) us k)) ∧ Hid (Below w.heap.size w wr)) (fun _ t10 _ => n - (intOf t10).toNat)
  case atStart => exact ⟨0, 0, none, 0, rfl, Nat.zero_le _, rfl, Kind.Row.none_, S0⟩
  case round =>
    obtain ⟨k, m, A3, c3, rfl, hk, rfl, HR, HB⟩ := hrel
    by_cases hlt : k < n
    · obtain ⟨ad, hA, hblk, hc0, hc1⟩ := use_at (HA.out.below HB.out) hlt
      obtain ⟨nn, HN⟩ : ∃ nn, Hid ((us.getD k (false, false)).1 = nn) := ⟨_, rfl⟩
      obtain ⟨dd, HD⟩ : ∃ dd, Hid ((us.getD k (false, false)).2 = dd) := ⟨_, rfl⟩
      rw [HN.out] at hc0
      rw [HD.out] at hc1
      subst hA
      have i0 : (0 : Int) ≤ (k : Int) := by omega
      have i1 : (k : Int) < (n : Int) := by omega
      have hm : m ≤ k := by rw [← HR.out.len]; exact idxF_len _ _ _ _
      obtain ⟨W1, HW1⟩ : ∃ W1, Hid (W1 = wr.alloc (.cells #[.bool nn, .bool dd] 66)) := ⟨_, rfl⟩
      have L1 : Hid (Below wr.heap.size wr W1) := by rw [HW1.out]; exact (Below.refl _ _).alloc (Nat.le_refl _) _
      have d0 : W1.cell? ⟨wr.heap.size, 0, none⟩ = some (.bool nn) := by rw [HW1.out, cell_new]; rfl
      have d1 : W1.cell? ⟨wr.heap.size, 1, none⟩ = some (.bool dd) := by rw [HW1.out, cell_new]; rfl
      have C := Lib.hid (yisneeded_any nn dd W1)
      go_wp2_with fail
      rw [← HW1.out]
      go_wp2_with fail
      refine C.out.mono ?_
      rintro e W2 ⟨rfl, hB2⟩
      have B2 := Lib.hid (below_chain HB.out (below_chain L1.out hB2))
      have R2 := Lib.hid ((HR.out.since L1.out).since hB2)
      clear hB2 d0 d1 hc0 hc1
      by_cases hf : (us.getD k (false, false)).1 = true
      · have HF : Hid (idxF (·.1) (false, false) us (k + 1) = idxF (·.1) (false, false) us k ++ [(k : Int)]) := idxF_yes hf
        rw [HN.out] at hf
        subst hf
        obtain ⟨A4, c4, W4, hr4, ho4, hb4, _⟩ := Kind.append_one (K := intK) B2.out R2.out (k : Int) ⟨by omega, by omega⟩ #[.int .i64 (k : Int)] rfl (by omega)
        have R4 := Lib.hid (ho4.same HF.out.symm)
        have B4 := Lib.hid hb4
        have HR4 := Lib.hid hr4
        clear ho4 hb4 hr4
        go_wp2_with (at_builtin; refine wpList_append_run rfl (.tmp 18) (.tmp 20) 36 rfl rfl rfl HR4.out ?_)
        go_roundw
        case rel => exact ⟨k + 1, m + 1, A4, c4, by go_num, by omega, rfl, R4, B4⟩
        case measure => simp [intOf]; omega
      · have hf := Bool.eq_false_iff.2 hf
        have HF : Hid (idxF (·.1) (false, false) us (k + 1) = idxF (·.1) (false, false) us k) := idxF_no hf
        have R3 := Lib.hid (R2.out.same HF.out.symm)
        rw [HN.out] at hf
        subst hf
        go_wp2_with fail
        go_roundw
        case rel => exact ⟨k + 1, m, A3, c3, by go_num, by omega, rfl, R3, B2⟩
        case measure => simp [intOf]; omega
    · obtain rfl : k = n := by omega
      go_wp2_with fail
      go_ret
      exact ⟨A3, m, c3, rfl, HR, HB⟩
set_option maxHeartbeats 2000000 in
theorem ywhichd_any (A : Option Addr) (n c : Nat) (us : List (Bool × Bool)) (w : World) (hn : n ≤ 1000) (hA : useK.Lie w w.heap.size A n us) :
    Calls Try.prog 33 #[.slice A n c, .func (.func 34) #[] #[]] w (GivesI w (idxF (·.2) (false, false) us n)) := by
  have HA := Lib.hid hA
  have S0 := Lib.hid (Below.refl w.heap.size w)
  clear hA
  go_enter Try.func33, Try.ntmps33
  go_wp2_with fail
  go_loopw [5, 10] (fun t5 t10 wr => ∃ (k m : Nat) (A3 : Option Addr) (c3 : Nat), t10 = .int .i64 k ∧ k ≤ n ∧ t5 = .slice A3 m c3 ∧ Hid (intK.Row wr w.heap.size A3 m c3 (idxF (·.2) (false, false) us k)) ∧ Hid (Below w.heap.size w wr)) (fun _ t10 _ => n - (intOf t10).toNat)
  case atStart => exact ⟨0, 0, none, 0, rfl, Nat.zero_le _, rfl, Kind.Row.none_, S0⟩
  case round =>
    obtain ⟨k, m, A3, c3, rfl, hk, rfl, HR, HB⟩ := hrel
    by_cases hlt : k < n
    · obtain ⟨ad, hA, hblk, hc0, hc1⟩ := use_at (HA.out.below HB.out) hlt
      obtain ⟨nn, HN⟩ : ∃ nn, Hid ((us.getD k (false, false)).1 = nn) := ⟨_, rfl⟩
      obtain ⟨dd, HD⟩ : ∃ dd, Hid ((us.getD k (false, false)).2 = dd) := ⟨_, rfl⟩
      rw [HN.out] at hc0
      rw [HD.out] at hc1
      subst hA
      have i0 : (0 : Int) ≤ (k : Int) := by omega
      have i1 : (k : Int) < (n : Int) := by omega
      have hm : m ≤ k := by rw [← HR.out.len]; exact idxF_len _ _ _ _
      obtain ⟨W1, HW1⟩ : ∃ W1, Hid (W1 = wr.alloc (.cells #[.bool nn, .bool dd] 66)) := ⟨_, rfl⟩
      have L1 : Hid (Below wr.heap.size wr W1) := by rw [HW1.out]; exact (Below.refl _ _).alloc (Nat.le_refl _) _
      have d0 : W1.cell? ⟨wr.heap.size, 0, none⟩ = some (.bool nn) := by rw [HW1.out, cell_new]; rfl
      have d1 : W1.cell? ⟨wr.heap.size, 1, none⟩ = some (.bool dd) := by rw [HW1.out, cell_new]; rfl
      have C := Lib.hid (yisdirty_any nn dd W1)
      go_wp2_with fail
      rw [← HW1.out]
      go_wp2_with fail
      refine C.out.mono ?_
      rintro e W2 ⟨rfl, hB2⟩
      have B2 := Lib.hid (below_chain HB.out (below_chain L1.out hB2))
      have R2 := Lib.hid ((HR.out.since L1.out).since hB2)
      clear hB2 d0 d1 hc0 hc1
      by_cases hf : (us.getD k (false, false)).2 = true
      · have HF : Hid (idxF (·.2) (false, false) us (k + 1) = idxF (·.2) (false, false) us k ++ [(k : Int)]) := idxF_yes hf
        rw [HD.out] at hf
        subst hf
        obtain ⟨A4, c4, W4, hr4, ho4, hb4, _⟩ := Kind.append_one (K := intK) B2.out R2.out (k : Int) ⟨by omega, by omega⟩ #[.int .i64 (k : Int)] rfl (by omega)
        have R4 := Lib.hid (ho4.same HF.out.symm)
        have B4 := Lib.hid hb4
        have HR4 := Lib.hid hr4
        clear ho4 hb4 hr4
        go_wp2_with (at_builtin; refine wpList_append_run rfl (.tmp 18) (.tmp 20) 36 rfl rfl rfl HR4.out ?_)
        go_roundw
        case rel => exact ⟨k + 1, m + 1, A4, c4, by go_num, by omega, rfl, R4, B4⟩
        case measure => simp [intOf]; omega
      · have hf := Bool.eq_false_iff.2 hf
        have HF : Hid (idxF (·.2) (false, false) us (k + 1) = idxF (·.2) (false, false) us k) := idxF_no hf
        have R3 := Lib.hid (R2.out.same HF.out.symm)
        rw [HD.out] at hf
        subst hf
        go_wp2_with fail
        go_roundw
        case rel => exact ⟨k + 1, m, A3, c3, by go_num, by omega, rfl, R3, B2⟩
        case measure => simp [intOf]; omega
    · obtain rfl : k = n := by omega
      go_wp2_with fail
      go_ret
      exact ⟨A3, m, c3, rfl, HR, HB⟩
end Go.Proofs.Ytmfpelgkjgpfmaa
