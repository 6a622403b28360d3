/- Which entries may be, how many a part has, how many parts there are: the contracts of seg's Each, Parts, mayBe. No conditions. -/
import Derived.Test.YtopfdeihjjikiaaEntries
import Derived.Test.YtopfdeihjjikiaaSays
import Derived.Test.YtopfdeihjjikiaaSegMath
set_option linter.unusedVariables false
set_option linter.unusedSimpArgs false
namespace Go.Proofs.Ytopfdeihjjikiaa
open Go.RowKit

/-- An entry, a row of the call's own. -/
structure RowE (w : World) (g : Nat) (e : E) : Prop where
  row : w.heap[g]? = some (.cells #[.int .u64 e.addr, .int .i64 e.page, .bool e.dirty, .int .i64 e.seq] 48 (0, 0))
structure CellsE (w : World) (g : Nat) (e : E) : Prop where
  c0 : w.cell? ⟨g, 0, none⟩ = some (.int .u64 e.addr)
  c1 : w.cell? ⟨g, 1, none⟩ = some (.int .i64 e.page)
  c2 : w.cell? ⟨g, 2, none⟩ = some (.bool e.dirty)
  c3 : w.cell? ⟨g, 3, none⟩ = some (.int .i64 e.seq)
theorem RowE.lt {w : World} {g : Nat} {e : E} (h : RowE w g e) : g < w.heap.size := (Array.getElem?_eq_some_iff.1 h.row).1
theorem RowE.at_ {w : World} {g : Nat} {e : E} (h : RowE w g e) : CellsE w g e :=
  ⟨by rw [cell_of_row _ _ _ _ _ _ h.row]; rfl, by rw [cell_of_row _ _ _ _ _ _ h.row]; rfl, by rw [cell_of_row _ _ _ _ _ _ h.row]; rfl, by rw [cell_of_row _ _ _ _ _ _ h.row]; rfl⟩
theorem RowE.free {w : World} {g : Nat} {e : E} (h : RowE w g e) (k : Nat) : w.frozen? ⟨g, k, none⟩ = false := by simp [World.frozen?, h.row]
theorem RowE.since {w w' : World} {g : Nat} {e : E} (h : RowE w g e) (hb : Below w.heap.size w w') : RowE w' g e := ⟨(hb.block g h.lt).trans h.row⟩
theorem rowE_new (W : World) (e : E) : RowE (W.alloc (.cells #[.int .u64 e.addr, .int .i64 e.page, .bool e.dirty, .int .i64 e.seq] 48)) W.heap.size e := ⟨heap_alloc_new W _⟩
def okE (e : E) : Bool := decide (0 ≤ e.page ∧ e.page < 256 ∧ 1 ≤ e.seq ∧ e.seq ≤ 1099511627775)
theorem okE_out {e : E} (h : okE e = true) : 0 ≤ e.page ∧ e.page < 256 ∧ 1 ≤ e.seq ∧ e.seq ≤ 1099511627775 := of_decide_eq_true h
theorem okE_yes {e : E} (h : 0 ≤ e.page ∧ e.page < 256 ∧ 1 ≤ e.seq ∧ e.seq ≤ 1099511627775) : okE e = true := decide_eq_true h
theorem okE_no {e : E} (h : ¬(0 ≤ e.page ∧ e.page < 256 ∧ 1 ≤ e.seq ∧ e.seq ≤ 1099511627775)) : okE e = false := decide_eq_false h
set_option maxHeartbeats 2000000 in
theorem segmaybe_any (e : E) (w : World) : Calls Try.prog 30 #[entV e] w (SaysB w (okE e)) := by
  obtain ⟨a, p, d, s⟩ := e
  unfold entV
  dsimp only
  have S1 := Lib.hid (since_alloc (Below.refl w.heap.size w) (.cells #[.int .u64 a, .int .i64 p, .bool d, .int .i64 s] 48))
  by_cases h0 : 0 ≤ p
  · by_cases h1 : p < 256
    · by_cases h2 : 1 ≤ s
      · by_cases h3 : s ≤ 1099511627775
        · rw [okE_yes (e := ⟨a, p, d, s⟩) ⟨h0, h1, h2, h3⟩]
          go_enter Try.func30, Try.ntmps30
          go_wp2
          go_ret
          exact ⟨by simp, S1⟩
        · rw [okE_no (e := ⟨a, p, d, s⟩) (fun h => h3 h.2.2.2)]
          go_enter Try.func30, Try.ntmps30
          go_wp2
          go_ret
          exact ⟨by simp, S1⟩
      · rw [okE_no (e := ⟨a, p, d, s⟩) (fun h => h2 h.2.2.1)]
        go_enter Try.func30, Try.ntmps30
        go_wp2
        go_ret
        exact ⟨by simp, S1⟩
    · rw [okE_no (e := ⟨a, p, d, s⟩) (fun h => h1 h.2.1)]
      go_enter Try.func30, Try.ntmps30
      go_wp2
      go_ret
      exact ⟨by simp, S1⟩
  · rw [okE_no (e := ⟨a, p, d, s⟩) (fun h => h0 h.1)]
    go_enter Try.func30, Try.ntmps30
    go_wp2
    go_ret
    exact ⟨by simp, S1⟩
/- how many -/
def eachI (x : Int) : Int := if 128 ≤ x ∧ x ≤ 256 then (x - 42) / 15 else 0
theorem eachI_yes {x : Int} (h : 128 ≤ x ∧ x ≤ 256) : eachI x = (x - 42) / 15 := if_pos h
theorem eachI_no {x : Int} (h : ¬(128 ≤ x ∧ x ≤ 256)) : eachI x = 0 := if_neg h
theorem eachI_bd (x : Int) : 0 ≤ eachI x ∧ eachI x ≤ 14 := by
  unfold eachI
  split <;> omega
theorem each_any (x : Int) (w : World) : Calls Try.prog 14 #[.int .i64 x] w fun e w' => e = .returned (.int .i64 (eachI x)) ∧ w = w' := by
  by_cases h0 : 128 ≤ x
  · by_cases h1 : x ≤ 256
    · rw [eachI_yes ⟨h0, h1⟩]
      go_enter Try.func14, Try.ntmps14
      go_wp2
      go_ret
      exact ⟨rfl, rfl⟩
    · rw [eachI_no (fun h => h1 h.2)]
      go_enter Try.func14, Try.ntmps14
      go_wp2
      go_ret
      exact ⟨rfl, rfl⟩
  · rw [eachI_no (fun h => h0 h.1)]
    go_enter Try.func14, Try.ntmps14
    go_wp2
    go_ret
    exact ⟨rfl, rfl⟩
def partsI (x m : Int) : Int := if eachI x = 0 ∨ m < 0 then 0 else m / eachI x + (if 0 < m % eachI x ∨ m = 0 then 1 else 0)
theorem partsI_none {x m : Int} (h : eachI x = 0 ∨ m < 0) : partsI x m = 0 := if_pos h
theorem partsI_more {x m : Int} (h : ¬(eachI x = 0 ∨ m < 0)) (k : 0 < m % eachI x ∨ m = 0) : partsI x m = m / eachI x + 1 := by unfold partsI; rw [if_neg h, if_pos k]
theorem partsI_even {x m : Int} (h : ¬(eachI x = 0 ∨ m < 0)) (k : ¬(0 < m % eachI x ∨ m = 0)) : partsI x m = m / eachI x := by unfold partsI; rw [if_neg h, if_neg k, Int.add_zero]
set_option maxHeartbeats 2000000 in
theorem parts_any (x m : Int) (w : World) (hm : m ≤ 9223372036854775807) : Calls Try.prog 16 #[.int .i64 x, .int .i64 m] w fun e w' => e = .returned (.int .i64 (partsI x m)) ∧ w = w' := by
  have HE := Lib.hid (each_any x w)
  have hb := eachI_bd x
  obtain ⟨q, HQ⟩ : ∃ q, Hid (eachI x = q) := ⟨_, rfl⟩
  rw [HQ.out] at HE hb
  obtain ⟨hq0, hq1⟩ := hb
  by_cases hz : q = 0
  · rw [partsI_none (Or.inl (HQ.out.trans hz))]
    subst hz
    go_enter Try.func16, Try.ntmps16
    go_wp2_with fail
    refine HE.out.mono ?_
    rintro e w' ⟨rfl, rfl⟩
    go_wp2
    go_ret
    exact ⟨rfl, rfl⟩
  have hqz : (q == 0) = false := by simpa using hz
  by_cases h0 : m < 0
  · rw [partsI_none (Or.inr h0)]
    go_enter Try.func16, Try.ntmps16
    go_wp2_with fail
    refine HE.out.mono ?_
    rintro e w' ⟨rfl, rfl⟩
    go_wp2
    go_ret
    exact ⟨rfl, rfl⟩
  have hne : ¬(eachI x = 0 ∨ m < 0) := by rw [HQ.out]; omega
  have hq5 : 5 ≤ q := by
    rw [← HQ.out] at hz ⊢
    unfold eachI at hz ⊢
    split at hz <;> simp_all <;> omega
  have h2 : 0 ≤ m / q := Int.ediv_nonneg (by omega) hq0
  have h3 : m / q ≤ 4000000000000000000 := Int.ediv_le_of_le_mul (by omega) (by omega)
  by_cases h4 : 0 < m % q
  · rw [partsI_more hne (Or.inl (by rw [HQ.out]; exact h4)), HQ.out]
    go_enter Try.func16, Try.ntmps16
    go_wp2_with fail
    refine HE.out.mono ?_
    rintro e w' ⟨rfl, rfl⟩
    go_wp2
    go_ret
    exact ⟨rfl, rfl⟩
  by_cases h5 : m = 0
  · rw [partsI_more hne (Or.inr h5), HQ.out]
    subst h5
    go_enter Try.func16, Try.ntmps16
    go_wp2_with fail
    refine HE.out.mono ?_
    rintro e w' ⟨rfl, rfl⟩
    go_wp2
    go_ret
    exact ⟨by simp, rfl⟩
  · rw [partsI_even hne (fun h => by rw [HQ.out] at h; omega), HQ.out]
    have b5 : (m == 0) = false := by simpa using h5
    go_enter Try.func16, Try.ntmps16
    go_wp2_with fail
    refine HE.out.mono ?_
    rintro e w' ⟨rfl, rfl⟩
    go_wp2
    go_ret
    exact ⟨rfl, rfl⟩
/- the same, of numbers -/
theorem eachI_nat {s : Nat} (h : Sg.sizeOk s) : eachI (s : Int) = ((Sg.each s : Nat) : Int) := by
  obtain ⟨h0, h1⟩ := h
  unfold Sg.each
  rw [eachI_yes (by omega)]
  omega
theorem partsI_nat {s n : Nat} (h : Sg.sizeOk s) : partsI (s : Int) (n : Int) = ((Sg.parts s n : Nat) : Int) := by
  have hb := Sg.each_bd h
  have he := eachI_nat h
  have e1 : ((n : Int) / ((Sg.each s : Nat) : Int)) = ((n / Sg.each s : Nat) : Int) := (Int.natCast_ediv n (Sg.each s)).symm
  have e2 : ((n : Int) % ((Sg.each s : Nat) : Int)) = ((n % Sg.each s : Nat) : Int) := (Int.natCast_emod n (Sg.each s)).symm
  unfold Sg.parts
  by_cases k : n % Sg.each s ≠ 0 ∨ n = 0
  · rw [partsI_more (by rw [he]; omega) (by rw [he, e2]; omega), if_pos k, he, e1]; omega
  · rw [partsI_even (by rw [he]; omega) (by rw [he, e2]; omega), if_neg k, he, e1]; omega
end Go.Proofs.Ytopfdeihjjikiaa
