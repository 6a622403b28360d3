/- Mishaps in plain words: which may be, which befalls, which come behind; the document's own May, At, After, Darks (package sculleryref7). Conditions: the slices' cells; at most 7000 mishaps where a list is made. -/
import Derived.Test.YtgonphcjkoobmaaMishaps
import Derived.Test.YtgonphcjkoobmaaQuiet
import Derived.Test.YtgonphcjkoobmaaOps
set_option linter.unusedVariables false
set_option linter.unusedSimpArgs false
namespace Go.Proofs.Ytgonphcjkoobmaa
open Go.RowKit
open Go.Sort (grow)

def okM (m : M) : Bool := decide (1 ≤ m.at_ ∧ m.at_ ≤ 1073741824 ∧ (m.kind = 1 ∨ m.kind = 2) ∧ 0 ≤ m.bytes ∧ m.bytes ≤ 65536)
def getM (ms : List M) (k : Nat) : M := ms.getD k M.zero
def stepM (ms : List M) (k : Nat) : Bool := okM (getM ms k) && (k == 0 || decide ((getM ms (k - 1)).at_ < (getM ms k).at_))
/-- Mishaps that may be. -/
def mayM (ms : List M) : Bool := decide (ms.length ≤ 24) && (List.range ms.length).all (stepM ms)
/-- The first one of that number. -/
def atM (x : Int) : List M → Option M
  | [] => none
  | m :: r => if m.at_ = x then some m else atM x r
/-- Those behind a number. -/
def afterM (x : Int) (ms : List M) : List M := ms.filter fun m => decide (x < m.at_)
def darksM (ms : List M) : Nat := (ms.filter fun m => decide (m.kind = 2)).length
theorem okM_out {m : M} (h : okM m = true) : 1 ≤ m.at_ ∧ m.at_ ≤ 1073741824 ∧ (m.kind = 1 ∨ m.kind = 2) ∧ 0 ≤ m.bytes ∧ m.bytes ≤ 65536 := of_decide_eq_true h
theorem mayM_out {ms : List M} (h : mayM ms = true) : ms.length ≤ 24 ∧ ∀ k, k < ms.length → stepM ms k = true := by
  unfold mayM at h
  rw [Bool.and_eq_true, List.all_eq_true] at h
  exact ⟨of_decide_eq_true h.1, fun k hk => h.2 k (List.mem_range.2 hk)⟩
theorem mayM_yes {ms : List M} (hl : ms.length ≤ 24) (h : ∀ k, k < ms.length → stepM ms k = true) : mayM ms = true := by
  unfold mayM
  rw [Bool.and_eq_true, List.all_eq_true]
  exact ⟨decide_eq_true hl, fun k hk => h k (List.mem_range.1 hk)⟩
theorem mayM_no {ms : List M} {k : Nat} (hk : k < ms.length) (h : stepM ms k = false) : mayM ms = false := by
  rw [Bool.eq_false_iff]
  intro e
  have := (mayM_out e).2 k hk
  rw [h] at this; cases this
theorem mayM_many {ms : List M} (h : 24 < ms.length) : mayM ms = false := by
  rw [Bool.eq_false_iff]
  intro e
  have := (mayM_out e).1
  omega
theorem atM_hit {x : Int} : ∀ {ms : List M} {k : Nat}, k < ms.length → (getM ms k).at_ = x → (∀ j, j < k → (getM ms j).at_ ≠ x) → atM x ms = some (getM ms k)
  | [], k, h, _, _ => by simp at h
  | m :: r, 0, _, h, _ => by
    have h' : m.at_ = x := h
    unfold atM; rw [if_pos h']; rfl
  | m :: r, k + 1, hk, h, hn => by
    have h0 : m.at_ ≠ x := hn 0 (Nat.succ_pos k)
    unfold atM
    rw [if_neg h0]
    exact atM_hit (ms := r) (k := k) (by simpa using hk) h (fun j hj => hn (j + 1) (by omega))
theorem atM_miss {x : Int} : ∀ {ms : List M}, (∀ j, j < ms.length → (getM ms j).at_ ≠ x) → atM x ms = none
  | [], _ => rfl
  | m :: r, h => by
    have h0 : m.at_ ≠ x := h 0 (by simp)
    unfold atM
    rw [if_neg h0]
    exact atM_miss (ms := r) (fun j hj => h (j + 1) (by simpa using hj))
theorem take_nextM {ms : List M} {k : Nat} (hk : k < ms.length) : ms.take (k + 1) = ms.take k ++ [getM ms k] := by
  unfold getM
  rw [List.take_succ_eq_append_getElem hk, List.getD_eq_getElem?_getD, List.getElem?_eq_getElem hk]; rfl
theorem afterM_next {x : Int} {ms : List M} {k : Nat} (hk : k < ms.length) : afterM x (ms.take (k + 1)) = afterM x (ms.take k) ++ (if x < (getM ms k).at_ then [getM ms k] else []) := by
  unfold afterM
  rw [take_nextM hk, List.filter_append]
  congr 1
  by_cases h : x < (getM ms k).at_ <;> simp [h]
theorem darksM_next {ms : List M} {k : Nat} (hk : k < ms.length) : darksM (ms.take (k + 1)) = darksM (ms.take k) + (if (getM ms k).kind = 2 then 1 else 0) := by
  unfold darksM
  rw [take_nextM hk, List.filter_append, List.length_append]
  congr 1
  by_cases h : (getM ms k).kind = 2 <;> simp [h]
theorem afterM_len (x : Int) (ms : List M) : (afterM x ms).length ≤ ms.length := List.length_filter_le _ _
theorem darksM_len (ms : List M) : darksM ms ≤ ms.length := List.length_filter_le _ _
theorem getM_wf {ms : List M} (h : ∀ m ∈ ms, MWf m) (k : Nat) : MWf (getM ms k) := mishK.ok |> fun hz => by
  unfold getM
  rw [List.getD_eq_getElem?_getD]
  cases e : ms[k]? with
  | none => exact hz
  | some m => exact h m (List.mem_of_getElem? e)
theorem atM_wf {x : Int} : ∀ {ms : List M} {m : M}, (∀ m ∈ ms, MWf m) → atM x ms = some m → MWf m
  | [], m, _, h => by cases h
  | a :: r, m, hw, h => by
    unfold atM at h
    split at h
    · exact Option.some.inj h ▸ hw a (by simp)
    · exact atM_wf (fun m hm => hw m (by simp [hm])) h
/-- What At answers. -/
def atV : Option M → Value
  | none => .tuple #[mishV M.zero, .bool false]
  | some m => .tuple #[mishV m, .bool true]
/-- A mishap, a row of the call's own. -/
structure RowM (w : World) (g : Nat) (m : M) : Prop where
  row : w.heap[g]? = some (.cells #[.int .i64 m.at_, .int .i64 m.kind, .int .i64 m.bytes, .int .u8 m.fill] 25 (0, 0))
structure CellsM (w : World) (g : Nat) (m : M) : Prop where
  c0 : w.cell? ⟨g, 0, none⟩ = some (.int .i64 m.at_)
  c1 : w.cell? ⟨g, 1, none⟩ = some (.int .i64 m.kind)
  c2 : w.cell? ⟨g, 2, none⟩ = some (.int .i64 m.bytes)
  c3 : w.cell? ⟨g, 3, none⟩ = some (.int .u8 m.fill)
section
variable {w w' : World} {g : Nat} {m : M}
theorem RowM.lt (h : RowM w g m) : g < w.heap.size := (Array.getElem?_eq_some_iff.1 h.row).1
theorem RowM.at_ (h : RowM w g m) : CellsM w g m :=
  ⟨by rw [cell_of_row _ _ _ _ _ _ h.row]; rfl, by rw [cell_of_row _ _ _ _ _ _ h.row]; rfl, by rw [cell_of_row _ _ _ _ _ _ h.row]; rfl, by rw [cell_of_row _ _ _ _ _ _ h.row]; rfl⟩
theorem RowM.free (h : RowM w g m) (k : Nat) : w.frozen? ⟨g, k, none⟩ = false := by simp [World.frozen?, h.row]
theorem RowM.since (h : RowM w g m) (hb : Below w.heap.size w w') : RowM w' g m := ⟨(hb.block g h.lt).trans h.row⟩
theorem RowM.put (h : RowM w g m) (u : M) : RowM ((((w.setCell ⟨g, 0, none⟩ (.int .i64 u.at_)).setCell ⟨g, 1, none⟩ (.int .i64 u.kind)).setCell ⟨g, 2, none⟩ (.int .i64 u.bytes)).setCell ⟨g, 3, none⟩ (.int .u8 u.fill)) g u := ⟨by simp [World.setCell, Array.getElem?_modify, h.row]⟩
end
theorem rowM_new (W : World) (m : M) : RowM (W.alloc (.cells #[.int .i64 m.at_, .int .i64 m.kind, .int .i64 m.bytes, .int .u8 m.fill] 25)) W.heap.size m := ⟨heap_alloc_new W _⟩
theorem put4_else (w : World) (g : Nat) (a b c d : Value) : w.grownBy ((((w.setCell ⟨g, 0, none⟩ a).setCell ⟨g, 1, none⟩ b).setCell ⟨g, 2, none⟩ c).setCell ⟨g, 3, none⟩ d) (some g) :=
  grownBy_trans (grownBy_trans (grownBy_trans (setCell_else w ⟨g, 0, none⟩ a) (setCell_else _ ⟨g, 1, none⟩ b)) (setCell_else _ ⟨g, 2, none⟩ c)) (setCell_else _ ⟨g, 3, none⟩ d)
/-- What a call that answers mishaps of its own leaves. -/
def GivesM (w : World) (ms : List M) (e : Ending) (w' : World) : Prop := ∃ A n c, e = .returned (.slice A n c) ∧ Hid (mishK.Row w' w.heap.size A n c ms) ∧ Hid (Below w.heap.size w w')
def SaysN (w : World) (x : Int) (e : Ending) (w' : World) : Prop := e = .returned (.int .i64 x) ∧ Hid (Below w.heap.size w w')
def SaysV (w : World) (v : Value) (e : Ending) (w' : World) : Prop := e = .returned v ∧ Hid (Below w.heap.size w w')
theorem mish_at {w : World} {B n : Nat} {A : Option Addr} {ms : List M} (h : mishK.Lie w B A n ms) {k : Nat} (hk : k < n) : ∃ ad, A = some ad ∧ ad.block < B ∧ MishAt w (ad.add (k * 4)) (getM ms k) := by
  obtain ⟨ad, e1, e2, e3⟩ := h.each k hk
  exact ⟨ad, e1, e2, mishAt_of (m := getM ms k) e3⟩
set_option maxHeartbeats 4000000 in
theorem refat7_any (x : Int) (A : Option Addr) (n c : Nat) (ms : List M) (w : World) (hn : n ≤ 9223372036854775807) (hA : mishK.Lie w w.heap.size A n ms) :
    Calls Try.prog 8 #[.int .i64 x, .slice A n c] w (SaysV w (atV (atM x ms))) := by
  have HL := Lib.hid hA.len
  have S0 := Lib.hid (since_alloc (Below.refl w.heap.size w) (.cells #[.int .i64 0, .int .i64 0, .int .i64 0, .int .u8 0] 25))
  have R0 := Lib.hid (rowM_new w M.zero)
  unfold M.zero at R0
  dsimp only at R0
  obtain ⟨W0, HW0⟩ : ∃ W0 : World, Hid (W0 = w.alloc (.cells #[.int .i64 0, .int .i64 0, .int .i64 0, .int .u8 0] 25)) := ⟨_, rfl⟩
  have HA := Lib.hid (hA.since S0.out)
  clear hA
  go_enter Try.func8, Try.ntmps8
  go_wp2_with fail
  rw [← HW0.out] at S0 R0 HA ⊢
  go_loop [6] (fun t6 => ∃ k : Nat, t6 = .int .i64 k ∧ k ≤ n ∧ Hid (∀ j, j < k → (getM ms j).at_ ≠ x)) (fun t6 => n - (intOf t6).toNat)
  case atStart => exact ⟨0, rfl, Nat.zero_le _, fun j hj => absurd hj (Nat.not_lt_zero j)⟩
  case round =>
    obtain ⟨k, rfl, hk, HK⟩ := hrel
    obtain ⟨d0, d1, d2, d3⟩ := R0.out.at_
    have f0 := R0.out.free 0
    have f1 := R0.out.free 1
    have f2 := R0.out.free 2
    have f3 := R0.out.free 3
    dsimp only at d0 d1 d2 d3
    by_cases hlt : k < n
    · obtain ⟨ad, rfl, hblk, hat⟩ := mish_at HA.out hlt
      have HHIT := Lib.hid fun h => atM_hit (x := x) (ms := ms) (k := k) (by rw [HL.out]; exact hlt) h HK.out
      obtain ⟨m, HM⟩ : ∃ m, Hid (m = getM ms k) := ⟨_, rfl⟩
      rw [← HM.out] at hat HHIT
      obtain ⟨c0, c1, c2, c3⟩ := hat
      have i0 : (0 : Int) ≤ (k : Int) := by omega
      have i1 : (k : Int) < (n : Int) := by omega
      by_cases h : m.at_ = x
      · have HF := Lib.hid (HHIT.out h)
        have hb : (m.at_ == x) = true := by simpa using h
        clear h HHIT
        go_wp2_with fail
        have S9 := Lib.hid (S0.out.grown (put4_else W0 w.heap.size (.int .i64 m.at_) (.int .i64 m.kind) (.int .i64 m.bytes) (.int .u8 m.fill)) S0.out.size (fun q hq => by rw [← Option.some.inj hq]; exact Nat.le_refl _))
        have R9 := Lib.hid (R0.out.put m)
        obtain ⟨W9, HW9⟩ : ∃ W9, Hid (W9 = ((((W0.setCell ⟨w.heap.size, 0, none⟩ (.int .i64 m.at_)).setCell ⟨w.heap.size, 1, none⟩ (.int .i64 m.kind)).setCell ⟨w.heap.size, 2, none⟩ (.int .i64 m.bytes)).setCell ⟨w.heap.size, 3, none⟩ (.int .u8 m.fill))) := ⟨_, rfl⟩
        rw [← HW9.out] at S9 R9 ⊢
        obtain ⟨r0, r1, r2, r3⟩ := R9.out.at_
        exact bodyPost_ret (v := .tuple #[mishV m, .bool true]) (by simp [results, Try.results8, go_sem, r0, r1, r2, r3, mishV]) rfl (by rw [HF.out]; exact ⟨rfl, S9⟩)
      · have hb : (m.at_ == x) = false := by simpa using h
        have HK2 : Hid (∀ j, j < k + 1 → (getM ms j).at_ ≠ x) := fun j hj => by
          by_cases e : j = k
          · subst e; rw [← HM.out]; exact h
          · exact HK.out j (by omega)
        clear h HHIT
        go_wp2_with fail
        go_round
        case rel => exact ⟨k + 1, by go_num, by omega, HK2⟩
        case measure => simp [intOf]; omega
    · have HF : Hid (atM x ms = none) := atM_miss fun j hj => HK.out j (by have := HL.out; omega)
      go_wp2_with fail
      have S9 := Lib.hid (S0.out.grown (put4_else W0 w.heap.size (.int .i64 0) (.int .i64 0) (.int .i64 0) (.int .u8 0)) S0.out.size (fun q hq => by rw [← Option.some.inj hq]; exact Nat.le_refl _))
      have R9 := Lib.hid (R0.out.put ⟨0, 0, 0, 0⟩)
      dsimp only at R9
      obtain ⟨W9, HW9⟩ : ∃ W9, Hid (W9 = ((((W0.setCell ⟨w.heap.size, 0, none⟩ (.int .i64 0)).setCell ⟨w.heap.size, 1, none⟩ (.int .i64 0)).setCell ⟨w.heap.size, 2, none⟩ (.int .i64 0)).setCell ⟨w.heap.size, 3, none⟩ (.int .u8 0))) := ⟨_, rfl⟩
      rw [← HW9.out] at S9 R9 ⊢
      obtain ⟨r0, r1, r2, r3⟩ := R9.out.at_
      dsimp only at r0 r1 r2 r3
      exact bodyPost_ret (v := .tuple #[mishV M.zero, .bool false]) (by simp [results, Try.results8, go_sem, r0, r1, r2, r3, mishV, M.zero]) rfl (by rw [HF.out]; exact ⟨rfl, S9⟩)
set_option maxHeartbeats 4000000 in
theorem refafter7_any (x : Int) (A : Option Addr) (n c : Nat) (ms : List M) (w : World) (hn : n ≤ 7000) (hA : mishK.Lie w w.heap.size A n ms) :
    Calls Try.prog 11 #[.int .i64 x, .slice A n c] w (GivesM w (afterM x ms)) := by
  have HL := Lib.hid hA.len
  have HA := Lib.hid hA
  clear hA
  go_enter Try.func11, Try.ntmps11
  go_wp2_with fail
  go_loopw [5, 6] (fun t5 t6 wr => ∃ (k n5 c5 : Nat) (A5 : Option Addr) (us : List M), t6 = .int .i64 k ∧ k ≤ n ∧ t5 = .slice A5 n5 c5 ∧ Hid (us = afterM x (ms.take k)) ∧ Hid (mishK.Row wr w.heap.size A5 n5 c5 us) ∧ Hid (Below w.heap.size w wr)) (fun _ t6 _ => n - (intOf t6).toNat)
  case atStart => exact ⟨0, 0, 0, none, [], rfl, Nat.zero_le _, rfl, rfl, Kind.Row.none_, Below.refl _ _⟩
  case round =>
    obtain ⟨k, n5, c5, A5, us, rfl, hk, rfl, HU, HR, HB⟩ := hrel
    by_cases hlt : k < n
    · obtain ⟨ad, rfl, hblk, hat⟩ := mish_at (HA.out.since HB.out) hlt
      have HN := Lib.hid (afterM_next (x := x) (ms := ms) (k := k) (by rw [HL.out]; exact hlt))
      have hwf := HA.out.wf k
      have HWF : Hid (MWf (getM ms k)) := hwf
      have hn5 : n5 ≤ n := by
        have h1 := afterM_len x (ms.take k)
        rw [← HU.out, HR.out.len, List.length_take] at h1
        omega
      obtain ⟨m, HM⟩ : ∃ m, Hid (m = getM ms k) := ⟨_, rfl⟩
      rw [← HM.out] at hat HN HWF
      obtain ⟨c0, c1, c2, c3⟩ := hat
      have i0 : (0 : Int) ≤ (k : Int) := by omega
      have i1 : (k : Int) < (n : Int) := by omega
      clear hwf
      by_cases h : x < m.at_
      · rw [if_pos h] at HN
        obtain ⟨A9, c9, W9, hr9, ho9, hg9⟩ := Kind.append_one_b (K := mishK) HB.out.size HR.out m HWF.out #[.int .i64 m.at_, .int .i64 m.kind, .int .i64 m.bytes, .int .u8 m.fill] rfl (by omega)
        have R9 := Lib.hid hr9
        have Q9 := Lib.hid ho9
        have S9 : Hid (Below w.heap.size w W9) := HB.out.grown hg9 HB.out.size (fun b hb => (HR.out.row.lt b hb).1)
        have HU9 : Hid (us ++ [m] = afterM x (ms.take (k + 1))) := by show _ = _; rw [HN.out, HU.out]
        clear hr9 ho9 hg9
        go_wp2_with (at_builtin; refine wpList_append_run rfl (.tmp 20) (.tmp 25) 22 rfl rfl rfl R9.out ?_)
        go_roundw
        case rel => exact ⟨k + 1, n5 + 1, c9, A9, us ++ [m], by go_num, by omega, rfl, HU9, Q9, S9⟩
        case measure => simp [intOf]; omega
      · rw [if_neg h, List.append_nil] at HN
        have HU9 : Hid (us = afterM x (ms.take (k + 1))) := by show _ = _; rw [HN.out, HU.out]
        go_wp2_with fail
        go_roundw
        case rel => exact ⟨k + 1, n5, c5, A5, us, by go_num, by omega, rfl, HU9, HR, HB⟩
        case measure => simp [intOf]; omega
    · have HF : Hid (us = afterM x ms) := by show _ = _; rw [HU.out, List.take_of_length_le (by have := HL.out; omega)]
      go_wp2_with fail
      go_ret
      exact ⟨_, _, _, rfl, HR.out.same HF.out, HB⟩
end Go.Proofs.Ytgonphcjkoobmaa
