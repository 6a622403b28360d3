/- Texts of one layer, laid together. Conditions: as each one says. -/
import Derived.Test.YthgkdnegnecnjaaGreatDoorSbase
import Derived.BigQuiet
import Derived.Deep.QuietTactic
/- Mishaps in plain words: which may be, which befalls, which come behind; the document's own May, At, After, Darks (package sculleryref7). Conditions: the slices' cells; at most 7000 mishaps where a list is made. -/
set_option linter.unusedVariables false
set_option linter.unusedSimpArgs false
set_option maxRecDepth 20000
namespace Go.Proofs.YthgkdnegnecnjaaGreatDoor
open Go.RowKit
open Go.Sort (grow)

def okM (m : M) : Bool := decide (1 ≤ m.at_ ∧ m.at_ ≤ 1073741824 ∧ (m.kind = 1 ∨ m.kind = 2) ∧ 0 ≤ m.bytes ∧ m.bytes ≤ 65536)
def getM (ms : List M) (k : Nat) : M := ms.getD k M.zero
def stepM (ms : List M) (k : Nat) : Bool := okM (getM ms k) && (k == 0 || decide ((getM ms (k - 1)).at_ < (getM ms k).at_))
/-- Mishaps that may be. -/
def mayM (ms : List M) : Bool := decide (ms.length ≤ 24) && (List.range ms.length).all (stepM ms)
/-- The first one of that number. -/
def atM (x : Int) : List M → Option M
  | [] => none
  | m :: r => if m.at_ = x then some m else atM x r
/-- Those behind a number. -/
def afterM (x : Int) (ms : List M) : List M := ms.filter fun m => decide (x < m.at_)
def darksM (ms : List M) : Nat := (ms.filter fun m => decide (m.kind = 2)).length
theorem okM_out {m : M} (h : okM m = true) : 1 ≤ m.at_ ∧ m.at_ ≤ 1073741824 ∧ (m.kind = 1 ∨ m.kind = 2) ∧ 0 ≤ m.bytes ∧ m.bytes ≤ 65536 := of_decide_eq_true h
theorem mayM_out {ms : List M} (h : mayM ms = true) : ms.length ≤ 24 ∧ ∀ k, k < ms.length → stepM ms k = true := by
  unfold mayM at h
  rw [Bool.and_eq_true, List.all_eq_true] at h
  exact ⟨of_decide_eq_true h.1, fun k hk => h.2 k (List.mem_range.2 hk)⟩
theorem mayM_yes {ms : List M} (hl : ms.length ≤ 24) (h : ∀ k, k < ms.length → stepM ms k = true) : mayM ms = true := by
  unfold mayM
  rw [Bool.and_eq_true, List.all_eq_true]
  exact ⟨decide_eq_true hl, fun k hk => h k (List.mem_range.1 hk)⟩
theorem mayM_no {ms : List M} {k : Nat} (hk : k < ms.length) (h : stepM ms k = false) : mayM ms = false := by
  rw [Bool.eq_false_iff]
  intro e
  have := (mayM_out e).2 k hk
  rw [h] at this; cases this
theorem mayM_many {ms : List M} (h : 24 < ms.length) : mayM ms = false := by
  rw [Bool.eq_false_iff]
  intro e
  have := (mayM_out e).1
  omega
theorem atM_hit {x : Int} : ∀ {ms : List M} {k : Nat}, k < ms.length → (getM ms k).at_ = x → (∀ j, j < k → (getM ms j).at_ ≠ x) → atM x ms = some (getM ms k)
  | [], k, h, _, _ => by simp at h
  | m :: r, 0, _, h, _ => by
    have h' : m.at_ = x := h
    unfold atM; rw [if_pos h']; rfl
  | m :: r, k + 1, hk, h, hn => by
    have h0 : m.at_ ≠ x := hn 0 (Nat.succ_pos k)
    unfold atM
    rw [if_neg h0]
    exact atM_hit (ms := r) (k := k) (by simpa using hk) h (fun j hj => hn (j + 1) (by omega))
theorem atM_miss {x : Int} : ∀ {ms : List M}, (∀ j, j < ms.length → (getM ms j).at_ ≠ x) → atM x ms = none
  | [], _ => rfl
  | m :: r, h => by
    have h0 : m.at_ ≠ x := h 0 (by simp)
    unfold atM
    rw [if_neg h0]
    exact atM_miss (ms := r) (fun j hj => h (j + 1) (by simpa using hj))
theorem take_nextM {ms : List M} {k : Nat} (hk : k < ms.length) : ms.take (k + 1) = ms.take k ++ [getM ms k] := by
  unfold getM
  rw [List.take_succ_eq_append_getElem hk, List.getD_eq_getElem?_getD, List.getElem?_eq_getElem hk]; rfl
theorem afterM_next {x : Int} {ms : List M} {k : Nat} (hk : k < ms.length) : afterM x (ms.take (k + 1)) = afterM x (ms.take k) ++ (if x < (getM ms k).at_ then [getM ms k] else []) := by
  unfold afterM
  rw [take_nextM hk, List.filter_append]
  congr 1
  by_cases h : x < (getM ms k).at_ <;> simp [h]
theorem darksM_next {ms : List M} {k : Nat} (hk : k < ms.length) : darksM (ms.take (k + 1)) = darksM (ms.take k) + (if (getM ms k).kind = 2 then 1 else 0) := by
  unfold darksM
  rw [take_nextM hk, List.filter_append, List.length_append]
  congr 1
  by_cases h : (getM ms k).kind = 2 <;> simp [h]
theorem afterM_len (x : Int) (ms : List M) : (afterM x ms).length ≤ ms.length := List.length_filter_le _ _
theorem darksM_len (ms : List M) : darksM ms ≤ ms.length := List.length_filter_le _ _
theorem getM_wf {ms : List M} (h : ∀ m ∈ ms, MWf m) (k : Nat) : MWf (getM ms k) := mishK.ok |> fun hz => by
  unfold getM
  rw [List.getD_eq_getElem?_getD]
  cases e : ms[k]? with
  | none => exact hz
  | some m => exact h m (List.mem_of_getElem? e)
theorem atM_wf {x : Int} : ∀ {ms : List M} {m : M}, (∀ m ∈ ms, MWf m) → atM x ms = some m → MWf m
  | [], m, _, h => by cases h
  | a :: r, m, hw, h => by
    unfold atM at h
    split at h
    · exact Option.some.inj h ▸ hw a (by simp)
    · exact atM_wf (fun m hm => hw m (by simp [hm])) h
/-- What At answers. -/
def atV : Option M → Value
  | none => .tuple #[mishV M.zero, .bool false]
  | some m => .tuple #[mishV m, .bool true]
/-- A mishap, a row of the call's own. -/
structure RowM (w : World) (g : Nat) (m : M) : Prop where
  row : w.heap[g]? = some (.cells #[.int .i64 m.at_, .int .i64 m.kind, .int .i64 m.bytes, .int .u8 m.fill] 74 (0, 0))
structure CellsM (w : World) (g : Nat) (m : M) : Prop where
  c0 : w.cell? ⟨g, 0, none⟩ = some (.int .i64 m.at_)
  c1 : w.cell? ⟨g, 1, none⟩ = some (.int .i64 m.kind)
  c2 : w.cell? ⟨g, 2, none⟩ = some (.int .i64 m.bytes)
  c3 : w.cell? ⟨g, 3, none⟩ = some (.int .u8 m.fill)
section
variable {w w' : World} {g : Nat} {m : M}
theorem RowM.lt (h : RowM w g m) : g < w.heap.size := (Array.getElem?_eq_some_iff.1 h.row).1
theorem RowM.at_ (h : RowM w g m) : CellsM w g m :=
  ⟨by rw [cell_of_row _ _ _ _ _ _ h.row]; rfl, by rw [cell_of_row _ _ _ _ _ _ h.row]; rfl, by rw [cell_of_row _ _ _ _ _ _ h.row]; rfl, by rw [cell_of_row _ _ _ _ _ _ h.row]; rfl⟩
theorem RowM.free (h : RowM w g m) (k : Nat) : w.frozen? ⟨g, k, none⟩ = false := by simp [World.frozen?, h.row]
theorem RowM.since (h : RowM w g m) (hb : Below w.heap.size w w') : RowM w' g m := ⟨(hb.block g h.lt).trans h.row⟩
theorem RowM.put (h : RowM w g m) (u : M) : RowM ((((w.setCell ⟨g, 0, none⟩ (.int .i64 u.at_)).setCell ⟨g, 1, none⟩ (.int .i64 u.kind)).setCell ⟨g, 2, none⟩ (.int .i64 u.bytes)).setCell ⟨g, 3, none⟩ (.int .u8 u.fill)) g u := ⟨by simp [World.setCell, Array.getElem?_modify, h.row]⟩
end
theorem rowM_new (W : World) (m : M) : RowM (W.alloc (.cells #[.int .i64 m.at_, .int .i64 m.kind, .int .i64 m.bytes, .int .u8 m.fill] 74)) W.heap.size m := ⟨heap_alloc_new W _⟩
theorem put4_else (w : World) (g : Nat) (a b c d : Value) : w.grownBy ((((w.setCell ⟨g, 0, none⟩ a).setCell ⟨g, 1, none⟩ b).setCell ⟨g, 2, none⟩ c).setCell ⟨g, 3, none⟩ d) (some g) :=
  grownBy_trans (grownBy_trans (grownBy_trans (setCell_else w ⟨g, 0, none⟩ a) (setCell_else _ ⟨g, 1, none⟩ b)) (setCell_else _ ⟨g, 2, none⟩ c)) (setCell_else _ ⟨g, 3, none⟩ d)
/-- What a call that answers mishaps of its own leaves. -/
def GivesM (w : World) (ms : List M) (e : Ending) (w' : World) : Prop := ∃ A n c, e = .returned (.slice A n c) ∧ Hid (mishK.Row w' w.heap.size A n c ms) ∧ Hid (Below w.heap.size w w')
def SaysN (w : World) (x : Int) (e : Ending) (w' : World) : Prop := e = .returned (.int .i64 x) ∧ Hid (Below w.heap.size w w')
def mSaysV (w : World) (v : Value) (e : Ending) (w' : World) : Prop := e = .returned v ∧ Hid (Below w.heap.size w w')
theorem mish_at {w : World} {B n : Nat} {A : Option Addr} {ms : List M} (h : mishK.Lie w B A n ms) {k : Nat} (hk : k < n) : ∃ ad, A = some ad ∧ ad.block < B ∧ MishAt w (ad.add (k * 4)) (getM ms k) := by
  obtain ⟨ad, e1, e2, e3⟩ := h.each k hk
  exact ⟨ad, e1, e2, mishAt_of (m := getM ms k) e3⟩
end Go.Proofs.YthgkdnegnecnjaaGreatDoor

/- The document's own May and Darks of mishaps; SameMishaps, OverMishaps. Conditions: the slices' cells; at most 7000 mishaps. -/
set_option linter.unusedVariables false
set_option linter.unusedSimpArgs false
set_option maxRecDepth 20000
namespace Go.Proofs.YthgkdnegnecnjaaGreatDoor
open Go.RowKit
open Go.Sort (grow)

set_option maxHeartbeats 8000000 in
set_option maxRecDepth 20000 in
theorem refmay7_any (A : Option Addr) (n c : Nat) (ms : List M) (w : World) (hn : n ≤ 9223372036854775807) (hA : mishK.Lie w w.heap.size A n ms) :
    Calls Tryz.prog 11 #[.slice A n c] w (SaysB w (mayM ms)) := by
  have HA := Lib.hid hA
  have HL := Lib.hid hA.len
  clear hA
  by_cases hbig : 24 < n
  · rw [mayM_many (by rw [HL.out]; exact hbig)]
    go_enter Tryz.func11, Tryz.ntmps11
    go_wp2_with fail
    go_loopw [3] (fun t3 wr => t3 = .int .i64 0 ∧ Hid (Below w.heap.size w wr)) (fun _ _ => 0)
    case atStart => exact ⟨rfl, Below.refl _ _⟩
    case round =>
      obtain ⟨rfl, HB⟩ := hrel
      go_wp2_with fail
      go_ret
      exact ⟨by simp; omega, HB.out⟩
  go_enter Tryz.func11, Tryz.ntmps11
  go_wp2_with fail
  go_loopw [3] (fun t3 wr => ∃ (k : Nat), k ≤ n ∧ t3 = .int .i64 k ∧ Hid (∀ j, j < k → stepM ms j = true) ∧ Hid (Below w.heap.size w wr)) (fun t3 _ => n - (intOf t3).toNat)
  case atStart => exact ⟨0, Nat.zero_le _, rfl, fun j hj => absurd hj (Nat.not_lt_zero j), Below.refl _ _⟩
  case round =>
    obtain ⟨k, hk, rfl, HK, HB⟩ := hrel
    have hn24 : (n : Int) ≤ 24 := by omega
    by_cases hlt : k < n
    · obtain ⟨ad, hA, hblk, hat⟩ := mish_at (HA.out.since HB.out) hlt
      subst hA
      have i0 : (0 : Int) ≤ (k : Int) := by omega
      have i1 : (k : Int) < (n : Int) := by omega
      have h4 : ∃ a' : Int, (0 < k → a' = (getM ms (k - 1)).at_) ∧ (0 < k → wr.cell? (ad.add ((k - 1) * 4)) = some (.int .i64 a')) := by
        by_cases hk0 : 0 < k
        · obtain ⟨ad', hA', _, hat'⟩ := mish_at (HA.out.since HB.out) (k := k - 1) (by omega)
          obtain rfl := Option.some.inj hA'
          exact ⟨_, fun _ => rfl, fun _ => hat'.c0⟩
        · exact ⟨0, fun h => absurd h hk0, fun h => absurd h hk0⟩
      obtain ⟨a', hpa, hcp⟩ := h4
      have HPA := Lib.hid hpa
      clear hpa
      have hidx : 0 < k → ∀ W : World, (Instr.indexAt 23 (.slice (some ad) n c) (.int .i64 ((k : Int) - 1))).run Tryz.prog W = .ok (.pointer (some (ad.add ((k - 1) * 4)))) W := fun hk0 W => by
        have j0 : (0 : Int) ≤ (k : Int) - 1 := by omega
        have j1 : (k : Int) - 1 < (n : Int) := by omega
        have e : ((k : Int) - 1).toNat = k - 1 := by omega
        go_simp
        intro h
        omega
      obtain ⟨e, HV⟩ : ∃ e, Hid (e = getM ms k) := ⟨_, rfl⟩
      rw [← HV.out] at hat
      have HST : Hid (stepM ms k = (okM e && (k == 0 || decide (a' < e.at_)))) := by
        show _ = _
        unfold stepM
        rw [← HV.out]
        by_cases hk0 : 0 < k
        · rw [HPA.out hk0]
        · have : (k == 0) = true := by simp; omega
          rw [this]; simp
      obtain ⟨c0, c1, c2, c3⟩ := hat
      obtain ⟨a, kd, by_, fl⟩ := e
      dsimp only at c0 c1 c2 c3 HST
      go_wp2_with fail
      obtain ⟨W1, HW1⟩ : ∃ W1, Hid (W1 = wr.alloc (.cells #[.int .i64 a, .int .i64 kd, .int .i64 by_, .int .u8 fl] 74)) := ⟨_, rfl⟩
      have L1 : Hid (Below wr.heap.size wr W1) := by rw [HW1.out]; exact later_alloc _ _
      have R1 : Hid (RowM W1 wr.heap.size ⟨a, kd, by_, fl⟩) := by rw [HW1.out]; exact rowM_new wr ⟨a, kd, by_, fl⟩
      have hcp1 : 0 < k → W1.cell? (ad.add ((k - 1) * 4)) = some (.int .i64 a') := fun hk0 => (L1.out.cell (by rw [addr_block]; exact hblk)).trans (hcp hk0)
      have HCP := Lib.hid hcp1
      have HIX := Lib.hid hidx
      rw [← HW1.out]
      clear c0 c1 c2 c3 hcp hcp1 hidx
      obtain ⟨c0, c1, c2, c3⟩ := R1.out.at_
      dsimp only at c0 c1 c2 c3
      by_cases ha0 : a < 1
      · clear HPA HCP HIX
        have HF : Hid (mayM ms = false) := mayM_no (k := k) (by rw [HL.out]; exact hlt) (by rw [HST.out]; show (okM ⟨a, kd, by_, fl⟩ && _) = false; rw [show okM ⟨a, kd, by_, fl⟩ = false from decide_eq_false (fun h => absurd h.1 (by show ¬ 1 ≤ a; omega))]; rfl)
        clear HST
        go_quiet (fail)
        go_wp2_with fail
        go_ret
        rw [HF.out]
        exact ⟨rfl, below_drewN (below_chain HB.out L1.out) _⟩
      by_cases ha1 : 1073741824 < a
      · clear HPA HCP HIX
        have HF : Hid (mayM ms = false) := mayM_no (k := k) (by rw [HL.out]; exact hlt) (by rw [HST.out]; show (okM ⟨a, kd, by_, fl⟩ && _) = false; rw [show okM ⟨a, kd, by_, fl⟩ = false from decide_eq_false (fun h => absurd h.2.1 (by show ¬ a ≤ 1073741824; omega))]; rfl)
        clear HST
        go_quiet (fail)
        go_wp2_with fail
        go_ret
        rw [HF.out]
        exact ⟨rfl, below_drewN (below_chain HB.out L1.out) _⟩
      by_cases hk0 : 0 < k
      · have hk0' : (0 : Int) < (k : Int) := by omega
        have b0 : (k == 0) = false := by simp; omega
        rw [b0, Bool.false_or] at HST
        have ix := HIX.out hk0
        have cp := HCP.out hk0
        have hw1 : IntKind.i64.wrap ((k : Int) - 1) = (k : Int) - 1 := by rw [IntKind.wrap_i64]; omega
        clear HPA HCP HIX
        by_cases hle : a ≤ a'
        · skip
          have HF : Hid (mayM ms = false) := mayM_no (k := k) (by rw [HL.out]; exact hlt) (by rw [HST.out]; rw [decide_eq_false (by omega), Bool.and_false])
          clear HST
          go_quiet (fail)
          go_wp2_with fail
          go_ret
          rw [HF.out]
          exact ⟨rfl, below_drewN (below_chain HB.out L1.out) _⟩
        by_cases h1 : kd = 1
        · have n1 : (kd != 1) = false := by simpa using h1
          by_cases hb0 : by_ < 0
          · skip
            have HF : Hid (mayM ms = false) := mayM_no (k := k) (by rw [HL.out]; exact hlt) (by rw [HST.out]; show (okM ⟨a, kd, by_, fl⟩ && _) = false; rw [show okM ⟨a, kd, by_, fl⟩ = false from decide_eq_false (fun h => absurd h.2.2.2.1 (by show ¬ 0 ≤ by_; omega))]; rfl)
            clear HST
            go_quiet (fail)
            go_wp2_with fail
            go_ret
            rw [HF.out]
            exact ⟨rfl, below_drewN (below_chain HB.out L1.out) _⟩
          by_cases hb1 : 65536 < by_
          · skip
            have HF : Hid (mayM ms = false) := mayM_no (k := k) (by rw [HL.out]; exact hlt) (by rw [HST.out]; show (okM ⟨a, kd, by_, fl⟩ && _) = false; rw [show okM ⟨a, kd, by_, fl⟩ = false from decide_eq_false (fun h => absurd h.2.2.2.2 (by show ¬ by_ ≤ 65536; omega))]; rfl)
            clear HST
            go_quiet (fail)
            go_wp2_with fail
            go_ret
            rw [HF.out]
            exact ⟨rfl, below_drewN (below_chain HB.out L1.out) _⟩
          have HF : Hid (stepM ms k = true) := by show _ = _; rw [HST.out]; rw [show okM ⟨a, kd, by_, fl⟩ = true from decide_eq_true ⟨by show 1 ≤ a; omega, by show a ≤ 1073741824; omega, Or.inl h1, by show 0 ≤ by_; omega, by show by_ ≤ 65536; omega⟩, Bool.true_and]; exact decide_eq_true (by omega)
          clear HST
          go_quiet (fail)
          have S3 : Hid (Below w.heap.size w (W1.drewN nq)) := below_drewN (below_chain HB.out L1.out) _
          have HK2 : Hid (∀ j, j < k + 1 → stepM ms j = true) := fun j hj => by
            by_cases e : j = k
            · subst e; exact HF.out
            · exact HK.out j (by omega)
          go_wp2_with fail
          go_roundw
          case rel => exact ⟨k + 1, by omega, by go_num, HK2, S3⟩
          case measure => simp [intOf]; omega
        · have n1 : (kd != 1) = true := by simpa using h1
          by_cases h2 : kd = 2
          · have n2 : (kd != 2) = false := by simpa using h2
            by_cases hb0 : by_ < 0
            · skip
              have HF : Hid (mayM ms = false) := mayM_no (k := k) (by rw [HL.out]; exact hlt) (by rw [HST.out]; show (okM ⟨a, kd, by_, fl⟩ && _) = false; rw [show okM ⟨a, kd, by_, fl⟩ = false from decide_eq_false (fun h => absurd h.2.2.2.1 (by show ¬ 0 ≤ by_; omega))]; rfl)
              clear HST
              go_quiet (fail)
              go_wp2_with fail
              go_ret
              rw [HF.out]
              exact ⟨rfl, below_drewN (below_chain HB.out L1.out) _⟩
            by_cases hb1 : 65536 < by_
            · skip
              have HF : Hid (mayM ms = false) := mayM_no (k := k) (by rw [HL.out]; exact hlt) (by rw [HST.out]; show (okM ⟨a, kd, by_, fl⟩ && _) = false; rw [show okM ⟨a, kd, by_, fl⟩ = false from decide_eq_false (fun h => absurd h.2.2.2.2 (by show ¬ by_ ≤ 65536; omega))]; rfl)
              clear HST
              go_quiet (fail)
              go_wp2_with fail
              go_ret
              rw [HF.out]
              exact ⟨rfl, below_drewN (below_chain HB.out L1.out) _⟩
            have HF : Hid (stepM ms k = true) := by show _ = _; rw [HST.out]; rw [show okM ⟨a, kd, by_, fl⟩ = true from decide_eq_true ⟨by show 1 ≤ a; omega, by show a ≤ 1073741824; omega, Or.inr h2, by show 0 ≤ by_; omega, by show by_ ≤ 65536; omega⟩, Bool.true_and]; exact decide_eq_true (by omega)
            clear HST
            go_quiet (fail)
            have S3 : Hid (Below w.heap.size w (W1.drewN nq)) := below_drewN (below_chain HB.out L1.out) _
            have HK2 : Hid (∀ j, j < k + 1 → stepM ms j = true) := fun j hj => by
              by_cases e : j = k
              · subst e; exact HF.out
              · exact HK.out j (by omega)
            go_wp2_with fail
            go_roundw
            case rel => exact ⟨k + 1, by omega, by go_num, HK2, S3⟩
            case measure => simp [intOf]; omega
          · have n2 : (kd != 2) = true := by simpa using h2
            have HF : Hid (mayM ms = false) := mayM_no (k := k) (by rw [HL.out]; exact hlt) (by rw [HST.out]; show (okM ⟨a, kd, by_, fl⟩ && _) = false; rw [show okM ⟨a, kd, by_, fl⟩ = false from decide_eq_false (fun h => absurd h.2.2.1 (by show ¬ (kd = 1 ∨ kd = 2); omega))]; rfl)
            clear HST
            go_quiet (fail)
            go_wp2_with fail
            go_ret
            rw [HF.out]
            exact ⟨rfl, below_drewN (below_chain HB.out L1.out) _⟩
      · have hk0' : ¬ (0 : Int) < (k : Int) := by omega
        have b0 : (k == 0) = true := by simp; omega
        rw [b0, Bool.true_or] at HST
        clear HPA HCP HIX
        by_cases h1 : kd = 1
        · have n1 : (kd != 1) = false := by simpa using h1
          by_cases hb0 : by_ < 0
          · skip
            have HF : Hid (mayM ms = false) := mayM_no (k := k) (by rw [HL.out]; exact hlt) (by rw [HST.out]; show (okM ⟨a, kd, by_, fl⟩ && _) = false; rw [show okM ⟨a, kd, by_, fl⟩ = false from decide_eq_false (fun h => absurd h.2.2.2.1 (by show ¬ 0 ≤ by_; omega))]; rfl)
            clear HST
            go_quiet (fail)
            go_wp2_with fail
            go_ret
            rw [HF.out]
            exact ⟨rfl, below_drewN (below_chain HB.out L1.out) _⟩
          by_cases hb1 : 65536 < by_
          · skip
            have HF : Hid (mayM ms = false) := mayM_no (k := k) (by rw [HL.out]; exact hlt) (by rw [HST.out]; show (okM ⟨a, kd, by_, fl⟩ && _) = false; rw [show okM ⟨a, kd, by_, fl⟩ = false from decide_eq_false (fun h => absurd h.2.2.2.2 (by show ¬ by_ ≤ 65536; omega))]; rfl)
            clear HST
            go_quiet (fail)
            go_wp2_with fail
            go_ret
            rw [HF.out]
            exact ⟨rfl, below_drewN (below_chain HB.out L1.out) _⟩
          have HF : Hid (stepM ms k = true) := by show _ = _; rw [HST.out]; rw [show okM ⟨a, kd, by_, fl⟩ = true from decide_eq_true ⟨by show 1 ≤ a; omega, by show a ≤ 1073741824; omega, Or.inl h1, by show 0 ≤ by_; omega, by show by_ ≤ 65536; omega⟩, Bool.true_and]; all_goals rfl
          clear HST
          go_quiet (fail)
          have S3 : Hid (Below w.heap.size w (W1.drewN nq)) := below_drewN (below_chain HB.out L1.out) _
          have HK2 : Hid (∀ j, j < k + 1 → stepM ms j = true) := fun j hj => by
            by_cases e : j = k
            · subst e; exact HF.out
            · exact HK.out j (by omega)
          go_wp2_with fail
          go_roundw
          case rel => exact ⟨k + 1, by omega, by go_num, HK2, S3⟩
          case measure => simp [intOf]; omega
        · have n1 : (kd != 1) = true := by simpa using h1
          by_cases h2 : kd = 2
          · have n2 : (kd != 2) = false := by simpa using h2
            by_cases hb0 : by_ < 0
            · skip
              have HF : Hid (mayM ms = false) := mayM_no (k := k) (by rw [HL.out]; exact hlt) (by rw [HST.out]; show (okM ⟨a, kd, by_, fl⟩ && _) = false; rw [show okM ⟨a, kd, by_, fl⟩ = false from decide_eq_false (fun h => absurd h.2.2.2.1 (by show ¬ 0 ≤ by_; omega))]; rfl)
              clear HST
              go_quiet (fail)
              go_wp2_with fail
              go_ret
              rw [HF.out]
              exact ⟨rfl, below_drewN (below_chain HB.out L1.out) _⟩
            by_cases hb1 : 65536 < by_
            · skip
              have HF : Hid (mayM ms = false) := mayM_no (k := k) (by rw [HL.out]; exact hlt) (by rw [HST.out]; show (okM ⟨a, kd, by_, fl⟩ && _) = false; rw [show okM ⟨a, kd, by_, fl⟩ = false from decide_eq_false (fun h => absurd h.2.2.2.2 (by show ¬ by_ ≤ 65536; omega))]; rfl)
              clear HST
              go_quiet (fail)
              go_wp2_with fail
              go_ret
              rw [HF.out]
              exact ⟨rfl, below_drewN (below_chain HB.out L1.out) _⟩
            have HF : Hid (stepM ms k = true) := by show _ = _; rw [HST.out]; rw [show okM ⟨a, kd, by_, fl⟩ = true from decide_eq_true ⟨by show 1 ≤ a; omega, by show a ≤ 1073741824; omega, Or.inr h2, by show 0 ≤ by_; omega, by show by_ ≤ 65536; omega⟩, Bool.true_and]; all_goals rfl
            clear HST
            go_quiet (fail)
            have S3 : Hid (Below w.heap.size w (W1.drewN nq)) := below_drewN (below_chain HB.out L1.out) _
            have HK2 : Hid (∀ j, j < k + 1 → stepM ms j = true) := fun j hj => by
              by_cases e : j = k
              · subst e; exact HF.out
              · exact HK.out j (by omega)
            go_wp2_with fail
            go_roundw
            case rel => exact ⟨k + 1, by omega, by go_num, HK2, S3⟩
            case measure => simp [intOf]; omega
          · have n2 : (kd != 2) = true := by simpa using h2
            have HF : Hid (mayM ms = false) := mayM_no (k := k) (by rw [HL.out]; exact hlt) (by rw [HST.out]; show (okM ⟨a, kd, by_, fl⟩ && _) = false; rw [show okM ⟨a, kd, by_, fl⟩ = false from decide_eq_false (fun h => absurd h.2.2.1 (by show ¬ (kd = 1 ∨ kd = 2); omega))]; rfl)
            clear HST
            go_quiet (fail)
            go_wp2_with fail
            go_ret
            rw [HF.out]
            exact ⟨rfl, below_drewN (below_chain HB.out L1.out) _⟩
    · have HY : Hid (mayM ms = true) := mayM_yes (ms := ms) (by have := HL.out; omega) (fun j hj => HK.out j (by have := HL.out; omega))
      rw [HY.out]
      have hlt' : ¬ (k : Int) < (n : Int) := by omega
      go_wp2
      go_ret
      exact ⟨by simp [HY.out], HB.out⟩
theorem mish_cells_set : ∀ (vs : List M) (i : Nat) (v : M), i < vs.length → mishK.cells (vs.set i v) = ((((mishK.cells vs).set (i * 4) (.int .i64 v.at_)).set (i * 4 + 1) (.int .i64 v.kind)).set (i * 4 + 2) (.int .i64 v.bytes)).set (i * 4 + 3) (.int .u8 v.fill)
  | [], i, v, h => by simp at h
  | u :: r, 0, v, _ => rfl
  | u :: r, i + 1, v, h => by
    have ih := mish_cells_set r i v (by simpa using h)
    have e : ∀ (l : List Value) (k : Nat) (x : Value), (mishCells u ++ l).set (k + 4) x = mishCells u ++ l.set k x := fun l k x => rfl
    show mishCells u ++ mishK.cells (r.set i v) = _
    rw [ih, show (i + 1) * 4 = i * 4 + 4 by omega]
    show _ = ((((mishCells u ++ mishK.cells r).set (i * 4 + 4) _).set (i * 4 + 4 + 1) _).set (i * 4 + 4 + 2) _).set (i * 4 + 4 + 3) _
    rw [e, show i * 4 + 4 + 1 = i * 4 + 1 + 4 by omega, e, show i * 4 + 4 + 2 = i * 4 + 2 + 4 by omega, e, show i * 4 + 4 + 3 = i * 4 + 3 + 4 by omega, e]
/-- The world behind the store of a mishap. -/
def putM (W : World) (g p : Nat) (v : M) : World := (((W.setCell ⟨g, p, none⟩ (.int .i64 v.at_)).setCell ⟨g, p + 1, none⟩ (.int .i64 v.kind)).setCell ⟨g, p + 2, none⟩ (.int .i64 v.bytes)).setCell ⟨g, p + 3, none⟩ (.int .u8 v.fill)
theorem mishRow_set {W : World} {base g n c : Nat} {vs : List M} (h : mishK.Row W base (some ⟨g, 0, none⟩) n c vs) {i : Nat} (hi : i < n) (v : M) (hv : MWf v) : mishK.Row (putM W g (i * 4) v) base (some ⟨g, 0, none⟩) n c (vs.set i v) ∧ W.grownBy (putM W g (i * 4) v) (some g) := by
  obtain ⟨h1, g1⟩ := h.row.stored (i * 4) (.int .i64 v.at_)
  obtain ⟨h2, g2⟩ := h1.stored (i * 4 + 1) (.int .i64 v.kind)
  obtain ⟨h3, g3⟩ := h2.stored (i * 4 + 2) (.int .i64 v.bytes)
  obtain ⟨h4, g4⟩ := h3.stored (i * 4 + 3) (.int .u8 v.fill)
  refine ⟨⟨?_, fun u hu => ?_⟩, grownBy_trans (grownBy_trans (grownBy_trans g1 g2) g3) g4⟩
  · rw [mish_cells_set vs i v (by rw [h.len]; exact hi)]; exact h4
  · rcases List.mem_or_eq_of_mem_set hu with hu | hu
    · exact h.wf u hu
    · rw [hu]; exact hv
def overM : M := ⟨-9, 0, 0, 0⟩
theorem overM_wf : MWf overM := ⟨by decide, by decide, by decide, by decide, by decide, by decide, by decide, by decide⟩
end Go.Proofs.YthgkdnegnecnjaaGreatDoor

/- The contracts of mishap's At, After, Darks, mayBe, May. Conditions: the slices' cells; at most 7000 mishaps where a list is made. -/
set_option linter.unusedVariables false
set_option linter.unusedSimpArgs false
set_option maxRecDepth 20000
namespace Go.Proofs.YthgkdnegnecnjaaGreatDoor
open Go.RowKit
open Go.Sort (grow)

set_option maxHeartbeats 4000000 in
theorem at7_any (x : Int) (A : Option Addr) (n c : Nat) (ms : List M) (w : World) (hn : n ≤ 9223372036854775807) (hA : mishK.Lie w w.heap.size A n ms) :
    Calls Tryz.prog 121 #[.int .i64 x, .slice A n c] w (mSaysV w (atV (atM x ms))) := by
  have HL := Lib.hid hA.len
  have S0 := Lib.hid (since_alloc (Below.refl w.heap.size w) (.cells #[.int .i64 0, .int .i64 0, .int .i64 0, .int .u8 0] 74))
  have R0 := Lib.hid (rowM_new w M.zero)
  obtain ⟨W0, HW0⟩ : ∃ W0 : World, Hid (W0 = w.alloc (.cells #[.int .i64 0, .int .i64 0, .int .i64 0, .int .u8 0] 74)) := ⟨_, rfl⟩
  have HA := Lib.hid hA
  clear hA
  unfold M.zero at R0
  dsimp only at R0
  rw [← HW0.out] at S0 R0
  go_enter Tryz.func121, Tryz.ntmps121
  go_wp2_with fail
  rw [← HW0.out]
  go_loopw [10] (fun t10 wr => ∃ k : Nat, t10 = .int .i64 k ∧ k ≤ n ∧ Hid (∀ j, j < k → (getM ms j).at_ ≠ x) ∧ Hid (RowM wr w.heap.size ⟨0, 0, 0, 0⟩) ∧ Hid (Below w.heap.size w wr)) (fun t10 _ => n - (intOf t10).toNat)
  case atStart => exact ⟨0, rfl, Nat.zero_le _, fun j hj => absurd hj (Nat.not_lt_zero j), R0, S0⟩
  case round =>
    obtain ⟨k, rfl, hk, HK, HR, HB⟩ := hrel
    by_cases hlt : k < n
    · obtain ⟨ad, rfl, hblk, hat⟩ := mish_at (HA.out.since HB.out) hlt
      have HHIT := Lib.hid fun h => atM_hit (x := x) (ms := ms) (k := k) (by rw [HL.out]; exact hlt) h HK.out
      obtain ⟨m, HM⟩ : ∃ m, Hid (m = getM ms k) := ⟨_, rfl⟩
      rw [← HM.out] at hat HHIT
      obtain ⟨c0, c1, c2, c3⟩ := hat
      have i0 : (0 : Int) ≤ (k : Int) := by omega
      have i1 : (k : Int) < (n : Int) := by omega
      obtain ⟨W1, HW1⟩ : ∃ W1, Hid (W1 = wr.alloc (.cells #[.int .i64 m.at_, .int .i64 m.kind, .int .i64 m.bytes, .int .u8 m.fill] 74)) := ⟨_, rfl⟩
      have L1 : Hid (Below wr.heap.size wr W1) := by rw [HW1.out]; exact later_alloc _ _
      have R1 : Hid (RowM W1 wr.heap.size m) := by rw [HW1.out]; exact rowM_new wr m
      have RV := Lib.hid (HR.out.since L1.out)
      have S1 := Lib.hid (below_chain HB.out L1.out)
      by_cases h : m.at_ = x
      · have HF := Lib.hid (HHIT.out h)
        have hb : (m.at_ == x) = true := by simpa using h
        clear h HHIT
        obtain ⟨e0, e1, e2, e3⟩ := R1.out.at_
        obtain ⟨d0, d1, d2, d3⟩ := RV.out.at_
        have f0 := RV.out.free 0
        have f1 := RV.out.free 1
        have f2 := RV.out.free 2
        have f3 := RV.out.free 3
        dsimp only at d0 d1 d2 d3
        rw [HW1.out] at e0 e1 e2 e3 d0 d1 d2 d3 f0 f1 f2 f3
        go_wp2_with fail
        rw [← HW1.out]
        have S9 := Lib.hid (S1.out.grown (put4_else W1 w.heap.size (.int .i64 m.at_) (.int .i64 m.kind) (.int .i64 m.bytes) (.int .u8 m.fill)) S1.out.size (fun q hq => by rw [← Option.some.inj hq]; exact Nat.le_refl _))
        have R9 := Lib.hid (RV.out.put m)
        obtain ⟨W9, HW9⟩ : ∃ W9, Hid (W9 = ((((W1.setCell ⟨w.heap.size, 0, none⟩ (.int .i64 m.at_)).setCell ⟨w.heap.size, 1, none⟩ (.int .i64 m.kind)).setCell ⟨w.heap.size, 2, none⟩ (.int .i64 m.bytes)).setCell ⟨w.heap.size, 3, none⟩ (.int .u8 m.fill))) := ⟨_, rfl⟩
        rw [← HW9.out] at S9 R9 ⊢
        obtain ⟨r0, r1, r2, r3⟩ := R9.out.at_
        exact bodyPost_ret (v := .tuple #[mishV m, .bool true]) (by simp [results, Tryz.results121, go_sem, r0, r1, r2, r3, mishV]) rfl (by rw [HF.out]; exact ⟨rfl, S9⟩)
      · have hb : (m.at_ == x) = false := by simpa using h
        have HK2 : Hid (∀ j, j < k + 1 → (getM ms j).at_ ≠ x) := fun j hj => by
          by_cases e : j = k
          · subst e; rw [← HM.out]; exact h
          · exact HK.out j (by omega)
        clear h HHIT
        go_wp2_with fail
        rw [← HW1.out]
        go_roundw
        case rel => exact ⟨k + 1, by go_num, by omega, HK2, RV, S1⟩
        case measure => simp [intOf]; omega
    · have HF : Hid (atM x ms = none) := atM_miss fun j hj => HK.out j (by have := HL.out; omega)
      obtain ⟨d0, d1, d2, d3⟩ := HR.out.at_
      have f0 := HR.out.free 0
      have f1 := HR.out.free 1
      have f2 := HR.out.free 2
      have f3 := HR.out.free 3
      dsimp only at d0 d1 d2 d3
      go_wp2_with fail
      have S9 := Lib.hid (HB.out.grown (put4_else wr w.heap.size (.int .i64 0) (.int .i64 0) (.int .i64 0) (.int .u8 0)) HB.out.size (fun q hq => by rw [← Option.some.inj hq]; exact Nat.le_refl _))
      have R9 := Lib.hid (HR.out.put ⟨0, 0, 0, 0⟩)
      dsimp only at R9
      obtain ⟨W9, HW9⟩ : ∃ W9, Hid (W9 = ((((wr.setCell ⟨w.heap.size, 0, none⟩ (.int .i64 0)).setCell ⟨w.heap.size, 1, none⟩ (.int .i64 0)).setCell ⟨w.heap.size, 2, none⟩ (.int .i64 0)).setCell ⟨w.heap.size, 3, none⟩ (.int .u8 0))) := ⟨_, rfl⟩
      rw [← HW9.out] at S9 R9 ⊢
      obtain ⟨r0, r1, r2, r3⟩ := R9.out.at_
      dsimp only at r0 r1 r2 r3
      exact bodyPost_ret (v := .tuple #[mishV M.zero, .bool false]) (by simp [results, Tryz.results121, go_sem, r0, r1, r2, r3, mishV, M.zero]) rfl (by rw [HF.out]; exact ⟨rfl, S9⟩)
set_option maxHeartbeats 4000000 in
theorem maybe7_any (m : M) (w : World) : Calls Tryz.prog 68 #[mishV m] w (SaysB w (okM m)) := by
  obtain ⟨a, kd, by_, fl⟩ := m
  unfold mishV
  dsimp only
  have hk : kd = 1 ∨ kd = 2 ∨ (¬ kd = 1 ∧ ¬ kd = 2) := by omega
  rcases hk with rfl | rfl | ⟨h1, h2⟩
  · skip
    obtain ⟨W1, HW1⟩ : ∃ W1, Hid (W1 = w.alloc (.cells #[.int .i64 a, .int .i64 1, .int .i64 by_, .int .u8 fl] 74)) := ⟨_, rfl⟩
    have S1 : Hid (Below w.heap.size w W1) := by rw [HW1.out]; exact later_alloc _ _
    have R1 : Hid (RowM W1 w.heap.size ⟨a, 1, by_, fl⟩) := by rw [HW1.out]; exact rowM_new w ⟨a, 1, by_, fl⟩
    obtain ⟨e0, e1, e2, e3⟩ := R1.out.at_
    dsimp only at e0 e1 e2 e3
    by_cases a0 : 1 ≤ a
    rotate_left
    · skip
      rw [show okM ⟨a, 1, by_, fl⟩ = false from decide_eq_false (fun h => a0 h.1)]
      go_enter Tryz.func68, Tryz.ntmps68
      go_wp2_with fail
      rw [← HW1.out]
      clear HW1
      go_ret
      exact ⟨rfl, S1.out⟩
    by_cases a1 : a ≤ 1073741824
    rotate_left
    · skip
      rw [show okM ⟨a, 1, by_, fl⟩ = false from decide_eq_false (fun h => a1 h.2.1)]
      go_enter Tryz.func68, Tryz.ntmps68
      go_wp2_with fail
      rw [← HW1.out]
      clear HW1
      go_ret
      exact ⟨rfl, S1.out⟩
    by_cases b0 : 0 ≤ by_
    rotate_left
    · skip
      rw [show okM ⟨a, 1, by_, fl⟩ = false from decide_eq_false (fun h => b0 h.2.2.2.1)]
      go_enter Tryz.func68, Tryz.ntmps68
      go_wp2_with fail
      rw [← HW1.out]
      clear HW1
      go_ret
      exact ⟨rfl, S1.out⟩
    by_cases b1 : by_ ≤ 65536
    rotate_left
    · skip
      rw [show okM ⟨a, 1, by_, fl⟩ = false from decide_eq_false (fun h => b1 h.2.2.2.2)]
      go_enter Tryz.func68, Tryz.ntmps68
      go_wp2_with fail
      rw [← HW1.out]
      clear HW1
      go_ret
      exact ⟨rfl, S1.out⟩
    rw [show okM ⟨a, 1, by_, fl⟩ = true from decide_eq_true ⟨a0, a1, Or.inl rfl, b0, b1⟩]
    go_enter Tryz.func68, Tryz.ntmps68
    go_wp2_with fail
    rw [← HW1.out]
    clear HW1
    go_ret
    exact ⟨rfl, S1.out⟩
  · skip
    obtain ⟨W1, HW1⟩ : ∃ W1, Hid (W1 = w.alloc (.cells #[.int .i64 a, .int .i64 2, .int .i64 by_, .int .u8 fl] 74)) := ⟨_, rfl⟩
    have S1 : Hid (Below w.heap.size w W1) := by rw [HW1.out]; exact later_alloc _ _
    have R1 : Hid (RowM W1 w.heap.size ⟨a, 2, by_, fl⟩) := by rw [HW1.out]; exact rowM_new w ⟨a, 2, by_, fl⟩
    obtain ⟨e0, e1, e2, e3⟩ := R1.out.at_
    dsimp only at e0 e1 e2 e3
    by_cases a0 : 1 ≤ a
    rotate_left
    · skip
      rw [show okM ⟨a, 2, by_, fl⟩ = false from decide_eq_false (fun h => a0 h.1)]
      go_enter Tryz.func68, Tryz.ntmps68
      go_wp2_with fail
      rw [← HW1.out]
      clear HW1
      go_ret
      exact ⟨rfl, S1.out⟩
    by_cases a1 : a ≤ 1073741824
    rotate_left
    · skip
      rw [show okM ⟨a, 2, by_, fl⟩ = false from decide_eq_false (fun h => a1 h.2.1)]
      go_enter Tryz.func68, Tryz.ntmps68
      go_wp2_with fail
      rw [← HW1.out]
      clear HW1
      go_ret
      exact ⟨rfl, S1.out⟩
    by_cases b0 : 0 ≤ by_
    rotate_left
    · skip
      rw [show okM ⟨a, 2, by_, fl⟩ = false from decide_eq_false (fun h => b0 h.2.2.2.1)]
      go_enter Tryz.func68, Tryz.ntmps68
      go_wp2_with fail
      rw [← HW1.out]
      clear HW1
      go_ret
      exact ⟨rfl, S1.out⟩
    by_cases b1 : by_ ≤ 65536
    rotate_left
    · skip
      rw [show okM ⟨a, 2, by_, fl⟩ = false from decide_eq_false (fun h => b1 h.2.2.2.2)]
      go_enter Tryz.func68, Tryz.ntmps68
      go_wp2_with fail
      rw [← HW1.out]
      clear HW1
      go_ret
      exact ⟨rfl, S1.out⟩
    rw [show okM ⟨a, 2, by_, fl⟩ = true from decide_eq_true ⟨a0, a1, Or.inr rfl, b0, b1⟩]
    go_enter Tryz.func68, Tryz.ntmps68
    go_wp2_with fail
    rw [← HW1.out]
    clear HW1
    go_ret
    exact ⟨rfl, S1.out⟩
  · have n1 : (kd != 1) = true := by simpa using h1
    have n2 : (kd != 2) = true := by simpa using h2
    obtain ⟨W1, HW1⟩ : ∃ W1, Hid (W1 = w.alloc (.cells #[.int .i64 a, .int .i64 kd, .int .i64 by_, .int .u8 fl] 74)) := ⟨_, rfl⟩
    have S1 : Hid (Below w.heap.size w W1) := by rw [HW1.out]; exact later_alloc _ _
    have R1 : Hid (RowM W1 w.heap.size ⟨a, kd, by_, fl⟩) := by rw [HW1.out]; exact rowM_new w ⟨a, kd, by_, fl⟩
    obtain ⟨e0, e1, e2, e3⟩ := R1.out.at_
    dsimp only at e0 e1 e2 e3
    rw [show okM ⟨a, kd, by_, fl⟩ = false from decide_eq_false (fun h => h.2.2.1.elim h1 h2)]
    go_enter Tryz.func68, Tryz.ntmps68
    go_wp2_with fail
    rw [← HW1.out]
    clear HW1
    go_ret
    exact ⟨rfl, S1.out⟩
set_option maxHeartbeats 8000000 in
set_option maxRecDepth 20000 in
theorem may7_any (A : Option Addr) (n c : Nat) (ms : List M) (w : World) (hn : n ≤ 9223372036854775807) (hA : mishK.Lie w w.heap.size A n ms) :
    Calls Tryz.prog 36 #[.slice A n c] w (SaysB w (mayM ms)) := by
  have HA := Lib.hid hA
  have HL := Lib.hid hA.len
  clear hA
  by_cases hbig : 24 < n
  · rw [mayM_many (by rw [HL.out]; exact hbig)]
    go_enter Tryz.func36, Tryz.ntmps36
    go_wp2_with fail
    go_ret
    exact ⟨rfl, Below.refl _ _⟩
  go_enter Tryz.func36, Tryz.ntmps36
  go_wp2_with fail
  go_loopw [10] (fun t10 wr => ∃ (k : Nat), k ≤ n ∧ t10 = .int .i64 k ∧ Hid (∀ j, j < k → stepM ms j = true) ∧ Hid (Below w.heap.size w wr)) (fun t10 _ => n - (intOf t10).toNat)
  case atStart => exact ⟨0, Nat.zero_le _, rfl, fun j hj => absurd hj (Nat.not_lt_zero j), Below.refl _ _⟩
  case round =>
    obtain ⟨k, hk, rfl, HK, HB⟩ := hrel
    have hn24 : (n : Int) ≤ 24 := by omega
    by_cases hlt : k < n
    · obtain ⟨ad, hA, hblk, hat⟩ := mish_at (HA.out.since HB.out) hlt
      subst hA
      have i0 : (0 : Int) ≤ (k : Int) := by omega
      have i1 : (k : Int) < (n : Int) := by omega
      have h4 : ∃ a' : Int, (0 < k → a' = (getM ms (k - 1)).at_) ∧ (0 < k → wr.cell? (ad.add ((k - 1) * 4)) = some (.int .i64 a')) := by
        by_cases hk0 : 0 < k
        · obtain ⟨ad', hA', _, hat'⟩ := mish_at (HA.out.since HB.out) (k := k - 1) (by omega)
          obtain rfl := Option.some.inj hA'
          exact ⟨_, fun _ => rfl, fun _ => hat'.c0⟩
        · exact ⟨0, fun h => absurd h hk0, fun h => absurd h hk0⟩
      obtain ⟨a', hpa, hcp⟩ := h4
      have HPA := Lib.hid hpa
      clear hpa
      have hidx : 0 < k → ∀ W : World, (Instr.indexAt 23 (.slice (some ad) n c) (.int .i64 ((k : Int) - 1))).run Tryz.prog W = .ok (.pointer (some (ad.add ((k - 1) * 4)))) W := fun hk0 W => by
        have j0 : (0 : Int) ≤ (k : Int) - 1 := by omega
        have j1 : (k : Int) - 1 < (n : Int) := by omega
        have e : ((k : Int) - 1).toNat = k - 1 := by omega
        go_simp
        intro h
        omega
      obtain ⟨e, HV⟩ : ∃ e, Hid (e = getM ms k) := ⟨_, rfl⟩
      rw [← HV.out] at hat
      have HST : Hid (stepM ms k = (okM e && (k == 0 || decide (a' < e.at_)))) := by
        show _ = _
        unfold stepM
        rw [← HV.out]
        by_cases hk0 : 0 < k
        · rw [HPA.out hk0]
        · have : (k == 0) = true := by simp; omega
          rw [this]; simp
      obtain ⟨c0, c1, c2, c3⟩ := hat
      obtain ⟨a, kd, by_, fl⟩ := e
      dsimp only at c0 c1 c2 c3 HST
      go_wp2_with fail
      obtain ⟨W1, HW1⟩ : ∃ W1, Hid (W1 = wr.alloc (.cells #[.int .i64 a, .int .i64 kd, .int .i64 by_, .int .u8 fl] 74)) := ⟨_, rfl⟩
      have L1 : Hid (Below wr.heap.size wr W1) := by rw [HW1.out]; exact later_alloc _ _
      have R1 : Hid (RowM W1 wr.heap.size ⟨a, kd, by_, fl⟩) := by rw [HW1.out]; exact rowM_new wr ⟨a, kd, by_, fl⟩
      have hcp1 : 0 < k → W1.cell? (ad.add ((k - 1) * 4)) = some (.int .i64 a') := fun hk0 => (L1.out.cell (by rw [addr_block]; exact hblk)).trans (hcp hk0)
      have HCP := Lib.hid hcp1
      have HIX := Lib.hid hidx
      rw [← HW1.out]
      clear c0 c1 c2 c3 hcp hcp1 hidx HPA
      obtain ⟨c0, c1, c2, c3⟩ := R1.out.at_
      dsimp only at c0 c1 c2 c3
      have c0 := cell_regrown c0
      have c1 := cell_regrown c1
      have c2 := cell_regrown c2
      have c3 := cell_regrown c3
      have cM := Lib.hid fun (d' : Nat) (os : Array Obj) => quiet_says (maybe7_any ⟨a, kd, by_, fl⟩ (grow (redrawn W1 d') os))
      unfold mishV at cM
      dsimp only at cM
      rcases hok : okM ⟨a, kd, by_, fl⟩ with _ | _
      · rw [hok] at cM HST
        clear HCP HIX
        have HF : Hid (mayM ms = false) := mayM_no (k := k) (by rw [HL.out]; exact hlt) (by rw [HST.out]; rfl)
        refine wp_region_quiet_below (by kernel_rfl) (by kernel_rfl) ?_
        repeat (go_big_quiet_step (first | (go_at_call 68; exact cM.out _ _)))
        refine wpQuiet_nil ?_
        intro W2 hw'
        have S2 : Hid (Below W1.heap.size W1 W2) := by obtain ⟨⟨dq, osq⟩, hw''⟩ := hw'; rw [hw'']; exact below_regrown _ _ _
        clear hw' c0 c1 c2 c3 cM
        try clear cp
        go_wp2_with fail
        go_ret
        rw [HF.out]
        exact ⟨rfl, below_chain HB.out (below_chain L1.out S2.out)⟩
      · rw [hok] at cM HST
        rw [Bool.true_and] at HST
        clear hok
        by_cases hk0 : 0 < k
        · have hk0' : (0 : Int) < (k : Int) := by omega
          have b0 : (k == 0) = false := by simp; omega
          rw [b0, Bool.false_or] at HST
          have ix := HIX.out hk0
          have cp := cell_regrown (HCP.out hk0)
          have hw1 : IntKind.i64.wrap ((k : Int) - 1) = (k : Int) - 1 := by rw [IntKind.wrap_i64]; omega
          clear HCP HIX
          by_cases hle : a ≤ a'
          · skip
            have HF : Hid (mayM ms = false) := mayM_no (k := k) (by rw [HL.out]; exact hlt) (by rw [HST.out]; exact decide_eq_false (by omega))
            refine wp_region_quiet_below (by kernel_rfl) (by kernel_rfl) ?_
            repeat (go_big_quiet_step (first | (go_at_call 68; exact cM.out _ _)))
            refine wpQuiet_nil ?_
            intro W2 hw'
            have S2 : Hid (Below W1.heap.size W1 W2) := by obtain ⟨⟨dq, osq⟩, hw''⟩ := hw'; rw [hw'']; exact below_regrown _ _ _
            clear hw' c0 c1 c2 c3 cM
            try clear cp
            go_wp2_with fail
            go_ret
            rw [HF.out]
            exact ⟨rfl, below_chain HB.out (below_chain L1.out S2.out)⟩
          · skip
            have HF : Hid (stepM ms k = true) := by show _ = _; rw [HST.out]; exact decide_eq_true (by omega)
            refine wp_region_quiet_below (by kernel_rfl) (by kernel_rfl) ?_
            repeat (go_big_quiet_step (first | (go_at_call 68; exact cM.out _ _)))
            refine wpQuiet_nil ?_
            intro W2 hw'
            have S2 : Hid (Below W1.heap.size W1 W2) := by obtain ⟨⟨dq, osq⟩, hw''⟩ := hw'; rw [hw'']; exact below_regrown _ _ _
            clear hw' c0 c1 c2 c3 cM
            try clear cp
            have S3 := Lib.hid (below_chain HB.out (below_chain L1.out S2.out))
            have HK2 : Hid (∀ j, j < k + 1 → stepM ms j = true) := fun j hj => by
              by_cases e : j = k
              · subst e; exact HF.out
              · exact HK.out j (by omega)
            go_wp2_with fail
            go_roundw
            case rel => exact ⟨k + 1, by omega, by go_num, HK2, S3⟩
            case measure => simp [intOf]; omega
        · have hk0' : ¬ (0 : Int) < (k : Int) := by omega
          have b0 : (k == 0) = true := by simp; omega
          rw [b0, Bool.true_or] at HST
          clear HCP HIX
          have HF : Hid (stepM ms k = true) := by show _ = _; rw [HST.out]; all_goals rfl
          refine wp_region_quiet_below (by kernel_rfl) (by kernel_rfl) ?_
          repeat (go_big_quiet_step (first | (go_at_call 68; exact cM.out _ _)))
          refine wpQuiet_nil ?_
          intro W2 hw'
          have S2 : Hid (Below W1.heap.size W1 W2) := by obtain ⟨⟨dq, osq⟩, hw''⟩ := hw'; rw [hw'']; exact below_regrown _ _ _
          clear hw' c0 c1 c2 c3 cM
          try clear cp
          have S3 := Lib.hid (below_chain HB.out (below_chain L1.out S2.out))
          have HK2 : Hid (∀ j, j < k + 1 → stepM ms j = true) := fun j hj => by
            by_cases e : j = k
            · subst e; exact HF.out
            · exact HK.out j (by omega)
          go_wp2_with fail
          go_roundw
          case rel => exact ⟨k + 1, by omega, by go_num, HK2, S3⟩
          case measure => simp [intOf]; omega
    · have HY : Hid (mayM ms = true) := mayM_yes (ms := ms) (by have := HL.out; omega) (fun j hj => HK.out j (by have := HL.out; omega))
      rw [HY.out]
      go_wp2
      go_ret
      exact ⟨by simp [HY.out], HB⟩
end Go.Proofs.YthgkdnegnecnjaaGreatDoor

/- A chip as plain mathematics: what each call of it answers, and what it leaves. No conditions. -/
set_option linter.unusedVariables false
set_option linter.unusedSimpArgs false
set_option maxRecDepth 20000
namespace Go.Proofs.YthgkdnegnecnjaaGreatDoor

/-- A block. -/
structure Blk where
  pg : List (List Nat)
  next : Nat
  wear : Nat
  marked : Bool
  failed : Bool
def Blk.zero : Blk := ⟨[], 0, 0, false, false⟩
/-- A chip. -/
structure Chip where
  nb : Nat
  np : Nat
  ns : Nat
  ms : List M
  bs : List Blk
  on : Bool
  ops : Nat
  misuse : Nat
  programs : Nat
namespace Chip
def long (s : Chip) : Nat := s.ns + 28
def blk (s : Chip) (b : Int) : Blk := s.bs.getD b.toNat Blk.zero
def page (s : Chip) (b p : Int) : List Nat := (s.blk b).pg.getD p.toNat []
def has (s : Chip) (b : Int) : Bool := decide (0 ≤ b ∧ b < (s.nb : Int))
/-- Why a call is no operation: 0, if it is one. -/
def why (s : Chip) (b p : Int) (l : Nat) : Int := if s.on = false then 4 else if 0 ≤ b ∧ b < (s.nb : Int) ∧ 0 ≤ p ∧ p < (s.np : Int) ∧ l = s.long then 0 else 2
/-- What befalls the next operation. -/
def bef (s : Chip) : M := (atM ((s.ops + 1 : Nat) : Int) s.ms).getD M.zero
def tick (s : Chip) : Chip := { s with ops := s.ops + 1 }
def off (s : Chip) : Chip := { s with on := false }
def offIf (s : Chip) (d : Bool) : Chip := { s with on := s.on && !d }
def setB (s : Chip) (b : Int) (x : Blk) : Chip := { s with bs := s.bs.set b.toNat x }
def dark (s : Chip) : Bool := decide (s.bef.kind = 2)
def fails (s : Chip) : Bool := decide (s.bef.kind = 1)
def err (d : Bool) (c : Int) : Int := if d = true then 4 else c
/-- Read. -/
def read (s : Chip) (b p : Int) : Chip × Int × List Nat :=
  if s.why b p s.long ≠ 0 then (s, s.why b p s.long, []) else if s.dark = true then (s.tick.off, 4, []) else (s.tick, 0, s.page b p)
def part (raw old : List Nat) (k : Nat) : List Nat := raw.take k ++ old.drop k
def wrote (x : Blk) (p : Int) (bs : List Nat) : Blk := { x with pg := x.pg.set p.toNat bs, next := x.next + 1 }
/-- Program. -/
def program (s : Chip) (b p : Int) (raw : List Nat) : Chip × Int :=
  if s.why b p raw.length ≠ 0 then (s, s.why b p raw.length)
  else if (s.blk b).marked = true ∨ p ≠ ((s.blk b).next : Int) then ({ s.tick.offIf s.dark with misuse := s.misuse + 1 }, err s.dark 6)
  else if (s.blk b).failed = true then ((s.tick.offIf s.dark).setB b { s.blk b with next := (s.blk b).next + 1 }, err s.dark 5)
  else if s.dark = true then (s.tick.off.setB b (wrote (s.blk b) p (part raw (s.page b p) s.bef.bytes.toNat)), 4)
  else if s.fails = true then (s.tick.setB b { wrote (s.blk b) p (part raw (s.page b p) (min s.bef.bytes.toNat (s.long - 1))) with failed := true }, 5)
  else ({ s.tick.setB b (wrote (s.blk b) p raw) with programs := s.programs + 1 }, 0)
def filled (s : Chip) (x : Nat) : List (List Nat) := List.replicate s.np (List.replicate s.long x)
/-- Erase. -/
def erase (s : Chip) (b : Int) : Chip × Int :=
  if s.why b 0 s.long ≠ 0 then (s, s.why b 0 s.long)
  else if (s.blk b).marked = true then ({ s.tick.offIf s.dark with misuse := s.misuse + 1 }, err s.dark 6)
  else if (s.blk b).failed = true ∨ s.fails = true then ((s.tick.offIf s.dark).setB b { s.blk b with failed := true }, err s.dark 5)
  else if s.dark = true then (s.tick.off.setB b { s.blk b with pg := s.filled s.bef.fill.toNat, next := if s.bef.fill = 255 then 0 else s.np, wear := (s.blk b).wear + 1 }, 4)
  else (s.tick.setB b { s.blk b with pg := s.filled 255, next := 0, wear := (s.blk b).wear + 1 }, 0)
/-- Mark. -/
def mark (s : Chip) (b : Int) : Chip × Int :=
  if s.why b 0 s.long ≠ 0 then (s, s.why b 0 s.long)
  else if s.dark = true then (s.tick.off, 4)
  else (s.tick.setB b { s.blk b with marked := true }, 0)
/-- Boot. -/
def boot (s : Chip) : Chip × Int := if s.on = true then (s, 9) else ({ s with on := true }, 0)
def next (s : Chip) (b : Int) : Nat := if s.has b = true then (s.blk b).next else 0
def wear (s : Chip) (b : Int) : Nat := if s.has b = true then (s.blk b).wear else 0
def marked (s : Chip) (b : Int) : Bool := s.has b && (s.blk b).marked
/-- New: whether there is one, and what it is. -/
def mayNew (nb np ns : Int) (marks : List Int) (ms : List M) : Bool :=
  decide (1 ≤ nb ∧ nb ≤ 32 ∧ 1 ≤ np ∧ np ≤ 8 ∧ 128 ≤ ns ∧ ns ≤ 256) && mayM ms && marks.all fun m => decide (0 ≤ m ∧ m < nb)
def fresh (nb np ns : Nat) (marks : List Int) (ms : List M) : Chip :=
  ⟨nb, np, ns, ms, (List.range nb).map fun (i : Nat) => ⟨List.replicate np (List.replicate (ns + 28) 255), 0, 0, marks.contains (i : Int), false⟩, true, 0, 0, 0⟩
/-- What holds of every chip. -/
structure Wf (s : Chip) : Prop where
  nb1 : 1 ≤ s.nb
  nb2 : s.nb ≤ 32
  np1 : 1 ≤ s.np
  np2 : s.np ≤ 8
  ns1 : 128 ≤ s.ns
  ns2 : s.ns ≤ 256
  may : mayM s.ms = true
  len : s.bs.length = s.nb
  pages : ∀ b, b < s.nb → (s.bs.getD b Blk.zero).pg.length = s.np
  bytes : ∀ b p, b < s.nb → p < s.np → ((s.bs.getD b Blk.zero).pg.getD p []).length = s.long
  next : ∀ b, b < s.nb → (s.bs.getD b Blk.zero).next ≤ s.np
  wear : ∀ b, b < s.nb → (s.bs.getD b Blk.zero).wear ≤ s.ops
  misuse : s.misuse ≤ s.ops
  programs : s.programs ≤ s.ops
section
variable {s : Chip} {b p : Int} {raw : List Nat} {l : Nat}
theorem why_dark (h : s.on = false) : s.why b p l = 4 := by unfold why; rw [if_pos h]
theorem why_ok (h : s.on = true) (b0 : 0 ≤ b) (b1 : b < (s.nb : Int)) (p0 : 0 ≤ p) (p1 : p < (s.np : Int)) (hl : l = s.long) : s.why b p l = 0 := by
  unfold why
  rw [if_neg (by rw [h]; decide), if_pos ⟨b0, b1, p0, p1, hl⟩]
theorem read_ok (h : s.why b p s.long = 0) (hd : s.dark = false) : s.read b p = (s.tick, 0, s.page b p) := by
  unfold read
  rw [if_neg (by rw [h]; decide), if_neg (by rw [hd]; decide)]
theorem read_off (h : s.on = false) : s.read b p = (s, 4, []) := by
  unfold read
  rw [why_dark h, if_pos (by decide)]
theorem program_ok (h : s.why b p raw.length = 0) (hm : (s.blk b).marked = false) (hn : p = ((s.blk b).next : Int)) (hf : (s.blk b).failed = false) (hd : s.dark = false) (hx : s.fails = false) :
    s.program b p raw = ({ s.tick.setB b (wrote (s.blk b) p raw) with programs := s.programs + 1 }, 0) := by
  unfold program
  rw [if_neg (by rw [h]; decide), if_neg (by rw [hm]; simp [hn]), if_neg (by rw [hf]; decide), if_neg (by rw [hd]; decide), if_neg (by rw [hx]; decide)]
theorem program_bad (h : s.why b p raw.length = 0) (hn : (s.blk b).marked = true ∨ p ≠ ((s.blk b).next : Int)) (hd : s.dark = false) :
    s.program b p raw = ({ s.tick with misuse := s.misuse + 1 }, 6) := by
  unfold program
  rw [if_neg (by rw [h]; decide), if_pos hn, hd]
  simp [offIf, tick, err]
theorem program_why (h : s.why b p raw.length ≠ 0) : s.program b p raw = (s, s.why b p raw.length) := by
  unfold program
  rw [if_pos h]
theorem erase_ok (h : s.why b 0 s.long = 0) (hm : (s.blk b).marked = false) (hf : (s.blk b).failed = false) (hd : s.dark = false) (hx : s.fails = false) :
    s.erase b = (s.tick.setB b { s.blk b with pg := s.filled 255, next := 0, wear := (s.blk b).wear + 1 }, 0) := by
  unfold erase
  rw [if_neg (by rw [h]; decide), if_neg (by rw [hm]; decide), if_neg (by rw [hf, hx]; simp), if_neg (by rw [hd]; decide)]
theorem program_dark (h : s.why b p raw.length = 0) (hm : (s.blk b).marked = false) (hn : p = ((s.blk b).next : Int)) (hf : (s.blk b).failed = false) (hd : s.dark = true) :
    s.program b p raw = (s.tick.off.setB b (wrote (s.blk b) p (part raw (s.page b p) s.bef.bytes.toNat)), 4) := by
  unfold program
  rw [if_neg (by rw [h]; decide), if_neg (by rw [hm]; simp [hn]), if_neg (by rw [hf]; decide), if_pos hd]
theorem program_fails (h : s.why b p raw.length = 0) (hm : (s.blk b).marked = false) (hn : p = ((s.blk b).next : Int)) (hf : (s.blk b).failed = false) (hd : s.dark = false) (hx : s.fails = true) :
    s.program b p raw = (s.tick.setB b { wrote (s.blk b) p (part raw (s.page b p) (min s.bef.bytes.toNat (s.long - 1))) with failed := true }, 5) := by
  unfold program
  rw [if_neg (by rw [h]; decide), if_neg (by rw [hm]; simp [hn]), if_neg (by rw [hf]; decide), if_neg (by rw [hd]; decide), if_pos hx]
theorem program_failed (h : s.why b p raw.length = 0) (hm : (s.blk b).marked = false) (hn : p = ((s.blk b).next : Int)) (hf : (s.blk b).failed = true) (hd : s.dark = false) :
    s.program b p raw = (s.tick.setB b { s.blk b with next := (s.blk b).next + 1 }, 5) := by
  unfold program
  rw [if_neg (by rw [h]; decide), if_neg (by rw [hm]; simp [hn]), if_pos hf, hd]
  have e : s.tick.offIf false = s.tick := by cases s; simp [offIf, tick]
  rw [e]; rfl
theorem erase_dark (h : s.why b 0 s.long = 0) (hm : (s.blk b).marked = false) (hf : (s.blk b).failed = false) (hx : s.fails = false) (hd : s.dark = true) :
    s.erase b = (s.tick.off.setB b { s.blk b with pg := s.filled s.bef.fill.toNat, next := if s.bef.fill = 255 then 0 else s.np, wear := (s.blk b).wear + 1 }, 4) := by
  unfold erase
  rw [if_neg (by rw [h]; decide), if_neg (by rw [hm]; decide), if_neg (by rw [hf, hx]; simp), if_pos hd]
theorem erase_why (h : s.why b 0 s.long ≠ 0) : s.erase b = (s, s.why b 0 s.long) := by
  unfold erase
  rw [if_pos h]
theorem erase_off (h : s.on = false) : s.erase b = (s, 4) := by rw [erase_why (by rw [why_dark h]; decide), why_dark h]
theorem erase_marked (h : s.why b 0 s.long = 0) (hm : (s.blk b).marked = true) (hd : s.dark = false) : s.erase b = ({ s.tick with misuse := s.misuse + 1 }, 6) := by
  unfold erase
  rw [if_neg (by rw [h]; decide), if_pos hm, hd]
  simp [offIf, tick, err]
theorem erase_failed (h : s.why b 0 s.long = 0) (hm : (s.blk b).marked = false) (hf : (s.blk b).failed = true) (hd : s.dark = false) : s.erase b = (s.tick.setB b { s.blk b with failed := true }, 5) := by
  unfold erase
  rw [if_neg (by rw [h]; decide), if_neg (by rw [hm]; decide), if_pos (Or.inl hf), hd]
  have e : s.tick.offIf false = s.tick := by cases s; simp [offIf, tick]
  rw [e]; rfl
theorem mark_off (h : s.on = false) : s.mark b = (s, 4) := by
  unfold mark
  rw [why_dark h, if_pos (by decide)]
theorem mark_ok (h : s.why b 0 s.long = 0) (hd : s.dark = false) : s.mark b = (s.tick.setB b { s.blk b with marked := true }, 0) := by
  unfold mark
  rw [if_neg (by rw [h]; decide), if_neg (by rw [hd]; decide)]
theorem bef_none (h : s.ms = []) : s.bef = M.zero := by unfold bef; rw [h]; rfl
theorem dark_none (h : s.ms = []) : s.dark = false := by unfold dark; rw [bef_none h]; rfl
theorem fails_none (h : s.ms = []) : s.fails = false := by unfold fails; rw [bef_none h]; rfl
theorem blk_setB (hb : 0 ≤ b) (hl : b.toNat < s.bs.length) (x : Blk) : (s.setB b x).blk b = x := by
  unfold blk setB
  simp [List.getD_eq_getElem?_getD, hl]
theorem blk_other {c : Int} (h : c.toNat ≠ b.toNat) (x : Blk) : (s.setB b x).blk c = s.blk c := by
  unfold blk setB
  simp [List.getD_eq_getElem?_getD, List.getElem?_set, Ne.symm h]
end
end Chip
end Go.Proofs.YthgkdnegnecnjaaGreatDoor

/- A chip of the project in memory: its cells, its blocks' cells, their bytes; what each store leaves. No conditions. -/
set_option linter.unusedVariables false
set_option linter.unusedSimpArgs false
set_option maxRecDepth 20000
namespace Go.Proofs.YthgkdnegnecnjaaGreatDoor
open Go.RowKit

/-- A block, as its cells have it. -/
structure NBV where
  a : Option Addr
  n : Nat
  c : Nat
  next : Nat
  wear : Nat
  marked : Bool
  failed : Bool
def NBV.zero : NBV := ⟨none, 0, 0, 0, 0, false, false⟩
def bvCells (v : NBV) : List Value := [.slice v.a v.n v.c, .int .i64 (v.next : Int), .int .i64 (v.wear : Int), .bool v.marked, .bool v.failed]
theorem infoBV : (Tryz.prog.info? 85).map (fun i => (i.zero, i.size, i.bytes)) = some (some (.agg #[.slice none 0 0, .int .i64 0, .int .i64 0, .bool false, .bool false]), 5, 48) := by kernel_rfl
def nblkK : Kind NBV where
  T := 85
  L := 81
  k := 5
  cv := bvCells
  wf := fun _ => True
  dflt := NBV.zero
  len := fun v => rfl
  one := fun v u hu => by
    simp only [bvCells, List.mem_cons, List.not_mem_nil, or_false] at hu
    rcases hu with rfl | rfl | rfl | rfl | rfl <;> rfl
  pos := by decide
  ok := trivial
  under := Tryz.underlying81
  elem := by kernel_rfl
  info := by
    obtain ⟨i0, hi, hz0, hz1, hz2⟩ := info_parts infoBV
    exact ⟨i0, _, hi, hz0, hz1, by rw [hz2]; omega, rfl⟩
theorem nblkK_T : nblkK.T = 85 := rfl
theorem mishK_T : mishK.T = 74 := rfl
/-- Where a chip stands. -/
structure CL where
  AM : Option Addr
  cM : Nat
  ab : Addr
  cB : Nat
  v : List NBV
def CL.at_ (L : CL) (k : Nat) : NBV := L.v.getD k NBV.zero
def chipRow (s : Chip) (L : CL) : Array Value := #[.int .i64 (s.nb : Int), .int .i64 (s.np : Int), .int .i64 (s.ns : Int), .slice L.AM s.ms.length L.cM, .slice (some L.ab) s.nb L.cB, .bool s.on, .int .i64 (s.ops : Int), .int .i64 (s.misuse : Int), .int .i64 (s.programs : Int)]
def Chip.nth (s : Chip) (k : Nat) : Blk := s.bs.getD k Blk.zero
structure BlkAt (w : World) (base : Nat) (v : NBV) (b : Blk) : Prop where
  raw : Own w base v.a v.n v.c b.pg.flatten
  next : v.next = b.next
  wear : v.wear = b.wear
  marked : v.marked = b.marked
  failed : v.failed = b.failed
structure Rep (w : World) (base : Nat) (fp : Nat → Prop) (g : Nat) (s : Chip) (L : CL) : Prop where
  wf : s.Wf
  row : w.heap[g]? = some (.cells (chipRow s L) 83 (0, 0))
  ms : mishK.Row w base L.AM s.ms.length L.cM s.ms
  bl : nblkK.Row w base (some L.ab) s.nb L.cB L.v
  each : ∀ k, k < s.nb → BlkAt w base (L.at_ k) (s.nth k)
  apart : ∀ j k, j < s.nb → k < s.nb → j ≠ k → ∀ x ∈ Go.Proofs.YthgkdnegnecnjaaGreatDoor.blk (L.at_ j).a, x ∉ Go.Proofs.YthgkdnegnecnjaaGreatDoor.blk (L.at_ k).a
  fg : fp g
  fm : ∀ b ∈ Go.Proofs.YthgkdnegnecnjaaGreatDoor.blk L.AM, fp b
  fb : fp L.ab.block
  fr : ∀ k, k < s.nb → ∀ b ∈ Go.Proofs.YthgkdnegnecnjaaGreatDoor.blk (L.at_ k).a, fp b
  ge : ∀ b, fp b → base ≤ b
  lt : ∀ b, fp b → b < w.heap.size
structure CellsC (w : World) (g : Nat) (s : Chip) (L : CL) : Prop where
  c0 : w.cell? ⟨g, 0, none⟩ = some (.int .i64 (s.nb : Int))
  c1 : w.cell? ⟨g, 1, none⟩ = some (.int .i64 (s.np : Int))
  c2 : w.cell? ⟨g, 2, none⟩ = some (.int .i64 (s.ns : Int))
  c3 : w.cell? ⟨g, 3, none⟩ = some (.slice L.AM s.ms.length L.cM)
  c4 : w.cell? ⟨g, 4, none⟩ = some (.slice (some L.ab) s.nb L.cB)
  c5 : w.cell? ⟨g, 5, none⟩ = some (.bool s.on)
  c6 : w.cell? ⟨g, 6, none⟩ = some (.int .i64 (s.ops : Int))
  c7 : w.cell? ⟨g, 7, none⟩ = some (.int .i64 (s.misuse : Int))
  c8 : w.cell? ⟨g, 8, none⟩ = some (.int .i64 (s.programs : Int))
/-- A block's five cells, as a walk wants them. -/
structure CellsB (w : World) (p : Addr) (v : NBV) : Prop where
  c0 : w.cell? p = some (.slice v.a v.n v.c)
  c1 : w.cell? ⟨p.block, p.off + 1, none⟩ = some (.int .i64 (v.next : Int))
  c2 : w.cell? ⟨p.block, p.off + 2, none⟩ = some (.int .i64 (v.wear : Int))
  c3 : w.cell? ⟨p.block, p.off + 3, none⟩ = some (.bool v.marked)
  c4 : w.cell? ⟨p.block, p.off + 4, none⟩ = some (.bool v.failed)
theorem cellsB_of {w : World} {p : Addr} {v : NBV} (h : nblkK.At w p v) : CellsB w p v :=
  ⟨by have := h 0 (.slice v.a v.n v.c) rfl; rwa [add_none] at this, by have := h 1 (.int .i64 (v.next : Int)) rfl; rwa [add_at p 0] at this, by have := h 2 (.int .i64 (v.wear : Int)) rfl; rwa [add_at p 1] at this, by have := h 3 (.bool v.marked) rfl; rwa [add_at p 2] at this, by have := h 4 (.bool v.failed) rfl; rwa [add_at p 3] at this⟩
section
variable {w w' : World} {base base' g k : Nat} {fp fq : Nat → Prop} {s s' : Chip} {L : CL}
theorem Rep.glt (h : Rep w base fp g s L) : g < w.heap.size := (Array.getElem?_eq_some_iff.1 h.row).1
theorem Rep.cells (h : Rep w base fp g s L) : CellsC w g s L :=
  ⟨by rw [cell_of_row _ _ _ _ _ _ h.row]; rfl, by rw [cell_of_row _ _ _ _ _ _ h.row]; rfl, by rw [cell_of_row _ _ _ _ _ _ h.row]; rfl, by rw [cell_of_row _ _ _ _ _ _ h.row]; rfl, by rw [cell_of_row _ _ _ _ _ _ h.row]; rfl, by rw [cell_of_row _ _ _ _ _ _ h.row]; rfl, by rw [cell_of_row _ _ _ _ _ _ h.row]; rfl, by rw [cell_of_row _ _ _ _ _ _ h.row]; rfl, by rw [cell_of_row _ _ _ _ _ _ h.row]; rfl⟩
theorem Rep.free (h : Rep w base fp g s L) (k : Nat) : w.frozen? ⟨g, k, none⟩ = false := by simp [World.frozen?, h.row]
/-- The blocks' row begins its block. -/
theorem Rep.ab (h : Rep w base fp g s L) : L.ab = ⟨L.ab.block, 0, none⟩ := by
  rcases h.bl.row.2 with ⟨hv, _⟩ | ⟨b, cap, cur, hv, _⟩
  · injection hv with h1; cases h1
  · injection hv with h1
    rw [Option.some.inj h1]
theorem Rep.place (h : Rep w base fp g s L) (k : Nat) : L.ab.add (k * 5) = ⟨L.ab.block, k * 5, none⟩ := by
  rw [h.ab]
  unfold Addr.add
  split
  · next h0 => rw [h0]
  · simp
theorem Rep.block (h : Rep w base fp g s L) (hk : k < s.nb) : CellsB w (L.ab.add (k * 5)) (L.at_ k) := by
  obtain ⟨ad, e1, e2, e3⟩ := h.bl.lie.each k hk
  obtain rfl := Option.some.inj e1
  exact cellsB_of (v := L.at_ k) e3
theorem Rep.free5 (h : Rep w base fp g s L) (k r : Nat) : w.frozen? ⟨(L.ab.add (k * 5)).block, (L.ab.add (k * 5)).off + r, none⟩ = false := by
  rw [h.place k]
  have hb := h.bl.row
  rw [h.ab] at hb
  exact hb.frozenAt _
theorem Rep.vlen (h : Rep w base fp g s L) : L.v.length = s.nb := h.bl.len
theorem Rep.bl_not_g (h : Rep w base fp g s L) : L.ab.block ≠ g := fun e => by
  obtain ⟨cur, hc⟩ := Row.typed h.bl L.ab.block (by simp [Go.Proofs.YthgkdnegnecnjaaGreatDoor.blk])
  rw [e] at hc
  exact absurd (other_type hc h.row) (by rw [nblkK_T]; decide)
theorem Rep.ms_not_g (h : Rep w base fp g s L) : ∀ b ∈ Go.Proofs.YthgkdnegnecnjaaGreatDoor.blk L.AM, b ≠ g := fun b hb e => by
  obtain ⟨cur, hc⟩ := Row.typed h.ms b hb
  rw [e] at hc
  exact absurd (other_type hc h.row) (by rw [mishK_T]; decide)
theorem Rep.ms_not_bl (h : Rep w base fp g s L) : ∀ b ∈ Go.Proofs.YthgkdnegnecnjaaGreatDoor.blk L.AM, b ≠ L.ab.block := fun b hb e => by
  obtain ⟨cur, hc⟩ := Row.typed h.ms b hb
  obtain ⟨cur2, hc2⟩ := Row.typed h.bl L.ab.block (by simp [Go.Proofs.YthgkdnegnecnjaaGreatDoor.blk])
  rw [e] at hc
  exact absurd (other_type hc hc2) (by rw [mishK_T, nblkK_T]; decide)
theorem Rep.raw_not_g (h : Rep w base fp g s L) (hk : k < s.nb) : ∀ b ∈ Go.Proofs.YthgkdnegnecnjaaGreatDoor.blk (L.at_ k).a, b ≠ g := fun b hb e => by
  obtain ⟨cur, hc⟩ := (h.each k hk).raw.typed b hb
  rw [e] at hc
  exact absurd (other_type hc h.row) (by decide)
theorem Rep.raw_not_bl (h : Rep w base fp g s L) (hk : k < s.nb) : ∀ b ∈ Go.Proofs.YthgkdnegnecnjaaGreatDoor.blk (L.at_ k).a, b ≠ L.ab.block := fun b hb e => by
  obtain ⟨cur, hc⟩ := (h.each k hk).raw.typed b hb
  obtain ⟨cur2, hc2⟩ := Row.typed h.bl L.ab.block (by simp [Go.Proofs.YthgkdnegnecnjaaGreatDoor.blk])
  rw [e] at hc
  exact absurd (other_type hc hc2) (by rw [nblkK_T]; decide)
theorem Rep.raw_not_ms (h : Rep w base fp g s L) (hk : k < s.nb) : ∀ b ∈ Go.Proofs.YthgkdnegnecnjaaGreatDoor.blk (L.at_ k).a, b ∉ Go.Proofs.YthgkdnegnecnjaaGreatDoor.blk L.AM := fun b hb e => by
  obtain ⟨cur, hc⟩ := (h.each k hk).raw.typed b hb
  obtain ⟨cur2, hc2⟩ := Row.typed h.ms b e
  exact absurd (other_type hc hc2) (by rw [mishK_T]; decide)
theorem BlkAt.at_block {v : NBV} {b : Blk} (h : BlkAt w base v b) (hb : ∀ x ∈ Go.Proofs.YthgkdnegnecnjaaGreatDoor.blk v.a, w'.heap[x]? = w.heap[x]?) : BlkAt w' base v b :=
  ⟨h.raw.at_block hb, h.next, h.wear, h.marked, h.failed⟩
/-- Its blocks stand as they stood. -/
theorem Rep.keepB (h : Rep w base fp g s L) (hb : ∀ b, fp b → w'.heap[b]? = w.heap[b]?) (hsz : w.heap.size ≤ w'.heap.size) : Rep w' base fp g s L :=
  ⟨h.wf, (hb g h.fg).trans h.row, Row.at_block h.ms fun b hm => hb b (h.fm b hm), Row.at_block h.bl fun b hm => hb b (by rw [show b = L.ab.block by simpa [Go.Proofs.YthgkdnegnecnjaaGreatDoor.blk] using hm]; exact h.fb), fun k hk => (h.each k hk).at_block fun b hm => hb b (h.fr k hk b hm),
    h.apart, h.fg, h.fm, h.fb, h.fr, h.ge, fun b hf => Nat.lt_of_lt_of_le (h.lt b hf) hsz⟩
theorem Rep.keep (h : Rep w base fp g s L) (ht : Turn fq w w') (hd : Two fq fp) : Rep w' base fp g s L :=
  h.keepB (fun b hf => ht.block b (h.lt b hf) fun hq => hd b hq hf) ht.size
theorem Rep.since (h : Rep w base fp g s L) (hb : Below w.heap.size w w') : Rep w' base fp g s L := h.keep (fq := fun _ => False) (Turn.of_below hb) fun b hb => hb.elim
theorem BlkAt.elder {v : NBV} {b : Blk} (h : BlkAt w base v b) (hb : base' ≤ base) : BlkAt w base' v b := ⟨h.raw.elder hb, h.next, h.wear, h.marked, h.failed⟩
theorem Rep.elder (h : Rep w base fp g s L) (hb : base' ≤ base) : Rep w base' fp g s L :=
  ⟨h.wf, h.row, h.ms.elder hb, h.bl.elder hb, fun k hk => (h.each k hk).elder hb, h.apart, h.fg, h.fm, h.fb, h.fr, fun b hf => Nat.le_trans hb (h.ge b hf), h.lt⟩
/-- The chip's own cells are others: the chip's numbers alone turn. -/
theorem Rep.head (h : Rep w base fp g s L) (hs : s'.Wf) (e1 : s'.nb = s.nb) (e2 : s'.np = s.np) (e3 : s'.ns = s.ns) (e4 : s'.ms = s.ms) (e5 : s'.bs = s.bs) (hrow : w'.heap[g]? = some (.cells (chipRow s' L) 83 (0, 0))) (hk : ∀ b, b ≠ g → w'.heap[b]? = w.heap[b]?) (hsz : w.heap.size ≤ w'.heap.size) : Rep w' base fp g s' L := by
  have en : ∀ k, s'.nth k = s.nth k := fun k => by unfold Chip.nth; rw [e5]
  refine ⟨hs, hrow, ?_, ?_, fun k hk' => ?_, by rw [e1]; exact h.apart, h.fg, h.fm, h.fb, by rw [e1]; exact h.fr, h.ge, fun b hf => Nat.lt_of_lt_of_le (h.lt b hf) hsz⟩
  · rw [e4]; exact Row.at_block h.ms fun b hb => hk b (h.ms_not_g b hb)
  · rw [e1]; exact Row.at_block h.bl fun b hb => hk b (by rw [show b = L.ab.block by simpa [Go.Proofs.YthgkdnegnecnjaaGreatDoor.blk] using hb]; exact h.bl_not_g)
  · rw [e1] at hk'
    rw [en]
    exact (h.each k hk').at_block fun b hb => hk b (h.raw_not_g hk' b hb)
theorem getD_set_self {α : Type} {l : List α} {k : Nat} (hk : k < l.length) (x d : α) : (l.set k x).getD k d = x := by
  rw [List.getD_eq_getElem?_getD, List.getElem?_set_self hk]; rfl
theorem getD_set_other {α : Type} {l : List α} {k j : Nat} (hk : k ≠ j) (x d : α) : (l.set k x).getD j d = l.getD j d := by
  rw [List.getD_eq_getElem?_getD, List.getD_eq_getElem?_getD, List.getElem?_set_ne hk]
/-- One cell of one block is another one. -/
theorem Rep.cell (h : Rep w base fp g s L) (hk : k < s.nb) {r : Nat} (hr : r < 5) (u : Value) (x : NBV) (y : Blk) (hx : bvCells x = (bvCells (L.at_ k)).set r u) (ha : x.a = (L.at_ k).a) (hn : x.n = (L.at_ k).n) (hc : x.c = (L.at_ k).c)
    (hy : y.pg = (s.nth k).pg) (y1 : x.next = y.next) (y2 : x.wear = y.wear) (y3 : x.marked = y.marked) (y4 : x.failed = y.failed) (hwf : (s.setB (k : Int) y).Wf) :
    Rep (w.setCell ⟨(L.ab.add (k * 5)).block, (L.ab.add (k * 5)).off + r, none⟩ u) base fp g (s.setB (k : Int) y) { L with v := L.v.set k x } := by
  rw [h.place k]
  have hlv := h.vlen
  have hlb := h.wf.len
  have hkb : ∀ b, b ≠ L.ab.block → (w.setCell ⟨L.ab.block, k * 5 + r, none⟩ u).heap[b]? = w.heap[b]? := fun b hb => setCell_heap w L.ab.block (k * 5 + r) b u hb
  have hat : ∀ j, j < s.nb → ({ L with v := L.v.set k x } : CL).at_ j = if j = k then x else L.at_ j := fun j hj => by
    unfold CL.at_
    by_cases e : j = k
    · subst e; rw [if_pos rfl]; exact getD_set_self (by rw [hlv]; exact hj) _ _
    · rw [if_neg e]; exact getD_set_other (Ne.symm e) _ _
  have hata : ∀ j, j < s.nb → (({ L with v := L.v.set k x } : CL).at_ j).a = (L.at_ j).a := fun j hj => by
    rw [hat j hj]
    by_cases e : j = k
    · subst e; rw [if_pos rfl]; exact ha
    · rw [if_neg e]
  have hnth : ∀ j, j < s.nb → (s.setB (k : Int) y).nth j = if j = k then y else s.nth j := fun j hj => by
    unfold Chip.nth Chip.setB
    rw [Int.toNat_natCast]
    by_cases e : j = k
    · subst e; rw [if_pos rfl]; exact getD_set_self (by rw [hlb]; exact hj) _ _
    · rw [if_neg e]; exact getD_set_other (Ne.symm e) _ _
  refine ⟨hwf, (hkb g h.bl_not_g.symm).trans h.row, Row.at_block h.ms fun b hb => hkb b (h.ms_not_bl b hb), ?_, fun j hj => ?_, fun i j hi hj hij b hb => ?_, h.fg, h.fm, h.fb, fun j hj b hb => h.fr j hj b (by rw [← hata j hj]; exact hb), h.ge, fun b hf => Nat.lt_of_lt_of_le (h.lt b hf) (by rw [World.setCell]; simp)⟩
  · have hbl := h.bl
    rw [h.ab] at hbl
    have := Kind.Row.put hbl hk hr u x hx trivial
    show nblkK.Row _ base (some L.ab) s.nb L.cB (L.v.set k x)
    rw [h.ab]; exact this
  · have hj' : j < s.nb := hj
    have h0 := (h.each j hj').at_block (w' := w.setCell ⟨L.ab.block, k * 5 + r, none⟩ u) fun b hb => hkb b (h.raw_not_bl hj' b hb)
    rw [hat j hj', hnth j hj']
    by_cases e : j = k
    · subst e
      rw [if_pos rfl, if_pos rfl]
      exact ⟨by rw [ha, hn, hc, hy]; exact h0.raw, y1, y2, y3, y4⟩
    · rw [if_neg e, if_neg e]; exact h0
  · rw [hata i hi] at hb
    rw [hata j hj]
    exact h.apart i j hi hj hij b hb
/-- The bytes of one block are others. -/
theorem Rep.bytes (h : Rep w base fp g s L) (hk : k < s.nb) (y : Blk) (ho : Own w' base (L.at_ k).a (L.at_ k).n (L.at_ k).c y.pg.flatten) (y1 : y.next = (s.nth k).next) (y2 : y.wear = (s.nth k).wear) (y3 : y.marked = (s.nth k).marked) (y4 : y.failed = (s.nth k).failed)
    (ht : ∀ b, b < w.heap.size → b ∉ Go.Proofs.YthgkdnegnecnjaaGreatDoor.blk (L.at_ k).a → w'.heap[b]? = w.heap[b]?) (hsz : w.heap.size ≤ w'.heap.size) (hwf : (s.setB (k : Int) y).Wf) : Rep w' base fp g (s.setB (k : Int) y) L := by
  have hlb := h.wf.len
  have hnth : ∀ j, j < s.nb → (s.setB (k : Int) y).nth j = if j = k then y else s.nth j := fun j hj => by
    unfold Chip.nth Chip.setB
    rw [Int.toNat_natCast]
    by_cases e : j = k
    · subst e; rw [if_pos rfl]; exact getD_set_self (by rw [hlb]; exact hj) _ _
    · rw [if_neg e]; exact getD_set_other (Ne.symm e) _ _
  refine ⟨hwf, (ht g h.glt fun hb => h.raw_not_g hk g hb rfl).trans h.row, Row.at_block h.ms fun b hb => ht b (Row.blk_lt h.ms b hb) fun hb' => h.raw_not_ms hk b hb' hb, Row.at_block h.bl fun b hb => ht b (Row.blk_lt h.bl b hb) fun hb' => h.raw_not_bl hk b hb' (by simpa [Go.Proofs.YthgkdnegnecnjaaGreatDoor.blk] using hb), fun j hj => ?_, h.apart, h.fg, h.fm, h.fb, h.fr, h.ge, fun b hf => Nat.lt_of_lt_of_le (h.lt b hf) hsz⟩
  have hj' : j < s.nb := hj
  rw [hnth j hj']
  by_cases e : j = k
  · subst e
    rw [if_pos rfl]
    have h0 := h.each j hj'
    exact ⟨ho, h0.next.trans y1.symm, h0.wear.trans y2.symm, h0.marked.trans y3.symm, h0.failed.trans y4.symm⟩
  · rw [if_neg e]
    exact (h.each j hj').at_block fun b hb => ht b ((h.each j hj').raw.blk_lt b hb) (h.apart j k hj' hk e b hb)
end
/-- A chip as an object apart from all else. -/
def ChipAt (w : World) (base : Nat) (fp : Nat → Prop) (g : Nat) (s : Chip) : Prop := ∃ L, Rep w base fp g s L
section
variable {w w' : World} {base g : Nat} {fp fq : Nat → Prop} {s : Chip}
theorem ChipAt.wf (h : ChipAt w base fp g s) : s.Wf := h.elim fun L h => h.wf
theorem ChipAt.lt (h : ChipAt w base fp g s) : ∀ b, fp b → b < w.heap.size := h.elim fun L h => h.lt
theorem ChipAt.ge (h : ChipAt w base fp g s) : ∀ b, fp b → base ≤ b := h.elim fun L h => h.ge
theorem ChipAt.since (h : ChipAt w base fp g s) (hb : Below w.heap.size w w') : ChipAt w' base fp g s := h.imp fun L h => h.since hb
theorem ChipAt.keep (h : ChipAt w base fp g s) (ht : Turn fq w w') (hd : Two fq fp) : ChipAt w' base fp g s := h.imp fun L h => h.keep ht hd
theorem ChipAt.elder (h : ChipAt w base fp g s) {base' : Nat} (hb : base' ≤ base) : ChipAt w base' fp g s := h.imp fun L h => h.elder hb
theorem ChipAt.same (h : ChipAt w base fp g s) {s' : Chip} (e : s = s') : ChipAt w base fp g s' := e ▸ h
end
end Go.Proofs.YthgkdnegnecnjaaGreatDoor

/- The chip's small helpers: width, has, hasPage, wrong, end; its methods that only tell. Conditions: the chip's cells. -/
set_option linter.unusedVariables false
set_option linter.unusedSimpArgs false
set_option maxRecDepth 20000
namespace Go.Proofs.YthgkdnegnecnjaaGreatDoor
open Go.RowKit

section
variable {w : World} {base g : Nat} {fp : Nat → Prop} {s : Chip} {L : CL}
theorem wrong_new (st : ByteArray) (k : Int) (hk : 1 ≤ k) (w : World) (fp : Nat → Prop) (hf : ∀ b, fp b → b < w.heap.size) :
    Calls Tryz.prog 76 #[.string st, .int .i64 k] w fun e w' => ∃ v, e = .returned v ∧ ErrNew w fp w' k v ∧ Below w.heap.size w w' := by
  have h0 : (w.alloc (.cells #[.int .i64 k, .string st] 113)).cell? ⟨w.heap.size, 0, none⟩ = some (.int .i64 k) := by rw [cell_new]; rfl
  have h1 : (w.alloc (.cells #[.int .i64 k, .string st] 113)).cell? ⟨w.heap.size, 1, none⟩ = some (.string st) := by rw [cell_new]; rfl
  have HE : Hid (ErrNew w fp (w.alloc (.cells #[.int .i64 k, .string st] 113)) k (.iface 111 (.pointer (some ⟨w.heap.size, 0, none⟩)))) :=
    Or.inr ⟨hk, _, _, rfl, h0, h1, Nat.le_refl _, fun h => by have := hf _ h; omega⟩
  have HB : Hid (Below w.heap.size w (w.alloc (.cells #[.int .i64 k, .string st] 113))) := (Below.refl _ _).alloc (Nat.le_refl _) _
  clear h0 h1 hf
  go_enter Tryz.func76, Tryz.ntmps76
  go_wp2_with fail
  go_ret
  exact ⟨_, rfl, HE.out, HB.out⟩
theorem width_any (h : Rep w base fp g s L) : Calls Tryz.prog 38 #[.pointer (some ⟨g, 0, none⟩)] w fun e w' => e = .returned (.int .i64 ((s.ns : Int) + 28)) ∧ w = w' := by
  have hs := h.wf.ns2
  obtain ⟨c0, c1, c2, c3, c4, c5, c6, c7, c8⟩ := h.cells
  obtain ⟨z, HZ⟩ : ∃ z : Nat, Hid (s.ns = z) := ⟨_, rfl⟩
  rw [HZ.out] at c2 hs ⊢
  clear h c0 c1 c3 c4 c5 c6 c7 c8 HZ
  go_enter Tryz.func38, Tryz.ntmps38
  go_wp2_with fail
  go_ret
  exact ⟨rfl, rfl⟩
theorem has_any (b : Int) (h : Rep w base fp g s L) : Calls Tryz.prog 40 #[.pointer (some ⟨g, 0, none⟩), .int .i64 b] w fun e w' => e = .returned (.bool (s.has b)) ∧ w = w' := by
  have hs := h.wf.nb2
  obtain ⟨c0, c1, c2, c3, c4, c5, c6, c7, c8⟩ := h.cells
  have HH : Hid (s.has b = decide (0 ≤ b ∧ b < (s.nb : Int))) := rfl
  obtain ⟨z, HZ⟩ : ∃ z : Nat, Hid (s.nb = z) := ⟨_, rfl⟩
  rw [HZ.out] at c4 hs HH
  clear h c0 c1 c3 c2 c5 c6 c7 c8 HZ
  by_cases h0 : 0 ≤ b
  · by_cases h1 : b < (z : Int)
    · rw [show s.has b = true by rw [HH.out]; exact decide_eq_true ⟨h0, h1⟩]
      clear HH
      go_enter Tryz.func40, Tryz.ntmps40
      go_wp2_with fail
      go_ret
      exact ⟨rfl, rfl⟩
    · rw [show s.has b = false by rw [HH.out]; exact decide_eq_false fun h => h1 h.2]
      clear HH
      go_enter Tryz.func40, Tryz.ntmps40
      go_wp2_with fail
      go_ret
      exact ⟨rfl, rfl⟩
  · rw [show s.has b = false by rw [HH.out]; exact decide_eq_false fun h => h0 h.1]
    clear HH
    go_enter Tryz.func40, Tryz.ntmps40
    go_wp2_with fail
    go_ret
    exact ⟨rfl, rfl⟩
theorem has_nil (b : Int) (w : World) : Calls Tryz.prog 40 #[.pointer none, .int .i64 b] w fun e w' => e = .returned (.bool false) ∧ w = w' := by
  go_enter Tryz.func40, Tryz.ntmps40
  go_wp2_with fail
  go_ret
  exact ⟨rfl, rfl⟩
/-- Whether there is such a page. -/
def Chip.hasPage (s : Chip) (b p : Int) : Bool := decide (0 ≤ b ∧ b < (s.nb : Int) ∧ 0 ≤ p ∧ p < (s.np : Int))
theorem hasPage_any (b p : Int) (h : Rep w base fp g s L) : Calls Tryz.prog 98 #[.pointer (some ⟨g, 0, none⟩), .int .i64 b, .int .i64 p] w fun e w' => e = .returned (.bool (s.hasPage b p)) ∧ w = w' := by
  have HC := Lib.hid (has_any b h)
  have hs := h.wf.np2
  obtain ⟨c0, c1, c2, c3, c4, c5, c6, c7, c8⟩ := h.cells
  obtain ⟨z, HZ⟩ : ∃ z : Nat, Hid (s.np = z) := ⟨_, rfl⟩
  rw [HZ.out] at c1 hs
  clear h c0 c2 c3 c4 c5 c6 c7 c8
  by_cases hb : 0 ≤ b ∧ b < (s.nb : Int)
  · rw [show s.has b = true from decide_eq_true hb] at HC
    by_cases h0 : 0 ≤ p
    · by_cases h1 : p < (z : Int)
      · rw [show s.hasPage b p = true from decide_eq_true ⟨hb.1, hb.2, h0, by rw [HZ.out]; exact h1⟩]
        clear hb HZ
        go_enter Tryz.func98, Tryz.ntmps98
        go_wp2_with fail
        refine HC.out.mono ?_
        rintro e w' ⟨rfl, rfl⟩
        go_wp2_with fail
        go_ret
        exact ⟨rfl, rfl⟩
      · rw [show s.hasPage b p = false from decide_eq_false fun h => h1 (by rw [← HZ.out]; exact h.2.2.2)]
        clear hb HZ
        have hd : decide (p < (z : Int)) = false := decide_eq_false h1
        go_enter Tryz.func98, Tryz.ntmps98
        go_wp2_with fail
        refine HC.out.mono ?_
        rintro e w' ⟨rfl, rfl⟩
        go_wp2_with fail
        go_ret
        exact ⟨rfl, rfl⟩
    · rw [show s.hasPage b p = false from decide_eq_false fun h => h0 h.2.2.1]
      clear hb HZ
      go_enter Tryz.func98, Tryz.ntmps98
      go_wp2_with fail
      refine HC.out.mono ?_
      rintro e w' ⟨rfl, rfl⟩
      go_wp2_with fail
      go_ret
      exact ⟨rfl, rfl⟩
  · rw [show s.has b = false from decide_eq_false hb] at HC
    rw [show s.hasPage b p = false from decide_eq_false fun h => hb ⟨h.1, h.2.1⟩]
    clear hb HZ
    go_enter Tryz.func98, Tryz.ntmps98
    go_wp2_with fail
    refine HC.out.mono ?_
    rintro e w' ⟨rfl, rfl⟩
    go_wp2_with fail
    go_ret
    exact ⟨rfl, rfl⟩
theorem hasPage_nil (b p : Int) (w : World) : Calls Tryz.prog 98 #[.pointer none, .int .i64 b, .int .i64 p] w fun e w' => e = .returned (.bool false) ∧ w = w' := by
  have HC := Lib.hid (has_nil b w)
  go_enter Tryz.func98, Tryz.ntmps98
  go_wp2_with fail
  refine HC.out.mono ?_
  rintro e w' ⟨rfl, rfl⟩
  go_wp2_with fail
  go_ret
  exact ⟨rfl, rfl⟩
/- the methods that only tell -/
theorem on_any (hC : ChipAt w base fp g s) : Calls Tryz.prog 44 #[.pointer (some ⟨g, 0, none⟩)] w (SaysB w s.on) := by
  obtain ⟨L, h⟩ := hC
  obtain ⟨c0, c1, c2, c3, c4, c5, c6, c7, c8⟩ := h.cells
  clear h c0 c1 c3 c2 c4 c6 c7 c8
  go_enter Tryz.func44, Tryz.ntmps44
  go_wp2_with fail
  go_ret
  exact ⟨rfl, Below.refl _ _⟩
theorem on_nil : Calls Tryz.prog 44 #[.pointer none] w (SaysB w false) := by
  go_enter Tryz.func44, Tryz.ntmps44
  go_wp2_with fail
  go_ret
  exact ⟨rfl, Below.refl _ _⟩
theorem misuse_any (hC : ChipAt w base fp g s) : Calls Tryz.prog 18 #[.pointer (some ⟨g, 0, none⟩)] w (SaysN w s.misuse) := by
  obtain ⟨L, h⟩ := hC
  obtain ⟨c0, c1, c2, c3, c4, c5, c6, c7, c8⟩ := h.cells
  clear h c0 c1 c3 c2 c4 c5 c6 c8
  go_enter Tryz.func18, Tryz.ntmps18
  go_wp2_with fail
  go_ret
  exact ⟨rfl, Below.refl _ _⟩
theorem blk_nth (s : Chip) (k : Nat) : s.blk (k : Int) = s.nth k := by unfold Chip.blk Chip.nth; rw [Int.toNat_natCast]
theorem next_any (b : Int) (hC : ChipAt w base fp g s) : Calls Tryz.prog 71 #[.pointer (some ⟨g, 0, none⟩), .int .i64 b] w (SaysN w (s.next b)) := by
  obtain ⟨L, h⟩ := hC
  have HC := Lib.hid (has_any b h)
  by_cases hb : 0 ≤ b ∧ b < (s.nb : Int)
  · have hh : s.has b = true := decide_eq_true hb
    obtain ⟨k, rfl⟩ : ∃ k : Nat, b = (k : Int) := ⟨b.toNat, by omega⟩
    have hk : k < s.nb := by omega
    obtain ⟨d0, d1, d2, d3, d4⟩ := h.block hk
    obtain ⟨c0, c1, c2, c3, c4, c5, c6, c7, c8⟩ := h.cells
    have HN : Hid ((L.at_ k).next = s.next (k : Int)) := by
      show _ = _
      unfold Chip.next
      rw [if_pos hh, blk_nth]
      exact (h.each k hk).next
    rw [← HN.out]
    rw [hh] at HC
    obtain ⟨n, HNB⟩ : ∃ n : Nat, Hid (s.nb = n) := ⟨_, rfl⟩
    rw [HNB.out] at c4 hk
    have i0 : (0 : Int) ≤ (k : Int) := by omega
    have i1 : (k : Int) < (n : Int) := by omega
    clear h hb hh d0 d2 d3 d4 c0 c1 c2 c3 c5 c6 c7 c8 HN
    go_enter Tryz.func71, Tryz.ntmps71
    go_wp2_with fail
    refine HC.out.mono ?_
    rintro e w' ⟨rfl, rfl⟩
    go_wp2_with fail
    go_ret
    exact ⟨rfl, Below.refl _ _⟩
  · have hh : s.has b = false := decide_eq_false hb
    rw [show s.next b = 0 by unfold Chip.next; rw [hh]; rfl]
    rw [hh] at HC
    clear h hb hh
    go_enter Tryz.func71, Tryz.ntmps71
    go_wp2_with fail
    refine HC.out.mono ?_
    rintro e w' ⟨rfl, rfl⟩
    go_wp2_with fail
    go_ret
    exact ⟨rfl, Below.refl _ _⟩
theorem wear_any (b : Int) (hC : ChipAt w base fp g s) : Calls Tryz.prog 28 #[.pointer (some ⟨g, 0, none⟩), .int .i64 b] w (SaysN w (s.wear b)) := by
  obtain ⟨L, h⟩ := hC
  have HC := Lib.hid (has_any b h)
  by_cases hb : 0 ≤ b ∧ b < (s.nb : Int)
  · have hh : s.has b = true := decide_eq_true hb
    obtain ⟨k, rfl⟩ : ∃ k : Nat, b = (k : Int) := ⟨b.toNat, by omega⟩
    have hk : k < s.nb := by omega
    obtain ⟨d0, d1, d2, d3, d4⟩ := h.block hk
    obtain ⟨c0, c1, c2, c3, c4, c5, c6, c7, c8⟩ := h.cells
    have HN : Hid ((L.at_ k).wear = s.wear (k : Int)) := by
      show _ = _
      unfold Chip.wear
      rw [if_pos hh, blk_nth]
      exact (h.each k hk).wear
    rw [← HN.out]
    rw [hh] at HC
    obtain ⟨n, HNB⟩ : ∃ n : Nat, Hid (s.nb = n) := ⟨_, rfl⟩
    rw [HNB.out] at c4 hk
    have i0 : (0 : Int) ≤ (k : Int) := by omega
    have i1 : (k : Int) < (n : Int) := by omega
    clear h hb hh d0 d1 d3 d4 c0 c1 c2 c3 c5 c6 c7 c8 HN
    go_enter Tryz.func28, Tryz.ntmps28
    go_wp2_with fail
    refine HC.out.mono ?_
    rintro e w' ⟨rfl, rfl⟩
    go_wp2_with fail
    go_ret
    exact ⟨rfl, Below.refl _ _⟩
  · have hh : s.has b = false := decide_eq_false hb
    rw [show s.wear b = 0 by unfold Chip.wear; rw [hh]; rfl]
    rw [hh] at HC
    clear h hb hh
    go_enter Tryz.func28, Tryz.ntmps28
    go_wp2_with fail
    refine HC.out.mono ?_
    rintro e w' ⟨rfl, rfl⟩
    go_wp2_with fail
    go_ret
    exact ⟨rfl, Below.refl _ _⟩
theorem marked_any (b : Int) (hC : ChipAt w base fp g s) : Calls Tryz.prog 19 #[.pointer (some ⟨g, 0, none⟩), .int .i64 b] w (SaysB w (s.marked b)) := by
  obtain ⟨L, h⟩ := hC
  have HC := Lib.hid (has_any b h)
  by_cases hb : 0 ≤ b ∧ b < (s.nb : Int)
  · have hh : s.has b = true := decide_eq_true hb
    obtain ⟨k, rfl⟩ : ∃ k : Nat, b = (k : Int) := ⟨b.toNat, by omega⟩
    have hk : k < s.nb := by omega
    obtain ⟨d0, d1, d2, d3, d4⟩ := h.block hk
    obtain ⟨c0, c1, c2, c3, c4, c5, c6, c7, c8⟩ := h.cells
    have HN : Hid ((L.at_ k).marked = s.marked (k : Int)) := by
      show _ = _
      unfold Chip.marked
      rw [hh, blk_nth]
      exact (h.each k hk).marked
    rw [← HN.out]
    rw [hh] at HC
    obtain ⟨n, HNB⟩ : ∃ n : Nat, Hid (s.nb = n) := ⟨_, rfl⟩
    rw [HNB.out] at c4 hk
    have i0 : (0 : Int) ≤ (k : Int) := by omega
    have i1 : (k : Int) < (n : Int) := by omega
    obtain ⟨v, HV⟩ : ∃ v : Bool, Hid ((L.at_ k).marked = v) := ⟨_, rfl⟩
    rw [HV.out] at d3 ⊢
    clear h hb hh d0 d1 d2 d4 c0 c1 c2 c3 c5 c6 c7 c8 HN HV
    go_enter Tryz.func19, Tryz.ntmps19
    go_wp2_with fail
    refine HC.out.mono ?_
    rintro e w' ⟨rfl, rfl⟩
    go_wp2_with fail
    go_ret
    exact ⟨rfl, Below.refl _ _⟩
  · have hh : s.has b = false := decide_eq_false hb
    rw [show s.marked b = false by unfold Chip.marked; rw [hh]; rfl]
    rw [hh] at HC
    clear h hb hh
    go_enter Tryz.func19, Tryz.ntmps19
    go_wp2_with fail
    refine HC.out.mono ?_
    rintro e w' ⟨rfl, rfl⟩
    go_wp2_with fail
    go_ret
    exact ⟨rfl, Below.refl _ _⟩
end
end Go.Proofs.YthgkdnegnecnjaaGreatDoor

/- What a chip's calls do inside, as plain mathematics: what is left of an operation under its mishap, and then its power. No conditions. -/
set_option linter.unusedVariables false
set_option linter.unusedSimpArgs false
set_option maxRecDepth 20000
namespace Go.Proofs.YthgkdnegnecnjaaGreatDoor

namespace Chip
/-- What is left of a Program under a mishap, but for the power. -/
def progIn (s : Chip) (m : M) (b p : Int) (raw : List Nat) : Chip × Int :=
  if (s.blk b).marked = true ∨ p ≠ ((s.blk b).next : Int) then ({ s with misuse := s.misuse + 1 }, 6)
  else if (s.blk b).failed = true then (s.setB b { s.blk b with next := (s.blk b).next + 1 }, 5)
  else if m.kind = 1 then (s.setB b { wrote (s.blk b) p (part raw (s.page b p) (min m.bytes.toNat (raw.length - 1))) with failed := true }, 5)
  else if m.kind = 2 then (s.setB b (wrote (s.blk b) p (part raw (s.page b p) (min m.bytes.toNat raw.length))), 0)
  else ({ s.setB b (wrote (s.blk b) p (part raw (s.page b p) raw.length)) with programs := s.programs + 1 }, 0)
/-- What is left of an Erase. -/
def eraseIn (s : Chip) (m : M) (b : Int) : Chip × Int :=
  if (s.blk b).marked = true then ({ s with misuse := s.misuse + 1 }, 6)
  else if (s.blk b).failed = true ∨ m.kind = 1 then (s.setB b { s.blk b with failed := true }, 5)
  else if m.kind = 2 then (s.setB b { s.blk b with pg := s.filled m.fill.toNat, next := if m.fill = 255 then 0 else s.np, wear := (s.blk b).wear + 1 }, 0)
  else (s.setB b { s.blk b with pg := s.filled 255, next := 0, wear := (s.blk b).wear + 1 }, 0)
/-- What is left of a Mark. -/
def markIn (s : Chip) (m : M) (b : Int) : Chip := if m.kind = 2 then s else s.setB b { s.blk b with marked := true }
/-- The power. -/
def endIn (r : Chip × Int) (m : M) : Chip × Int := if m.kind = 2 then (r.1.off, 4) else r
section
variable {s : Chip} {b p : Int} {raw : List Nat}
theorem part_all (raw old : List Nat) (h : old.length = raw.length) : part raw old raw.length = raw := by
  unfold part
  rw [List.take_length, List.drop_eq_nil_of_le (by omega), List.append_nil]
theorem part_min (raw old : List Nat) (k : Nat) (h : old.length = raw.length) : part raw old (min k raw.length) = part raw old k := by
  by_cases hk : k ≤ raw.length
  · rw [Nat.min_eq_left hk]
  · rw [Nat.min_eq_right (by omega), part_all raw old h]
    unfold part
    rw [List.take_of_length_le (by omega), List.drop_eq_nil_of_le (by omega), List.append_nil]
theorem why_zero {l : Nat} (h : s.why b p l = 0) : s.on = true ∧ 0 ≤ b ∧ b < (s.nb : Int) ∧ 0 ≤ p ∧ p < (s.np : Int) ∧ l = s.long := by
  unfold why at h
  cases ho : s.on with
  | false => rw [ho, if_pos rfl] at h; cases h
  | true =>
    rw [ho, if_neg (by decide)] at h
    by_cases hc : 0 ≤ b ∧ b < (s.nb : Int) ∧ 0 ≤ p ∧ p < (s.np : Int) ∧ l = s.long
    · exact ⟨rfl, hc⟩
    · rw [if_neg hc] at h; cases h
theorem offIf_yes (t : Chip) (ht : t.on = true) : t.offIf true = t.off := by
  unfold offIf off; simp
theorem offIf_no (t : Chip) : t.offIf false = t := by
  cases t; simp [offIf]
theorem dark_yes (h : s.bef.kind = 2) : s.dark = true := decide_eq_true h
theorem dark_no (h : s.bef.kind ≠ 2) : s.dark = false := decide_eq_false h
theorem tick_blk : s.tick.blk b = s.blk b := rfl
theorem tick_page : s.tick.page b p = s.page b p := rfl
theorem program_in (h : s.why b p raw.length = 0) (hp : (s.page b p).length = s.long) : s.program b p raw = endIn (s.tick.progIn s.bef b p raw) s.bef := by
  obtain ⟨ho, b0, b1, p0, p1, hl⟩ := why_zero h
  have hlr : (s.page b p).length = raw.length := by omega
  have hlo : s.tick.on = true := ho
  unfold program endIn progIn
  rw [if_neg (by rw [h]; decide), tick_blk, tick_page]
  by_cases hd : s.bef.kind = 2
  · simp only [dark_yes hd, if_pos hd]
    by_cases h1 : (s.blk b).marked = true ∨ p ≠ ((s.blk b).next : Int)
    · simp only [if_pos h1, offIf_yes _ hlo]; rfl
    · simp only [if_neg h1]
      by_cases h2 : (s.blk b).failed = true
      · simp only [if_pos h2, offIf_yes _ hlo]; rfl
      · have h3 : ¬ s.bef.kind = 1 := by omega
        simp only [if_neg h2, if_neg h3, if_true, part_min _ _ _ hlr]; rfl
  · simp only [dark_no hd, if_neg hd]
    by_cases h1 : (s.blk b).marked = true ∨ p ≠ ((s.blk b).next : Int)
    · simp only [if_pos h1, offIf_no]; rfl
    · simp only [if_neg h1]
      by_cases h2 : (s.blk b).failed = true
      · simp only [if_pos h2, offIf_no]; rfl
      · simp only [if_neg h2]
        by_cases h3 : s.bef.kind = 1
        · have hf : s.fails = true := decide_eq_true h3
          simp only [hf, if_pos h3, if_true, hl]; rfl
        · have hf : s.fails = false := decide_eq_false h3
          simp only [hf, if_neg h3, part_all _ _ hlr]; rfl
theorem erase_in (h : s.why b 0 s.long = 0) : s.erase b = endIn (s.tick.eraseIn s.bef b) s.bef := by
  obtain ⟨ho, b0, b1, p0, p1, hl⟩ := why_zero h
  have hlo : s.tick.on = true := ho
  unfold erase endIn eraseIn
  rw [if_neg (by rw [h]; decide), tick_blk]
  by_cases hd : s.bef.kind = 2
  · simp only [dark_yes hd, if_pos hd]
    by_cases h1 : (s.blk b).marked = true
    · simp only [if_pos h1, offIf_yes _ hlo]; rfl
    · simp only [if_neg h1]
      have hf : s.fails = false := decide_eq_false (by omega)
      by_cases h2 : (s.blk b).failed = true
      · simp only [if_pos (Or.inl h2 : (s.blk b).failed = true ∨ s.fails = true), if_pos (Or.inl h2 : (s.blk b).failed = true ∨ s.bef.kind = 1), offIf_yes _ hlo]; rfl
      · have h4 : ¬ ((s.blk b).failed = true ∨ s.fails = true) := by rw [hf]; simpa using h2
        have h5 : ¬ ((s.blk b).failed = true ∨ s.bef.kind = 1) := by intro h; rcases h with h | h; exact h2 h; omega
        simp only [if_neg h4, if_neg h5, if_true]; rfl
  · simp only [dark_no hd, if_neg hd]
    by_cases h1 : (s.blk b).marked = true
    · simp only [if_pos h1, offIf_no]; rfl
    · simp only [if_neg h1]
      by_cases h3 : (s.blk b).failed = true ∨ s.bef.kind = 1
      · have h4 : (s.blk b).failed = true ∨ s.fails = true := h3.imp id fun e => decide_eq_true e
        simp only [if_pos h3, if_pos h4, offIf_no]; rfl
      · have h4 : ¬ ((s.blk b).failed = true ∨ s.fails = true) := fun e => h3 (e.imp id fun e => of_decide_eq_true e)
        simp only [if_neg h3, if_neg h4]; rfl
theorem mark_in (h : s.why b 0 s.long = 0) : s.mark b = endIn (s.tick.markIn s.bef b, 0) s.bef := by
  unfold mark endIn markIn
  rw [if_neg (by rw [h]; decide)]
  by_cases hd : s.bef.kind = 2
  · rw [dark_yes hd, if_pos rfl, if_pos hd, if_pos hd]
  · rw [dark_no hd, if_neg (by decide), if_neg hd, if_neg hd]; rfl
theorem read_in (h : s.why b p s.long = 0) : s.read b p = ((endIn (s.tick, 0) s.bef).1, (endIn (s.tick, 0) s.bef).2, if s.bef.kind = 2 then [] else s.page b p) := by
  unfold read endIn
  rw [if_neg (by rw [h]; decide)]
  by_cases hd : s.bef.kind = 2
  · rw [dark_yes hd, if_pos rfl, if_pos hd, if_pos hd]
  · rw [dark_no hd, if_neg (by decide), if_neg hd, if_neg hd]
/- what holds of every chip -/
/-- Each count has room for one operation more. -/
structure Tk (s : Chip) : Prop where
  misuse : s.misuse < s.ops
  programs : s.programs < s.ops
  wear : ∀ b, b < s.nb → (s.bs.getD b Blk.zero).wear < s.ops
theorem Wf.tick (h : s.Wf) : s.tick.Wf := ⟨h.nb1, h.nb2, h.np1, h.np2, h.ns1, h.ns2, h.may, h.len, h.pages, h.bytes, h.next, fun b hb => Nat.le_succ_of_le (h.wear b hb), Nat.le_succ_of_le h.misuse, Nat.le_succ_of_le h.programs⟩
theorem Wf.tk (h : s.Wf) : s.tick.Tk := ⟨Nat.lt_succ_of_le h.misuse, Nat.lt_succ_of_le h.programs, fun b hb => Nat.lt_succ_of_le (h.wear b hb)⟩
theorem Wf.turn (h : s.Wf) (o : Bool) : ({ s with on := o } : Chip).Wf := ⟨h.nb1, h.nb2, h.np1, h.np2, h.ns1, h.ns2, h.may, h.len, h.pages, h.bytes, h.next, h.wear, h.misuse, h.programs⟩
theorem Wf.misused (h : s.Wf) (k : s.Tk) : ({ s with misuse := s.misuse + 1 } : Chip).Wf := ⟨h.nb1, h.nb2, h.np1, h.np2, h.ns1, h.ns2, h.may, h.len, h.pages, h.bytes, h.next, h.wear, k.misuse, h.programs⟩
theorem Wf.programmed (h : s.Wf) (k : s.programs < s.ops) : ({ s with programs := s.programs + 1 } : Chip).Wf := ⟨h.nb1, h.nb2, h.np1, h.np2, h.ns1, h.ns2, h.may, h.len, h.pages, h.bytes, h.next, h.wear, h.misuse, k⟩
theorem Wf.setB (h : s.Wf) {k : Nat} (hk : k < s.nb) (y : Blk) (h1 : y.pg.length = s.np) (h2 : ∀ p, p < s.np → (y.pg.getD p []).length = s.long) (h3 : y.next ≤ s.np) (h4 : y.wear ≤ s.ops) : (s.setB (k : Int) y).Wf := by
  have hl := h.len
  have hg : ∀ j, (s.setB (k : Int) y).bs.getD j Blk.zero = if j = k then y else s.bs.getD j Blk.zero := fun j => by
    unfold Chip.setB
    simp only [Int.toNat_natCast, List.getD_eq_getElem?_getD, List.getElem?_set]
    by_cases e : k = j
    · subst e; simp [show k < s.bs.length by omega]
    · simp [e, Ne.symm e]
  refine ⟨h.nb1, h.nb2, h.np1, h.np2, h.ns1, h.ns2, h.may, ?_, fun b hb => ?_, fun b p hb hp => ?_, fun b hb => ?_, fun b hb => ?_, h.misuse, h.programs⟩
  · unfold Chip.setB; simpa using hl
  · rw [hg]; split
    · exact h1
    · exact h.pages b hb
  · rw [hg]; split
    · exact h2 p hp
    · exact h.bytes b p hb hp
  · rw [hg]; split
    · exact h3
    · exact h.next b hb
  · rw [hg]; split
    · exact h4
    · exact h.wear b hb
theorem bef_wf (h : s.Wf) : 0 ≤ s.bef.bytes ∧ s.bef.bytes ≤ 65536 ∧ (s.bef.kind = 0 ∨ s.bef.kind = 1 ∨ s.bef.kind = 2) := by
  have hz : ∀ {x : Int} {ms : List M} {m : M}, atM x ms = some m → m ∈ ms := by
    intro x ms
    induction ms with
    | nil => intro m e; cases e
    | cons a r ih =>
      intro m e
      unfold atM at e
      split at e
      · rw [← Option.some.inj e]; simp
      · exact List.mem_cons_of_mem _ (ih e)
  unfold bef
  cases e : atM ((s.ops + 1 : Nat) : Int) s.ms with
  | none => exact ⟨by decide, by decide, Or.inl rfl⟩
  | some m =>
    obtain ⟨k, hk, hm⟩ := List.mem_iff_getElem.1 (hz e)
    have h1 := (mayM_out h.may).2 k hk
    unfold stepM at h1
    rw [Bool.and_eq_true] at h1
    have h2 := okM_out h1.1
    have h3 : getM s.ms k = m := by
      unfold getM
      rw [List.getD_eq_getElem?_getD, List.getElem?_eq_getElem hk, ← hm]; rfl
    rw [h3] at h2
    exact ⟨h2.2.2.2.1, h2.2.2.2.2, Or.inr h2.2.2.1⟩
/- pages side by side -/
theorem flat_len {z : Nat} : ∀ {pg : List (List Nat)}, (∀ i, i < pg.length → (pg.getD i []).length = z) → pg.flatten.length = pg.length * z
  | [], _ => by simp
  | x :: r, h => by
    have h0 : x.length = z := h 0 (by simp)
    have h1 := flat_len (pg := r) fun i hi => h (i + 1) (by simpa using hi)
    rw [List.flatten_cons, List.length_append, h0, h1, List.length_cons, Nat.add_mul, Nat.one_mul]; omega
theorem flat_page {z : Nat} : ∀ {pg : List (List Nat)} {q : Nat}, (∀ i, i < pg.length → (pg.getD i []).length = z) → q < pg.length → (pg.flatten.drop (q * z)).take z = pg.getD q []
  | [], q, _, hq => by simp at hq
  | x :: r, 0, h, _ => by
    have h0 : x.length = z := h 0 (by simp)
    rw [Nat.zero_mul, List.drop_zero, List.flatten_cons, List.take_append_of_le_length (by omega), List.take_of_length_le (by omega)]; rfl
  | x :: r, q + 1, h, hq => by
    have h0 : x.length = z := h 0 (by simp)
    have e : (q + 1) * z = x.length + q * z := by rw [Nat.add_mul, Nat.one_mul, h0]; omega
    rw [List.flatten_cons, e, List.drop_append, List.drop_eq_nil_of_le (by omega), List.nil_append, show x.length + q * z - x.length = q * z by omega]
    exact flat_page (pg := r) (fun i hi => h (i + 1) (by simpa using hi)) (by simpa using hq)
theorem flat_set {z : Nat} : ∀ {pg : List (List Nat)} {q : Nat} (x : List Nat), (∀ i, i < pg.length → (pg.getD i []).length = z) → q < pg.length → (pg.set q x).flatten = pg.flatten.take (q * z) ++ x ++ pg.flatten.drop (q * z + z)
  | [], q, _, _, hq => by simp at hq
  | y :: r, 0, x, h, _ => by
    have h0 : y.length = z := h 0 (by simp)
    rw [Nat.zero_mul, List.take_zero, Nat.zero_add, List.flatten_cons, List.drop_append, List.drop_eq_nil_of_le (by omega), List.nil_append, show z - y.length = 0 by omega]
    simp
  | y :: r, q + 1, x, h, hq => by
    have h0 : y.length = z := h 0 (by simp)
    have ih := flat_set (pg := r) (q := q) x (fun i hi => h (i + 1) (by simpa using hi)) (by simpa using hq)
    have e : (q + 1) * z = y.length + q * z := by rw [Nat.add_mul, Nat.one_mul, h0]; omega
    have a1 : ∀ (F : List Nat) (m : Nat), (y ++ F).take (y.length + m) = y ++ F.take m := fun F m => by
      rw [List.take_append, List.take_of_length_le (Nat.le_add_right _ _), Nat.add_sub_cancel_left]
    have a2 : ∀ (F : List Nat) (m : Nat), (y ++ F).drop (y.length + m) = F.drop m := fun F m => by
      rw [List.drop_append, List.drop_eq_nil_of_le (Nat.le_add_right _ _), Nat.add_sub_cancel_left, List.nil_append]
    show (y :: r.set q x).flatten = _
    rw [List.flatten_cons, ih, List.flatten_cons, e, a1, Nat.add_assoc, a2]
    simp
/-- The first k bytes of a page are others. -/
theorem flat_part {z k q : Nat} {pg : List (List Nat)} (raw : List Nat) (h : ∀ i, i < pg.length → (pg.getD i []).length = z) (hq : q < pg.length) (hk : k ≤ raw.length) (hr : raw.length = z) :
    (pg.set q (part raw (pg.getD q []) k)).flatten = pg.flatten.take (q * z) ++ raw.take k ++ pg.flatten.drop (q * z + k) := by
  have hfl := flat_len h
  have hlen : (raw.take k).length = k := by rw [List.length_take]; omega
  rw [flat_set _ h hq]
  have e : part raw (pg.getD q []) k = raw.take k ++ ((pg.flatten.drop (q * z)).take z).drop k := by rw [flat_page h hq]; rfl
  rw [e, List.drop_take, List.drop_drop, List.append_assoc, List.append_assoc, List.append_assoc]
  congr 2
  have e2 : q * z + z = q * z + k + (z - k) := by omega
  have e3 : pg.flatten.drop (q * z + k + (z - k)) = (pg.flatten.drop (q * z + k)).drop (z - k) := by rw [List.drop_drop]
  rw [e2, e3, List.take_append_drop]
theorem filled_flat (s : Chip) (x : Nat) : (s.filled x).flatten = List.replicate (s.np * s.long) x := by
  unfold filled
  induction s.np with
  | zero => simp
  | succ n ih => rw [List.replicate_succ, List.flatten_cons, ih, List.replicate_append_replicate]; congr 1; rw [Nat.add_mul, Nat.one_mul]; omega
theorem filled_len (s : Chip) (x : Nat) : (s.filled x).length = s.np := by simp [filled]
theorem filled_each (s : Chip) (x : Nat) (p : Nat) (hp : p < s.np) : ((s.filled x).getD p []).length = s.long := by
  unfold filled
  rw [List.getD_eq_getElem?_getD, List.getElem?_replicate, if_pos hp]
  simp
end
end Chip
end Go.Proofs.YthgkdnegnecnjaaGreatDoor

/- The chip's begin and end: what counts an operation, and what takes the power. Conditions: the chip's cells; fewer than a million operations. -/
set_option linter.unusedVariables false
set_option linter.unusedSimpArgs false
set_option maxRecDepth 20000
namespace Go.Proofs.YthgkdnegnecnjaaGreatDoor
open Go.RowKit

theorem run_chip_ops (g : Nat) (w : World) : (Instr.fieldAt 83 (.pointer (some ⟨g, 0, none⟩)) 4).run Tryz.prog w = .ok (.pointer (some ⟨g, 6, none⟩)) w := by go_simp
theorem run_chip_ms (g : Nat) (w : World) : (Instr.fieldAt 83 (.pointer (some ⟨g, 0, none⟩)) 1).run Tryz.prog w = .ok (.pointer (some ⟨g, 3, none⟩)) w := by go_simp
theorem nrun_load_int (p : Addr) (z : Int) (w : World) (hc : w.cell? p = some (.int .i64 z)) : (Instr.loadAt 3 (.pointer (some p))).run Tryz.prog w = .ok (.int .i64 z) w := by go_simp
theorem run_load_ms (p : Addr) (A : Option Addr) (n c : Nat) (w : World) (hc : w.cell? p = some (.slice A n c)) : (Instr.loadAt 23 (.pointer (some p))).run Tryz.prog w = .ok (.slice A n c) w := by go_simp
theorem run_alloc_mish (w : World) : (Instr.alloc 74 true (.tuple #[])).run Tryz.prog w = .ok (.pointer (some ⟨w.heap.size, 0, none⟩)) (w.alloc (.cells #[.int .i64 0, .int .i64 0, .int .i64 0, .int .u8 0] 74)) := by go_simp
theorem run_store_mish {W : World} {g : Nat} {m0 : M} (h : RowM W g m0) (m : M) : (Instr.storeAt 74 (.pointer (some ⟨g, 0, none⟩)) (mishV m)).run Tryz.prog W = .ok () ((((W.setCell ⟨g, 0, none⟩ (.int .i64 m.at_)).setCell ⟨g, 1, none⟩ (.int .i64 m.kind)).setCell ⟨g, 2, none⟩ (.int .i64 m.bytes)).setCell ⟨g, 3, none⟩ (.int .u8 m.fill)) := by
  obtain ⟨c0, c1, c2, c3⟩ := h.at_
  have f0 := h.free 0
  have f1 := h.free 1
  have f2 := h.free 2
  have f3 := h.free 3
  unfold mishV
  go_simp
def BoxM (W0 : World) (v : Value) (W : World) : Prop := ∃ g, v = .pointer (some ⟨g, 0, none⟩) ∧ W0.heap.size ≤ g ∧ RowM W g M.zero
theorem boxM_since (W0 : World) (v : Value) (w w' : World) (h : BoxM W0 v w) (hb : Later w w') : BoxM W0 v w' := by
  obtain ⟨g, e, h1, h2⟩ := h
  exact ⟨g, e, h1, h2.since hb⟩
section
variable {w : World} {base g : Nat} {fp : Nat → Prop} {s : Chip} {L : CL}
/-- One operation more. -/
theorem Rep.tick (h : Rep w base fp g s L) : Rep (w.setCell ⟨g, 6, none⟩ (.int .i64 ((s.ops : Int) + 1))) base fp g s.tick L :=
  h.head h.wf.tick rfl rfl rfl rfl rfl (by simp [World.setCell, Array.getElem?_modify, h.row, chipRow, Chip.tick]) (fun b hb => setCell_heap _ _ _ _ _ hb) (by simp [World.setCell])
theorem bef_at (s : Chip) : ∃ f, atV (atM ((s.ops : Int) + 1) s.ms) = .tuple #[mishV s.bef, .bool f] := by
  have e : ((s.ops + 1 : Nat) : Int) = (s.ops : Int) + 1 := by omega
  unfold Chip.bef
  rw [e]
  cases atM ((s.ops : Int) + 1) s.ms with
  | none => exact ⟨false, rfl⟩
  | some m => exact ⟨true, rfl⟩
set_option maxHeartbeats 8000000 in
set_option maxRecDepth 20000 in
theorem begin_ok (st : ByteArray) (h : Rep w base fp g s L) (hon : s.on = true) (hops : s.ops < 1000000) :
    Calls Tryz.prog 97 #[.pointer (some ⟨g, 0, none⟩), .string st, .bool true] w (fun e w' => e = .returned (.tuple #[mishV s.bef, .nilIface]) ∧ Rep w' base fp g s.tick L ∧ Moves w fp w' fp) := by
  obtain ⟨f, hat⟩ := bef_at s
  have hml : s.ms.length ≤ 24 := (mayM_out h.wf.may).1
  have L1 := later_alloc w (.cells #[.int .i64 0, .int .i64 0, .int .i64 0, .int .u8 0] 74)
  have h1 := h.since L1
  obtain ⟨c0, c1, c2, c3, c4, c5, c6, c7, c8⟩ := h1.cells
  have f6 := h1.free 6
  have ht := h1.tick
  have H2 := Lib.hid ht
  have HG : Hid (RowM ((w.alloc (.cells #[.int .i64 0, .int .i64 0, .int .i64 0, .int .u8 0] 74)).setCell ⟨g, 6, none⟩ (.int .i64 ((s.ops : Int) + 1))) w.heap.size M.zero) :=
    ⟨(setCell_heap _ _ _ _ _ (by have := h.glt; omega)).trans (rowM_new w M.zero).row⟩
  have HM : Hid (Moves w fp ((w.alloc (.cells #[.int .i64 0, .int .i64 0, .int .i64 0, .int .u8 0] 74)).setCell ⟨g, 6, none⟩ (.int .i64 ((s.ops : Int) + 1))) fp) :=
    ⟨(Turn.of_below L1).trans (Turn.of_setCell (fp := fp) ⟨g, 6, none⟩ _ h.fg) fun b hb => Or.inl hb, fun b hb => Or.inl hb⟩
  obtain ⟨m, HMM⟩ : ∃ m, Hid (s.bef = m) := ⟨_, rfl⟩
  rw [HMM.out] at hat ⊢
  have HAT := Lib.hid hat
  obtain ⟨o, HO⟩ : ∃ o : Nat, Hid (s.ops = o) := ⟨_, rfl⟩
  rw [HO.out] at c6 H2 HG HM HAT hops
  rw [hon] at c5
  have HLT := Lib.hid h.lt
  clear h h1 L1 ht c0 c1 c2 c3 c4 c7 c8 hon hat
  go_enter Tryz.func97, Tryz.ntmps97
  go_wp2_with fail
  obtain ⟨WB, HWB⟩ : ∃ W, Hid (W = (w.alloc (.cells #[.int .i64 0, .int .i64 0, .int .i64 0, .int .u8 0] 74)).setCell ⟨g, 6, none⟩ (.int .i64 ((o : Int) + 1))) := ⟨_, rfl⟩
  rw [← HWB.out] at H2 HG HM ⊢
  clear HWB c5 c6 f6
  obtain ⟨WD, HWD⟩ : ∃ W, Hid (W = WB.drew) := ⟨_, rfl⟩
  have HDL : Hid (Later WB WD) := by rw [HWD.out]; exact (Below.refl _ _).drew
  have H3 := Lib.hid (H2.out.since HDL.out)
  have HG3 := Lib.hid (HG.out.since HDL.out)
  have HM3 := Lib.hid (HM.out.trans (Moves.of_below HDL.out))
  clear H2 HG HM HDL
  obtain ⟨C6, C3⟩ : Hid (WD.cell? ⟨g, 6, none⟩ = some (.int .i64 ((o : Int) + 1))) ∧ Hid (WD.cell? ⟨g, 3, none⟩ = some (.slice L.AM s.ms.length L.cM)) := by
    obtain ⟨c0, c1, c2, c3, c4, c5, c6, c7, c8⟩ := H3.out.cells
    refine ⟨?_, c3⟩
    show _ = _
    rw [c6]
    show some (Value.int .i64 ((s.ops + 1 : Nat) : Int)) = _
    rw [HO.out]; rfl
  have HMS := Lib.hid H3.out.ms
  have HMS2 : Hid (mishK.Row WD base L.AM s.ms.length L.cM s.ms) := HMS.out
  clear HMS
  have HMS := HMS2
  clear HMS2
  obtain ⟨l, HL⟩ : ∃ l : Nat, Hid (s.ms.length = l) := ⟨_, rfl⟩
  rw [HL.out] at HMS C3 hml
  refine region_of_steps5 (by kernel_rfl) (fact2Of [.is (.pointer (some ⟨g, 0, none⟩)), .is (.pointer (some ⟨g, 0, none⟩)), .is (.pointer (some ⟨g, 6, none⟩)), .is (.int .i64 ((o : Int) + 1)), .is (.pointer (some ⟨g, 0, none⟩)), .is (.pointer (some ⟨g, 0, none⟩)), .is (.pointer (some ⟨g, 3, none⟩)), .is (.slice L.AM l L.cM), .is (.tuple #[mishV m, .bool f]), .is (.tuple #[mishV m, .bool f]), .is (mishV m), .is (.bool f), .that (BoxM WD) (boxM_since _), .that (fun _ _ => True) (fun _ _ _ _ _ => trivial), .is (.bool f)]) (deadOf [(12, 13)]) (fun j a x y => BoxR 8 13 (fun W b => RowM W b m) WD a j x y) (BoxInv 8 12 13 (fun W b => RowM W b M.zero) (fun W b => RowM W b m) WD) (by kernel_rfl)
    (fun i j v a x y hm hd hn _ h hR => fact2_stays _ _ 13 0 [(12, 13)] (hds_of (by kernel_rfl)) i j v x y hm hd hn h (boxr_but hR))
    (fun listed j a x v y o ho hsz H h hs hl hR hv => boxinv_step (i0 := 12) (by kernel_rfl) (by kernel_rfl) (by decide) (by kernel_rfl) (fun _ _ _ h k => h.since k) (fun _ _ _ h k => h.since k) (fun _ _ h => h) ho hsz h hs hl hR hv H)
    (by rw [← HWD.out]; exact boxinv_start (Below.refl _ _) (by kernel_rfl)) ?_ ?_
  · refine Steps5.cons ?_ (Steps5.cons ?_ (Steps5.cons ?_ (Steps5.cons ?_ (Steps5.cons ?_ (Steps5.cons ?_ (Steps5.cons ?_ (Steps5.cons ?_ (Steps5.cons ?_ (Steps5.cons ?_ (Steps5.cons ?_ (Steps5.cons ?_ (Steps5.cons ?_ (Steps5.cons ?_ (Steps5.cons ?_ (Steps5.nil)))))))))))))))
    · intro listed a W H hw hl hd
      have t0 : a.tmps.getD 0 undef = .pointer (some ⟨g, 0, none⟩) := (H.old 0 (by kernel_rfl)).trans rfl
      exact step2_value (R := fun j x y => BoxR 8 13 (fun W b => RowM W b m) WD a j x y) (i := 0) rfl rfl (run_op_move rfl t0) (boxr_refl (by decide)) rfl
    · intro listed a W H hw hl hd
      have t39 : a.tmps.getD 39 undef = .pointer (some ⟨g, 0, none⟩) := H.get 0 39 (by kernel_rfl) (dep_of hd 0 (by kernel_rfl)) (alive_none (by kernel_rfl))
      exact step2_value (R := fun j x y => BoxR 8 13 (fun W b => RowM W b m) WD a j x y) (i := 1) rfl rfl (run_op_nilCheck rfl t39) (boxr_refl (by decide)) rfl
    · intro listed a W H hw hl hd
      have t40 : a.tmps.getD 40 undef = .pointer (some ⟨g, 0, none⟩) := H.get 1 40 (by kernel_rfl) (dep_of hd 1 (by kernel_rfl)) (alive_none (by kernel_rfl))
      exact step2_value (R := fun j x y => BoxR 8 13 (fun W b => RowM W b m) WD a j x y) (i := 2) rfl rfl (run_op_fieldAddr rfl t40 (run_chip_ops g W)) (boxr_refl (by decide)) rfl
    · intro listed a W H hw hl hd
      have t41 : a.tmps.getD 41 undef = .pointer (some ⟨g, 6, none⟩) := H.get 2 41 (by kernel_rfl) (dep_of hd 2 (by kernel_rfl)) (alive_none (by kernel_rfl))
      exact step2_value (R := fun j x y => BoxR 8 13 (fun W b => RowM W b m) WD a j x y) (i := 3) rfl rfl (run_op_load rfl t41 (nrun_load_int _ _ W (later_cell hw.below C6.out))) (boxr_refl (by decide)) rfl
    · intro listed a W H hw hl hd
      have t0 : a.tmps.getD 0 undef = .pointer (some ⟨g, 0, none⟩) := (H.old 0 (by kernel_rfl)).trans rfl
      exact step2_value (R := fun j x y => BoxR 8 13 (fun W b => RowM W b m) WD a j x y) (i := 4) rfl rfl (run_op_move rfl t0) (boxr_refl (by decide)) rfl
    · intro listed a W H hw hl hd
      have t43 : a.tmps.getD 43 undef = .pointer (some ⟨g, 0, none⟩) := H.get 4 43 (by kernel_rfl) (dep_of hd 4 (by kernel_rfl)) (alive_none (by kernel_rfl))
      exact step2_value (R := fun j x y => BoxR 8 13 (fun W b => RowM W b m) WD a j x y) (i := 5) rfl rfl (run_op_nilCheck rfl t43) (boxr_refl (by decide)) rfl
    · intro listed a W H hw hl hd
      have t44 : a.tmps.getD 44 undef = .pointer (some ⟨g, 0, none⟩) := H.get 5 44 (by kernel_rfl) (dep_of hd 5 (by kernel_rfl)) (alive_none (by kernel_rfl))
      exact step2_value (R := fun j x y => BoxR 8 13 (fun W b => RowM W b m) WD a j x y) (i := 6) rfl rfl (run_op_fieldAddr rfl t44 (run_chip_ms g W)) (boxr_refl (by decide)) rfl
    · intro listed a W H hw hl hd
      have t45 : a.tmps.getD 45 undef = .pointer (some ⟨g, 3, none⟩) := H.get 6 45 (by kernel_rfl) (dep_of hd 6 (by kernel_rfl)) (alive_none (by kernel_rfl))
      exact step2_value (R := fun j x y => BoxR 8 13 (fun W b => RowM W b m) WD a j x y) (i := 7) rfl rfl (run_op_load rfl t45 (run_load_ms _ _ _ _ W (later_cell hw.below C3.out))) (boxr_refl (by decide)) rfl
    · intro listed a W H hw hl hd
      have t42 : a.tmps.getD 42 undef = .int .i64 ((o : Int) + 1) := H.get 3 42 (by kernel_rfl) (dep_of hd 3 (by kernel_rfl)) (alive_none (by kernel_rfl))
      have t46 : a.tmps.getD 46 undef = .slice L.AM l L.cM := H.get 7 46 (by kernel_rfl) (dep_of hd 7 (by kernel_rfl)) (alive_none (by kernel_rfl))
      refine step2_call (R := fun j x y => BoxR 8 13 (fun W b => RowM W b m) WD a j x y) (i := 8) rfl rfl (run_op_call (vs := #[.int .i64 ((o : Int) + 1), .slice L.AM l L.cM]) Tryz.func121 (by kernel_rfl) (by kernel_rfl) rfl (by simp only [List.map_toArray, List.map_cons, List.map_nil]; show #[a.tmps.getD 42 undef, a.tmps.getD 46 undef] = _; rw [t42, t46])) ?_
      refine (at7_any ((o : Int) + 1) L.AM l L.cM s.ms W (by omega) ((HMS.out.lie).since hw.below)).mono ?_
      rintro e W2 ⟨rfl, hb⟩
      exact ⟨_, rfl, boxr_later (by decide) hb.out, HAT.out⟩
    · intro listed a W H hw hl hd
      have t47 : a.tmps.getD 47 undef = .tuple #[mishV m, .bool f] := H.get 8 47 (by kernel_rfl) (dep_of hd 8 (by kernel_rfl)) (alive_none (by kernel_rfl))
      exact step2_value (R := fun j x y => BoxR 8 13 (fun W b => RowM W b m) WD a j x y) (i := 9) rfl rfl (run_op_move rfl t47) (boxr_refl (by decide)) rfl
    · intro listed a W H hw hl hd
      have t38 : a.tmps.getD 38 undef = .tuple #[mishV m, .bool f] := H.get 9 38 (by kernel_rfl) (dep_of hd 9 (by kernel_rfl)) (alive_none (by kernel_rfl))
      exact step2_value (R := fun j x y => BoxR 8 13 (fun W b => RowM W b m) WD a j x y) (i := 10) rfl rfl (run_op_extract rfl t38 rfl) (boxr_refl (by decide)) rfl
    · intro listed a W H hw hl hd
      have t38 : a.tmps.getD 38 undef = .tuple #[mishV m, .bool f] := H.get 9 38 (by kernel_rfl) (dep_of hd 9 (by kernel_rfl)) (alive_none (by kernel_rfl))
      exact step2_value (R := fun j x y => BoxR 8 13 (fun W b => RowM W b m) WD a j x y) (i := 11) rfl rfl (run_op_extract rfl t38 rfl) (boxr_refl (by decide)) rfl
    · intro listed a W H hw hl hd
      exact step2_value (R := fun j x y => BoxR 8 13 (fun W b => RowM W b m) WD a j x y) (i := 12) rfl rfl (run_op_alloc rfl (run_alloc_mish W)) (boxr_later (by decide) (later_alloc _ _)) ⟨W.heap.size, rfl, hw.below.size, rowM_new W M.zero⟩
    · intro listed a W H hw hl hd
      have T8 : (BoxM WD) (a.tmps.getD 8 undef) W := H.get 12 8 (by kernel_rfl) (dep_of hd 12 (by kernel_rfl)) (alive_now (m := 13) (by kernel_rfl) (H.notyets 4 hl (by kernel_rfl)))
      have t48 : a.tmps.getD 48 undef = mishV m := H.get 10 48 (by kernel_rfl) (dep_of hd 10 (by kernel_rfl)) (alive_none (by kernel_rfl))
      clear T8
      obtain ⟨gb, e8, h8, p8, _⟩ := hw.made (dep_of hd 12 (by kernel_rfl))
      have hl13 : listed.getD 13 false = false := by
        have := H.len
        by_cases hh : 13 < listed.size
        · simp [hh] at hl ⊢; exact hl
        · simp [hh]
      exact step2_done (R := fun j x y => BoxR 8 13 (fun W b => RowM W b m) WD a j x y) (i := 13) rfl rfl rfl (run_op_store rfl e8 t48 (run_store_mish (p8 hl13) m)) ⟨fun _ => ⟨gb, e8, h8, put4_else _ _ _ _ _ _, (p8 hl13).put m⟩, fun e => absurd rfl e⟩ trivial
    · intro listed a W H hw hl hd
      have t49 : a.tmps.getD 49 undef = .bool f := H.get 11 49 (by kernel_rfl) (dep_of hd 11 (by kernel_rfl)) (alive_none (by kernel_rfl))
      exact step2_value (R := fun j x y => BoxR 8 13 (fun W b => RowM W b m) WD a j x y) (i := 14) rfl rfl (run_op_assign rfl t49) (boxr_refl (by decide)) rfl
  · intro a WC listed hdef hsz hinv hall0 hall hact
    obtain ⟨gb, e8, h8, _, p8⟩ := hinv.made (hall0 12 (by decide))
    have HR := Lib.hid (p8 (hall0 13 (by decide)))
    have HBL := Lib.hid hinv.below
    obtain ⟨u, hu⟩ : ∃ u : Nat → Value, ∀ k, a.tmps.getD k undef = u k := ⟨_, fun _ => rfl⟩
    rw [hu] at e8
    simp only [hu] at hact
    have hact' : a = ([39, 40, 41, 42, 43, 44, 45, 46, 47, 38, 48, 49, 8, 9] : List Nat).foldl (fun b k => b.put (some k) (u k)) _ := hact
    simp only [List.foldl] at hact'
    simp only [Act.put, List.setIfInBounds_toArray, List.set_cons_succ, List.set_cons_zero] at hact'
    rw [e8] at hact'
    have HAC := Lib.hid hact'
    have h9 : WD.heap.size ≤ gb := h8
    have HRV := Lib.hid (HG3.out.since HBL.out)
    have H9 := Lib.hid (H3.out.since HBL.out)
    have HM9 := Lib.hid (HM3.out.trans (Moves.of_below HBL.out))
    clear hu hact hact' hall hall0 hdef hsz hinv p8 e8 H3 HG3 HM3 HBL HMS C3 C6 HL
    obtain ⟨e0, e1, e2, e3⟩ := HR.out.at_
    obtain ⟨d0, d1, d2, d3⟩ := HRV.out.at_
    have f0 := HRV.out.free 0
    have f1 := HRV.out.free 1
    have f2 := HRV.out.free 2
    have f3 := HRV.out.free 3
    rw [HAC.out]
    go_wp2_with fail
    have R9 := Lib.hid (HRV.out.put m)
    have HK9 := Lib.hid (put4_else WC w.heap.size (.int .i64 m.at_) (.int .i64 m.kind) (.int .i64 m.bytes) (.int .u8 m.fill))
    obtain ⟨W9, HW9⟩ : ∃ W9, Hid (W9 = ((((WC.setCell ⟨w.heap.size, 0, none⟩ (.int .i64 m.at_)).setCell ⟨w.heap.size, 1, none⟩ (.int .i64 m.kind)).setCell ⟨w.heap.size, 2, none⟩ (.int .i64 m.bytes)).setCell ⟨w.heap.size, 3, none⟩ (.int .u8 m.fill))) := ⟨_, rfl⟩
    rw [← HW9.out] at R9 HK9 ⊢
    obtain ⟨r0, r1, r2, r3⟩ := R9.out.at_
    have hTw : Turn (fun b => b = w.heap.size) WC W9 := Turn.of_grown HK9.out fun b hb => (Option.some.inj hb).symm
    refine bodyPost_ret (v := .tuple #[mishV m, .nilIface]) (by simp [results, Tryz.results97, go_sem, r0, r1, r2, r3, mishV]) rfl ⟨rfl, H9.out.keep hTw (fun b hb hf => ?_), HM9.out.turn.trans hTw (fun b hb => Or.inr (Nat.le_of_eq hb.symm)), HM9.out.grows⟩
    have := HLT.out b hf
    omega
theorem ErrNew.mono_w {w w1 w' : World} {fp : Nat → Prop} {k : Int} {v : Value} (h : ErrNew w1 fp w' k v) (hs : w.heap.size ≤ w1.heap.size) : ErrNew w fp w' k v := by
  rcases h with h | ⟨h0, g, s, e, h1, h2, h3, h4⟩
  · exact Or.inl h
  · exact Or.inr ⟨h0, g, s, e, h1, h2, Nat.le_trans hs h3, h4⟩
set_option maxHeartbeats 4000000 in
theorem begin_no (st : ByteArray) (fits : Bool) (h : Rep w base fp g s L) (k : Int) (hk : (s.on = false ∧ k = 4) ∨ (s.on = true ∧ fits = false ∧ k = 2)) :
    Calls Tryz.prog 97 #[.pointer (some ⟨g, 0, none⟩), .string st, .bool fits] w (fun e w' => ∃ v, e = .returned (.tuple #[mishV M.zero, v]) ∧ ErrNew w fp w' k v ∧ Below w.heap.size w w') := by
  have L1 := later_alloc w (.cells #[.int .i64 0, .int .i64 0, .int .i64 0, .int .u8 0] 74)
  have h1 := h.since L1
  obtain ⟨c0, c1, c2, c3, c4, c5, c6, c7, c8⟩ := h1.cells
  have HLT := Lib.hid h1.lt
  have HLT0 := Lib.hid h.lt
  have HL1 := Lib.hid L1
  have HG := Lib.hid (rowM_new w M.zero)
  have HGLT : Hid (w.heap.size ≤ w.heap.size) := Nat.le_refl _
  obtain ⟨Wa, HWA⟩ : ∃ W, Hid (W = w.alloc (.cells #[.int .i64 0, .int .i64 0, .int .i64 0, .int .u8 0] 74)) := ⟨_, rfl⟩
  have HG' : Hid (RowM Wa w.heap.size M.zero) := by rw [HWA.out]; exact HG.out
  rw [← HWA.out] at c5 HLT HL1
  clear h h1 L1 c0 c1 c2 c3 c4 c6 c7 c8 HG
  rcases hk with ⟨hon, rfl⟩ | ⟨hon, rfl, rfl⟩
  all_goals
    rw [hon] at c5
    clear hon
    rw [HWA.out] at c5
    go_enter Tryz.func97, Tryz.ntmps97
    go_wp2_with fail
    rw [← HWA.out]
    refine (wrong_new st _ (by decide) Wa fp HLT.out).mono ?_
    rintro e Wb ⟨v, rfl, he, hb⟩
    have HR := Lib.hid (HG'.out.since hb)
    have HB := Lib.hid (below_chain HL1.out hb)
    have HE := Lib.hid he
    clear he hb
    obtain ⟨d0, d1, d2, d3⟩ := HR.out.at_
    have f0 := HR.out.free 0
    have f1 := HR.out.free 1
    have f2 := HR.out.free 2
    have f3 := HR.out.free 3
    go_wp2_with fail
    have R9 := Lib.hid (HR.out.put M.zero)
    have HK9 := Lib.hid (put4_else Wb w.heap.size (.int .i64 0) (.int .i64 0) (.int .i64 0) (.int .u8 0))
    unfold M.zero at R9
    dsimp only at R9
    obtain ⟨W9, HW9⟩ : ∃ W9, Hid (W9 = ((((Wb.setCell ⟨w.heap.size, 0, none⟩ (.int .i64 0)).setCell ⟨w.heap.size, 1, none⟩ (.int .i64 0)).setCell ⟨w.heap.size, 2, none⟩ (.int .i64 0)).setCell ⟨w.heap.size, 3, none⟩ (.int .u8 0))) := ⟨_, rfl⟩
    rw [← HW9.out] at R9 HK9 ⊢
    obtain ⟨r0, r1, r2, r3⟩ := R9.out.at_
    refine bodyPost_ret (v := .tuple #[mishV M.zero, v]) (by simp [results, Tryz.results97, go_sem, r0, r1, r2, r3, mishV, M.zero]) rfl ⟨v, rfl, ?_, HB.out.grown HK9.out HB.out.size fun q hq => by rw [← Option.some.inj hq]; exact Nat.le_refl _⟩
    rcases HE.out with ⟨hk0, _⟩ | ⟨k0, ge, se, e1, e2, e3, e4, e5⟩
    · exact absurd hk0 (by decide)
    · have hl : w.heap.size < Wa.heap.size := HG'.out.lt
      have hgb : ∀ p : Addr, p.block = ge → W9.cell? p = Wb.cell? p := fun p hp => same_cell (HK9.out.block ge (by have := World.block_lt_of_cell? Wb ⟨ge, 0, none⟩ e2; exact this) (fun e => by have := Option.some.inj e; omega)) hp
      exact Or.inr ⟨k0, ge, se, e1, (hgb _ rfl).trans e2, (hgb _ rfl).trans e3, by omega, e5⟩
set_option maxHeartbeats 4000000 in
theorem begin_nil (st : ByteArray) (fits : Bool) (w : World) :
    Calls Tryz.prog 97 #[.pointer none, .string st, .bool fits] w (fun e w' => ∃ v, e = .returned (.tuple #[mishV M.zero, v]) ∧ ErrAt (fun b => b < w.heap.size) w' 1 v ∧ Below w.heap.size w w') := by
  have HL1 := Lib.hid (later_alloc w (.cells #[.int .i64 0, .int .i64 0, .int .i64 0, .int .u8 0] 74))
  have HG := Lib.hid (rowM_new w M.zero)
  obtain ⟨Wa, HWA⟩ : ∃ W, Hid (W = w.alloc (.cells #[.int .i64 0, .int .i64 0, .int .i64 0, .int .u8 0] 74)) := ⟨_, rfl⟩
  have HG' : Hid (RowM Wa w.heap.size M.zero) := by rw [HWA.out]; exact HG.out
  rw [← HWA.out] at HL1
  clear HG
  go_enter Tryz.func97, Tryz.ntmps97
  go_wp2_with fail
  rw [← HWA.out]
  refine (wrong_new st 1 (by decide) Wa (fun b => b < Wa.heap.size) (fun b h => h)).mono ?_
  rintro e Wb ⟨v, rfl, he, hb⟩
  have HR := Lib.hid (HG'.out.since hb)
  have HB := Lib.hid (below_chain HL1.out hb)
  have HE := Lib.hid he
  clear he hb
  obtain ⟨d0, d1, d2, d3⟩ := HR.out.at_
  have f0 := HR.out.free 0
  have f1 := HR.out.free 1
  have f2 := HR.out.free 2
  have f3 := HR.out.free 3
  go_wp2_with fail
  have R9 := Lib.hid (HR.out.put M.zero)
  have HK9 := Lib.hid (put4_else Wb w.heap.size (.int .i64 0) (.int .i64 0) (.int .i64 0) (.int .u8 0))
  unfold M.zero at R9
  dsimp only at R9
  obtain ⟨W9, HW9⟩ : ∃ W9, Hid (W9 = ((((Wb.setCell ⟨w.heap.size, 0, none⟩ (.int .i64 0)).setCell ⟨w.heap.size, 1, none⟩ (.int .i64 0)).setCell ⟨w.heap.size, 2, none⟩ (.int .i64 0)).setCell ⟨w.heap.size, 3, none⟩ (.int .u8 0))) := ⟨_, rfl⟩
  rw [← HW9.out] at R9 HK9 ⊢
  obtain ⟨r0, r1, r2, r3⟩ := R9.out.at_
  refine bodyPost_ret (v := .tuple #[mishV M.zero, v]) (by simp [results, Tryz.results97, go_sem, r0, r1, r2, r3, mishV, M.zero]) rfl ⟨v, rfl, ?_, HB.out.grown HK9.out HB.out.size fun q hq => by rw [← Option.some.inj hq]; exact Nat.le_refl _⟩
  rcases HE.out with ⟨hk0, _⟩ | ⟨k0, ge, se, e1, e2, e3, e4, e5⟩
  · exact absurd hk0 (by decide)
  · have hl : w.heap.size < Wa.heap.size := HG'.out.lt
    have hgb : ∀ p : Addr, p.block = ge → W9.cell? p = Wb.cell? p := fun p hp => same_cell (HK9.out.block ge (by have := World.block_lt_of_cell? Wb ⟨ge, 0, none⟩ e2; exact this) (fun e => by have := Option.some.inj e; omega)) hp
    exact Or.inr ⟨k0, ge, se, e1, (hgb _ rfl).trans e2, (hgb _ rfl).trans e3, by omega⟩
set_option maxHeartbeats 4000000 in
theorem Rep.dark (h : Rep w base fp g s L) : Rep (w.setCell ⟨g, 5, none⟩ (.bool false)) base fp g s.off L :=
  h.head (h.wf.turn false) rfl rfl rfl rfl rfl (by simp [World.setCell, Array.getElem?_modify, h.row, chipRow, Chip.off]) (fun b hb => setCell_heap _ _ _ _ _ hb) (by simp [World.setCell])
theorem end_any (st : ByteArray) (m : M) (code : Int) (hcode : 0 ≤ code) (h : Rep w base fp g s L) :
    Calls Tryz.prog 99 #[.pointer (some ⟨g, 0, none⟩), .string st, mishV m, .int .i64 code] w (fun e w' => ∃ v, e = .returned v ∧ ErrNew w fp w' (Chip.endIn (s, code) m).2 v ∧ Rep w' base fp g (Chip.endIn (s, code) m).1 L ∧ Moves w fp w' fp) := by
  have L1 := later_alloc w (.cells #[.int .i64 m.at_, .int .i64 m.kind, .int .i64 m.bytes, .int .u8 m.fill] 74)
  have R1 := rowM_new w m
  have h1 := h.since L1
  obtain ⟨e0, e1, e2, e3⟩ := R1.at_
  have HLT := Lib.hid h1.lt
  by_cases hd : m.kind = 2
  · rw [show Chip.endIn (s, code) m = (s.off, 4) from if_pos hd]
    have hb2 : (m.kind == 2) = true := by simpa using hd
    obtain ⟨c0, c1, c2, c3, c4, c5, c6, c7, c8⟩ := h1.cells
    have f5 := h1.free 5
    have H2 := Lib.hid h1.dark
    have HM : Hid (Moves w fp ((w.alloc (.cells #[.int .i64 m.at_, .int .i64 m.kind, .int .i64 m.bytes, .int .u8 m.fill] 74)).setCell ⟨g, 5, none⟩ (.bool false)) fp) :=
      ⟨(Turn.of_below L1).trans (Turn.of_setCell (fp := fp) ⟨g, 5, none⟩ _ h.fg) fun b hb => Or.inl hb, fun b hb => Or.inl hb⟩
    clear h h1 L1 R1 c0 c1 c2 c3 c4 c6 c7 c8 hd e0 e2 e3
    unfold mishV
    go_enter Tryz.func99, Tryz.ntmps99
    go_wp2_with fail
    obtain ⟨WB, HWB⟩ : ∃ W, Hid (W = (w.alloc (.cells #[.int .i64 m.at_, .int .i64 m.kind, .int .i64 m.bytes, .int .u8 m.fill] 74)).setCell ⟨g, 5, none⟩ (.bool false)) := ⟨_, rfl⟩
    rw [← HWB.out] at H2 HM ⊢
    refine (wrong_new st 4 (by decide) WB fp H2.out.lt).mono ?_
    rintro e Wb ⟨v, rfl, he, hb⟩
    have H3 := Lib.hid (H2.out.since hb)
    have HE := Lib.hid he
    have HM3 := Lib.hid (HM.out.trans (Moves.of_below hb))
    have hsz := HM.out.size
    clear he hb H2 HM HWB
    go_wp2_with fail
    go_ret
    exact ⟨_, rfl, HE.out.mono_w hsz, H3.out, HM3.out⟩
  · rw [show Chip.endIn (s, code) m = (s, code) from if_neg hd]
    have hb2 : (m.kind == 2) = false := by simpa using hd
    have H1 := Lib.hid h1
    have HM := Lib.hid (Moves.of_below (fp := fp) L1)
    obtain ⟨WB, HWB⟩ : ∃ W, Hid (W = w.alloc (.cells #[.int .i64 m.at_, .int .i64 m.kind, .int .i64 m.bytes, .int .u8 m.fill] 74)) := ⟨_, rfl⟩
    by_cases hc : code = 0
    · subst hc
      rw [← HWB.out] at H1 HM
      clear h h1 L1 R1 hd e0 e2 e3 hcode
      unfold mishV
      go_enter Tryz.func99, Tryz.ntmps99
      go_wp2_with fail
      rw [← HWB.out]
      go_ret
      exact ⟨_, rfl, ErrNew.none_, H1.out, HM.out⟩
    · have hb3 : (code != 0) = true := by simpa using hc
      have hk1 : 1 ≤ code := by omega
      rw [← HWB.out] at H1 HM
      clear h h1 L1 R1 hd e0 e2 e3 hcode hc
      unfold mishV
      go_enter Tryz.func99, Tryz.ntmps99
      go_wp2_with fail
      rw [← HWB.out]
      refine (wrong_new st code hk1 WB fp H1.out.lt).mono ?_
      rintro e Wb ⟨v, rfl, he, hb⟩
      have H3 := Lib.hid (H1.out.since hb)
      have HE := Lib.hid he
      have HM3 := Lib.hid (HM.out.trans (Moves.of_below hb))
      have hsz := HM.out.size
      clear he hb H1 HM HWB
      go_wp2_with fail
      go_ret
      exact ⟨_, rfl, HE.out.mono_w hsz, H3.out, HM3.out⟩
end
end Go.Proofs.YthgkdnegnecnjaaGreatDoor

/- The chip's fill (all bytes of a block are one), and where a page lies. Conditions: the block's cells; at most 8000 bytes. -/
set_option linter.unusedVariables false
set_option linter.unusedSimpArgs false
set_option maxRecDepth 20000
namespace Go.Proofs.YthgkdnegnecnjaaGreatDoor
open Go.RowKit

theorem fill_next (x : Nat) (us : List Nat) (i : Nat) (hi : i < us.length) : (List.replicate i x ++ us.drop i).set i x = List.replicate (i + 1) x ++ us.drop (i + 1) := by
  rw [List.set_append_right _ _ (by simp), List.length_replicate, Nat.sub_self, List.drop_eq_getElem_cons hi, List.set_cons_zero, List.replicate_succ']
  simp
set_option maxHeartbeats 4000000 in
theorem cfill_any (p : Addr) (r n c x base : Nat) (us : List Nat) (w : World) (hx : x < 256) (hc : w.cell? p = some (.slice (some ⟨r, 0, none⟩) n c)) (ho : Own w base (some ⟨r, 0, none⟩) n c us) (hp : r ≠ p.block) (hn : n ≤ 8000) :
    Calls Tryz.prog 39 #[.pointer (some p), .int .u8 (x : Int)] w (fun e w' => e = .returned (.tuple #[]) ∧ Own w' base (some ⟨r, 0, none⟩) n c (List.replicate n x) ∧ Turn (fun b => b = r) w w') := by
  have HUL : Hid (us.length = n) := ho.len
  have HO := Lib.hid ho
  have HC := Lib.hid hc
  obtain ⟨X, HX⟩ : ∃ X : Int, Hid (X = (x : Int)) := ⟨_, rfl⟩
  rw [← HX.out]
  clear ho
  go_enter Tryz.func39, Tryz.ntmps39
  go_wp2_with fail
  clear hc
  go_loopw [10] (fun t10 wr => ∃ i : Nat, t10 = .int .i64 i ∧ i ≤ n ∧ Hid (Own wr base (some ⟨r, 0, none⟩) n c (List.replicate i x ++ us.drop i)) ∧ Hid (Turn (fun b => b = r) w wr)) (fun t10 _ => n - (intOf t10).toNat)
  case atStart => exact ⟨0, rfl, Nat.zero_le _, HO, Turn.refl _ _⟩
  clear HO
  case round =>
    obtain ⟨i, rfl, hi, HR, HT⟩ := hrel
    have i0 : (0 : Int) ≤ (i : Int) := by omega
    by_cases hlt : i < n
    · have i1 : (i : Int) < (n : Int) := by omega
      have hc : wr.cell? p = some (.slice (some ⟨r, 0, none⟩) n c) := (same_cell (HT.out.block p.block (World.block_lt_of_cell? w p HC.out) (Ne.symm hp)) rfl).trans HC.out
      have hcell := own_cell HR.out hlt
      have hfree := own_free HR.out i
      obtain ⟨h1, h2⟩ := own_set HR.out i X x HX.out hx
      rw [fill_next x us i (by rw [HUL.out]; exact hlt)] at h1
      have H1 := Lib.hid h1
      have H2 : Hid (Turn (fun b => b = r) w (wr.setCell ⟨r, i, none⟩ (.int .u8 X))) := HT.out.trans (Turn.of_grown (fp := fun b => b = r) h2 fun b hb => (Option.some.inj hb).symm) fun b hb => Or.inl hb
      obtain ⟨u, hu⟩ : ∃ u, wr.cell? ⟨r, i, none⟩ = some u := ⟨_, hcell⟩
      clear h1 h2
      go_wp2_with fail
      go_roundw
      case rel => exact ⟨i + 1, by go_num, by omega, H1, H2⟩
      case measure => simp [intOf]; omega
    · obtain rfl : i = n := by omega
      have HF : Hid (Own wr base (some ⟨r, 0, none⟩) i c (List.replicate i x)) := by
        have := HR.out
        rwa [List.drop_eq_nil_of_le (by rw [HUL.out]; exact Nat.le_refl _), List.append_nil] at this
      go_wp2_with fail
      go_end0
      exact ⟨rfl, HF.out, HT.out⟩
section
variable {w : World} {base g : Nat} {fp : Nat → Prop} {s : Chip} {L : CL}
theorem Rep.long (h : Rep w base fp g s L) {k : Nat} (hk : k < s.nb) : ∀ i, i < (s.nth k).pg.length → ((s.nth k).pg.getD i []).length = s.ns + 28 := fun i hi => h.wf.bytes k i hk (by have := h.wf.pages k hk; unfold Chip.nth at hi; omega)
/-- A block's bytes, its pages one behind the other. -/
theorem Rep.rawrow (h : Rep w base fp g s L) {k : Nat} (hk : k < s.nb) : ∃ r c, (L.at_ k).a = some ⟨r, 0, none⟩ ∧ (L.at_ k).n = s.np * (s.ns + 28) ∧ (L.at_ k).c = c ∧ s.np * (s.ns + 28) ≤ c ∧ r < w.heap.size ∧ fp r ∧ Own w base (some ⟨r, 0, none⟩) (s.np * (s.ns + 28)) c (s.nth k).pg.flatten := by
  have h1 := (h.each k hk).raw
  have hl := h1.len
  have hp : (s.nth k).pg.length = s.np := h.wf.pages k hk
  rw [Chip.flat_len (h.long hk), hp] at hl
  have hpos : 0 < s.np * (s.ns + 28) := Nat.mul_pos h.wf.np1 (by omega)
  rw [← hl] at h1
  obtain ⟨r, e, hr1, hr2⟩ := own_at h1 hpos
  have hf := h.fr k hk r (by rw [e]; simp [Go.Proofs.YthgkdnegnecnjaaGreatDoor.blk])
  rw [e] at h1
  exact ⟨r, _, e, hl.symm, rfl, h1.cap, hr2, hf, h1⟩
theorem page_lt {k n z : Nat} (hk : k < n) : k * z + z ≤ n * z := by
  have h1 : (k + 1) * z ≤ n * z := Nat.mul_le_mul_right z hk
  rwa [Nat.add_mul, Nat.one_mul] at h1
theorem run_mid (A : Option Addr) (n c lo hi : Nat) (h1 : lo ≤ hi) (h2 : hi ≤ c) (W : World) :
    (Instr.slice 58 (.slice A n c) (some (.int .i64 (lo : Int))) (some (.int .i64 (hi : Int))) none).run Tryz.prog W = .ok (.slice (if c = lo then A else A.map (·.add lo)) (hi - lo) (c - lo)) W := by
  obtain ⟨i0, hi', hz0, hz1, hz2⟩ := info_parts info5
  have h := run_slice_lh (P := Tryz.prog) (w := W) 58 A n c under24 .i64 .i64 (lo : Int) (hi : Int) (by omega) (by omega) (by omega)
  rw [h, elem24]
  simp [sizeOf, typeInfo, hi', hz1, sliced]
/-- Where a page lies in its block. -/
def pageAt (r q z : Nat) : Option Addr := some ⟨r, q * z, none⟩
set_option maxHeartbeats 4000000 in
theorem npage_any (h : Rep w base fp g s L) {k q r c : Nat} (hk : k < s.nb) (hq : q < s.np) (hr : (L.at_ k).a = some ⟨r, 0, none⟩) (hc : (L.at_ k).c = c) :
    Calls Tryz.prog 101 #[.pointer (some ⟨g, 0, none⟩), .int .i64 (k : Int), .int .i64 (q : Int)] w fun e w' => e = .returned (.slice (some ⟨r, q * (s.ns + 28), none⟩) (s.ns + 28) (c - q * (s.ns + 28))) ∧ ∃ n, w' = w.drewN n := by
  obtain ⟨r', c', e1, e2, e3, e4, e5, e6, e7⟩ := h.rawrow hk
  rw [hr] at e1
  obtain rfl : r = r' := by injection e1 with e1; injection e1
  obtain rfl : c = c' := hc.symm.trans e3
  have hns := h.wf.ns2
  have hnp := h.wf.np2
  have hnb := h.wf.nb2
  obtain ⟨z, HZ⟩ : ∃ z : Nat, Hid (s.ns + 28 = z) := ⟨_, rfl⟩
  have hz : z ≤ 284 := by rw [← HZ.out]; omega
  have hzz : ((s.ns : Int) + 28) = (z : Int) := by rw [← HZ.out]; omega
  have C1 := Lib.hid fun (w2 : World) (h2 : Rep w2 base fp g s L) => width_any h2
  rw [hzz] at C1
  have CW := Lib.hid (C1.out w h)
  have CD := Lib.hid fun n => (C1.out (w.drewN n) (h.since (below_drewN (Below.refl _ _) n))).mono fun e w' k => (⟨k.1, k.2.symm⟩ : e = .returned (.int .i64 (z : Int)) ∧ w' = w.drewN n)
  rw [HZ.out] at e2 e4 e7 ⊢
  have hqz := page_lt (z := z) hq
  obtain ⟨t, HT⟩ : ∃ t : Nat, Hid (q * z = t) := ⟨_, rfl⟩
  have htt : (q : Int) * (z : Int) = (t : Int) := by rw [← HT.out]; simp
  obtain ⟨N, HN⟩ : ∃ N : Nat, Hid (s.np * z = N) := ⟨_, rfl⟩
  rw [HT.out, HN.out] at hqz
  rw [HN.out] at e2 e4 e7
  rw [HT.out]
  have ht2 : t ≤ 2300 := by
    have : q * z ≤ 8 * 284 := Nat.mul_le_mul (by omega) hz
    rw [HT.out] at this; omega
  have hrun := fun W => run_mid (some ⟨r, 0, none⟩) N c t (t + z) (by omega) (by omega) W
  have e9 : (if c = t then (some ⟨r, 0, none⟩ : Option Addr) else (some ⟨r, 0, none⟩ : Option Addr).map (·.add t)) = some ⟨r, t, none⟩ := by
    have hz1 : 0 < z := by rw [← HZ.out]; omega
    rw [if_neg (by omega)]
    show some ((⟨r, 0, none⟩ : Addr).add t) = _
    unfold Addr.add
    split
    · next h0 => rw [h0]
    · simp
  rw [e9, show t + z - t = z by omega, show ((t + z : Nat) : Int) = (t : Int) + (z : Int) by omega] at hrun
  obtain ⟨d0, d1, d2, d3, d4⟩ := h.block hk
  obtain ⟨c0, c1, c2, c3, c4, c5, c6, c7, c8⟩ := h.cells
  rw [hr, hc, e2] at d0
  obtain ⟨n, HNB⟩ : ∃ n : Nat, Hid (s.nb = n) := ⟨_, rfl⟩
  rw [HNB.out] at c4 hk
  have i0 : (0 : Int) ≤ (k : Int) := by omega
  have i1 : (k : Int) < (n : Int) := by omega
  clear h hr hc e1 e2 e3 e5 e6 e7 e9 hzz C1 d1 d2 d3 d4 c0 c1 c2 c3 c5 c6 c7 c8 hns hnp hnb
  go_enter Tryz.func101, Tryz.ntmps101
  go_wp2_with fail
  refine CW.out.mono ?_
  rintro e w' ⟨rfl, rfl⟩
  go_wp2_with fail
  go_quiet (exact Calls.quiet_of_same (CD.out _))
  go_wp2_with fail
  go_ret
  exact ⟨rfl, nq, rfl⟩
end
end Go.Proofs.YthgkdnegnecnjaaGreatDoor

/- What is left of a Program under a mishap. Conditions: the chip's cells; fewer than a million operations; a page of the chip. -/
set_option linter.unusedVariables false
set_option linter.unusedSimpArgs false
set_option maxRecDepth 20000
namespace Go.Proofs.YthgkdnegnecnjaaGreatDoor
open Go.RowKit

section
variable {w w' : World} {base g : Nat} {fp : Nat → Prop} {s s' : Chip} {L : CL}
theorem nth_self {k : Nat} (hk : k < s.bs.length) (y : Blk) : (s.setB (k : Int) y).nth k = y := by
  unfold Chip.nth Chip.setB
  rw [Int.toNat_natCast]; exact getD_set_self hk _ _
theorem setB_twice (k : Nat) (x y : Blk) : (s.setB (k : Int) x).setB (k : Int) y = s.setB (k : Int) y := by
  unfold Chip.setB
  simp
/-- A block's cells, by what the block is. -/
structure NCellsK (w : World) (p : Addr) (b : Blk) : Prop where
  c1 : w.cell? ⟨p.block, p.off + 1, none⟩ = some (.int .i64 (b.next : Int))
  c2 : w.cell? ⟨p.block, p.off + 2, none⟩ = some (.int .i64 (b.wear : Int))
  c3 : w.cell? ⟨p.block, p.off + 3, none⟩ = some (.bool b.marked)
  c4 : w.cell? ⟨p.block, p.off + 4, none⟩ = some (.bool b.failed)
theorem Rep.cellsK (h : Rep w base fp g s L) {k : Nat} (hk : k < s.nb) : NCellsK w (L.ab.add (k * 5)) (s.nth k) := by
  obtain ⟨d0, d1, d2, d3, d4⟩ := h.block hk
  have e := h.each k hk
  exact ⟨by rw [← e.next]; exact d1, by rw [← e.wear]; exact d2, by rw [← e.marked]; exact d3, by rw [← e.failed]; exact d4⟩
/- each store, by what it makes of the chip -/
theorem Rep.misuse (h : Rep w base fp g s L) (hT : s.Tk) : Rep (w.setCell ⟨g, 7, none⟩ (.int .i64 ((s.misuse : Int) + 1))) base fp g { s with misuse := s.misuse + 1 } L :=
  h.head (h.wf.misused hT) rfl rfl rfl rfl rfl (by simp [World.setCell, Array.getElem?_modify, h.row, chipRow]) (fun b hb => setCell_heap _ _ _ _ _ hb) (by simp [World.setCell])
theorem Rep.programmed (h : Rep w base fp g s L) (hT : s.programs < s.ops) : Rep (w.setCell ⟨g, 8, none⟩ (.int .i64 ((s.programs : Int) + 1))) base fp g { s with programs := s.programs + 1 } L :=
  h.head (h.wf.programmed hT) rfl rfl rfl rfl rfl (by simp [World.setCell, Array.getElem?_modify, h.row, chipRow]) (fun b hb => setCell_heap _ _ _ _ _ hb) (by simp [World.setCell])
theorem Rep.atk (h : Rep w base fp g s L) {k : Nat} (hk : k < s.nb) (x : NBV) : ({ L with v := L.v.set k x } : CL).at_ k = x := getD_set_self (by rw [h.vlen]; exact hk) _ _
theorem Wf.nthpg (h : s.Wf) {k : Nat} (hk : k < s.nb) : (s.nth k).pg.length = s.np ∧ (∀ p, p < s.np → ((s.nth k).pg.getD p []).length = s.long) ∧ (s.nth k).next ≤ s.np ∧ (s.nth k).wear ≤ s.ops := ⟨h.pages k hk, fun p hp => h.bytes k p hk hp, h.next k hk, h.wear k hk⟩
/-- b.next = n -/
theorem Rep.setNext (h : Rep w base fp g s L) {k : Nat} (hk : k < s.nb) (n : Nat) (hn : n ≤ s.np) : ∃ L', Rep (w.setCell ⟨(L.ab.add (k * 5)).block, (L.ab.add (k * 5)).off + 1, none⟩ (.int .i64 (n : Int))) base fp g (s.setB (k : Int) { s.nth k with next := n }) L' ∧ L'.ab = L.ab ∧ (L'.at_ k).a = (L.at_ k).a ∧ (L'.at_ k).c = (L.at_ k).c := by
  have e := h.each k hk
  obtain ⟨p1, p2, p3, p4⟩ := Wf.nthpg h.wf hk
  refine ⟨_, h.cell hk (r := 1) (by omega) (.int .i64 (n : Int)) { L.at_ k with next := n } { s.nth k with next := n } rfl rfl rfl rfl rfl rfl e.wear e.marked e.failed (h.wf.setB hk _ p1 p2 hn p4), rfl, ?_, ?_⟩
  · rw [h.atk hk]
  · rw [h.atk hk]
/-- b.wear = n -/
theorem Rep.setWear (h : Rep w base fp g s L) {k : Nat} (hk : k < s.nb) (n : Nat) (hn : n ≤ s.ops) : ∃ L', Rep (w.setCell ⟨(L.ab.add (k * 5)).block, (L.ab.add (k * 5)).off + 2, none⟩ (.int .i64 (n : Int))) base fp g (s.setB (k : Int) { s.nth k with wear := n }) L' ∧ L'.ab = L.ab ∧ (L'.at_ k).a = (L.at_ k).a ∧ (L'.at_ k).c = (L.at_ k).c := by
  have e := h.each k hk
  obtain ⟨p1, p2, p3, p4⟩ := Wf.nthpg h.wf hk
  refine ⟨_, h.cell hk (r := 2) (by omega) (.int .i64 (n : Int)) { L.at_ k with wear := n } { s.nth k with wear := n } rfl rfl rfl rfl rfl e.next rfl e.marked e.failed (h.wf.setB hk _ p1 p2 p3 hn), rfl, ?_, ?_⟩
  · rw [h.atk hk]
  · rw [h.atk hk]
/-- b.marked = true -/
theorem Rep.setMarked (h : Rep w base fp g s L) {k : Nat} (hk : k < s.nb) : ∃ L', Rep (w.setCell ⟨(L.ab.add (k * 5)).block, (L.ab.add (k * 5)).off + 3, none⟩ (.bool true)) base fp g (s.setB (k : Int) { s.nth k with marked := true }) L' ∧ L'.ab = L.ab ∧ (L'.at_ k).a = (L.at_ k).a ∧ (L'.at_ k).c = (L.at_ k).c := by
  have e := h.each k hk
  obtain ⟨p1, p2, p3, p4⟩ := Wf.nthpg h.wf hk
  refine ⟨_, h.cell hk (r := 3) (by omega) (.bool true) { L.at_ k with marked := true } { s.nth k with marked := true } rfl rfl rfl rfl rfl e.next e.wear rfl e.failed (h.wf.setB hk _ p1 p2 p3 p4), rfl, ?_, ?_⟩
  · rw [h.atk hk]
  · rw [h.atk hk]
/-- b.failed = true -/
theorem Rep.setFailed (h : Rep w base fp g s L) {k : Nat} (hk : k < s.nb) : ∃ L', Rep (w.setCell ⟨(L.ab.add (k * 5)).block, (L.ab.add (k * 5)).off + 4, none⟩ (.bool true)) base fp g (s.setB (k : Int) { s.nth k with failed := true }) L' ∧ L'.ab = L.ab ∧ (L'.at_ k).a = (L.at_ k).a ∧ (L'.at_ k).c = (L.at_ k).c := by
  have e := h.each k hk
  obtain ⟨p1, p2, p3, p4⟩ := Wf.nthpg h.wf hk
  refine ⟨_, h.cell hk (r := 4) (by omega) (.bool true) { L.at_ k with failed := true } { s.nth k with failed := true } rfl rfl rfl rfl rfl e.next e.wear e.marked rfl (h.wf.setB hk _ p1 p2 p3 p4), rfl, ?_, ?_⟩
  · rw [h.atk hk]
  · rw [h.atk hk]
theorem Rep.pblock (h : Rep w base fp g s L) (k : Nat) : (L.ab.add (k * 5)).block = L.ab.block := by rw [h.place k]
/-- The first bytes of a page are written over. -/
theorem copy_page (h : Rep w base fp g s L) {k q r z K dCap sCap : Nat} {A : Addr} {raw : List Nat} (hk : k < s.nb) (hq : q < s.np) (hr : (L.at_ k).a = some ⟨r, 0, none⟩) (hz : s.ns + 28 = z) (hA : Bytes w w.heap.size (some A) z raw) (hK : K ≤ z)
    (hs' : s.setB (k : Int) { s.nth k with pg := (s.nth k).pg.set q (Chip.part raw ((s.nth k).pg.getD q []) K) } = s') :
    ∃ W2, (Builtin.copy_ #[58, 58] 3 #[.slice (some ⟨r, q * z, none⟩) z dCap, .slice (some A) K sCap]).run Tryz.prog w = .ok (.int .i64 (K : Int)) W2 ∧ Rep W2 base fp g s' L ∧ Moves w fp W2 fp := by
  subst hs'
  obtain ⟨r', c, e1, e2, e3, e4, e5, e6, e7⟩ := h.rawrow hk
  rw [hr] at e1
  obtain rfl : r = r' := by injection e1 with e1; injection e1
  have hpl : (s.nth k).pg.length = s.np := h.wf.pages k hk
  have hlong := h.long hk
  rw [hz] at hlong e7
  have hqz := page_lt (z := z) hq
  have hal := hA.len
  obtain ⟨W2, hrun, ho, hg⟩ := own_copy (dLen := z) (dCap := dCap) (sCap := sCap) e7 (hA.first hK) hK (o := q * z) (by omega)
  have hfl : (s.nth k).pg.flatten.take (q * z) ++ raw.take K ++ (s.nth k).pg.flatten.drop (q * z + K) = ((s.nth k).pg.set q (Chip.part raw ((s.nth k).pg.getD q []) K)).flatten :=
    (Chip.flat_part raw hlong (by rw [hpl]; exact hq) (by omega) hal).symm
  rw [hfl] at ho
  have hpart : (Chip.part raw ((s.nth k).pg.getD q []) K).length = z := by
    unfold Chip.part
    rw [List.length_append, List.length_take, List.length_drop, hlong q (by rw [hpl]; exact hq)]
    omega
  have hlz : s.long = z := hz
  obtain ⟨p1, p2, p3, p4⟩ := Wf.nthpg h.wf hk
  refine ⟨W2, hrun, h.bytes hk _ (by rw [hr, e2, e3, hz]; exact ho) rfl rfl rfl rfl (fun b hb hn => hg.block b hb fun e => hn (by rw [hr, ← Option.some.inj e]; simp [Go.Proofs.YthgkdnegnecnjaaGreatDoor.blk])) hg.size (h.wf.setB hk _ (by show ((s.nth k).pg.set q _).length = _; rw [List.length_set]; exact p1) (fun p hp => ?_) p3 p4), ⟨Turn.of_grown hg fun b hb => by rw [← Option.some.inj hb]; exact e6, fun b hb => Or.inl hb⟩⟩
  show (((s.nth k).pg.set q (Chip.part raw ((s.nth k).pg.getD q []) K)).getD p []).length = _
  by_cases e : q = p
  · subst e; rw [getD_set_self (by rw [hpl]; exact hq), hpart, hlz]
  · rw [getD_set_other e]; exact p2 p hp
def CopyF (WD : World) (base : Nat) (fp : Nat → Prop) (g : Nat) (sF : Chip) (LF : CL) (v : Value) (W : World) : Prop := Rep W base fp g sF LF ∧ Moves WD fp W fp
theorem copyF_since (WD : World) (base : Nat) (fp : Nat → Prop) (g : Nat) (sF : Chip) (LF : CL) (v : Value) (w w' : World) (h : CopyF WD base fp g sF LF v w) (hb : Later w w') : CopyF WD base fp g sF LF v w' := ⟨h.1.since hb, h.2.trans (Moves.of_below hb)⟩
theorem Bytes.over {n : Nat} {A : Option Addr} {bs : List Nat} (h : Bytes w w.heap.size A n bs) (hs : ∀ x ∈ Go.Proofs.YthgkdnegnecnjaaGreatDoor.blk A, ¬ fp x) (hm : Moves w fp w' fp) : Bytes w' w'.heap.size A n bs :=
  ⟨h.len, fun j hj => by
    obtain ⟨ad, rfl, e2, e3⟩ := h.lies j hj
    exact ⟨ad, rfl, Nat.lt_of_lt_of_le e2 hm.size, (same_cell (hm.turn.block _ e2 (hs _ (by simp [Go.Proofs.YthgkdnegnecnjaaGreatDoor.blk]))) (addr_block _ _)).trans e3⟩, h.small⟩
theorem Rep.mark_moves (h : Rep w base fp g s L) (k r : Nat) (u : Value) : Moves w fp (w.setCell ⟨(L.ab.add (k * 5)).block, (L.ab.add (k * 5)).off + r, none⟩ u) fp :=
  ⟨Turn.of_setCell _ _ (by show fp (L.ab.add (k * 5)).block; rw [h.pblock]; exact h.fb), fun b hb => Or.inl hb⟩
theorem Rep.head_moves (h : Rep w base fp g s L) (j : Nat) (u : Value) : Moves w fp (w.setCell ⟨g, j, none⟩ u) fp := ⟨Turn.of_setCell _ _ h.fg, fun b hb => Or.inl hb⟩
theorem RowM.other {gm b j : Nat} {m : M} (h : RowM w gm m) (hb : gm ≠ b) (u : Value) : RowM (w.setCell ⟨b, j, none⟩ u) gm m := ⟨(setCell_heap w b j gm u hb).trans h.row⟩
set_option maxHeartbeats 16000000 in
set_option maxRecDepth 20000 in
theorem progin_any (m : M) (hm0 : 0 ≤ m.bytes) (hm1 : m.bytes ≤ 65536) (hm2 : m.kind = 0 ∨ m.kind = 1 ∨ m.kind = 2) (k q z c : Nat) (A : Addr) (raw : List Nat) (h : Rep w base fp g s L) (hT : s.Tk) (hops : s.ops ≤ 1000000) (hk : k < s.nb) (hq : q < s.np) (hz : s.ns + 28 = z)
    (hA : Bytes w w.heap.size (some A) z raw) (hc : z ≤ c) (hs : ¬ fp A.block) :
    Calls Tryz.prog 117 #[.pointer (some ⟨g, 0, none⟩), mishV m, .int .i64 (k : Int), .int .i64 (q : Int), .slice (some A) z c] w (fun e w' => e = .returned (.int .i64 (s.progIn m (k : Int) (q : Int) raw).2) ∧ (∃ L', Rep w' base fp g (s.progIn m (k : Int) (q : Int) raw).1 L') ∧ Moves w fp w' fp) := by
  have L1 := later_alloc w (.cells #[.int .i64 m.at_, .int .i64 m.kind, .int .i64 m.bytes, .int .u8 m.fill] 74)
  have R1 := rowM_new w m
  have h1 := h.since L1
  have hAl := hA.len
  obtain ⟨r, cc, q1, q2, q3, q4, q5, q6, q7⟩ := h1.rawrow hk
  obtain ⟨c0, c1, c2, c3, c4, c5, c6, c7, c8⟩ := h1.cells
  obtain ⟨d1, d2, d3, d4⟩ := h1.cellsK hk
  have hns := h.wf.ns2
  have hnb := h.wf.nb2
  have hnp := h.wf.np2
  have hms := hT.misuse
  have hpr := hT.programs
  have hgm : w.heap.size ≠ g := fun e => by have := h.glt; omega
  have hgb : w.heap.size ≠ (L.ab.add (k * 5)).block := fun e => by rw [h.pblock] at e; have := h.lt _ h.fb; omega
  have M1 : Moves w fp (w.alloc (.cells #[.int .i64 m.at_, .int .i64 m.kind, .int .i64 m.bytes, .int .u8 m.fill] 74)) fp := Moves.of_below L1
  have f7 := h1.free 7
  have HH := Lib.hid h1
  have HMB := Lib.hid (show s.blk (k : Int) = s.nth k from blk_nth s k)
  obtain ⟨nb, HNB⟩ : ∃ n : Nat, Hid (s.nb = n) := ⟨_, rfl⟩
  have i0 : (0 : Int) ≤ (k : Int) := by omega
  have i1 : (k : Int) < (nb : Int) := by rw [← HNB.out]; omega
  rw [HNB.out] at c4
  rw [HNB.out] at hnb
  -- misused
  have HBAD : Hid ((s.nth k).marked = true ∨ q ≠ (s.nth k).next → s.progIn m (k : Int) (q : Int) raw = ({ s with misuse := s.misuse + 1 }, 6)) := fun hb => by
    unfold Chip.progIn
    rw [HMB.out, if_pos (hb.imp id fun e => by omega)]
  have HMS : Hid (Rep ((w.alloc (.cells #[.int .i64 m.at_, .int .i64 m.kind, .int .i64 m.bytes, .int .u8 m.fill] 74)).setCell ⟨g, 7, none⟩ (.int .i64 ((s.misuse : Int) + 1))) base fp g { s with misuse := s.misuse + 1 } L ∧ Moves w fp ((w.alloc (.cells #[.int .i64 m.at_, .int .i64 m.kind, .int .i64 m.bytes, .int .u8 m.fill] 74)).setCell ⟨g, 7, none⟩ (.int .i64 ((s.misuse : Int) + 1))) fp) := ⟨h1.misuse hT, M1.trans (h1.head_moves 7 _)⟩
  by_cases hmk : (s.nth k).marked = true
  · rw [HBAD.out (Or.inl hmk)]
    rw [hmk] at d3
    obtain ⟨o, HO⟩ : ∃ o : Nat, Hid (s.misuse = o) := ⟨_, rfl⟩
    rw [HO.out] at c7 HMS hms
    have hoo : o ≤ 1000000 := by omega
    clear h h1 L1 R1 M1 c0 c1 c2 c3 c5 c6 c8 d1 d2 d4 hmk HH HBAD hA HNB
    unfold mishV
    go_enter Tryz.func117, Tryz.ntmps117
    go_wp2_with fail
    go_ret
    exact ⟨rfl, ⟨L, by have := HMS.out.1; rwa [← HO.out] at this ⊢⟩, HMS.out.2⟩
  have hmk' : (s.nth k).marked = false := by simpa using hmk
  rw [hmk'] at d3
  by_cases hne : q ≠ (s.nth k).next
  · rw [HBAD.out (Or.inr hne)]
    obtain ⟨x, HX⟩ : ∃ x : Nat, Hid ((s.nth k).next = x) := ⟨_, rfl⟩
    rw [HX.out] at d1 hne
    have hb : ((q : Int) != (x : Int)) = true := by simp; omega
    obtain ⟨o, HO⟩ : ∃ o : Nat, Hid (s.misuse = o) := ⟨_, rfl⟩
    rw [HO.out] at c7 HMS hms
    have hoo : o ≤ 1000000 := by omega
    clear h h1 L1 R1 M1 c0 c1 c2 c3 c5 c6 c8 d2 d4 hmk hmk' HH HBAD hA HNB hne
    unfold mishV
    go_enter Tryz.func117, Tryz.ntmps117
    go_wp2_with fail
    go_ret
    exact ⟨rfl, ⟨L, by have := HMS.out.1; rwa [← HO.out] at this ⊢⟩, HMS.out.2⟩
  -- the next page
  have hqn : q = (s.nth k).next := by omega
  clear hne
  rw [← hqn] at d1
  have hb : ((q : Int) != (q : Int)) = false := by simp
  have f1 := h1.free5 k 1
  obtain ⟨L2, h2, a2, b2, e2⟩ := h1.setNext hk (q + 1) (by omega)
  have M2 := M1.trans (h1.mark_moves k 1 (.int .i64 ((q + 1 : Nat) : Int)))
  have hcast : ((q + 1 : Nat) : Int) = (q : Int) + 1 := by omega
  rw [hcast] at h2 M2
  have R2 := R1.other (j := (L.ab.add (k * 5)).off + 1) hgb (.int .i64 ((q : Int) + 1))
  have hk2 : k < (s.setB (k : Int) { s.nth k with next := q + 1 }).nb := hk
  have K2 := h2.cellsK hk2
  rw [nth_self (by rw [h.wf.len]; exact hk), a2] at K2
  obtain ⟨x1, x2, x3, x4⟩ := K2
  have x4' : ((w.alloc (.cells #[.int .i64 m.at_, .int .i64 m.kind, .int .i64 m.bytes, .int .u8 m.fill] 74)).setCell ⟨(L.ab.add (k * 5)).block, (L.ab.add (k * 5)).off + 1, none⟩ (.int .i64 ((q : Int) + 1))).cell? ⟨(L.ab.add (k * 5)).block, (L.ab.add (k * 5)).off + 4, none⟩ = some (.bool (s.nth k).failed) := x4
  clear x4
  have x4 := x4'
  clear x4' x1 x2 x3
  have HOK : Hid (¬ ((s.nth k).marked = true ∨ ((q : Nat) : Int) ≠ ((s.nth k).next : Int))) := by
    show ¬ _
    rw [hmk', ← hqn]; simp
  by_cases hfl : (s.nth k).failed = true
  · have HV : Hid (s.progIn m (k : Int) (q : Int) raw = (s.setB (k : Int) { s.nth k with next := q + 1 }, 5)) := by
      show _ = _
      unfold Chip.progIn
      rw [HMB.out, if_neg HOK.out, if_pos hfl, ← hqn]
    rw [HV.out]
    rw [hfl] at x4
    have H2 := Lib.hid h2
    have HM2 := Lib.hid M2
    clear h h1 h2 L1 R1 R2 M1 M2 c0 c1 c2 c3 c5 c6 c7 c8 d2 d4 hmk hmk' HH HBAD HMS hA HNB hqn hfl HV HOK hcast f7
    unfold mishV
    go_enter Tryz.func117, Tryz.ntmps117
    go_wp2_with fail
    go_ret
    exact ⟨rfl, ⟨L2, H2.out⟩, HM2.out⟩
  have hfl' : (s.nth k).failed = false := by simpa using hfl
  rw [hfl'] at x4
  obtain ⟨u0, u1, u2, u3⟩ := R2.at_
  have hz1 : 1 ≤ z := by omega
  have hz2 : z ≤ 284 := by omega
  have HAW := Lib.hid (show Bytes w w.heap.size (some A) z raw from hA)
  have HSA : Hid (∀ x ∈ Go.Proofs.YthgkdnegnecnjaaGreatDoor.blk (some A), ¬ fp x) := fun x hx => by rw [show x = A.block by simpa [Go.Proofs.YthgkdnegnecnjaaGreatDoor.blk] using hx]; exact hs
  have HL2 : Hid ((L2.at_ k).a = some ⟨r, 0, none⟩ ∧ (L2.at_ k).c = cc) := ⟨b2.trans q1, e2.trans q3⟩
  have f4 := h2.free5 k 4
  rw [a2] at f4
  have f8 := h2.free 8
  obtain ⟨y0, y1, y2, y3, y4, y5, y6, y7, y8⟩ := h2.cells
  have hy8 : ((w.alloc (.cells #[.int .i64 m.at_, .int .i64 m.kind, .int .i64 m.bytes, .int .u8 m.fill] 74)).setCell ⟨(L.ab.add (k * 5)).block, (L.ab.add (k * 5)).off + 1, none⟩ (.int .i64 ((q : Int) + 1))).cell? ⟨g, 8, none⟩ = some (.int .i64 (s.programs : Int)) := y8
  clear y0 y1 y2 y3 y4 y5 y6 y7 y8
  have hn2 : (s.setB (k : Int) { s.nth k with next := q + 1 }).nth k = { s.nth k with next := q + 1 } := nth_self (by rw [h.wf.len]; exact hk) _
  have HPAGE : Hid (s.page (k : Int) (q : Int) = (s.nth k).pg.getD q []) := by
    show _ = _
    unfold Chip.page
    rw [HMB.out, Int.toNat_natCast]
  have hT2 : (s.setB (k : Int) { s.nth k with next := q + 1 }).programs < (s.setB (k : Int) { s.nth k with next := q + 1 }).ops := hpr
  have hzq : (s.setB (k : Int) { s.nth k with next := q + 1 }).ns + 28 = z := hz
  rcases hm2 with hmk0 | hmk1 | hmk2
  · have HV : Hid (s.progIn m (k : Int) (q : Int) raw = ({ s.setB (k : Int) (Chip.wrote (s.nth k) q (Chip.part raw ((s.nth k).pg.getD q []) z)) with programs := s.programs + 1 }, 0)) := by
      show _ = _
      unfold Chip.progIn
      rw [HPAGE.out, HMB.out, if_neg HOK.out, if_neg hfl, if_neg (by omega), if_neg (by omega), hAl]
    rw [HV.out]
    have b1 : (m.kind == 1) = false := by simp; omega
    have b3 : (m.kind == 2) = false := by simp; omega
    obtain ⟨o, HO⟩ : ∃ o : Nat, Hid (s.programs = o) := ⟨_, rfl⟩
    have h3 : Rep (((w.alloc (.cells #[.int .i64 m.at_, .int .i64 m.kind, .int .i64 m.bytes, .int .u8 m.fill] 74)).setCell ⟨(L.ab.add (k * 5)).block, (L.ab.add (k * 5)).off + 1, none⟩ (.int .i64 ((q : Int) + 1))).setCell ⟨g, 8, none⟩ (.int .i64 ((o : Int) + 1))) base fp g { s.setB (k : Int) { s.nth k with next := q + 1 } with programs := s.programs + 1 } L2 := by
      have := h2.programmed hT2
      rw [← HO.out]; exact this
    have M3 := M2.trans (h2.head_moves 8 (.int .i64 ((o : Int) + 1)))
    have HB := Lib.hid h3
    have HM := Lib.hid M3
    have HR2 : Hid ((L2.at_ k).a = some ⟨r, 0, none⟩) := HL2.out.1
    have HC2 : Hid ((L2.at_ k).c = cc) := HL2.out.2
    rw [HO.out] at hy8 hpr
    have hoo : o ≤ 1000000 := by omega
    obtain ⟨LF, HLF⟩ : ∃ LF : CL, LF = L2 := ⟨_, rfl⟩
    rw [← HLF] at HB HR2 HC2
    obtain ⟨s2, HS2⟩ : ∃ s2 : Chip, Hid ({ s.setB (k : Int) { s.nth k with next := q + 1 } with programs := s.programs + 1 } = s2) := ⟨_, rfl⟩
    obtain ⟨sF, HSFE⟩ : ∃ s2 : Chip, Hid ({ s.setB (k : Int) (Chip.wrote (s.nth k) q (Chip.part raw ((s.nth k).pg.getD q []) z)) with programs := s.programs + 1 } = s2) := ⟨_, rfl⟩
    have HSF0 : Hid (s2.setB (k : Int) { s2.nth k with pg := (s2.nth k).pg.set q (Chip.part raw ((s2.nth k).pg.getD q []) (z)) } = sF) := by
      show _ = _
      rw [← HSFE.out, ← HS2.out]
      have e : ({ s.setB (k : Int) { s.nth k with next := q + 1 } with programs := s.programs + 1 } : Chip).nth k = { s.nth k with next := q + 1 } := hn2
      rw [e]
      show ({ (s.setB (k : Int) { s.nth k with next := q + 1 }).setB (k : Int) _ with programs := s.programs + 1 } : Chip) = _
      rw [setB_twice]
      unfold Chip.wrote
      rw [Int.toNat_natCast, ← hqn]
    have HK2 : Hid (k < s2.nb) := by rw [← HS2.out]; exact hk
    have HQ2 : Hid (q < s2.np) := by rw [← HS2.out]; exact hq
    have HZ2 : Hid (s2.ns + 28 = z) := by rw [← HS2.out]; exact hz
    rw [HS2.out] at HB
    rw [HSFE.out]
    obtain ⟨K, HKZ⟩ : ∃ K : Nat, Hid (z = K) := ⟨_, rfl⟩
    have hK : K ≤ z := by rw [← HKZ.out]; omega
    have hKZ := HKZ.out
    subst hKZ
    rw [HKZ.out] at HSF0
    have HSF := HSF0
    clear HSF0 h h1 h2 L1 R1 R2 M1 M2 c0 c1 c2 c3 c5 c6 c7 c8 d2 d4 hmk hmk' HH HBAD HMS hA HNB hqn hfl hfl' HV HOK hcast f7 HL2 HPAGE hn2 hT2 hzq HSFE HS2 hAl b2 e2 a2 q1 q2 q3 q4 q5 q6 q7 hT hops hms hpr h3 M3 hmk0 HLF HO f4
    clear HKZ
    unfold mishV
    go_enter Tryz.func117, Tryz.ntmps117
    go_wp2_with fail
    obtain ⟨WB, HWB⟩ : ∃ W, Hid (W = ((w.alloc (.cells #[.int .i64 m.at_, .int .i64 m.kind, .int .i64 m.bytes, .int .u8 m.fill] 74)).setCell ⟨(L.ab.add (k * 5)).block, (L.ab.add (k * 5)).off + 1, none⟩ (.int .i64 ((q : Int) + 1))).setCell ⟨g, 8, none⟩ (.int .i64 ((o : Int) + 1))) := ⟨_, rfl⟩
    rw [← HWB.out] at HB HM ⊢
    clear HWB
    obtain ⟨WD, HWD⟩ : ∃ W, Hid (W = WB.drew) := ⟨_, rfl⟩
    have HDL : Hid (Later WB WD) := by rw [HWD.out]; exact (Below.refl _ _).drew
    have HPG : Hid (∀ W, Later WD W → Calls Tryz.prog 101 #[.pointer (some ⟨g, 0, none⟩), .int .i64 (k : Int), .int .i64 (q : Int)] W fun e w' => e = .returned (.slice (some ⟨r, q * z, none⟩) z (cc - q * z)) ∧ ∃ n, w' = W.drewN n) := fun W hW => by
      have hz2 : s2.ns + 28 = z := HZ2.out
      have := npage_any ((HB.out.since HDL.out).since hW) (k := k) (q := q) (r := r) (c := cc) HK2.out HQ2.out HR2.out HC2.out
      rwa [hz2] at this
    have HCP : Hid (∀ W, Later WD W → ∃ W2, (Builtin.copy_ #[58, 58] 3 #[.slice (some ⟨r, q * z, none⟩) z (cc - q * z), .slice (some A) z c]).run Tryz.prog W = .ok (.int .i64 (z : Int)) W2 ∧ Rep W2 base fp g sF LF ∧ Moves WD fp W2 fp) := fun W hW => by
      obtain ⟨W2, h1, h2, h3⟩ := copy_page ((HB.out.since HDL.out).since hW) HK2.out HQ2.out HR2.out HZ2.out (((HAW.out.over HSA.out HM.out).since HDL.out).since hW) hK HSF.out
      exact ⟨W2, h1, h2, (Moves.of_below hW).trans h3⟩
    have HM3 := Lib.hid (HM.out.trans (Moves.of_below (fp := fp) HDL.out))
    clear HM HB HDL HAW HSA HK2 HQ2 HR2 HC2 HZ2 HSF
    refine region_of_steps4 (by kernel_rfl) (fact2Of [.is (.pointer (some ⟨g, 0, none⟩)), .is (.int .i64 (k : Int)), .is (.int .i64 (q : Int)), .is (.slice (some ⟨r, q * z, none⟩) z (cc - q * z)), .is (.slice (some A) z c), .is (.int .i64 (z : Int)), .is (.slice (some A) z c), .that (CopyF WD base fp g sF LF) (copyF_since _ _ _ _ _ _)]) (deadOf []) (Turns [7]) (TillAll [7] WD) (by kernel_rfl)
      (fun i j v w w' hm hd hn hdd h hR => turns_stays _ _ [7] [] (by kernel_rfl) i j v w w' hm hd hn hdd h hR) (fun listed j w w' h hl k => tillall_step h hl k) (fun listed => by rw [← HWD.out]; exact tillall_start _ _ _) ?_ ?_
    · refine Steps3.cons ?_ (Steps3.cons ?_ (Steps3.cons ?_ (Steps3.cons ?_ (Steps3.cons ?_ (Steps3.cons ?_ (Steps3.cons ?_ (Steps3.cons ?_ (Steps3.nil))))))))
      · intro listed a W H hw hl hd
        have t0 : a.tmps.getD 0 undef = .pointer (some ⟨g, 0, none⟩) := (H.old 0 (by kernel_rfl)).trans rfl
        exact step2_value (i := 0) rfl rfl (run_op_move rfl t0) (turns_refl _) rfl
      · intro listed a W H hw hl hd
        have t2 : a.tmps.getD 2 undef = .int .i64 (k : Int) := (H.old 2 (by kernel_rfl)).trans rfl
        exact step2_value (i := 1) rfl rfl (run_op_move rfl t2) (turns_refl _) rfl
      · intro listed a W H hw hl hd
        have t3 : a.tmps.getD 3 undef = .int .i64 (q : Int) := (H.old 3 (by kernel_rfl)).trans rfl
        exact step2_value (i := 2) rfl rfl (run_op_move rfl t3) (turns_refl _) rfl
      · intro listed a W H hw hl hd
        have t79 : a.tmps.getD 79 undef = .pointer (some ⟨g, 0, none⟩) := H.get 0 79 (by kernel_rfl) (dep_of hd 0 (by kernel_rfl)) (alive_none (by kernel_rfl))
        have t80 : a.tmps.getD 80 undef = .int .i64 (k : Int) := H.get 1 80 (by kernel_rfl) (dep_of hd 1 (by kernel_rfl)) (alive_none (by kernel_rfl))
        have t81 : a.tmps.getD 81 undef = .int .i64 (q : Int) := H.get 2 81 (by kernel_rfl) (dep_of hd 2 (by kernel_rfl)) (alive_none (by kernel_rfl))
        refine step2_call (i := 3) rfl rfl (run_op_call (vs := #[.pointer (some ⟨g, 0, none⟩), .int .i64 (k : Int), .int .i64 (q : Int)]) Tryz.func101 (by kernel_rfl) (by kernel_rfl) rfl (by simp only [List.map_toArray, List.map_cons, List.map_nil]; show #[a.tmps.getD 79 undef, a.tmps.getD 80 undef, a.tmps.getD 81 undef] = _; rw [t79, t80, t81])) ?_
        refine (HPG.out W (hw (H.nothing 5 hl (by kernel_rfl)))).mono ?_
        rintro e W2 ⟨rfl, nd, hnd⟩
        exact ⟨_, rfl, turns_later (by rw [hnd]; exact below_drewN (Below.refl _ _) nd), rfl⟩
      · intro listed a W H hw hl hd
        have t4 : a.tmps.getD 4 undef = .slice (some A) z c := (H.old 4 (by kernel_rfl)).trans rfl
        exact step2_value (i := 4) rfl rfl (run_op_move rfl t4) (turns_refl _) rfl
      · intro listed a W H hw hl hd
        have t12 : a.tmps.getD 12 undef = .int .i64 (z : Int) := (H.old 12 (by kernel_rfl)).trans rfl
        exact step2_value (i := 5) rfl rfl (run_op_move rfl t12) (turns_refl _) rfl
      · intro listed a W H hw hl hd
        have t83 : a.tmps.getD 83 undef = .slice (some A) z c := H.get 4 83 (by kernel_rfl) (dep_of hd 4 (by kernel_rfl)) (alive_none (by kernel_rfl))
        have t84 : a.tmps.getD 84 undef = .int .i64 (z : Int) := H.get 5 84 (by kernel_rfl) (dep_of hd 5 (by kernel_rfl)) (alive_none (by kernel_rfl))
        exact step2_value (i := 6) rfl rfl (run_op_slice rfl (by show (Instr.sliceAt 58 (a.tmps.getD 83 undef) none (some (a.tmps.getD 84 undef)) none).run _ _ = _; rw [t83, t84]; rw [run_sliceAt_slice (h := under24)]; exact slice_to (some A) z c z hK hc W)) (turns_refl _) rfl
      · intro listed a W H hw hl hd
        have t82 : a.tmps.getD 82 undef = .slice (some ⟨r, q * z, none⟩) z (cc - q * z) := H.get 3 82 (by kernel_rfl) (dep_of hd 3 (by kernel_rfl)) (alive_none (by kernel_rfl))
        have t85 : a.tmps.getD 85 undef = .slice (some A) z c := H.get 6 85 (by kernel_rfl) (dep_of hd 6 (by kernel_rfl)) (alive_none (by kernel_rfl))
        obtain ⟨W2, hr, h1, h2⟩ := HCP.out W (hw (H.nothing 5 hl (by kernel_rfl)))
        exact step2_value (i := 7) rfl rfl (run_op_copy rfl t82 t85 hr) (turns_here (by decide)) ⟨h1, h2⟩
    · intro a WC listed hdef hsz hw hall hact
      obtain ⟨h86, m86⟩ := hall 7 _ rfl (by kernel_rfl)
      have H86 := Lib.hid h86
      have M86 := Lib.hid (HM3.out.trans m86)
      obtain ⟨u, hu⟩ : ∃ u : Nat → Value, ∀ k, a.tmps.getD k undef = u k := ⟨_, fun _ => rfl⟩
      simp only [hu] at hact
      have hact' : a = ([79, 80, 81, 82, 83, 84, 85, 86] : List Nat).foldl (fun b k => b.put (some k) (u k)) _ := hact
      simp only [List.foldl] at hact'
      simp only [Act.put, List.setIfInBounds_toArray, List.set_cons_succ, List.set_cons_zero] at hact'
      have HAC := Lib.hid hact'
      clear hu hact hact' hall hdef hsz hw h86 m86 HM3 HPG HCP
      rw [HAC.out]
      go_wp2_with fail
      go_ret
      exact ⟨rfl, ⟨LF, H86.out⟩, M86.out⟩
  · have HV : Hid (s.progIn m (k : Int) (q : Int) raw = ((s.setB (k : Int) { Chip.wrote (s.nth k) q (Chip.part raw ((s.nth k).pg.getD q []) (min m.bytes.toNat (z - 1))) with failed := true }), 5)) := by
      show _ = _
      unfold Chip.progIn
      rw [HPAGE.out, HMB.out, if_neg HOK.out, if_neg hfl, if_pos hmk1, hAl]
    rw [HV.out]
    have b1 : (m.kind == 1) = true := by simp; omega
    have h3 := h2.setFailed hk2
    rw [a2, hn2] at h3
    obtain ⟨LF, h3, a3, b4, e3⟩ := h3
    rw [setB_twice] at h3
    have M3 := M2.trans (h2.mark_moves k 4 (.bool true))
    rw [a2] at M3
    have HB := Lib.hid h3
    have HM := Lib.hid M3
    have HR2 : Hid ((LF.at_ k).a = some ⟨r, 0, none⟩) := b4.trans HL2.out.1
    have HC2 : Hid ((LF.at_ k).c = cc) := e3.trans HL2.out.2
    have R3 := R2.other (j := (L.ab.add (k * 5)).off + 4) hgb (.bool true)
    obtain ⟨v0, v1, v2, v3⟩ := R3.at_
    obtain ⟨s2, HS2⟩ : ∃ s2 : Chip, Hid (s.setB (k : Int) { s.nth k with next := q + 1, failed := true } = s2) := ⟨_, rfl⟩
    obtain ⟨sF, HSFE⟩ : ∃ s2 : Chip, Hid ((s.setB (k : Int) { Chip.wrote (s.nth k) q (Chip.part raw ((s.nth k).pg.getD q []) (min m.bytes.toNat (z - 1))) with failed := true }) = s2) := ⟨_, rfl⟩
    have HSF0 : Hid (s2.setB (k : Int) { s2.nth k with pg := (s2.nth k).pg.set q (Chip.part raw ((s2.nth k).pg.getD q []) (min m.bytes.toNat (z - 1))) } = sF) := by
      show _ = _
      rw [← HSFE.out, ← HS2.out]
      rw [nth_self (by rw [h.wf.len]; exact hk), setB_twice]
      unfold Chip.wrote
      rw [Int.toNat_natCast, ← hqn]
    have HK2 : Hid (k < s2.nb) := by rw [← HS2.out]; exact hk
    have HQ2 : Hid (q < s2.np) := by rw [← HS2.out]; exact hq
    have HZ2 : Hid (s2.ns + 28 = z) := by rw [← HS2.out]; exact hz
    rw [HS2.out] at HB
    rw [HSFE.out]
    obtain ⟨K, HKZ⟩ : ∃ K : Nat, Hid (min m.bytes.toNat (z - 1) = K) := ⟨_, rfl⟩
    have hK : K ≤ z := by rw [← HKZ.out]; omega
    have hmin := min_at #[3, 3] 3 m.bytes ((z : Int) - 1) (K : Int) (by rw [← HKZ.out]; omega)
    have hw1 : IntKind.i64.wrap ((z : Int) - 1) = (z : Int) - 1 := by rw [IntKind.wrap_i64]; omega
    rw [HKZ.out] at HSF0
    have HSF := HSF0
    clear HSF0 h h1 h2 L1 R1 R2 M1 M2 c0 c1 c2 c3 c5 c6 c7 c8 d2 d4 hmk hmk' HH HBAD HMS hA HNB hqn hfl hfl' HV HOK hcast f7 HL2 HPAGE hn2 hT2 hzq HSFE HS2 hAl b2 e2 a2 q1 q2 q3 q4 q5 q6 q7 hT hops hms hpr h3 M3 hmk1 R3 a3 b4 e3 f8 hy8
    clear HKZ
    unfold mishV
    go_enter Tryz.func117, Tryz.ntmps117
    go_wp2_with fail
    obtain ⟨WB, HWB⟩ : ∃ W, Hid (W = ((w.alloc (.cells #[.int .i64 m.at_, .int .i64 m.kind, .int .i64 m.bytes, .int .u8 m.fill] 74)).setCell ⟨(L.ab.add (k * 5)).block, (L.ab.add (k * 5)).off + 1, none⟩ (.int .i64 ((q : Int) + 1))).setCell ⟨(L.ab.add (k * 5)).block, (L.ab.add (k * 5)).off + 4, none⟩ (.bool true)) := ⟨_, rfl⟩
    rw [← HWB.out] at HB HM ⊢
    clear HWB
    obtain ⟨WD, HWD⟩ : ∃ W, Hid (W = WB.drew) := ⟨_, rfl⟩
    have HDL : Hid (Later WB WD) := by rw [HWD.out]; exact (Below.refl _ _).drew
    have HPG : Hid (∀ W, Later WD W → Calls Tryz.prog 101 #[.pointer (some ⟨g, 0, none⟩), .int .i64 (k : Int), .int .i64 (q : Int)] W fun e w' => e = .returned (.slice (some ⟨r, q * z, none⟩) z (cc - q * z)) ∧ ∃ n, w' = W.drewN n) := fun W hW => by
      have hz2 : s2.ns + 28 = z := HZ2.out
      have := npage_any ((HB.out.since HDL.out).since hW) (k := k) (q := q) (r := r) (c := cc) HK2.out HQ2.out HR2.out HC2.out
      rwa [hz2] at this
    have HCP : Hid (∀ W, Later WD W → ∃ W2, (Builtin.copy_ #[58, 58] 3 #[.slice (some ⟨r, q * z, none⟩) z (cc - q * z), .slice (some A) K c]).run Tryz.prog W = .ok (.int .i64 (K : Int)) W2 ∧ Rep W2 base fp g sF LF ∧ Moves WD fp W2 fp) := fun W hW => by
      obtain ⟨W2, h1, h2, h3⟩ := copy_page ((HB.out.since HDL.out).since hW) HK2.out HQ2.out HR2.out HZ2.out (((HAW.out.over HSA.out HM.out).since HDL.out).since hW) hK HSF.out
      exact ⟨W2, h1, h2, (Moves.of_below hW).trans h3⟩
    have HM3 := Lib.hid (HM.out.trans (Moves.of_below (fp := fp) HDL.out))
    clear HM HB HDL HAW HSA HK2 HQ2 HR2 HC2 HZ2 HSF
    refine region_of_steps4 (by kernel_rfl) (fact2Of [.is (.pointer (some ⟨g, 0, none⟩)), .is (.int .i64 (k : Int)), .is (.int .i64 (q : Int)), .is (.slice (some ⟨r, q * z, none⟩) z (cc - q * z)), .is (.slice (some A) z c), .is (.int .i64 (K : Int)), .is (.slice (some A) K c), .that (CopyF WD base fp g sF LF) (copyF_since _ _ _ _ _ _)]) (deadOf []) (Turns [7]) (TillAll [7] WD) (by kernel_rfl)
      (fun i j v w w' hm hd hn hdd h hR => turns_stays _ _ [7] [] (by kernel_rfl) i j v w w' hm hd hn hdd h hR) (fun listed j w w' h hl k => tillall_step h hl k) (fun listed => by rw [← HWD.out]; exact tillall_start _ _ _) ?_ ?_
    · refine Steps3.cons ?_ (Steps3.cons ?_ (Steps3.cons ?_ (Steps3.cons ?_ (Steps3.cons ?_ (Steps3.cons ?_ (Steps3.cons ?_ (Steps3.cons ?_ (Steps3.nil))))))))
      · intro listed a W H hw hl hd
        have t0 : a.tmps.getD 0 undef = .pointer (some ⟨g, 0, none⟩) := (H.old 0 (by kernel_rfl)).trans rfl
        exact step2_value (i := 0) rfl rfl (run_op_move rfl t0) (turns_refl _) rfl
      · intro listed a W H hw hl hd
        have t2 : a.tmps.getD 2 undef = .int .i64 (k : Int) := (H.old 2 (by kernel_rfl)).trans rfl
        exact step2_value (i := 1) rfl rfl (run_op_move rfl t2) (turns_refl _) rfl
      · intro listed a W H hw hl hd
        have t3 : a.tmps.getD 3 undef = .int .i64 (q : Int) := (H.old 3 (by kernel_rfl)).trans rfl
        exact step2_value (i := 2) rfl rfl (run_op_move rfl t3) (turns_refl _) rfl
      · intro listed a W H hw hl hd
        have t79 : a.tmps.getD 79 undef = .pointer (some ⟨g, 0, none⟩) := H.get 0 79 (by kernel_rfl) (dep_of hd 0 (by kernel_rfl)) (alive_none (by kernel_rfl))
        have t80 : a.tmps.getD 80 undef = .int .i64 (k : Int) := H.get 1 80 (by kernel_rfl) (dep_of hd 1 (by kernel_rfl)) (alive_none (by kernel_rfl))
        have t81 : a.tmps.getD 81 undef = .int .i64 (q : Int) := H.get 2 81 (by kernel_rfl) (dep_of hd 2 (by kernel_rfl)) (alive_none (by kernel_rfl))
        refine step2_call (i := 3) rfl rfl (run_op_call (vs := #[.pointer (some ⟨g, 0, none⟩), .int .i64 (k : Int), .int .i64 (q : Int)]) Tryz.func101 (by kernel_rfl) (by kernel_rfl) rfl (by simp only [List.map_toArray, List.map_cons, List.map_nil]; show #[a.tmps.getD 79 undef, a.tmps.getD 80 undef, a.tmps.getD 81 undef] = _; rw [t79, t80, t81])) ?_
        refine (HPG.out W (hw (H.nothing 5 hl (by kernel_rfl)))).mono ?_
        rintro e W2 ⟨rfl, nd, hnd⟩
        exact ⟨_, rfl, turns_later (by rw [hnd]; exact below_drewN (Below.refl _ _) nd), rfl⟩
      · intro listed a W H hw hl hd
        have t4 : a.tmps.getD 4 undef = .slice (some A) z c := (H.old 4 (by kernel_rfl)).trans rfl
        exact step2_value (i := 4) rfl rfl (run_op_move rfl t4) (turns_refl _) rfl
      · intro listed a W H hw hl hd
        have t12 : a.tmps.getD 12 undef = .int .i64 (K : Int) := (H.old 12 (by kernel_rfl)).trans rfl
        exact step2_value (i := 5) rfl rfl (run_op_move rfl t12) (turns_refl _) rfl
      · intro listed a W H hw hl hd
        have t83 : a.tmps.getD 83 undef = .slice (some A) z c := H.get 4 83 (by kernel_rfl) (dep_of hd 4 (by kernel_rfl)) (alive_none (by kernel_rfl))
        have t84 : a.tmps.getD 84 undef = .int .i64 (K : Int) := H.get 5 84 (by kernel_rfl) (dep_of hd 5 (by kernel_rfl)) (alive_none (by kernel_rfl))
        exact step2_value (i := 6) rfl rfl (run_op_slice rfl (by show (Instr.sliceAt 58 (a.tmps.getD 83 undef) none (some (a.tmps.getD 84 undef)) none).run _ _ = _; rw [t83, t84]; rw [run_sliceAt_slice (h := under24)]; exact slice_to (some A) z c K hK hc W)) (turns_refl _) rfl
      · intro listed a W H hw hl hd
        have t82 : a.tmps.getD 82 undef = .slice (some ⟨r, q * z, none⟩) z (cc - q * z) := H.get 3 82 (by kernel_rfl) (dep_of hd 3 (by kernel_rfl)) (alive_none (by kernel_rfl))
        have t85 : a.tmps.getD 85 undef = .slice (some A) K c := H.get 6 85 (by kernel_rfl) (dep_of hd 6 (by kernel_rfl)) (alive_none (by kernel_rfl))
        obtain ⟨W2, hr, h1, h2⟩ := HCP.out W (hw (H.nothing 5 hl (by kernel_rfl)))
        exact step2_value (i := 7) rfl rfl (run_op_copy rfl t82 t85 hr) (turns_here (by decide)) ⟨h1, h2⟩
    · intro a WC listed hdef hsz hw hall hact
      obtain ⟨h86, m86⟩ := hall 7 _ rfl (by kernel_rfl)
      have H86 := Lib.hid h86
      have M86 := Lib.hid (HM3.out.trans m86)
      obtain ⟨u, hu⟩ : ∃ u : Nat → Value, ∀ k, a.tmps.getD k undef = u k := ⟨_, fun _ => rfl⟩
      simp only [hu] at hact
      have hact' : a = ([79, 80, 81, 82, 83, 84, 85, 86] : List Nat).foldl (fun b k => b.put (some k) (u k)) _ := hact
      simp only [List.foldl] at hact'
      simp only [Act.put, List.setIfInBounds_toArray, List.set_cons_succ, List.set_cons_zero] at hact'
      have HAC := Lib.hid hact'
      clear hu hact hact' hall hdef hsz hw h86 m86 HM3 HPG HCP
      rw [HAC.out]
      go_wp2_with fail
      go_ret
      exact ⟨rfl, ⟨LF, H86.out⟩, M86.out⟩
  · have HV : Hid (s.progIn m (k : Int) (q : Int) raw = ((s.setB (k : Int) (Chip.wrote (s.nth k) q (Chip.part raw ((s.nth k).pg.getD q []) (min m.bytes.toNat z)))), 0)) := by
      show _ = _
      unfold Chip.progIn
      rw [HPAGE.out, HMB.out, if_neg HOK.out, if_neg hfl, if_neg (by omega), if_pos hmk2, hAl]
    rw [HV.out]
    have b1 : (m.kind == 1) = false := by simp; omega
    have b3 : (m.kind == 2) = true := by simp; omega
    have HB := Lib.hid h2
    have HM := Lib.hid M2
    have HR2 : Hid ((L2.at_ k).a = some ⟨r, 0, none⟩) := HL2.out.1
    have HC2 : Hid ((L2.at_ k).c = cc) := HL2.out.2
    obtain ⟨LF, HLF⟩ : ∃ LF : CL, LF = L2 := ⟨_, rfl⟩
    rw [← HLF] at HB HR2 HC2
    obtain ⟨s2, HS2⟩ : ∃ s2 : Chip, Hid (s.setB (k : Int) { s.nth k with next := q + 1 } = s2) := ⟨_, rfl⟩
    obtain ⟨sF, HSFE⟩ : ∃ s2 : Chip, Hid ((s.setB (k : Int) (Chip.wrote (s.nth k) q (Chip.part raw ((s.nth k).pg.getD q []) (min m.bytes.toNat z)))) = s2) := ⟨_, rfl⟩
    have HSF0 : Hid (s2.setB (k : Int) { s2.nth k with pg := (s2.nth k).pg.set q (Chip.part raw ((s2.nth k).pg.getD q []) (min m.bytes.toNat z)) } = sF) := by
      show _ = _
      rw [← HSFE.out, ← HS2.out]
      rw [hn2, setB_twice]
      unfold Chip.wrote
      rw [Int.toNat_natCast, ← hqn]
    have HK2 : Hid (k < s2.nb) := by rw [← HS2.out]; exact hk
    have HQ2 : Hid (q < s2.np) := by rw [← HS2.out]; exact hq
    have HZ2 : Hid (s2.ns + 28 = z) := by rw [← HS2.out]; exact hz
    rw [HS2.out] at HB
    rw [HSFE.out]
    obtain ⟨K, HKZ⟩ : ∃ K : Nat, Hid (min m.bytes.toNat z = K) := ⟨_, rfl⟩
    have hK : K ≤ z := by rw [← HKZ.out]; omega
    have hmin := min_at #[3, 3] 3 m.bytes (z : Int) (K : Int) (by rw [← HKZ.out]; omega)
    rw [HKZ.out] at HSF0
    have HSF := HSF0
    clear HSF0 h h1 h2 L1 R1 R2 M1 M2 c0 c1 c2 c3 c5 c6 c7 c8 d2 d4 hmk hmk' HH HBAD HMS hA HNB hqn hfl hfl' HV HOK hcast f7 HL2 HPAGE hn2 hT2 hzq HSFE HS2 hAl b2 e2 a2 q1 q2 q3 q4 q5 q6 q7 hT hops hms hpr hmk2 HLF f4 f8 hy8
    clear HKZ
    unfold mishV
    go_enter Tryz.func117, Tryz.ntmps117
    go_wp2_with fail
    obtain ⟨WB, HWB⟩ : ∃ W, Hid (W = ((w.alloc (.cells #[.int .i64 m.at_, .int .i64 m.kind, .int .i64 m.bytes, .int .u8 m.fill] 74)).setCell ⟨(L.ab.add (k * 5)).block, (L.ab.add (k * 5)).off + 1, none⟩ (.int .i64 ((q : Int) + 1)))) := ⟨_, rfl⟩
    rw [← HWB.out] at HB HM ⊢
    clear HWB
    obtain ⟨WD, HWD⟩ : ∃ W, Hid (W = WB.drew) := ⟨_, rfl⟩
    have HDL : Hid (Later WB WD) := by rw [HWD.out]; exact (Below.refl _ _).drew
    have HPG : Hid (∀ W, Later WD W → Calls Tryz.prog 101 #[.pointer (some ⟨g, 0, none⟩), .int .i64 (k : Int), .int .i64 (q : Int)] W fun e w' => e = .returned (.slice (some ⟨r, q * z, none⟩) z (cc - q * z)) ∧ ∃ n, w' = W.drewN n) := fun W hW => by
      have hz2 : s2.ns + 28 = z := HZ2.out
      have := npage_any ((HB.out.since HDL.out).since hW) (k := k) (q := q) (r := r) (c := cc) HK2.out HQ2.out HR2.out HC2.out
      rwa [hz2] at this
    have HCP : Hid (∀ W, Later WD W → ∃ W2, (Builtin.copy_ #[58, 58] 3 #[.slice (some ⟨r, q * z, none⟩) z (cc - q * z), .slice (some A) K c]).run Tryz.prog W = .ok (.int .i64 (K : Int)) W2 ∧ Rep W2 base fp g sF LF ∧ Moves WD fp W2 fp) := fun W hW => by
      obtain ⟨W2, h1, h2, h3⟩ := copy_page ((HB.out.since HDL.out).since hW) HK2.out HQ2.out HR2.out HZ2.out (((HAW.out.over HSA.out HM.out).since HDL.out).since hW) hK HSF.out
      exact ⟨W2, h1, h2, (Moves.of_below hW).trans h3⟩
    have HM3 := Lib.hid (HM.out.trans (Moves.of_below (fp := fp) HDL.out))
    clear HM HB HDL HAW HSA HK2 HQ2 HR2 HC2 HZ2 HSF
    refine region_of_steps4 (by kernel_rfl) (fact2Of [.is (.pointer (some ⟨g, 0, none⟩)), .is (.int .i64 (k : Int)), .is (.int .i64 (q : Int)), .is (.slice (some ⟨r, q * z, none⟩) z (cc - q * z)), .is (.slice (some A) z c), .is (.int .i64 (K : Int)), .is (.slice (some A) K c), .that (CopyF WD base fp g sF LF) (copyF_since _ _ _ _ _ _)]) (deadOf []) (Turns [7]) (TillAll [7] WD) (by kernel_rfl)
      (fun i j v w w' hm hd hn hdd h hR => turns_stays _ _ [7] [] (by kernel_rfl) i j v w w' hm hd hn hdd h hR) (fun listed j w w' h hl k => tillall_step h hl k) (fun listed => by rw [← HWD.out]; exact tillall_start _ _ _) ?_ ?_
    · refine Steps3.cons ?_ (Steps3.cons ?_ (Steps3.cons ?_ (Steps3.cons ?_ (Steps3.cons ?_ (Steps3.cons ?_ (Steps3.cons ?_ (Steps3.cons ?_ (Steps3.nil))))))))
      · intro listed a W H hw hl hd
        have t0 : a.tmps.getD 0 undef = .pointer (some ⟨g, 0, none⟩) := (H.old 0 (by kernel_rfl)).trans rfl
        exact step2_value (i := 0) rfl rfl (run_op_move rfl t0) (turns_refl _) rfl
      · intro listed a W H hw hl hd
        have t2 : a.tmps.getD 2 undef = .int .i64 (k : Int) := (H.old 2 (by kernel_rfl)).trans rfl
        exact step2_value (i := 1) rfl rfl (run_op_move rfl t2) (turns_refl _) rfl
      · intro listed a W H hw hl hd
        have t3 : a.tmps.getD 3 undef = .int .i64 (q : Int) := (H.old 3 (by kernel_rfl)).trans rfl
        exact step2_value (i := 2) rfl rfl (run_op_move rfl t3) (turns_refl _) rfl
      · intro listed a W H hw hl hd
        have t79 : a.tmps.getD 79 undef = .pointer (some ⟨g, 0, none⟩) := H.get 0 79 (by kernel_rfl) (dep_of hd 0 (by kernel_rfl)) (alive_none (by kernel_rfl))
        have t80 : a.tmps.getD 80 undef = .int .i64 (k : Int) := H.get 1 80 (by kernel_rfl) (dep_of hd 1 (by kernel_rfl)) (alive_none (by kernel_rfl))
        have t81 : a.tmps.getD 81 undef = .int .i64 (q : Int) := H.get 2 81 (by kernel_rfl) (dep_of hd 2 (by kernel_rfl)) (alive_none (by kernel_rfl))
        refine step2_call (i := 3) rfl rfl (run_op_call (vs := #[.pointer (some ⟨g, 0, none⟩), .int .i64 (k : Int), .int .i64 (q : Int)]) Tryz.func101 (by kernel_rfl) (by kernel_rfl) rfl (by simp only [List.map_toArray, List.map_cons, List.map_nil]; show #[a.tmps.getD 79 undef, a.tmps.getD 80 undef, a.tmps.getD 81 undef] = _; rw [t79, t80, t81])) ?_
        refine (HPG.out W (hw (H.nothing 5 hl (by kernel_rfl)))).mono ?_
        rintro e W2 ⟨rfl, nd, hnd⟩
        exact ⟨_, rfl, turns_later (by rw [hnd]; exact below_drewN (Below.refl _ _) nd), rfl⟩
      · intro listed a W H hw hl hd
        have t4 : a.tmps.getD 4 undef = .slice (some A) z c := (H.old 4 (by kernel_rfl)).trans rfl
        exact step2_value (i := 4) rfl rfl (run_op_move rfl t4) (turns_refl _) rfl
      · intro listed a W H hw hl hd
        have t12 : a.tmps.getD 12 undef = .int .i64 (K : Int) := (H.old 12 (by kernel_rfl)).trans rfl
        exact step2_value (i := 5) rfl rfl (run_op_move rfl t12) (turns_refl _) rfl
      · intro listed a W H hw hl hd
        have t83 : a.tmps.getD 83 undef = .slice (some A) z c := H.get 4 83 (by kernel_rfl) (dep_of hd 4 (by kernel_rfl)) (alive_none (by kernel_rfl))
        have t84 : a.tmps.getD 84 undef = .int .i64 (K : Int) := H.get 5 84 (by kernel_rfl) (dep_of hd 5 (by kernel_rfl)) (alive_none (by kernel_rfl))
        exact step2_value (i := 6) rfl rfl (run_op_slice rfl (by show (Instr.sliceAt 58 (a.tmps.getD 83 undef) none (some (a.tmps.getD 84 undef)) none).run _ _ = _; rw [t83, t84]; rw [run_sliceAt_slice (h := under24)]; exact slice_to (some A) z c K hK hc W)) (turns_refl _) rfl
      · intro listed a W H hw hl hd
        have t82 : a.tmps.getD 82 undef = .slice (some ⟨r, q * z, none⟩) z (cc - q * z) := H.get 3 82 (by kernel_rfl) (dep_of hd 3 (by kernel_rfl)) (alive_none (by kernel_rfl))
        have t85 : a.tmps.getD 85 undef = .slice (some A) K c := H.get 6 85 (by kernel_rfl) (dep_of hd 6 (by kernel_rfl)) (alive_none (by kernel_rfl))
        obtain ⟨W2, hr, h1, h2⟩ := HCP.out W (hw (H.nothing 5 hl (by kernel_rfl)))
        exact step2_value (i := 7) rfl rfl (run_op_copy rfl t82 t85 hr) (turns_here (by decide)) ⟨h1, h2⟩
    · intro a WC listed hdef hsz hw hall hact
      obtain ⟨h86, m86⟩ := hall 7 _ rfl (by kernel_rfl)
      have H86 := Lib.hid h86
      have M86 := Lib.hid (HM3.out.trans m86)
      obtain ⟨u, hu⟩ : ∃ u : Nat → Value, ∀ k, a.tmps.getD k undef = u k := ⟨_, fun _ => rfl⟩
      simp only [hu] at hact
      have hact' : a = ([79, 80, 81, 82, 83, 84, 85, 86] : List Nat).foldl (fun b k => b.put (some k) (u k)) _ := hact
      simp only [List.foldl] at hact'
      simp only [Act.put, List.setIfInBounds_toArray, List.set_cons_succ, List.set_cons_zero] at hact'
      have HAC := Lib.hid hact'
      clear hu hact hact' hall hdef hsz hw h86 m86 HM3 HPG HCP
      rw [HAC.out]
      go_wp2_with fail
      go_ret
      exact ⟨rfl, ⟨LF, H86.out⟩, M86.out⟩
end
end Go.Proofs.YthgkdnegnecnjaaGreatDoor

/- What is left of an Erase under a mishap. Conditions: the chip's cells; fewer than a million operations. -/
set_option linter.unusedVariables false
set_option linter.unusedSimpArgs false
set_option maxRecDepth 20000
namespace Go.Proofs.YthgkdnegnecnjaaGreatDoor
open Go.RowKit

section
variable {w w' : World} {base g : Nat} {fp : Nat → Prop} {s s' : Chip} {L : CL}
theorem Rep.befw (h : Rep w base fp g s L) : MWf s.bef := by
  unfold Chip.bef
  cases e : atM ((s.ops + 1 : Nat) : Int) s.ms with
  | none => exact mishK.ok
  | some m => exact atM_wf h.ms.wf e
/-- All bytes of a block are one: then its erases, its next page. -/
theorem Rep.filled (h : Rep w base fp g s L) {k x r c : Nat} (hk : k < s.nb) (hr : (L.at_ k).a = some ⟨r, 0, none⟩) (hc : (L.at_ k).c = c) (ho : Own w' base (some ⟨r, 0, none⟩) (s.np * (s.ns + 28)) c (List.replicate (s.np * (s.ns + 28)) x)) (ht : Turn (fun b => b = r) w w') :
    Rep w' base fp g (s.setB (k : Int) { s.nth k with pg := s.filled x }) L := by
  obtain ⟨r', c', e1, e2, e3, e4, e5, e6, e7⟩ := h.rawrow hk
  obtain ⟨p1, p2, p3, p4⟩ := Wf.nthpg h.wf hk
  refine h.bytes hk _ ?_ rfl rfl rfl rfl (fun b hb hn => ht.block b hb fun e => hn (by rw [hr, e]; simp [Go.Proofs.YthgkdnegnecnjaaGreatDoor.blk])) ht.size (h.wf.setB hk _ (Chip.filled_len s x) (fun p hp => Chip.filled_each s x p hp) p3 p4)
  show Own w' base (L.at_ k).a (L.at_ k).n (L.at_ k).c (s.filled x).flatten
  rw [hr, hc, e2, Chip.filled_flat]; exact ho
/-- The stores behind a fill: b.wear++; b.next = 0; b.next = c.g.Pages. -/
theorem erase_stores {W2 : World} {F : List (List Nat)} {k e nx np : Nat} {P1 P2 : Addr} (h2 : Rep W2 base fp g (s.setB (k : Int) { s.nth k with pg := F }) L) (hk : k < s.nb) (hbs : s.bs.length = s.nb) (hw : (s.nth k).wear < s.ops)
    (he : (s.nth k).wear = e) (hx : (s.nth k).next = nx) (hnp : s.np = np) (hP1 : P1 = ⟨(L.ab.add (k * 5)).block, (L.ab.add (k * 5)).off + 1, none⟩) (hP2 : P2 = ⟨(L.ab.add (k * 5)).block, (L.ab.add (k * 5)).off + 2, none⟩) :
    (W2.cell? P2 = some (.int .i64 (e : Int)) ∧ W2.frozen? P2 = false) ∧
    ((W2.setCell P2 (.int .i64 ((e : Int) + 1))).cell? P1 = some (.int .i64 (nx : Int)) ∧ (W2.setCell P2 (.int .i64 ((e : Int) + 1))).frozen? P1 = false) ∧
    ((∃ L4, Rep ((W2.setCell P2 (.int .i64 ((e : Int) + 1))).setCell P1 (.int .i64 0)) base fp g (s.setB (k : Int) { s.nth k with pg := F, next := 0, wear := (s.nth k).wear + 1 }) L4) ∧ Moves W2 fp ((W2.setCell P2 (.int .i64 ((e : Int) + 1))).setCell P1 (.int .i64 0)) fp) ∧
    (((W2.setCell P2 (.int .i64 ((e : Int) + 1))).setCell P1 (.int .i64 0)).cell? ⟨g, 1, none⟩ = some (.int .i64 (np : Int)) ∧ ((W2.setCell P2 (.int .i64 ((e : Int) + 1))).setCell P1 (.int .i64 0)).cell? P1 = some (.int .i64 0) ∧ ((W2.setCell P2 (.int .i64 ((e : Int) + 1))).setCell P1 (.int .i64 0)).frozen? P1 = false) ∧
    ((∃ L5, Rep (((W2.setCell P2 (.int .i64 ((e : Int) + 1))).setCell P1 (.int .i64 0)).setCell P1 (.int .i64 (np : Int))) base fp g (s.setB (k : Int) { s.nth k with pg := F, next := s.np, wear := (s.nth k).wear + 1 }) L5) ∧ Moves W2 fp (((W2.setCell P2 (.int .i64 ((e : Int) + 1))).setCell P1 (.int .i64 0)).setCell P1 (.int .i64 (np : Int))) fp) := by
  subst hP1 hP2
  have hb : k < s.bs.length := by omega
  have hk2 : k < (s.setB (k : Int) { s.nth k with pg := F }).nb := hk
  have K2 := h2.cellsK hk2
  rw [nth_self hb] at K2
  have m2 := h2.mark_moves k 2 (.int .i64 ((e : Int) + 1))
  obtain ⟨L3, h3, a3, _, _⟩ := h2.setWear hk2 ((s.nth k).wear + 1) hw
  rw [nth_self hb, setB_twice, show (((s.nth k).wear + 1 : Nat) : Int) = (e : Int) + 1 by omega] at h3
  have K3 := h3.cellsK (k := k) hk
  rw [nth_self hb, a3] at K3
  have f3 := h3.free5 k 1
  rw [a3] at f3
  have m3 := h3.mark_moves k 1 (.int .i64 0)
  rw [a3] at m3
  obtain ⟨L4, h4, a4, _, _⟩ := h3.setNext (k := k) hk 0 (Nat.zero_le _)
  rw [nth_self hb, setB_twice, a3] at h4
  have K4 := h4.cellsK (k := k) hk
  rw [nth_self hb, a4, a3] at K4
  have f4 := h4.free5 k 1
  rw [a4, a3] at f4
  have m4 := h4.mark_moves k 1 (.int .i64 (np : Int))
  rw [a4, a3] at m4
  obtain ⟨L5, h5, a5, _, _⟩ := h4.setNext (k := k) hk s.np (Nat.le_refl _)
  rw [nth_self hb, setB_twice, a4, a3, hnp] at h5
  refine ⟨⟨?_, h2.free5 k 2⟩, ⟨?_, f3⟩, ⟨⟨L4, h4⟩, m2.trans m3⟩, ⟨?_, K4.c1, f4⟩, ⟨⟨L5, ?_⟩, (m2.trans m3).trans m4⟩⟩
  · have := K2.c2
    rw [he] at this; exact this
  · have := K3.c1
    rw [← hx]; exact this
  · have := h4.cells.c1
    rw [← hnp]; exact this
  · rw [← hnp] at h5 ⊢; exact h5
set_option maxHeartbeats 16000000 in
set_option maxRecDepth 20000 in
theorem erasein_any (m : M) (hmw : MWf m) (hm2 : m.kind = 0 ∨ m.kind = 1 ∨ m.kind = 2) (k : Nat) (h : Rep w base fp g s L) (hT : s.Tk) (hops : s.ops ≤ 1000000) (hk : k < s.nb) :
    Calls Tryz.prog 124 #[.pointer (some ⟨g, 0, none⟩), mishV m, .int .i64 (k : Int)] w (fun e w' => e = .returned (.int .i64 (s.eraseIn m (k : Int)).2) ∧ (∃ L', Rep w' base fp g (s.eraseIn m (k : Int)).1 L') ∧ Moves w fp w' fp) := by
  have L1 := later_alloc w (.cells #[.int .i64 m.at_, .int .i64 m.kind, .int .i64 m.bytes, .int .u8 m.fill] 74)
  have R1 := rowM_new w m
  have h1 := h.since L1
  obtain ⟨r, cc, q1, q2, q3, q4, q5, q6, q7⟩ := h1.rawrow hk
  obtain ⟨c0, c1, c2, c3, c4, c5, c6, c7, c8⟩ := h1.cells
  obtain ⟨d1, d2, d3, d4⟩ := h1.cellsK hk
  have hns := h.wf.ns2
  have hnb := h.wf.nb2
  have hnp := h.wf.np2
  have hms := hT.misuse
  have hwr : (s.nth k).wear < s.ops := hT.wear k hk
  have f7 := h1.free 7
  have f4 := h1.free5 k 4
  have HMB := Lib.hid (show s.blk (k : Int) = s.nth k from blk_nth s k)
  obtain ⟨nb, HNB⟩ : ∃ n : Nat, Hid (s.nb = n) := ⟨_, rfl⟩
  have i0 : (0 : Int) ≤ (k : Int) := by omega
  have i1 : (k : Int) < (nb : Int) := by rw [← HNB.out]; omega
  rw [HNB.out] at c4
  rw [HNB.out] at hnb
  obtain ⟨W1, HW1⟩ : ∃ W, Hid (W = w.alloc (.cells #[.int .i64 m.at_, .int .i64 m.kind, .int .i64 m.bytes, .int .u8 m.fill] 74)) := ⟨_, rfl⟩
  have H1 := Lib.hid h1
  have HR1 := Lib.hid R1
  have HM1 : Hid (Moves w fp W1 fp) := by rw [HW1.out]; exact Moves.of_below L1
  rw [← HW1.out] at H1 HR1
  by_cases hmk : (s.nth k).marked = true
  · have HV : Hid (s.eraseIn m (k : Int) = ({ s with misuse := s.misuse + 1 }, 6)) := by
      show _ = _
      unfold Chip.eraseIn
      rw [HMB.out, if_pos hmk]
    rw [HV.out]
    rw [hmk] at d3
    obtain ⟨o, HO⟩ : ∃ o : Nat, Hid (s.misuse = o) := ⟨_, rfl⟩
    have HF : Hid (Rep (W1.setCell ⟨g, 7, none⟩ (.int .i64 ((o : Int) + 1))) base fp g { s with misuse := s.misuse + 1 } L ∧ Moves w fp (W1.setCell ⟨g, 7, none⟩ (.int .i64 ((o : Int) + 1))) fp) := by
      rw [← HO.out]
      exact ⟨H1.out.misuse hT, HM1.out.trans (H1.out.head_moves 7 _)⟩
    rw [HO.out] at c7 hms
    have hoo : o ≤ 1000000 := by omega
    clear h h1 L1 R1 c0 c1 c2 c3 c5 c6 c8 d1 d2 d4 hmk hT hops hms hwr HO HV hmw hm2 q1 q2 q3 q4 q5 q6 q7 f4 H1 HR1 HM1
    unfold mishV
    go_enter Tryz.func124, Tryz.ntmps124
    go_wp2_with fail
    rw [← HW1.out]
    go_ret
    exact ⟨rfl, ⟨L, HF.out.1⟩, HF.out.2⟩
  have hmk' : (s.nth k).marked = false := by simpa using hmk
  rw [hmk'] at d3
  have HFL : Hid (∃ L', Rep (W1.setCell ⟨(L.ab.add (k * 5)).block, (L.ab.add (k * 5)).off + 4, none⟩ (.bool true)) base fp g (s.setB (k : Int) { s.nth k with failed := true }) L') := by
    obtain ⟨L2, h2, _⟩ := H1.out.setFailed hk
    exact ⟨L2, h2⟩
  have HFM : Hid (Moves w fp (W1.setCell ⟨(L.ab.add (k * 5)).block, (L.ab.add (k * 5)).off + 4, none⟩ (.bool true)) fp) := HM1.out.trans (H1.out.mark_moves k 4 _)
  have HVF : Hid ((s.nth k).failed = true ∨ m.kind = 1 → s.eraseIn m (k : Int) = (s.setB (k : Int) { s.nth k with failed := true }, 5)) := fun e => by
    unfold Chip.eraseIn
    rw [HMB.out, if_neg hmk, if_pos e]
  obtain ⟨u0, u1, u2, u3⟩ := R1.at_
  by_cases hfl : (s.nth k).failed = true
  · rw [HVF.out (Or.inl hfl)]
    rw [hfl] at d4
    clear h h1 L1 R1 c0 c1 c2 c3 c5 c6 c7 c8 d1 d2 hmk hmk' hfl hT hops hms hwr HVF hmw hm2 q1 q2 q3 q4 q5 q6 q7 f7 H1 HR1 HM1 u0 u1 u2 u3
    unfold mishV
    go_enter Tryz.func124, Tryz.ntmps124
    go_wp2_with fail
    rw [← HW1.out]
    go_ret
    exact ⟨rfl, HFL.out, HFM.out⟩
  have hfl' : (s.nth k).failed = false := by simpa using hfl
  rw [hfl'] at d4
  by_cases hk1 : m.kind = 1
  · rw [HVF.out (Or.inr hk1)]
    have b1 : (m.kind == 1) = true := by simpa using hk1
    clear h h1 L1 R1 c0 c1 c2 c3 c5 c6 c7 c8 d1 d2 hmk hmk' hfl hfl' hT hops hms hwr HVF hmw hm2 q1 q2 q3 q4 q5 q6 q7 f7 H1 HR1 HM1 u0 u2 u3 hk1
    unfold mishV
    go_enter Tryz.func124, Tryz.ntmps124
    go_wp2_with fail
    rw [← HW1.out]
    go_ret
    exact ⟨rfl, HFL.out, HFM.out⟩
  clear HVF HFL HFM
  have b1 : (m.kind == 1) = false := by simpa using hk1
  -- which byte
  obtain ⟨x, b2, hb2, hx, HX⟩ : ∃ (x : Nat) (b2 : Bool), (m.kind == 2) = b2 ∧ x < 256 ∧ Hid ((if b2 = true then m.fill else 255) = (x : Int)) := by
    have h0 := hmw.f0
    have h2 := hmw.f1
    cases e : (m.kind == 2) with
    | true => exact ⟨m.fill.toNat, true, rfl, by omega, by show _ = _; rw [if_pos rfl]; omega⟩
    | false => exact ⟨255, false, rfl, by omega, by show _ = _; rw [if_neg (by decide)]; rfl⟩
  have HV : Hid (s.eraseIn m (k : Int) = (s.setB (k : Int) { s.nth k with pg := s.filled x, next := if x = 255 then 0 else s.np, wear := (s.nth k).wear + 1 }, 0)) := by
    show _ = _
    have hx' := HX.out
    unfold Chip.eraseIn
    rw [HMB.out, if_neg hmk, if_neg (by rw [hfl']; simp [hk1])]
    cases b2 with
    | true =>
      rw [if_pos rfl] at hx'
      have hk2 : m.kind = 2 := by simpa using hb2
      rw [if_pos hk2, show m.fill.toNat = x by omega]
      by_cases hq : x = 255
      · rw [if_pos hq, if_pos (by omega)]
      · rw [if_neg hq, if_neg (by omega)]
    | false =>
      rw [if_neg (by decide)] at hx'
      have hk2 : ¬ m.kind = 2 := by simpa using hb2
      rw [if_neg hk2]
      obtain rfl : x = 255 := by omega
      rw [if_pos rfl]
  rw [HV.out]
  obtain ⟨sF, HSF⟩ : ∃ sF : Chip, Hid (s.setB (k : Int) { s.nth k with pg := s.filled x, next := if x = 255 then 0 else s.np, wear := (s.nth k).wear + 1 } = sF) := ⟨_, rfl⟩
  rw [HSF.out]
  have hN : s.np * (s.ns + 28) ≤ 8000 := by
    have : s.np * (s.ns + 28) ≤ 8 * 284 := Nat.mul_le_mul hnp (by omega)
    omega
  have d0 : W1.cell? (L.ab.add (k * 5)) = some (.slice (some ⟨r, 0, none⟩) (s.np * (s.ns + 28)) cc) := by
    obtain ⟨g0, _⟩ := H1.out.block hk
    rw [g0, q1, q2, q3]
  have CF : Hid (Calls Tryz.prog 39 #[.pointer (some (L.ab.add (k * 5))), .int .u8 (x : Int)] W1 (fun e w' => e = .returned (.tuple #[]) ∧ Own w' base (some ⟨r, 0, none⟩) (s.np * (s.ns + 28)) cc (List.replicate (s.np * (s.ns + 28)) x) ∧ Turn (fun b => b = r) W1 w')) :=
    cfill_any _ r _ cc x base _ W1 hx d0 (by have := q7; rw [← HW1.out] at this; exact this) (fun e => by rw [H1.out.pblock] at e; exact H1.out.raw_not_bl hk r (by rw [q1]; simp [Go.Proofs.YthgkdnegnecnjaaGreatDoor.blk]) e) hN
  have HQ : Hid ((L.at_ k).a = some ⟨r, 0, none⟩ ∧ (L.at_ k).c = cc ∧ fp r) := ⟨q1, q3, q6⟩
  have HGM : Hid (w.heap.size ≠ r) := fun e => by have := h.lt r q6; omega
  have HKB : Hid (k < s.nb ∧ s.bs.length = s.nb ∧ (s.nth k).wear < s.ops) := ⟨hk, h.wf.len, hwr⟩
  have hnb2 := hwr
  have HNP := Lib.hid hnp
  obtain ⟨e, HE⟩ : ∃ e : Nat, Hid ((s.nth k).wear = e) := ⟨_, rfl⟩
  obtain ⟨nx, HNX⟩ : ∃ e : Nat, Hid ((s.nth k).next = e) := ⟨_, rfl⟩
  obtain ⟨np, HNPP⟩ : ∃ e : Nat, Hid (s.np = e) := ⟨_, rfl⟩
  have he : e ≤ 1000000 := by rw [← HE.out]; omega
  have hnp8 : np ≤ 8 := by rw [← HNPP.out]; exact hnp
  -- behind the fill: erases, next page
  have HGO : Hid (∀ W2, Own W2 base (some ⟨r, 0, none⟩) (s.np * (s.ns + 28)) cc (List.replicate (s.np * (s.ns + 28)) x) → Turn (fun b => b = r) W1 W2 → Rep W2 base fp g (s.setB (k : Int) { s.nth k with pg := s.filled x }) L ∧ Moves w fp W2 fp) := fun W2 ho ht =>
    ⟨H1.out.filled hk HQ.out.1 HQ.out.2.1 ho ht, HM1.out.trans ⟨ht.mono fun b hb => Or.inl (by rw [hb]; exact HQ.out.2.2), fun b hb => Or.inl hb⟩⟩
  have HXF : Hid ((if b2 = true then m.fill else 255) = (x : Int)) := HX
  have hx255 : x ≤ 255 := by omega
  clear h h1 L1 R1 c0 c1 c2 c3 c5 c6 c7 c8 d0 d1 d2 hmk hmk' hfl hfl' hT hms hwr hmw hm2 q1 q2 q3 q4 q5 q6 q7 f7 f4 HM1 u0 u2 hk1 HV HMB HX hN hops hnb2 HNP HGM
  cases b2 with
  | true =>
    have hfill : m.fill = (x : Int) := by have := HXF.out; rwa [if_pos rfl] at this
    have HFI := Lib.hid hfill
    clear hfill
    unfold mishV
    go_enter Tryz.func124, Tryz.ntmps124
    go_wp2_with fail
    rw [← HW1.out]
    have CF9 := CF.out
    rw [← HFI.out] at CF9
    refine CF9.mono ?_
    rintro e' W2 ⟨rfl, ho, ht⟩
    obtain ⟨h2, m2⟩ := HGO.out W2 ho ht
    obtain ⟨P1, hP1⟩ : ∃ P : Addr, P = ⟨(L.ab.add (k * 5)).block, (L.ab.add (k * 5)).off + 1, none⟩ := ⟨_, rfl⟩
    obtain ⟨P2, hP2⟩ : ∃ P : Addr, P = ⟨(L.ab.add (k * 5)).block, (L.ab.add (k * 5)).off + 2, none⟩ := ⟨_, rfl⟩
    obtain ⟨⟨x1, x2⟩, ⟨x3, x4⟩, h4, ⟨x5, x6, x7⟩, h5⟩ := erase_stores h2 HKB.out.1 HKB.out.2.1 HKB.out.2.2 HE.out HNX.out HNPP.out hP1 hP2
    have H4 := Lib.hid h4
    have H5 := Lib.hid h5
    have M2 := Lib.hid m2
    subst hP1 hP2
    clear h2 h4 h5 m2 ho ht CF HGO H1 HR1 HW1 c4
    clear CF9
    by_cases hq : x = 255
    · have hb3 : (m.fill != 255) = false := by have := HFI.out; simp; omega
      have HQ9 := Lib.hid hq
      clear hq
      clear x5 x6 x7 H5
      go_wp2_with fail
      go_ret
      refine ⟨rfl, ?_, M2.out.trans H4.out.2⟩
      rw [← HSF.out, if_pos HQ9.out]
      exact H4.out.1
    · have hb3 : (m.fill != 255) = true := by have := HFI.out; simp; omega
      have HQ9 := Lib.hid hq
      clear hq
      clear H4
      go_wp2_with fail
      go_ret
      refine ⟨rfl, ?_, M2.out.trans H5.out.2⟩
      rw [← HSF.out, if_neg HQ9.out]
      exact H5.out.1
  | false =>
    have hx2 : x = 255 := by have := HXF.out; rw [if_neg (by decide)] at this; omega
    have HX2 := Lib.hid hx2
    clear hx2
    unfold mishV
    go_enter Tryz.func124, Tryz.ntmps124
    go_wp2_with fail
    rw [← HW1.out]
    have CF9 := CF.out
    rw [show ((x : Nat) : Int) = 255 by have := HX2.out; omega] at CF9
    refine CF9.mono ?_
    rintro e' W2 ⟨rfl, ho, ht⟩
    obtain ⟨h2, m2⟩ := HGO.out W2 ho ht
    obtain ⟨P1, hP1⟩ : ∃ P : Addr, P = ⟨(L.ab.add (k * 5)).block, (L.ab.add (k * 5)).off + 1, none⟩ := ⟨_, rfl⟩
    obtain ⟨P2, hP2⟩ : ∃ P : Addr, P = ⟨(L.ab.add (k * 5)).block, (L.ab.add (k * 5)).off + 2, none⟩ := ⟨_, rfl⟩
    obtain ⟨⟨x1, x2⟩, ⟨x3, x4⟩, h4, ⟨x5, x6, x7⟩, h5⟩ := erase_stores h2 HKB.out.1 HKB.out.2.1 HKB.out.2.2 HE.out HNX.out HNPP.out hP1 hP2
    have H4 := Lib.hid h4
    have H5 := Lib.hid h5
    have M2 := Lib.hid m2
    subst hP1 hP2
    clear h2 h4 h5 m2 ho ht CF HGO H1 HR1 HW1 c4
    clear CF9
    by_cases hq : x = 255
    · have hb3 : ((x : Int) != 255) = false := by simp; omega
      have HQ9 := Lib.hid hq
      clear hq
      clear x5 x6 x7 H5
      go_wp2_with fail
      go_ret
      refine ⟨rfl, ?_, M2.out.trans H4.out.2⟩
      rw [← HSF.out, if_pos HQ9.out]
      exact H4.out.1
    · exact absurd HX2.out hq
end
end Go.Proofs.YthgkdnegnecnjaaGreatDoor

/- 'return c.end(.., m, c.do(m, ..))': a region that draws its order, two of whose operations turn the chip, one behind the other. Conditions: none. -/
set_option linter.unusedVariables false
set_option linter.unusedSimpArgs false
set_option maxRecDepth 20000
namespace Go.Proofs.YthgkdnegnecnjaaGreatDoor
open Go.RowKit

section
variable {w w' w0 : World} {base g m1 m2 : Nat} {fp : Nat → Prop} {s1 s2 s3 : Chip} {L : CL} {k : Int} {v : Value} {listed : Array Bool} {j : Nat}
/-- How far it has come: neither done; the first; both. -/
structure EndInv (W0 : World) (base : Nat) (fp : Nat → Prop) (g m1 m2 : Nat) (s1 s2 s3 : Chip) (L : CL) (listed : Array Bool) (w : World) : Prop where
  moves : Moves W0 fp w fp
  none_ : listed.getD m1 true = false → listed.getD m2 true = false → Rep w base fp g s1 L
  one : listed.getD m1 true = true → listed.getD m2 true = false → ∃ L', Rep w base fp g s2 L'
  both : listed.getD m2 true = true → ∃ L', Rep w base fp g s3 L'
structure EndR (base : Nat) (fp : Nat → Prop) (g m1 m2 : Nat) (s2 s3 : Chip) (j : Nat) (x y : World) : Prop where
  moves : Moves x fp y fp
  first : j = m1 → ∃ L', Rep y base fp g s2 L'
  last : j = m2 → ∃ L', Rep y base fp g s3 L'
  other : j ≠ m1 → j ≠ m2 → Later x y
theorem endr_later (h1 : j ≠ m1) (h2 : j ≠ m2) (h : Later w w') : EndR base fp g m1 m2 s2 s3 j w w' := ⟨Moves.of_below h, fun e => absurd e h1, fun e => absurd e h2, fun _ _ => h⟩
theorem endr_refl (h1 : j ≠ m1) (h2 : j ≠ m2) : EndR base fp g m1 m2 s2 s3 j w w := endr_later h1 h2 (later_refl _)
theorem getD_true_set {l : Array Bool} {i : Nat} (h : l.getD i true = false) : (l.setIfInBounds i true).getD i true = true := by
  by_cases hi : i < l.size <;> simp [hi] at h ⊢
theorem endinv_step {ops : Array Oper} {a0 a : Act} {F : Nat → Value → World → Prop} {dead : Nat → Option Nat} (H : Holds2 ops a0 F dead listed a w) (hn : needs ops m2 m1 = true) (hm : m1 ≠ m2) (h : EndInv w0 base fp g m1 m2 s1 s2 s3 L listed w) (hl : listed.getD j true = false) (hR : EndR base fp g m1 m2 s2 s3 j w w') : EndInv w0 base fp g m1 m2 s1 s2 s3 L (listed.setIfInBounds j true) w' := by
  by_cases e1 : j = m1
  · subst e1
    refine ⟨h.moves.trans hR.moves, fun h1 => ?_, fun h1 h2 => hR.first rfl, fun h2 => ?_⟩
    · rw [getD_true_set hl] at h1; cases h1
    · rw [getD_set_ne true hm, H.notyet hl hn] at h2; cases h2
  by_cases e2 : j = m2
  · subst e2
    refine ⟨h.moves.trans hR.moves, fun h1 h2 => ?_, fun h1 h2 => ?_, fun h2 => hR.last rfl⟩
    · rw [getD_true_set hl] at h2; cases h2
    · rw [getD_true_set hl] at h2; cases h2
  have hb := hR.other e1 e2
  refine ⟨h.moves.trans hR.moves, fun h1 h2 => ?_, fun h1 h2 => ?_, fun h2 => ?_⟩
  · rw [getD_set_ne true e1] at h1
    rw [getD_set_ne true e2] at h2
    exact (h.none_ h1 h2).since hb
  · rw [getD_set_ne true e1] at h1
    rw [getD_set_ne true e2] at h2
    obtain ⟨L', h3⟩ := h.one h1 h2
    exact ⟨L', h3.since hb⟩
  · rw [getD_set_ne true e2] at h2
    obtain ⟨L', h3⟩ := h.both h2
    exact ⟨L', h3.since hb⟩
theorem replicate_false {n i : Nat} (hi : i < n) : (Array.replicate n false).getD i true = false := by simp [hi]
theorem endinv_start {n : Nat} (h1 : m1 < n) (h2 : m2 < n) (h : Rep w base fp g s1 L) : EndInv w base fp g m1 m2 s1 s2 s3 L (Array.replicate n false) w :=
  ⟨Moves.refl _ _, fun _ _ => h, fun k _ => (by rw [replicate_false h1] at k; cases k), fun k => (by rw [replicate_false h2] at k; cases k)⟩
theorem RowM.over {gm : Nat} {m : M} (h : RowM w gm m) (hm : Moves w fp w' fp) (hg : ¬ fp gm) : RowM w' gm m := ⟨(hm.turn.block gm h.lt hg).trans h.row⟩
theorem ErrNew.over (h : ErrNew w0 fp w k v) (hm : Moves w fp w' fp) : ErrNew w0 fp w' k v := by
  rcases h with h | ⟨h0, g, s, e, h1, h2, h3, h4⟩
  · exact Or.inl h
  · exact Or.inr ⟨h0, g, s, e, hm.cell h4 h1, hm.cell h4 h2, h3, h4⟩
def ErrF (w0 : World) (fp : Nat → Prop) (k : Int) (v : Value) (w : World) : Prop := ErrNew w0 fp w k v
theorem errF_since (w0 : World) (fp : Nat → Prop) (k : Int) (v : Value) (w w' : World) (h : ErrF w0 fp k v w) (hb : Later w w') : ErrF w0 fp k v w' := ErrNew.over h (Moves.of_below hb)
/-- Facts that are values, but for two that tell of one error. -/
theorem facts_over (l : List Fact2) (i1 i2 : Nat) (h1 : l[i1]? = some (.that (ErrF w0 fp k) (errF_since _ _ _))) (h2 : l[i2]? = some (.that (ErrF w0 fp k) (errF_since _ _ _))) (hb : ((List.range l.length).all fun i => (match l[i]? with | some (.is _) => true | _ => false) || i == i1 || i == i2) = true)
    (i : Nat) (h : fact2Of l i v w) (hm : Moves w fp w' fp) : fact2Of l i v w' := by
  unfold fact2Of at h ⊢
  cases hq : l[i]? with
  | none => trivial
  | some f =>
    rw [hq] at h
    have hil : i < l.length := (List.getElem?_eq_some_iff.1 hq).1
    have h3 := List.all_eq_true.1 hb i (List.mem_range.2 hil)
    rw [hq] at h3
    simp only [Bool.or_eq_true, beq_iff_eq] at h3
    rcases h3 with (h3 | h3) | h3
    · cases f with
      | is u => exact h
      | row rs => cases h3
      | own b n bs => cases h3
      | that p hp => cases h3
    · subst h3
      rw [hq] at h1
      obtain rfl := Option.some.inj h1
      exact ErrNew.over h hm
    · subst h3
      rw [hq] at h2
      obtain rfl := Option.some.inj h2
      exact ErrNew.over h hm
end
/-- What a call leaves that answers an error. -/
def Leads (w : World) (base : Nat) (fp : Nat → Prop) (g : Nat) (r : Chip × Int) (e : Ending) (w' : World) : Prop :=
  ∃ v fp', e = .returned v ∧ ErrNew w fp' w' r.2 v ∧ ChipAt w' base fp' g r.1 ∧ Moves w fp w' fp'
/-- What Read leaves. -/
def Reads (w : World) (base : Nat) (fp : Nat → Prop) (g : Nat) (r : Chip × Int × List Nat) (e : Ending) (w' : World) : Prop :=
  ∃ v A n c fp', e = .returned (.tuple #[.slice A n c, v]) ∧ ErrNew w fp' w' r.2.1 v ∧ Rest fp' w' w.heap.size A n c r.2.2 ∧ ChipAt w' base fp' g r.1 ∧ Moves w fp w' fp'
section
variable {w : World} {base g : Nat} {fp : Nat → Prop} {s : Chip} {L : CL}
theorem Rep.lit (h : Rep w base fp g s L) : Rep (w.setCell ⟨g, 5, none⟩ (.bool true)) base fp g { s with on := true } L :=
  h.head (h.wf.turn true) rfl rfl rfl rfl rfl (by simp [World.setCell, Array.getElem?_modify, h.row, chipRow]) (fun b hb => setCell_heap _ _ _ _ _ hb) (by simp [World.setCell])
theorem boot_any (hC : ChipAt w base fp g s) :
    Calls Tryz.prog 49 #[.pointer (some ⟨g, 0, none⟩)] w (Leads w base fp g s.boot) := by
  obtain ⟨L, h⟩ := hC
  obtain ⟨c0, c1, c2, c3, c4, c5, c6, c7, c8⟩ := h.cells
  cases hon : s.on with
  | true =>
    rw [show s.boot = (s, 9) from if_pos hon]
    rw [hon] at c5
    have H := Lib.hid h
    clear h c0 c1 c2 c3 c4 c6 c7 c8 hon
    go_enter Tryz.func49, Tryz.ntmps49
    go_wp2_with fail
    refine (wrong_new _ 9 (by decide) w fp H.out.lt).mono ?_
    rintro e Wb ⟨v, rfl, he, hb⟩
    have HE := Lib.hid he
    have HB := Lib.hid hb
    clear he hb
    go_wp2_with fail
    go_ret
    exact ⟨v, fp, rfl, HE.out, ⟨L, H.out.since HB.out⟩, Moves.of_below HB.out⟩
  | false =>
    rw [show s.boot = ({ s with on := true }, 0) from if_neg (by rw [hon]; decide)]
    rw [hon] at c5
    have f5 := h.free 5
    have H := Lib.hid h.lit
    have HM := Lib.hid (h.head_moves 5 (.bool true))
    clear h c0 c1 c2 c3 c4 c6 c7 c8 hon
    go_enter Tryz.func49, Tryz.ntmps49
    go_wp2_with fail
    go_ret
    exact ⟨_, fp, rfl, ErrNew.none_, ⟨L, H.out⟩, HM.out⟩
end
end Go.Proofs.YthgkdnegnecnjaaGreatDoor
