/- Mishaps in plain words: which may be, which befalls, which come behind; the document's own May, At, After, Darks (package sculleryref7). Conditions: the slices' cells; at most 7000 mishaps where a list is made. -/
import Derived.Test.YtgamjffedlkbeaaMishaps
import Derived.Test.YtgamjffedlkbeaaQuiet
import Derived.Test.YtgamjffedlkbeaaOps
set_option linter.unusedVariables false
set_option linter.unusedSimpArgs false
namespace Go.Proofs.Ytgamjffedlkbeaa
open Go.RowKit
open Go.Sort (grow)

def okM (m : M) : Bool := decide (1 ≤ m.at_ ∧ m.at_ ≤ 1073741824 ∧ (m.kind = 1 ∨ m.kind = 2) ∧ 0 ≤ m.bytes ∧ m.bytes ≤ 65536)
def getM (ms : List M) (k : Nat) : M := ms.getD k M.zero
def stepM (ms : List M) (k : Nat) : Bool := okM (getM ms k) && (k == 0 || decide ((getM ms (k - 1)).at_ < (getM ms k).at_))
/-- Mishaps that may be. -/
def mayM (ms : List M) : Bool := decide (ms.length ≤ 24) && (List.range ms.length).all (stepM ms)
/-- The first one of that number. -/
def atM (x : Int) : List M → Option M
  | [] => none
  | m :: r => if m.at_ = x then some m else atM x r
/-- Those behind a number. -/
def afterM (x : Int) (ms : List M) : List M := ms.filter fun m => decide (x < m.at_)
def darksM (ms : List M) : Nat := (ms.filter fun m => decide (m.kind = 2)).length
theorem okM_out {m : M} (h : okM m = true) : 1 ≤ m.at_ ∧ m.at_ ≤ 1073741824 ∧ (m.kind = 1 ∨ m.kind = 2) ∧ 0 ≤ m.bytes ∧ m.bytes ≤ 65536 := of_decide_eq_true h
theorem mayM_out {ms : List M} (h : mayM ms = true) : ms.length ≤ 24 ∧ ∀ k, k < ms.length → stepM ms k = true := by
  unfold mayM at h
  rw [Bool.and_eq_true, List.all_eq_true] at h
  exact ⟨of_decide_eq_true h.1, fun k hk => h.2 k (List.mem_range.2 hk)⟩
theorem mayM_yes {ms : List M} (hl : ms.length ≤ 24) (h : ∀ k, k < ms.length → stepM ms k = true) : mayM ms = true := by
  unfold mayM
  rw [Bool.and_eq_true, List.all_eq_true]
  exact ⟨decide_eq_true hl, fun k hk => h k (List.mem_range.1 hk)⟩
theorem mayM_no {ms : List M} {k : Nat} (hk : k < ms.length) (h : stepM ms k = false) : mayM ms = false := by
  rw [Bool.eq_false_iff]
  intro e
  have := (mayM_out e).2 k hk
  rw [h] at this; cases this
theorem mayM_many {ms : List M} (h : 24 < ms.length) : mayM ms = false := by
  rw [Bool.eq_false_iff]
  intro e
  have := (mayM_out e).1
  omega
theorem atM_hit {x : Int} : ∀ {ms : List M} {k : Nat}, k < ms.length → (getM ms k).at_ = x → (∀ j, j < k → (getM ms j).at_ ≠ x) → atM x ms = some (getM ms k)
  | [], k, h, _, _ => by simp at h
  | m :: r, 0, _, h, _ => by
    have h' : m.at_ = x := h
    unfold atM; rw [if_pos h']; rfl
  | m :: r, k + 1, hk, h, hn => by
    have h0 : m.at_ ≠ x := hn 0 (Nat.succ_pos k)
    unfold atM
    rw [if_neg h0]
    exact atM_hit (ms := r) (k := k) (by simpa using hk) h (fun j hj => hn (j + 1) (by omega))
theorem atM_miss {x : Int} : ∀ {ms : List M}, (∀ j, j < ms.length → (getM ms j).at_ ≠ x) → atM x ms = none
  | [], _ => rfl
  | m :: r, h => by
    have h0 : m.at_ ≠ x := h 0 (by simp)
    unfold atM
    rw [if_neg h0]
    exact atM_miss (ms := r) (fun j hj => h (j + 1) (by simpa using hj))
theorem take_nextM {ms : List M} {k : Nat} (hk : k < ms.length) : ms.take (k + 1) = ms.take k ++ [getM ms k] := by
  unfold getM
  rw [List.take_succ_eq_append_getElem hk, List.getD_eq_getElem?_getD, List.getElem?_eq_getElem hk]; rfl
theorem afterM_next {x : Int} {ms : List M} {k : Nat} (hk : k < ms.length) : afterM x (ms.take (k + 1)) = afterM x (ms.take k) ++ (if x < (getM ms k).at_ then [getM ms k] else []) := by
  unfold afterM
  rw [take_nextM hk, List.filter_append]
  congr 1
  by_cases h : x < (getM ms k).at_ <;> simp [h]
theorem darksM_next {ms : List M} {k : Nat} (hk : k < ms.length) : darksM (ms.take (k + 1)) = darksM (ms.take k) + (if (getM ms k).kind = 2 then 1 else 0) := by
  unfold darksM
  rw [take_nextM hk, List.filter_append, List.length_append]
  congr 1
  by_cases h : (getM ms k).kind = 2 <;> simp [h]
theorem afterM_len (x : Int) (ms : List M) : (afterM x ms).length ≤ ms.length := List.length_filter_le _ _
theorem darksM_len (ms : List M) : darksM ms ≤ ms.length := List.length_filter_le _ _
theorem getM_wf {ms : List M} (h : ∀ m ∈ ms, MWf m) (k : Nat) : MWf (getM ms k) := mishK.ok |> fun hz => by
  unfold getM
  rw [List.getD_eq_getElem?_getD]
  cases e : ms[k]? with
  | none => exact hz
  | some m => exact h m (List.mem_of_getElem? e)
theorem atM_wf {x : Int} : ∀ {ms : List M} {m : M}, (∀ m ∈ ms, MWf m) → atM x ms = some m → MWf m
  | [], m, _, h => by cases h
  | a :: r, m, hw, h => by
    unfold atM at h
    split at h
    · exact Option.some.inj h ▸ hw a (by simp)
    · exact atM_wf (fun m hm => hw m (by simp [hm])) h
/-- What At answers. -/
def atV : Option M → Value
  | none => .tuple #[mishV M.zero, .bool false]
  | some m => .tuple #[mishV m, .bool true]
/-- A mishap, a row of the call's own. -/
structure RowM (w : World) (g : Nat) (m : M) : Prop where
  row : w.heap[g]? = some (.cells #[.int .i64 m.at_, .int .i64 m.kind, .int .i64 m.bytes, .int .u8 m.fill] 45 (0, 0))
structure CellsM (w : World) (g : Nat) (m : M) : Prop where
  c0 : w.cell? ⟨g, 0, none⟩ = some (.int .i64 m.at_)
  c1 : w.cell? ⟨g, 1, none⟩ = some (.int .i64 m.kind)
  c2 : w.cell? ⟨g, 2, none⟩ = some (.int .i64 m.bytes)
  c3 : w.cell? ⟨g, 3, none⟩ = some (.int .u8 m.fill)
section
variable {w w' : World} {g : Nat} {m : M}
theorem RowM.lt (h : RowM w g m) : g < w.heap.size := (Array.getElem?_eq_some_iff.1 h.row).1
theorem RowM.at_ (h : RowM w g m) : CellsM w g m :=
  ⟨by rw [cell_of_row _ _ _ _ _ _ h.row]; rfl, by rw [cell_of_row _ _ _ _ _ _ h.row]; rfl, by rw [cell_of_row _ _ _ _ _ _ h.row]; rfl, by rw [cell_of_row _ _ _ _ _ _ h.row]; rfl⟩
theorem RowM.free (h : RowM w g m) (k : Nat) : w.frozen? ⟨g, k, none⟩ = false := by simp [World.frozen?, h.row]
theorem RowM.since (h : RowM w g m) (hb : Below w.heap.size w w') : RowM w' g m := ⟨(hb.block g h.lt).trans h.row⟩
theorem RowM.put (h : RowM w g m) (u : M) : RowM ((((w.setCell ⟨g, 0, none⟩ (.int .i64 u.at_)).setCell ⟨g, 1, none⟩ (.int .i64 u.kind)).setCell ⟨g, 2, none⟩ (.int .i64 u.bytes)).setCell ⟨g, 3, none⟩ (.int .u8 u.fill)) g u := ⟨by simp [World.setCell, Array.getElem?_modify, h.row]⟩
end
theorem rowM_new (W : World) (m : M) : RowM (W.alloc (.cells #[.int .i64 m.at_, .int .i64 m.kind, .int .i64 m.bytes, .int .u8 m.fill] 45)) W.heap.size m := ⟨heap_alloc_new W _⟩
theorem put4_else (w : World) (g : Nat) (a b c d : Value) : w.grownBy ((((w.setCell ⟨g, 0, none⟩ a).setCell ⟨g, 1, none⟩ b).setCell ⟨g, 2, none⟩ c).setCell ⟨g, 3, none⟩ d) (some g) :=
  grownBy_trans (grownBy_trans (grownBy_trans (setCell_else w ⟨g, 0, none⟩ a) (setCell_else _ ⟨g, 1, none⟩ b)) (setCell_else _ ⟨g, 2, none⟩ c)) (setCell_else _ ⟨g, 3, none⟩ d)
/-- What a call that answers mishaps of its own leaves. -/
def GivesM (w : World) (ms : List M) (e : Ending) (w' : World) : Prop := ∃ A n c, e = .returned (.slice A n c) ∧ Hid (mishK.Row w' w.heap.size A n c ms) ∧ Hid (Below w.heap.size w w')
def SaysN (w : World) (x : Int) (e : Ending) (w' : World) : Prop := e = .returned (.int .i64 x) ∧ Hid (Below w.heap.size w w')
def SaysV (w : World) (v : Value) (e : Ending) (w' : World) : Prop := e = .returned v ∧ Hid (Below w.heap.size w w')
theorem mish_at {w : World} {B n : Nat} {A : Option Addr} {ms : List M} (h : mishK.Lie w B A n ms) {k : Nat} (hk : k < n) : ∃ ad, A = some ad ∧ ad.block < B ∧ MishAt w (ad.add (k * 4)) (getM ms k) := by
  obtain ⟨ad, e1, e2, e3⟩ := h.each k hk
  exact ⟨ad, e1, e2, mishAt_of (m := getM ms k) e3⟩
end Go.Proofs.Ytgamjffedlkbeaa
