/- []rune(s) and string(runes) at this program, in terms of the runes of a text. Condition: the text at most 2^46 bytes. -/
import Derived.Test.YtgenkmihbnkakaaDoorLabelRuneMath
import Derived.Test.YtgenkmihbnkakaaDoorProg
import Derived.Laws.IdiomStrings
import Derived.WalkKit
set_option linter.unusedVariables false
set_option linter.unusedSimpArgs false
set_option maxRecDepth 20000
namespace Go.Proofs.YtgenkmihbnkakaaDoor
open Go.RowKit

theorem runesFrom_eq (s : ByteArray) : ∀ (f i : Nat) (acc : Array Value), Conv.runesFrom s f i acc = acc ++ ((rsD f (s.data.toList.drop i)).map (Value.int .i32)).toArray
  | 0, i, acc => by simp [Conv.runesFrom, rsD]
  | f + 1, i, acc => by
    have hl : s.data.toList.length = s.size := (Lib.size_eq s).symm
    by_cases h : i < s.size
    · have hne : s.data.toList.drop i ≠ [] := drop_ne (by rw [hl]; exact h)
      rw [Conv.runesFrom, if_pos h, rsD, if_neg hne]
      simp only
      rw [runesFrom_eq s f, Lib.decodeL_drop, List.drop_drop]
      simp
    · have he : s.data.toList.drop i = [] := List.drop_eq_nil_of_le (by omega)
      rw [Conv.runesFrom, if_neg h, rsD, if_pos he]
      simp
theorem runesFrom_runes (s : ByteArray) : Conv.runesFrom s s.size 0 #[] = ((runes s.data.toList).map (Value.int .i32)).toArray := by
  rw [runesFrom_eq, List.drop_zero, Lib.size_eq]
  simp [runes]

/-- '[]rune(s)': a new row that holds the runes. -/
theorem conv_runes (s : ByteArray) (hs : s.size ≤ 1000000) (W : World) : ∃ (cap : Nat) (W' : World),
    (convert 9 30 (.string s)).run Tryd.prog W = .ok (.slice (some ⟨W.heap.size, 0, none⟩) (runes s.data.toList).length cap) W' ∧ (runes s.data.toList).length ≤ cap ∧
    Below W.heap.size W W' ∧ W'.heap.size = W.heap.size + 1 ∧ (∀ j, j < (runes s.data.toList).length → W'.cell? ⟨W.heap.size, j, none⟩ = some (.int .i32 ((runes s.data.toList).getD j 0))) ∧
    (∀ j, W'.frozen? ⟨W.heap.size, j, none⟩ = false) ∧ (∃ C, W'.heap[W.heap.size]? = some (.cells C 21 (0, 0)) ∧ (runes s.data.toList).length ≤ C.size) := by
  have hsz : (Conv.runesFrom s s.size 0 #[]).size = (runes s.data.toList).length := by rw [runesFrom_runes]; simp
  have hrl := runes_length_le s.data.toList.length s.data.toList (Nat.le_refl _)
  have hle : (Conv.runesFrom s s.size 0 #[]).size ≤ 70368744177664 := by rw [hsz]; rw [Lib.size_eq] at hs; omega
  have h := run_runes_of_string (P := Tryd.prog) W 9 30 21 s Tryd.underlying9 Tryd.underlying30 Tryd.underlying21 hle
  have hcap := grownCap_ge W (Conv.runesFrom s s.size 0 #[]).size 0 21
  rw [hsz] at h hcap
  refine ⟨_, _, h, by omega, ((Below.refl _ W).drew).alloc (Nat.le_refl _) _, by simp, ?_, ?_, ?_⟩
  · intro j hj
    have := World.cell?_alloc_mark W.drew (Conv.runesFrom s s.size 0 #[] ++ Array.replicate (grownCap W (runes s.data.toList).length 0 21 - (runes s.data.toList).length) (.int .i32 0)) 21 (0, 0) j
    have e : (W.drew).heap.size = W.heap.size := rfl
    rw [e] at this
    rw [this, Array.getElem?_append_left (by rw [hsz]; exact hj), runesFrom_runes]
    simp [List.getD, List.getElem?_eq_getElem hj]
  · intro j
    have := World.frozen?_alloc_new W.drew (Conv.runesFrom s s.size 0 #[] ++ Array.replicate (grownCap W (runes s.data.toList).length 0 21 - (runes s.data.toList).length) (.int .i32 0)) 21 j
    exact this
  · refine ⟨_, heap_alloc_new W.drew _, ?_⟩
    rw [Array.size_append, hsz]
    omega
/-- 'string(rs)' of a row of runes. -/
theorem conv_text (W : World) (B off len cap : Nat) (zs : List Int) (hl : zs.length = len) (hc : ∀ j, j < len → W.cell? ⟨B, off + j, none⟩ = some (.int .i32 (zs.getD j 0))) (S : ByteArray) (hS : S = runesBytes zs) :
    (convert 30 9 (.slice (some ⟨B, off, none⟩) len cap)).run Tryd.prog W = .ok (.string S) W := by
  have h := run_convert_runes (P := Tryd.prog) W 30 9 21 ⟨B, off, none⟩ len cap zs (by omega) Tryd.underlying30 Tryd.underlying21 Tryd.underlying9 (fun j hj => by
    have := hc j (by omega)
    by_cases h0 : j = 0
    · subst h0
      simpa [Addr.add] using this
    · simpa [Addr.add, h0] using this)
  rw [h, hS, ← hl, List.take_length]
end Go.Proofs.YtgenkmihbnkakaaDoor
