/- Errors of the project's own kind, of whatever number: api.Code and the statements' Num of them. Conditions: the error's two cells; its number is above 0. -/
import Derived.Test.YtiojnpoefbnjoaaBase
set_option linter.unusedVariables false
set_option linter.unusedSimpArgs false
namespace Go.Proofs.Ytiojnpoefbnjoaa
open Go.RowKit

/-- What is known of an error of number k. -/
def Wrong (k : Int) (W : World) (v : Value) : Prop := ∃ g s, v = .iface 70 (.pointer (some ⟨g, 0, none⟩)) ∧ W.cell? ⟨g, 0, none⟩ = some (.int .i64 k) ∧ W.cell? ⟨g, 1, none⟩ = some (.string s)
theorem run_assert_own (v : Value) (w : World) : (Instr.typeAssert (.iface 70 v) 33 70 true).run Try.prog w = .ok (.tuple #[v, .bool true]) w := by
  simp [Instr.typeAssert, run_underlying Try.underlying70]
theorem code_wrong (k : Int) (v : Value) (w : World) (h : Wrong k w v) : Calls Try.prog 24 #[v] w fun e w' => e = .returned (.int .i64 k) ∧ w = w' := by
  obtain ⟨g, s, rfl, h0, h1⟩ := h
  have ha := run_assert_own (.pointer (some ⟨g, 0, none⟩)) w
  go_enter Try.func24, Try.ntmps24
  go_wp2
  go_ret
  exact ⟨rfl, rfl⟩
theorem num_wrong (k : Int) (hk : 1 ≤ k) (v : Value) (w : World) (h : Wrong k w v) : Calls Try.prog 9 #[v] w fun e w' => e = .returned (.int .i64 k) ∧ w = w' := by
  have HC := Lib.hid (code_wrong k v w h)
  obtain ⟨g, s, rfl, h0, h1⟩ := h
  clear h0 h1
  go_enter Try.func9, Try.ntmps9
  go_wp2_with fail
  refine HC.out.mono ?_
  rintro e W1 ⟨rfl, rfl⟩
  go_wp2_with fail
  refine HC.out.mono ?_
  rintro e W2 ⟨rfl, rfl⟩
  go_wp2_with fail
  go_ret
  exact ⟨rfl, rfl⟩
theorem Wrong.since {k : Int} {w w' : World} {v : Value} (h : Wrong k w v) (hb : Below w.heap.size w w') : Wrong k w' v := by
  obtain ⟨g, s, e, h0, h1⟩ := h
  exact ⟨g, s, e, (hb.cell (World.block_lt_of_cell? w _ h0)).trans h0, (hb.cell (World.block_lt_of_cell? w _ h1)).trans h1⟩
theorem Wrong.ne {k : Int} {w : World} {v : Value} (h : Wrong k w v) : ∃ x, v = .iface 70 x := by
  obtain ⟨g, s, e, _⟩ := h
  exact ⟨_, e⟩
end Go.Proofs.Ytiojnpoefbnjoaa
