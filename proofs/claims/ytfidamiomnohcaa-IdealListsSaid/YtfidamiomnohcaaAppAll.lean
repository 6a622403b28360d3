/- append(row, other...): a row that lies apart from an object grows by a list. Conditions: at most 8000 elements. -/
import Derived.Test.YtfidamiomnohcaaMoves
set_option linter.unusedVariables false
set_option linter.unusedSimpArgs false
set_option maxRecDepth 20000
namespace Go.Proofs.Ytfidamiomnohcaa
open Go.RowKit

theorem RestK.append_all {α : Type} {K : Kind α} {fp : Nat → Prop} {w : World} {base n c m c' : Nat} {A A' : Option Addr} {vs us : List α} (h : RestK K fp w base A n c vs) (hA : K.Lie w w.heap.size A' m us) (hb : base ≤ w.heap.size) (hf : ∀ b, fp b → b < w.heap.size) (hn : n + m ≤ 8000) :
    ∃ A2 c2 W2, (Builtin.append_ #[K.L, K.L] K.L #[.slice A n c, .slice A' m c']).run Try.prog w = .ok (.slice A2 (n + m) c2) W2 ∧ RestK K fp W2 base A2 (n + m) c2 (vs ++ us) ∧ Turn (fun b => b ∈ blk A) w W2 := by
  obtain ⟨A2, c2, W2, h1, h2, h3⟩ := Kind.append_b (c' := c') hb h.row hA hn
  have h4 := Kind.append_at (c' := c') h.row hA hn h1
  have hbk : ∀ {A : Option Addr} {n c b : Nat}, (Value.slice A n c).ownBlock = some b → b ∈ blk A := fun {A n c b} e => by
    cases A with
    | none => cases e
    | some a => simp [blk]; simpa [Value.ownBlock] using e.symm
  refine ⟨A2, c2, W2, h1, ⟨h2, fun b hb2 hfb => ?_⟩, Turn.of_grown h3 fun b e => hbk e⟩
  rcases h2.row.2 with ⟨hv2, _⟩ | ⟨g, cap, cur, hv2, _⟩
  · injection hv2 with e1; rw [e1] at hb2; cases hb2
  · injection hv2 with e1
    rw [e1] at hb2
    have e2 : b = g := by simpa [blk] using hb2
    rcases h4 b (by rw [e1, e2]; rfl) with h5 | h5
    · exact h.safe b (hbk h5) hfb
    · have := hf b hfb; omega
end Go.Proofs.Ytfidamiomnohcaa
