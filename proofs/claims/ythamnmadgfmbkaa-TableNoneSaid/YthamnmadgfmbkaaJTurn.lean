/- One operation, or two one behind the other, of a region that draws its order turn the world: what holds ahead, between, behind. No conditions; no program. -/
import Derived.Test.YthamnmadgfmbkaaChain
import Derived.Test.YthamnmadgfmbkaaRunBin
set_option linter.unusedVariables false
set_option linter.unusedSimpArgs false
namespace Go.Proofs.Ythamnmadgfmbkaa
open Go Go.RowKit

structure JT (WD : World) (Q1 Q2 : World → Prop) (fs : List Bool) (vs : List Value) (W : World) : Prop where
  below : fs.getD 0 false = false → Below WD.heap.size WD W
  one : fs.getD 0 false = true → fs.getD 1 false = false → Q1 W
  two : fs.getD 1 false = true → Q2 W
section
variable {WD W W' : World} {Q1 Q2 : World → Prop} {fs : List Bool} {vs vs' : List Value}
theorem JT.later (h1 : ∀ W W', Q1 W → Later W W' → Q1 W') (h2 : ∀ W W', Q2 W → Later W W' → Q2 W') (h : JT WD Q1 Q2 fs vs W) (hl : Later W W') : JT WD Q1 Q2 fs vs W' :=
  ⟨fun e => below_chain (h.below e) hl, fun e e' => h1 _ _ (h.one e e') hl, fun e => h2 _ _ (h.two e) hl⟩
theorem JT.start1 : JT WD Q1 Q2 [false] vs WD := ⟨fun _ => Below.refl _ _, fun e => (by cases e), fun e => (by cases e)⟩
theorem JT.start2 : JT WD Q1 Q2 [false, false] vs WD := ⟨fun _ => Below.refl _ _, fun e => (by cases e), fun e => (by cases e)⟩
theorem JT.first (hl : 0 < fs.length) (f1 : fs.getD 1 false = false) (h : Q1 W) : JT WD Q1 Q2 (fs.set 0 true) vs W := by
  refine ⟨fun e => ?_, fun _ _ => h, fun e => ?_⟩
  · rw [gs_self hl] at e; cases e
  · rw [gs_ne (by decide), f1] at e; cases e
theorem JT.second (hl : 1 < fs.length) (f0 : fs.getD 0 false = true) (h : Q2 W) : JT WD Q1 Q2 (fs.set 1 true) vs W := by
  refine ⟨fun e => ?_, fun _ e => ?_, fun _ => h⟩
  · rw [gs_ne (by decide), f0] at e; cases e
  · rw [gs_self hl] at e; cases e
end
end Go.Proofs.Ythamnmadgfmbkaa
