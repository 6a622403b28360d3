/- Within a region that draws its order: l = append(l, x); l = append(append(nil, s...), t...): which of these are done, what the slots hold. Rows of any kind. No conditions. -/
import Derived.Test.YtfidamiomnohcaaRunBin
import Derived.Test.YtfidamiomnohcaaChain
import Derived.Test.YtfidamiomnohcaaTurn
set_option linter.unusedVariables false
set_option linter.unusedSimpArgs false
set_option maxRecDepth 20000
namespace Go.Proofs.Ytfidamiomnohcaa
open Go.RowKit

/-- fs: the one laid, the append, what is laid into the variable. -/
structure AppA {α : Type} (K : Kind α) (B : Nat) (WD : World) (base m : Nat) (l : List α) (x : α) (fs : List Bool) (vs : List Value) (W : World) : Prop where
  lf : fs.length = 3
  lv : vs.length = 3
  early : fs.getD 1 false = false → Below WD.heap.size WD W
  lit : fs.getD 0 false = true → fs.getD 1 false = false → ∃ gb, vs.getD 0 undef = .slice (some ⟨gb, 0, none⟩) 1 1 ∧ K.Lie W W.heap.size (some ⟨gb, 0, none⟩) 1 [x]
  app : fs.getD 1 false = true → ∃ A c, vs.getD 1 undef = .slice A (m + 1) c ∧ K.Row W base A (m + 1) c (l ++ [x])
  asg : fs.getD 2 false = true → vs.getD 2 undef = vs.getD 1 undef
  old : Below B WD W
  wide : WD.heap.size ≤ W.heap.size
section
variable {α : Type} {K : Kind α} {B base m : Nat} {WD W W' : World} {l : List α} {x : α} {fs : List Bool} {vs : List Value}
theorem AppA.later (hB : B ≤ WD.heap.size) (h : AppA K B WD base m l x fs vs W) (hl : Later W W') : AppA K B WD base m l x fs vs W' :=
  ⟨h.lf, h.lv, fun e => below_chain (h.early e) hl, fun h1 h2 => by
    obtain ⟨gb, h3, h4⟩ := h.lit h1 h2
    exact ⟨gb, h3, h4.since hl⟩, fun h1 => by
    obtain ⟨A, c, h3, h4⟩ := h.app h1
    exact ⟨A, c, h3, h4.since hl⟩, h.asg, h.old.trans (hl.mono (Nat.le_trans hB h.wide)), Nat.le_trans h.wide hl.size⟩
theorem AppA.build (hB : B ≤ WD.heap.size) (h : AppA K B WD base m l x fs vs W) (h1 : fs.getD 1 false = false) (hx : K.wf x) (cs : Array Value) (hcs : cs = (K.cv x).toArray) : AppA K B WD base m l x (fs.set 0 true) (vs.set 0 (.slice (some ⟨W.heap.size, 0, none⟩) 1 1)) (W.alloc (.cells cs K.T)) := by
  have lf := h.lf
  have lv := h.lv
  have h' := h.later hB ((Below.refl _ _).alloc (Nat.le_refl _) (.cells cs K.T))
  refine ⟨by simpa using lf, by simpa using lv, fun _ => h'.early h1, fun _ _ => ⟨W.heap.size, gs_self (by omega), Kind.new1 (K := K) W x hx cs hcs⟩, fun e => ?_, fun e => ?_, h'.old, h'.wide⟩
  · rw [gs_ne (by decide)] at e; rw [gs_ne (by decide)]; exact h'.app e
  · rw [gs_ne (by decide)] at e; rw [gs_ne (by decide), gs_ne (by decide)]; exact h'.asg e
theorem AppA.append {A : Option Addr} {c : Nat} (hB : B ≤ base) (hb : base ≤ WD.heap.size) (h : AppA K B WD base m l x fs vs W) (h0 : fs.getD 0 false = true) (h1 : fs.getD 1 false = false) (h2 : fs.getD 2 false = false) (hrow : K.Row WD base A m c l) (hm : m + 1 ≤ 8000) :
    ∃ A2 c2 W2, (Builtin.append_ #[K.L, K.L] K.L #[.slice A m c, vs.getD 0 undef]).run Try.prog W = .ok (.slice A2 (m + 1) c2) W2 ∧ AppA K B WD base m l x (fs.set 1 true) (vs.set 1 (.slice A2 (m + 1) c2)) W2 := by
  have lf := h.lf
  have lv := h.lv
  obtain ⟨gb, e1, r1⟩ := h.lit h0 h1
  have hrow' := hrow.since (h.early h1)
  obtain ⟨A2, c2, W2, hr, ho, hg⟩ := Kind.append_b (K := K) (base := base) (c' := 1) (Nat.le_trans hb h.wide) hrow' r1 hm
  have hbl : Below B WD W2 := h.old.grown hg (Nat.le_trans hB (Nat.le_trans hb h.wide)) fun b hb' => Nat.le_trans hB (hrow'.row.lt b hb').1
  refine ⟨A2, c2, W2, by rw [e1]; exact hr, by simpa using lf, by simpa using lv, fun e => ?_, fun _ e => ?_, fun _ => ⟨A2, c2, gs_self (by omega), ho⟩, fun e => ?_, hbl, Nat.le_trans h.wide hg.size⟩
  · rw [gs_self (by omega)] at e; cases e
  · rw [gs_self (by omega)] at e; cases e
  · rw [gs_ne (by decide), h2] at e; cases e
theorem AppA.assign (h : AppA K B WD base m l x fs vs W) : AppA K B WD base m l x (fs.set 2 true) (vs.set 2 (vs.getD 1 undef)) W := by
  have lf := h.lf
  have lv := h.lv
  refine ⟨by simpa using lf, by simpa using lv, fun e => ?_, fun e1 e2 => ?_, fun e => ?_, fun _ => by rw [gs_self (by omega), gs_ne (by decide)], h.old, h.wide⟩
  · rw [gs_ne (by decide)] at e; exact h.early e
  · rw [gs_ne (by decide)] at e1 e2; rw [gs_ne (by decide)]; exact h.lit e1 e2
  · rw [gs_ne (by decide)] at e; rw [gs_ne (by decide)]; exact h.app e
theorem AppA.start (hv : vs.length = 3) : AppA K B WD base m l x [false, false, false] vs WD :=
  ⟨rfl, hv, fun _ => Below.refl _ _, fun e => (by cases e), fun e => (by cases e), fun e => (by cases e), Below.refl _ _, Nat.le_refl _⟩
end
/-- fs: the first append, the second one, what is laid into the variable. -/
structure CatA {α : Type} (K : Kind α) (WD : World) (n m : Nat) (l1 l2 : List α) (fs : List Bool) (vs : List Value) (W : World) : Prop where
  lf : fs.length = 3
  lv : vs.length = 3
  below : Below WD.heap.size WD W
  a1 : fs.getD 0 false = true → fs.getD 1 false = false → ∃ A c, vs.getD 0 undef = .slice A n c ∧ K.Row W WD.heap.size A n c l1
  a2 : fs.getD 1 false = true → ∃ A c, vs.getD 1 undef = .slice A (n + m) c ∧ K.Row W WD.heap.size A (n + m) c (l1 ++ l2)
  asg : fs.getD 2 false = true → vs.getD 2 undef = vs.getD 1 undef
section
variable {α : Type} {K : Kind α} {n m : Nat} {WD W W' : World} {l1 l2 : List α} {fs : List Bool} {vs : List Value}
theorem CatA.later (h : CatA K WD n m l1 l2 fs vs W) (hl : Later W W') : CatA K WD n m l1 l2 fs vs W' :=
  ⟨h.lf, h.lv, below_chain h.below hl, fun h1 h2 => by
    obtain ⟨A, c, h3, h4⟩ := h.a1 h1 h2
    exact ⟨A, c, h3, h4.since hl⟩, fun h1 => by
    obtain ⟨A, c, h3, h4⟩ := h.a2 h1
    exact ⟨A, c, h3, h4.since hl⟩, h.asg⟩
theorem CatA.first (h : CatA K WD n m l1 l2 fs vs W) (h1 : fs.getD 1 false = false) (h2 : fs.getD 2 false = false) {A : Option Addr} {c : Nat} (hA : K.Lie WD WD.heap.size A n l1) (hn : n ≤ 8000) :
    ∃ A2 c2 W2, (Builtin.append_ #[K.L, K.L] K.L #[.slice none 0 0, .slice A n c]).run Try.prog W = .ok (.slice A2 n c2) W2 ∧ CatA K WD n m l1 l2 (fs.set 0 true) (vs.set 0 (.slice A2 n c2)) W2 := by
  have lf := h.lf
  have lv := h.lv
  obtain ⟨A2, c2, W2, hr, ho, hg⟩ := Kind.append_b (K := K) (base := WD.heap.size) (c' := c) h.below.size (Kind.Row.none_ (K := K)) ((hA.below h.below).wider h.below.size) (by omega)
  rw [Nat.zero_add] at hr ho
  have hl : Later W W2 := (Below.refl _ _).grown hg (Nat.le_refl _) (fun b hb => by cases hb)
  have h' := h.later hl
  refine ⟨A2, c2, W2, hr, by simpa using lf, by simpa using lv, h'.below, fun _ _ => ⟨A2, c2, gs_self (by omega), by simpa using ho⟩, fun e => ?_, fun e => ?_⟩
  · rw [gs_ne (by decide), h1] at e; cases e
  · rw [gs_ne (by decide), h2] at e; cases e
theorem CatA.second (h : CatA K WD n m l1 l2 fs vs W) (h0 : fs.getD 0 false = true) (h1 : fs.getD 1 false = false) (h2 : fs.getD 2 false = false) {A : Option Addr} {c : Nat} (hA : K.Lie WD WD.heap.size A m l2) (hn : n + m ≤ 8000) :
    ∃ A2 c2 W2, (Builtin.append_ #[K.L, K.L] K.L #[vs.getD 0 undef, .slice A m c]).run Try.prog W = .ok (.slice A2 (n + m) c2) W2 ∧ CatA K WD n m l1 l2 (fs.set 1 true) (vs.set 1 (.slice A2 (n + m) c2)) W2 := by
  have lf := h.lf
  have lv := h.lv
  obtain ⟨A1, c1, e1, r1⟩ := h.a1 h0 h1
  obtain ⟨A2, c2, W2, hr, ho, hg⟩ := Kind.append_b (K := K) (base := WD.heap.size) (c' := c) h.below.size r1 ((hA.below h.below).wider h.below.size) hn
  have hb : Below WD.heap.size WD W2 := h.below.grown hg h.below.size fun b hb => (r1.row.lt b hb).1
  refine ⟨A2, c2, W2, by rw [e1]; exact hr, by simpa using lf, by simpa using lv, hb, fun _ e => ?_, fun _ => ⟨A2, c2, gs_self (by omega), ho⟩, fun e => ?_⟩
  · rw [gs_self (by omega)] at e; cases e
  · rw [gs_ne (by decide), h2] at e; cases e
theorem CatA.assign (h : CatA K WD n m l1 l2 fs vs W) : CatA K WD n m l1 l2 (fs.set 2 true) (vs.set 2 (vs.getD 1 undef)) W := by
  have lf := h.lf
  have lv := h.lv
  refine ⟨by simpa using lf, by simpa using lv, h.below, fun e1 e2 => ?_, fun e => ?_, fun _ => by rw [gs_self (by omega), gs_ne (by decide)]⟩
  · rw [gs_ne (by decide)] at e1 e2; rw [gs_ne (by decide)]; exact h.a1 e1 e2
  · rw [gs_ne (by decide)] at e; rw [gs_ne (by decide)]; exact h.a2 e
theorem CatA.start (hv : vs.length = 3) : CatA K WD n m l1 l2 [false, false, false] vs WD :=
  ⟨rfl, hv, Below.refl _ _, fun e => (by cases e), fun e => (by cases e), fun e => (by cases e)⟩
end
end Go.Proofs.Ytfidamiomnohcaa
