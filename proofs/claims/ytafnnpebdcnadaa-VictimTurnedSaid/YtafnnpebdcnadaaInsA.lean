/- Within a region that draws its order: l = append(append(append(nil, l[:k]...), x), l[k:]...): which of these are done, what the slots hold. Rows of any kind. No conditions. -/
import Derived.Test.YtafnnpebdcnadaaRunBin
import Derived.Test.YtafnnpebdcnadaaChain
import Derived.Test.YtafnnpebdcnadaaTurn
set_option linter.unusedVariables false
set_option linter.unusedSimpArgs false
namespace Go.Proofs.Ytafnnpebdcnadaa
open Go.RowKit

/-- Nothing that was there has turned. -/
def LaterA (WD : World) (_ : List Bool) (_ : List Value) (W : World) : Prop := Below WD.heap.size WD W
theorem laterA_later {WD : World} (fs : List Bool) (vs : List Value) (x y : World) (h : LaterA WD fs vs x) (hl : Later x y) : LaterA WD fs vs y := below_chain h hl
/-- The three appends of one insertion. -/
structure InsA {α : Type} (K : Kind α) (WD : World) (k m : Nat) (l : List α) (x : α) (fs : List Bool) (vs : List Value) (W : World) : Prop where
  lf : fs.length = 5
  lv : vs.length = 5
  asg : fs.getD 4 false = true → vs.getD 4 undef = vs.getD 3 undef
  below : Below WD.heap.size WD W
  lit : fs.getD 1 false = true → fs.getD 2 false = false → ∃ gb, vs.getD 1 undef = .slice (some ⟨gb, 0, none⟩) 1 1 ∧ K.Lie W W.heap.size (some ⟨gb, 0, none⟩) 1 [x]
  a1 : fs.getD 0 false = true → fs.getD 2 false = false → ∃ A c, vs.getD 0 undef = .slice A k c ∧ K.Row W WD.heap.size A k c (l.take k)
  a2 : fs.getD 2 false = true → fs.getD 3 false = false → ∃ A c, vs.getD 2 undef = .slice A (k + 1) c ∧ K.Row W WD.heap.size A (k + 1) c (l.take k ++ [x])
  a3 : fs.getD 3 false = true → ∃ A c, vs.getD 3 undef = .slice A (m + 1) c ∧ K.Row W WD.heap.size A (m + 1) c ((l.take k ++ [x]) ++ l.drop k)
section
variable {α : Type} {K : Kind α} {WD W W' : World} {k m : Nat} {l : List α} {x : α} {fs : List Bool} {vs : List Value}
theorem InsA.later (h : InsA K WD k m l x fs vs W) (hl : Later W W') : InsA K WD k m l x fs vs W' :=
  ⟨h.lf, h.lv, h.asg, below_chain h.below hl, fun h1 h2 => by
    obtain ⟨gb, h3, h4⟩ := h.lit h1 h2
    exact ⟨gb, h3, h4.since hl⟩, fun h1 h2 => by
    obtain ⟨A, c, h3, h4⟩ := h.a1 h1 h2
    exact ⟨A, c, h3, h4.since hl⟩, fun h1 h2 => by
    obtain ⟨A, c, h3, h4⟩ := h.a2 h1 h2
    exact ⟨A, c, h3, h4.since hl⟩, fun h1 => by
    obtain ⟨A, c, h3, h4⟩ := h.a3 h1
    exact ⟨A, c, h3, h4.since hl⟩⟩
theorem InsA.first (h : InsA K WD k m l x fs vs W) (h2 : fs.getD 2 false = false) {A : Option Addr} {c : Nat} (hA : K.Lie WD WD.heap.size A k (l.take k)) (hk : k ≤ 8000) :
    ∃ A2 c2 W2, (Builtin.append_ #[K.L, K.L] K.L #[.slice none 0 0, .slice A k c]).run Try.prog W = .ok (.slice A2 k c2) W2 ∧ InsA K WD k m l x (fs.set 0 true) (vs.set 0 (.slice A2 k c2)) W2 := by
  have lf := h.lf
  have lv := h.lv
  obtain ⟨A2, c2, W2, hr, ho, hg⟩ := Kind.append_b (K := K) (base := WD.heap.size) (c' := c) h.below.size (Kind.Row.none_ (K := K)) ((hA.below h.below).wider h.below.size) (by omega)
  rw [Nat.zero_add] at hr ho
  have hl : Later W W2 := (Below.refl _ _).grown hg (Nat.le_refl _) (fun b hb => by cases hb)
  have h' := h.later hl
  refine ⟨A2, c2, W2, hr, by simpa using lf, by simpa using lv, fun e => (by rw [gs_ne (by decide)] at e; rw [gs_ne (by decide), gs_ne (by decide)]; exact h.asg e), h'.below, fun e1 e2 => ?_, fun _ _ => ⟨A2, c2, gs_self (by omega), by simpa using ho⟩, fun e1 e2 => ?_, fun e1 => ?_⟩
  · rw [gs_ne (by decide)] at e1 e2; rw [gs_ne (by decide)]; exact h'.lit e1 e2
  · rw [gs_ne (by decide), h2] at e1; cases e1
  · rw [gs_ne (by decide)] at e1; rw [gs_ne (by decide)]; exact h'.a3 e1
theorem InsA.build (h : InsA K WD k m l x fs vs W) (h2 : fs.getD 2 false = false) (hx : K.wf x) (cs : Array Value) (hcs : cs = (K.cv x).toArray) : InsA K WD k m l x (fs.set 1 true) (vs.set 1 (.slice (some ⟨W.heap.size, 0, none⟩) 1 1)) (W.alloc (.cells cs K.T)) := by
  have lf := h.lf
  have lv := h.lv
  have h' := h.later ((Below.refl _ _).alloc (Nat.le_refl _) (.cells cs K.T))
  refine ⟨by simpa using lf, by simpa using lv, fun e => (by rw [gs_ne (by decide)] at e; rw [gs_ne (by decide), gs_ne (by decide)]; exact h.asg e), h'.below, fun _ _ => ⟨W.heap.size, gs_self (by omega), Kind.new1 (K := K) W x hx cs hcs⟩, fun e1 e2 => ?_, fun e1 e2 => ?_, fun e1 => ?_⟩
  · rw [gs_ne (by decide)] at e1 e2; rw [gs_ne (by decide)]; exact h'.a1 e1 e2
  · rw [gs_ne (by decide), h2] at e1; cases e1
  · rw [gs_ne (by decide)] at e1; rw [gs_ne (by decide)]; exact h'.a3 e1
theorem InsA.second (h : InsA K WD k m l x fs vs W) (h0 : fs.getD 0 false = true) (h1 : fs.getD 1 false = true) (h2 : fs.getD 2 false = false) (h3 : fs.getD 3 false = false) (hk : k + 1 ≤ 8000) :
    ∃ A2 c2 W2, (Builtin.append_ #[K.L, K.L] K.L #[vs.getD 0 undef, vs.getD 1 undef]).run Try.prog W = .ok (.slice A2 (k + 1) c2) W2 ∧ InsA K WD k m l x (fs.set 2 true) (vs.set 2 (.slice A2 (k + 1) c2)) W2 := by
  have lf := h.lf
  have lv := h.lv
  obtain ⟨A, c, e1, r1⟩ := h.a1 h0 h2
  obtain ⟨gb, e2, r2⟩ := h.lit h1 h2
  obtain ⟨A2, c2, W2, hr, ho, hg⟩ := Kind.append_b (K := K) (base := WD.heap.size) (c' := 1) h.below.size r1 r2 hk
  have hb : Below WD.heap.size WD W2 := h.below.grown hg h.below.size fun b hb => (r1.row.lt b hb).1
  refine ⟨A2, c2, W2, by rw [e1, e2]; exact hr, by simpa using lf, by simpa using lv, fun e => (by rw [gs_ne (by decide)] at e; rw [gs_ne (by decide), gs_ne (by decide)]; exact h.asg e), hb, fun _ e => ?_, fun _ e => ?_, fun _ _ => ⟨A2, c2, gs_self (by omega), ho⟩, fun e => ?_⟩
  · rw [gs_self (by omega)] at e; cases e
  · rw [gs_self (by omega)] at e; cases e
  · rw [gs_ne (by decide), h3] at e; cases e
theorem InsA.third (h : InsA K WD k m l x fs vs W) (h2 : fs.getD 2 false = true) (h3 : fs.getD 3 false = false) (h4 : fs.getD 4 false = false) {A : Option Addr} {c : Nat} (hkm : k ≤ m) (hA : K.Lie WD WD.heap.size A (m - k) (l.drop k)) (hm : m + 1 ≤ 8000) :
    ∃ A2 c2 W2, (Builtin.append_ #[K.L, K.L] K.L #[vs.getD 2 undef, .slice A (m - k) c]).run Try.prog W = .ok (.slice A2 (m + 1) c2) W2 ∧ InsA K WD k m l x (fs.set 3 true) (vs.set 3 (.slice A2 (m + 1) c2)) W2 := by
  have lf := h.lf
  have lv := h.lv
  obtain ⟨A1, c1, e1, r1⟩ := h.a2 h2 h3
  obtain ⟨A2, c2, W2, hr, ho, hg⟩ := Kind.append_b (K := K) (base := WD.heap.size) (c' := c) h.below.size r1 ((hA.below h.below).wider h.below.size) (by omega)
  rw [show k + 1 + (m - k) = m + 1 by omega] at hr ho
  have hb : Below WD.heap.size WD W2 := h.below.grown hg h.below.size fun b hb => (r1.row.lt b hb).1
  refine ⟨A2, c2, W2, by rw [e1]; exact hr, by simpa using lf, by simpa using lv, fun e => (by rw [gs_ne (by decide), h4] at e; cases e), hb, fun e1 e => ?_, fun e1 e => ?_, fun _ e => ?_, fun _ => ⟨A2, c2, gs_self (by omega), ho⟩⟩
  · rw [gs_ne (by decide), h2] at e; cases e
  · rw [gs_ne (by decide), h2] at e; cases e
  · rw [gs_self (by omega)] at e; cases e
theorem InsA.assign (h : InsA K WD k m l x fs vs W) : InsA K WD k m l x (fs.set 4 true) (vs.set 4 (vs.getD 3 undef)) W := by
  have lf := h.lf
  have lv := h.lv
  refine ⟨by simpa using lf, by simpa using lv, fun _ => by rw [gs_self (by omega), gs_ne (by decide)], h.below, fun e1 e2 => ?_, fun e1 e2 => ?_, fun e1 e2 => ?_, fun e1 => ?_⟩
  · rw [gs_ne (by decide)] at e1 e2; rw [gs_ne (by decide)]; exact h.lit e1 e2
  · rw [gs_ne (by decide)] at e1 e2; rw [gs_ne (by decide)]; exact h.a1 e1 e2
  · rw [gs_ne (by decide)] at e1 e2; rw [gs_ne (by decide)]; exact h.a2 e1 e2
  · rw [gs_ne (by decide)] at e1; rw [gs_ne (by decide)]; exact h.a3 e1
theorem InsA.start (hv : vs.length = 5) : InsA K WD k m l x [false, false, false, false, false] vs WD :=
  ⟨rfl, hv, fun e => (by cases e), Below.refl _ _, fun e => (by cases e), fun e => (by cases e), fun e => (by cases e), fun e => (by cases e)⟩
end
end Go.Proofs.Ytafnnpebdcnadaa
