/- Within a region that draws its order: append(append(append(nil, l[:k]...), x), l[k:]...) stored through a pointer; append(append(nil, l[:k]...), l[k+1:]...) the same: which of these are done, what the slots hold. Rows of any kind. No conditions. -/
import Derived.Test.YthamnmadgfmbkaaRunBin
import Derived.Test.YthamnmadgfmbkaaChain
import Derived.Test.YthamnmadgfmbkaaTurn
set_option linter.unusedVariables false
set_option linter.unusedSimpArgs false
namespace Go.Proofs.Ythamnmadgfmbkaa
open Go.RowKit

/-- What a store through a pointer left. -/
structure PutK {α : Type} (K : Kind α) (WD : World) (g m : Nat) (l : List α) (W : World) : Prop where
  ex : ∃ A c W3, K.Row W3 WD.heap.size A m c l ∧ Below WD.heap.size WD W3 ∧ Below (W3.setCell ⟨g, 0, none⟩ (.slice A m c)).heap.size (W3.setCell ⟨g, 0, none⟩ (.slice A m c)) W
theorem PutK.later {α : Type} {K : Kind α} {WD W W' : World} {g m : Nat} {l : List α} (h : PutK K WD g m l W) (hl : Later W W') : PutK K WD g m l W' := by
  obtain ⟨A, c, W3, h1, h2, h3⟩ := h.ex
  exact ⟨A, c, W3, h1, h2, below_chain h3 hl⟩
/-- fs: first append, the one laid, second, third, the store; vs: the slots of the first four. -/
structure InsK {α : Type} (K : Kind α) (WD : World) (g k m : Nat) (l : List α) (x : α) (fs : List Bool) (vs : List Value) (W : World) : Prop where
  lf : fs.length = 5
  lv : vs.length = 4
  below : fs.getD 4 false = false → Below WD.heap.size WD W
  lit : fs.getD 1 false = true → fs.getD 2 false = false → ∃ gb, vs.getD 1 undef = .slice (some ⟨gb, 0, none⟩) 1 1 ∧ K.Lie W W.heap.size (some ⟨gb, 0, none⟩) 1 [x]
  a1 : fs.getD 0 false = true → fs.getD 2 false = false → ∃ A c, vs.getD 0 undef = .slice A k c ∧ K.Row W WD.heap.size A k c (l.take k)
  a2 : fs.getD 2 false = true → fs.getD 3 false = false → ∃ A c, vs.getD 2 undef = .slice A (k + 1) c ∧ K.Row W WD.heap.size A (k + 1) c (l.take k ++ [x])
  a3 : fs.getD 3 false = true → fs.getD 4 false = false → ∃ A c, vs.getD 3 undef = .slice A (m + 1) c ∧ K.Row W WD.heap.size A (m + 1) c ((l.take k ++ [x]) ++ l.drop k)
  put : fs.getD 4 false = true → PutK K WD g (m + 1) ((l.take k ++ [x]) ++ l.drop k) W
section
variable {α : Type} {K : Kind α} {WD W W' : World} {g k m : Nat} {l : List α} {x : α} {fs : List Bool} {vs : List Value}
theorem InsK.later (h : InsK K WD g k m l x fs vs W) (hl : Later W W') : InsK K WD g k m l x fs vs W' :=
  ⟨h.lf, h.lv, fun e => below_chain (h.below e) hl, fun h1 h2 => by
    obtain ⟨gb, h3, h4⟩ := h.lit h1 h2
    exact ⟨gb, h3, h4.since hl⟩, fun h1 h2 => by
    obtain ⟨A, c, h3, h4⟩ := h.a1 h1 h2
    exact ⟨A, c, h3, h4.since hl⟩, fun h1 h2 => by
    obtain ⟨A, c, h3, h4⟩ := h.a2 h1 h2
    exact ⟨A, c, h3, h4.since hl⟩, fun h1 h2 => by
    obtain ⟨A, c, h3, h4⟩ := h.a3 h1 h2
    exact ⟨A, c, h3, h4.since hl⟩, fun h1 => (h.put h1).later hl⟩
theorem InsK.first (h : InsK K WD g k m l x fs vs W) (h2 : fs.getD 2 false = false) (h3 : fs.getD 3 false = false) (h4 : fs.getD 4 false = false) {A : Option Addr} {c : Nat} (hA : K.Lie WD WD.heap.size A k (l.take k)) (hk : k ≤ 8000) :
    ∃ A2 c2 W2, (Builtin.append_ #[K.L, K.L] K.L #[.slice none 0 0, .slice A k c]).run Try.prog W = .ok (.slice A2 k c2) W2 ∧ InsK K WD g k m l x (fs.set 0 true) (vs.set 0 (.slice A2 k c2)) W2 := by
  have lf := h.lf
  have lv := h.lv
  have hbl := h.below h4
  obtain ⟨A2, c2, W2, hr, ho, hg⟩ := Kind.append_b (K := K) (base := WD.heap.size) (c' := c) hbl.size (Kind.Row.none_ (K := K)) ((hA.below hbl).wider hbl.size) (by omega)
  rw [Nat.zero_add] at hr ho
  have hl : Later W W2 := (Below.refl _ _).grown hg (Nat.le_refl _) (fun b hb => by cases hb)
  have h' := h.later hl
  refine ⟨A2, c2, W2, hr, by simpa using lf, by simpa using lv, fun e => h'.below h4, fun e1 e2 => ?_, fun _ _ => ⟨A2, c2, gs_self (by omega), by simpa using ho⟩, fun e1 e2 => ?_, fun e1 e2 => ?_, fun e1 => ?_⟩
  · rw [gs_ne (by decide)] at e1 e2; rw [gs_ne (by decide)]; exact h'.lit e1 e2
  · rw [gs_ne (by decide), h2] at e1; cases e1
  · rw [gs_ne (by decide), h3] at e1; cases e1
  · rw [gs_ne (by decide), h4] at e1; cases e1
theorem InsK.build (h : InsK K WD g k m l x fs vs W) (h2 : fs.getD 2 false = false) (h3 : fs.getD 3 false = false) (h4 : fs.getD 4 false = false) (hx : K.wf x) (cs : Array Value) (hcs : cs = (K.cv x).toArray) : InsK K WD g k m l x (fs.set 1 true) (vs.set 1 (.slice (some ⟨W.heap.size, 0, none⟩) 1 1)) (W.alloc (.cells cs K.T)) := by
  have lf := h.lf
  have lv := h.lv
  have h' := h.later ((Below.refl _ _).alloc (Nat.le_refl _) (.cells cs K.T))
  refine ⟨by simpa using lf, by simpa using lv, fun e => h'.below h4, fun _ _ => ⟨W.heap.size, gs_self (by omega), Kind.new1 (K := K) W x hx cs hcs⟩, fun e1 e2 => ?_, fun e1 e2 => ?_, fun e1 e2 => ?_, fun e1 => ?_⟩
  · rw [gs_ne (by decide)] at e1 e2; rw [gs_ne (by decide)]; exact h'.a1 e1 e2
  · rw [gs_ne (by decide), h2] at e1; cases e1
  · rw [gs_ne (by decide), h3] at e1; cases e1
  · rw [gs_ne (by decide), h4] at e1; cases e1
theorem InsK.second (h : InsK K WD g k m l x fs vs W) (h0 : fs.getD 0 false = true) (h1 : fs.getD 1 false = true) (h2 : fs.getD 2 false = false) (h3 : fs.getD 3 false = false) (h4 : fs.getD 4 false = false) (hk : k + 1 ≤ 8000) :
    ∃ A2 c2 W2, (Builtin.append_ #[K.L, K.L] K.L #[vs.getD 0 undef, vs.getD 1 undef]).run Try.prog W = .ok (.slice A2 (k + 1) c2) W2 ∧ InsK K WD g k m l x (fs.set 2 true) (vs.set 2 (.slice A2 (k + 1) c2)) W2 := by
  have lf := h.lf
  have lv := h.lv
  have hbl := h.below h4
  obtain ⟨A, c, e1, r1⟩ := h.a1 h0 h2
  obtain ⟨gb, e2, r2⟩ := h.lit h1 h2
  obtain ⟨A2, c2, W2, hr, ho, hg⟩ := Kind.append_b (K := K) (base := WD.heap.size) (c' := 1) hbl.size r1 r2 hk
  have hb : Below WD.heap.size WD W2 := hbl.grown hg hbl.size fun b hb => (r1.row.lt b hb).1
  refine ⟨A2, c2, W2, by rw [e1, e2]; exact hr, by simpa using lf, by simpa using lv, fun _ => hb, fun _ e => ?_, fun _ e => ?_, fun _ _ => ⟨A2, c2, gs_self (by omega), ho⟩, fun e _ => ?_, fun e => ?_⟩
  · rw [gs_self (by omega)] at e; cases e
  · rw [gs_self (by omega)] at e; cases e
  · rw [gs_ne (by decide), h3] at e; cases e
  · rw [gs_ne (by decide), h4] at e; cases e
theorem InsK.third (h : InsK K WD g k m l x fs vs W) (h2 : fs.getD 2 false = true) (h3 : fs.getD 3 false = false) (h4 : fs.getD 4 false = false) {A : Option Addr} {c : Nat} (hkm : k ≤ m) (hA : K.Lie WD WD.heap.size A (m - k) (l.drop k)) (hm : m + 1 ≤ 8000) :
    ∃ A2 c2 W2, (Builtin.append_ #[K.L, K.L] K.L #[vs.getD 2 undef, .slice A (m - k) c]).run Try.prog W = .ok (.slice A2 (m + 1) c2) W2 ∧ InsK K WD g k m l x (fs.set 3 true) (vs.set 3 (.slice A2 (m + 1) c2)) W2 := by
  have lf := h.lf
  have lv := h.lv
  have hbl := h.below h4
  obtain ⟨A1, c1, e1, r1⟩ := h.a2 h2 h3
  obtain ⟨A2, c2, W2, hr, ho, hg⟩ := Kind.append_b (K := K) (base := WD.heap.size) (c' := c) hbl.size r1 ((hA.below hbl).wider hbl.size) (by omega)
  rw [show k + 1 + (m - k) = m + 1 by omega] at hr ho
  have hb : Below WD.heap.size WD W2 := hbl.grown hg hbl.size fun b hb => (r1.row.lt b hb).1
  refine ⟨A2, c2, W2, by rw [e1]; exact hr, by simpa using lf, by simpa using lv, fun _ => hb, fun e1 e => ?_, fun e1 e => ?_, fun _ e => ?_, fun _ _ => ⟨A2, c2, gs_self (by omega), ho⟩, fun e => ?_⟩
  · rw [gs_ne (by decide), h2] at e; cases e
  · rw [gs_ne (by decide), h2] at e; cases e
  · rw [gs_self (by omega)] at e; cases e
  · rw [gs_ne (by decide), h4] at e; cases e
theorem InsK.store (h : InsK K WD g k m l x fs vs W) (h2 : fs.getD 2 false = true) (h3 : fs.getD 3 false = true) (h4 : fs.getD 4 false = false) : ∃ A c, vs.getD 3 undef = .slice A (m + 1) c ∧ InsK K WD g k m l x (fs.set 4 true) vs (W.setCell ⟨g, 0, none⟩ (.slice A (m + 1) c)) := by
  have lf := h.lf
  obtain ⟨A, c, e1, r1⟩ := h.a3 h3 h4
  refine ⟨A, c, e1, by simpa using lf, h.lv, fun e => ?_, fun _ e => ?_, fun _ e => ?_, fun _ e => ?_, fun _ e => ?_, fun _ => ⟨A, c, W, r1, h.below h4, Below.refl _ _⟩⟩
  · rw [gs_self (by omega)] at e; cases e
  · rw [gs_ne (by decide), h2] at e; cases e
  · rw [gs_ne (by decide), h2] at e; cases e
  · rw [gs_ne (by decide), h3] at e; cases e
  · rw [gs_self (by omega)] at e; cases e
theorem InsK.start (hv : vs.length = 4) : InsK K WD g k m l x [false, false, false, false, false] vs WD :=
  ⟨rfl, hv, fun _ => Below.refl _ _, fun e => (by cases e), fun e => (by cases e), fun e => (by cases e), fun e => (by cases e), fun e => (by cases e)⟩
end
/-- fs: first append, second, the store; vs: the slots of the first two. -/
structure DelK {α : Type} (K : Kind α) (WD : World) (g k m : Nat) (l : List α) (fs : List Bool) (vs : List Value) (W : World) : Prop where
  lf : fs.length = 3
  lv : vs.length = 2
  below : fs.getD 2 false = false → Below WD.heap.size WD W
  a1 : fs.getD 0 false = true → fs.getD 1 false = false → ∃ A c, vs.getD 0 undef = .slice A k c ∧ K.Row W WD.heap.size A k c (l.take k)
  a3 : fs.getD 1 false = true → fs.getD 2 false = false → ∃ A c, vs.getD 1 undef = .slice A (m - 1) c ∧ K.Row W WD.heap.size A (m - 1) c (l.take k ++ l.drop (k + 1))
  put : fs.getD 2 false = true → PutK K WD g (m - 1) (l.take k ++ l.drop (k + 1)) W
section
variable {α : Type} {K : Kind α} {WD W W' : World} {g k m : Nat} {l : List α} {fs : List Bool} {vs : List Value}
theorem DelK.later (h : DelK K WD g k m l fs vs W) (hl : Later W W') : DelK K WD g k m l fs vs W' :=
  ⟨h.lf, h.lv, fun e => below_chain (h.below e) hl, fun h1 h2 => by
    obtain ⟨A, c, h3, h4⟩ := h.a1 h1 h2
    exact ⟨A, c, h3, h4.since hl⟩, fun h1 h2 => by
    obtain ⟨A, c, h3, h4⟩ := h.a3 h1 h2
    exact ⟨A, c, h3, h4.since hl⟩, fun h1 => (h.put h1).later hl⟩
theorem DelK.first (h : DelK K WD g k m l fs vs W) (h3 : fs.getD 1 false = false) (h4 : fs.getD 2 false = false) {A : Option Addr} {c : Nat} (hA : K.Lie WD WD.heap.size A k (l.take k)) (hk : k ≤ 8000) :
    ∃ A2 c2 W2, (Builtin.append_ #[K.L, K.L] K.L #[.slice none 0 0, .slice A k c]).run Try.prog W = .ok (.slice A2 k c2) W2 ∧ DelK K WD g k m l (fs.set 0 true) (vs.set 0 (.slice A2 k c2)) W2 := by
  have lf := h.lf
  have lv := h.lv
  have hbl := h.below h4
  obtain ⟨A2, c2, W2, hr, ho, hg⟩ := Kind.append_b (K := K) (base := WD.heap.size) (c' := c) hbl.size (Kind.Row.none_ (K := K)) ((hA.below hbl).wider hbl.size) (by omega)
  rw [Nat.zero_add] at hr ho
  have hl : Later W W2 := (Below.refl _ _).grown hg (Nat.le_refl _) (fun b hb => by cases hb)
  have h' := h.later hl
  refine ⟨A2, c2, W2, hr, by simpa using lf, by simpa using lv, fun e => h'.below h4, fun _ _ => ⟨A2, c2, gs_self (by omega), by simpa using ho⟩, fun e1 e2 => ?_, fun e1 => ?_⟩
  · rw [gs_ne (by decide), h3] at e1; cases e1
  · rw [gs_ne (by decide), h4] at e1; cases e1
theorem DelK.second (h : DelK K WD g k m l fs vs W) (h2 : fs.getD 0 false = true) (h3 : fs.getD 1 false = false) (h4 : fs.getD 2 false = false) {A : Option Addr} {c n : Nat} (hn : k + n = m - 1) (hA : K.Lie WD WD.heap.size A n (l.drop (k + 1))) (hm : m ≤ 8000) :
    ∃ A2 c2 W2, (Builtin.append_ #[K.L, K.L] K.L #[vs.getD 0 undef, .slice A n c]).run Try.prog W = .ok (.slice A2 (m - 1) c2) W2 ∧ DelK K WD g k m l (fs.set 1 true) (vs.set 1 (.slice A2 (m - 1) c2)) W2 := by
  have lf := h.lf
  have lv := h.lv
  have hbl := h.below h4
  obtain ⟨A1, c1, e1, r1⟩ := h.a1 h2 h3
  obtain ⟨A2, c2, W2, hr, ho, hg⟩ := Kind.append_b (K := K) (base := WD.heap.size) (c' := c) hbl.size r1 ((hA.below hbl).wider hbl.size) (by omega)
  rw [hn] at hr ho
  have hb : Below WD.heap.size WD W2 := hbl.grown hg hbl.size fun b hb => (r1.row.lt b hb).1
  refine ⟨A2, c2, W2, by rw [e1]; exact hr, by simpa using lf, by simpa using lv, fun _ => hb, fun _ e => ?_, fun _ _ => ⟨A2, c2, gs_self (by omega), ho⟩, fun e => ?_⟩
  · rw [gs_self (by omega)] at e; cases e
  · rw [gs_ne (by decide), h4] at e; cases e
theorem DelK.store (h : DelK K WD g k m l fs vs W) (h3 : fs.getD 1 false = true) (h4 : fs.getD 2 false = false) : ∃ A c, vs.getD 1 undef = .slice A (m - 1) c ∧ DelK K WD g k m l (fs.set 2 true) vs (W.setCell ⟨g, 0, none⟩ (.slice A (m - 1) c)) := by
  have lf := h.lf
  obtain ⟨A, c, e1, r1⟩ := h.a3 h3 h4
  refine ⟨A, c, e1, by simpa using lf, h.lv, fun e => ?_, fun _ e => ?_, fun _ e => ?_, fun _ => ⟨A, c, W, r1, h.below h4, Below.refl _ _⟩⟩
  · rw [gs_self (by omega)] at e; cases e
  · rw [gs_ne (by decide), h3] at e; cases e
  · rw [gs_self (by omega)] at e; cases e
theorem DelK.start (hv : vs.length = 2) : DelK K WD g k m l [false, false, false] vs WD :=
  ⟨rfl, hv, fun _ => Below.refl _ _, fun e => (by cases e), fun e => (by cases e), fun e => (by cases e)⟩
end
end Go.Proofs.Ythamnmadgfmbkaa
