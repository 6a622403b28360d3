/- Two rows, of one kind or of two, both appended to in one region that draws its order, and laid into their variables ('a, b = append(a, x), append(b, y)'). Conditions: the rows are two. -/
import Derived.Test.YtiojnpoefbnjoaaChain
set_option linter.unusedVariables false
set_option linter.unusedSimpArgs false
namespace Go.Proofs.Ytiojnpoefbnjoaa
open Go.RowKit

/-- What stands still, told once. -/
structure P2 {α β : Type} (K : Kind α) (M : Kind β) where
  WD : World
  base : Nat
  A1 : Option Addr
  n : Nat
  c1 : Nat
  us1 : List α
  e1 : α
  A2 : Option Addr
  m : Nat
  c2 : Nat
  us2 : List β
  e2 : β
structure P2.Ok {α β : Type} {K : Kind α} {M : Kind β} (t : P2 K M) : Prop where
  w1 : K.wf t.e1
  w2 : M.wf t.e2
  f1 : t.n + 1 ≤ 8000
  f2 : t.m + 1 ≤ 8000
  base : t.base ≤ t.WD.heap.size
/-- The blocks that turn. -/
def P2.set {α β : Type} {K : Kind α} {M : Kind β} (t : P2 K M) (b : Nat) : Prop := b ∈ blk t.A1 ∨ b ∈ blk t.A2
/-- Which is done: 0, 2: the element is laid; 1, 3: the row is appended to; 4, 5: it is laid into its variable. -/
structure ChJ {α β : Type} {K : Kind α} {M : Kind β} (t : P2 K M) (fs : List Bool) (vs : List Value) (W : World) : Prop where
  ok : t.Ok
  lf : fs.length = 6
  lv : vs.length = 6
  ex : ∃ f1 f2, Ch K t.base t.A1 t.n t.c1 t.us1 t.e1 (fs.getD 0 false) (fs.getD 1 false) (vs.getD 0 undef) (vs.getD 1 undef) f1 W ∧ Ch M t.base t.A2 t.m t.c2 t.us2 t.e2 (fs.getD 2 false) (fs.getD 3 false) (vs.getD 2 undef) (vs.getD 3 undef) f2 W ∧ Two f1 f2 ∧ (∀ b, f1 b → t.set b ∨ t.WD.heap.size ≤ b) ∧ (∀ b, f2 b → t.set b ∨ t.WD.heap.size ≤ b)
  s1 : fs.getD 4 false = true → vs.getD 4 undef = vs.getD 1 undef
  s2 : fs.getD 5 false = true → vs.getD 5 undef = vs.getD 3 undef
  turn : Turn t.set t.WD W
section
variable {α β : Type} {K : Kind α} {M : Kind β} {t : P2 K M} {fs : List Bool} {vs : List Value} {W W' : World}
theorem ChJ.later (h : ChJ t fs vs W) (hl : Later W W') : ChJ t fs vs W' := by
  obtain ⟨f1, f2, h1, h2, h3, g1, g2⟩ := h.ex
  exact ⟨h.ok, h.lf, h.lv, ⟨f1, f2, h1.later hl, h2.later hl, h3, g1, g2⟩, h.s1, h.s2, h.turn.trans (Turn.of_below (fp := fun _ => False) hl) fun b hb => hb.elim⟩
theorem ChJ.base_le (h : ChJ t fs vs W) : t.base ≤ W.heap.size := Nat.le_trans h.ok.base h.turn.size
theorem ChJ.start (hok : t.Ok) (hv : vs.length = 6) (h1 : K.Row t.WD t.base t.A1 t.n t.c1 t.us1) (h2 : M.Row t.WD t.base t.A2 t.m t.c2 t.us2) (hd : ∀ b ∈ blk t.A1, b ∉ blk t.A2) : ChJ t [false, false, false, false, false, false] vs t.WD :=
  ⟨hok, rfl, hv, ⟨_, _, Ch.start h1, Ch.start h2, hd, fun b hb => Or.inl (Or.inl hb), fun b hb => Or.inl (Or.inr hb)⟩, fun e => (by cases e), fun e => (by cases e), Turn.refl _ _⟩
theorem ChJ.build1 (h : ChJ t fs vs W) (hb : fs.getD 0 false = false) (ha : fs.getD 1 false = false) (cs : Array Value) (hcs : cs = (K.cv t.e1).toArray) :
    ChJ t (fs.set 0 true) (vs.set 0 (.slice (some ⟨W.heap.size, 0, none⟩) 1 1)) (W.alloc (.cells cs K.T)) := by
  obtain ⟨f1, f2, h1, h2, h3, g1, g2⟩ := h.ex
  have hl : Later W (W.alloc (.cells cs K.T)) := (Below.refl _ _).alloc (Nat.le_refl _) _
  have hk := h.later hl
  have lf := h.lf
  have lv := h.lv
  have hsz := h.turn.size
  rw [hb, ha] at h1
  have h1' := h1.build h.base_le h.ok.w1 cs hcs
  have h2' := h2.later hl
  refine ⟨h.ok, by simpa using lf, by simpa using lv, ⟨(fun b => f1 b ∨ b = W.heap.size), f2, ?_, ?_, ?_, fun b hb => by
      rcases hb with hb | rfl
      · exact g1 b hb
      · exact Or.inr hsz, g2⟩, fun e => ?_, fun e => ?_, hk.turn⟩
  · rw [gs_self (show 0 < fs.length by omega), gs_ne (show 0 ≠ 1 by decide), gs_self (show 0 < vs.length by omega), gs_ne (show 0 ≠ 1 by decide), ha]; exact h1'
  · rw [gs_ne (show 0 ≠ 2 by decide), gs_ne (show 0 ≠ 3 by decide), gs_ne (show 0 ≠ 2 by decide), gs_ne (show 0 ≠ 3 by decide)]; exact h2'
  · intro b hb hb2
    rcases hb with hb | rfl
    · exact h3 b hb hb2
    · have := h2.lt _ hb2; omega
  · rw [gs_ne (show 0 ≠ 4 by decide)] at e; rw [gs_ne (show 0 ≠ 4 by decide), gs_ne (show 0 ≠ 1 by decide)]; exact h.s1 e
  · rw [gs_ne (show 0 ≠ 5 by decide)] at e; rw [gs_ne (show 0 ≠ 5 by decide), gs_ne (show 0 ≠ 3 by decide)]; exact h.s2 e
theorem ChJ.append1 (h : ChJ t fs vs W) (hb : fs.getD 0 false = true) (ha : fs.getD 1 false = false) (hs : fs.getD 4 false = false) :
    ∃ A' c' W2, (Builtin.append_ #[K.L, K.L] K.L #[.slice t.A1 t.n t.c1, vs.getD 0 undef]).run Try.prog W = .ok (.slice A' (t.n + 1) c') W2 ∧ ChJ t (fs.set 1 true) (vs.set 1 (.slice A' (t.n + 1) c')) W2 := by
  obtain ⟨f1, f2, h1, h2, h3, g1, g2⟩ := h.ex
  have lf := h.lf
  have lv := h.lv
  have hsz := h.turn.size
  rw [hb, ha] at h1
  obtain ⟨A', c', W2, f', hr, h1', ht, hf⟩ := h1.append h.base_le h.ok.f1
  have h2' := h2.turn ht h3
  have hf' : ∀ b, f' b → t.set b ∨ t.WD.heap.size ≤ b := fun b hb => by
    rcases hf b hb with hb3 | hb3
    · exact g1 b hb3
    · exact Or.inr (Nat.le_trans hsz hb3)
  refine ⟨A', c', W2, hr, ⟨h.ok, by simpa using lf, by simpa using lv, ⟨f', f2, ?_, ?_, ?_, hf', g2⟩, fun e => ?_, fun e => ?_, h.turn.trans ht g1⟩⟩
  · rw [gs_self (show 1 < fs.length by omega), gs_ne (show 1 ≠ 0 by decide), gs_self (show 1 < vs.length by omega), gs_ne (show 1 ≠ 0 by decide), hb]; exact h1'
  · rw [gs_ne (show 1 ≠ 2 by decide), gs_ne (show 1 ≠ 3 by decide), gs_ne (show 1 ≠ 2 by decide), gs_ne (show 1 ≠ 3 by decide)]; exact h2'
  · intro b hb hb2
    rcases hf b hb with hb3 | hb3
    · exact h3 b hb3 hb2
    · have := h2.lt _ hb2; omega
  · rw [gs_ne (show 1 ≠ 4 by decide), hs] at e; cases e
  · rw [gs_ne (show 1 ≠ 5 by decide)] at e; rw [gs_ne (show 1 ≠ 5 by decide), gs_ne (show 1 ≠ 3 by decide)]; exact h.s2 e
theorem ChJ.assign1 (h : ChJ t fs vs W) : ChJ t (fs.set 4 true) (vs.set 4 (vs.getD 1 undef)) W := by
  have lf := h.lf
  have lv := h.lv
  refine ⟨h.ok, by simpa using lf, by simpa using lv, ?_, fun e => ?_, fun e => ?_, h.turn⟩
  · rw [gs_ne (show 4 ≠ 0 by decide), gs_ne (show 4 ≠ 1 by decide), gs_ne (show 4 ≠ 2 by decide), gs_ne (show 4 ≠ 3 by decide), gs_ne (show 4 ≠ 0 by decide), gs_ne (show 4 ≠ 1 by decide), gs_ne (show 4 ≠ 2 by decide), gs_ne (show 4 ≠ 3 by decide)]; exact h.ex
  · rw [gs_self (show 4 < vs.length by omega), gs_ne (show 4 ≠ 1 by decide)]
  · rw [gs_ne (show 4 ≠ 5 by decide)] at e; rw [gs_ne (show 4 ≠ 5 by decide), gs_ne (show 4 ≠ 3 by decide)]; exact h.s2 e
theorem ChJ.build2 (h : ChJ t fs vs W) (hb : fs.getD 2 false = false) (ha : fs.getD 3 false = false) (cs : Array Value) (hcs : cs = (M.cv t.e2).toArray) :
    ChJ t (fs.set 2 true) (vs.set 2 (.slice (some ⟨W.heap.size, 0, none⟩) 1 1)) (W.alloc (.cells cs M.T)) := by
  obtain ⟨f1, f2, h1, h2, h3, g1, g2⟩ := h.ex
  have hl : Later W (W.alloc (.cells cs M.T)) := (Below.refl _ _).alloc (Nat.le_refl _) _
  have hk := h.later hl
  have lf := h.lf
  have lv := h.lv
  have hsz := h.turn.size
  rw [hb, ha] at h2
  have h2' := h2.build h.base_le h.ok.w2 cs hcs
  have h1' := h1.later hl
  refine ⟨h.ok, by simpa using lf, by simpa using lv, ⟨f1, (fun b => f2 b ∨ b = W.heap.size), ?_, ?_, ?_, g1, fun b hb => by
      rcases hb with hb | rfl
      · exact g2 b hb
      · exact Or.inr hsz⟩, fun e => ?_, fun e => ?_, hk.turn⟩
  · rw [gs_ne (show 2 ≠ 0 by decide), gs_ne (show 2 ≠ 1 by decide), gs_ne (show 2 ≠ 0 by decide), gs_ne (show 2 ≠ 1 by decide)]; exact h1'
  · rw [gs_self (show 2 < fs.length by omega), gs_ne (show 2 ≠ 3 by decide), gs_self (show 2 < vs.length by omega), gs_ne (show 2 ≠ 3 by decide), ha]; exact h2'
  · intro b hb hb2
    rcases hb2 with hb2 | rfl
    · exact h3 b hb hb2
    · have := h1.lt _ hb; omega
  · rw [gs_ne (show 2 ≠ 4 by decide)] at e; rw [gs_ne (show 2 ≠ 4 by decide), gs_ne (show 2 ≠ 1 by decide)]; exact h.s1 e
  · rw [gs_ne (show 2 ≠ 5 by decide)] at e; rw [gs_ne (show 2 ≠ 5 by decide), gs_ne (show 2 ≠ 3 by decide)]; exact h.s2 e
theorem ChJ.append2 (h : ChJ t fs vs W) (hb : fs.getD 2 false = true) (ha : fs.getD 3 false = false) (hs : fs.getD 5 false = false) :
    ∃ A' c' W2, (Builtin.append_ #[M.L, M.L] M.L #[.slice t.A2 t.m t.c2, vs.getD 2 undef]).run Try.prog W = .ok (.slice A' (t.m + 1) c') W2 ∧ ChJ t (fs.set 3 true) (vs.set 3 (.slice A' (t.m + 1) c')) W2 := by
  obtain ⟨f1, f2, h1, h2, h3, g1, g2⟩ := h.ex
  have lf := h.lf
  have lv := h.lv
  have hsz := h.turn.size
  rw [hb, ha] at h2
  obtain ⟨A', c', W2, f', hr, h2', ht, hf⟩ := h2.append h.base_le h.ok.f2
  have h1' := h1.turn ht h3.flip
  have hf' : ∀ b, f' b → t.set b ∨ t.WD.heap.size ≤ b := fun b hb => by
    rcases hf b hb with hb3 | hb3
    · exact g2 b hb3
    · exact Or.inr (Nat.le_trans hsz hb3)
  refine ⟨A', c', W2, hr, ⟨h.ok, by simpa using lf, by simpa using lv, ⟨f1, f', ?_, ?_, ?_, g1, hf'⟩, fun e => ?_, fun e => ?_, h.turn.trans ht g2⟩⟩
  · rw [gs_ne (show 3 ≠ 0 by decide), gs_ne (show 3 ≠ 1 by decide), gs_ne (show 3 ≠ 0 by decide), gs_ne (show 3 ≠ 1 by decide)]; exact h1'
  · rw [gs_self (show 3 < fs.length by omega), gs_ne (show 3 ≠ 2 by decide), gs_self (show 3 < vs.length by omega), gs_ne (show 3 ≠ 2 by decide), hb]; exact h2'
  · intro b hb hb2
    rcases hf b hb2 with hb3 | hb3
    · exact h3 b hb hb3
    · have := h1.lt _ hb; omega
  · rw [gs_ne (show 3 ≠ 4 by decide)] at e; rw [gs_ne (show 3 ≠ 4 by decide), gs_ne (show 3 ≠ 1 by decide)]; exact h.s1 e
  · rw [gs_ne (show 3 ≠ 5 by decide), hs] at e; cases e
theorem ChJ.assign2 (h : ChJ t fs vs W) : ChJ t (fs.set 5 true) (vs.set 5 (vs.getD 3 undef)) W := by
  have lf := h.lf
  have lv := h.lv
  refine ⟨h.ok, by simpa using lf, by simpa using lv, ?_, fun e => ?_, fun e => ?_, h.turn⟩
  · rw [gs_ne (show 5 ≠ 0 by decide), gs_ne (show 5 ≠ 1 by decide), gs_ne (show 5 ≠ 2 by decide), gs_ne (show 5 ≠ 3 by decide), gs_ne (show 5 ≠ 0 by decide), gs_ne (show 5 ≠ 1 by decide), gs_ne (show 5 ≠ 2 by decide), gs_ne (show 5 ≠ 3 by decide)]; exact h.ex
  · rw [gs_ne (show 5 ≠ 4 by decide)] at e; rw [gs_ne (show 5 ≠ 4 by decide), gs_ne (show 5 ≠ 1 by decide)]; exact h.s1 e
  · rw [gs_self (show 5 < vs.length by omega), gs_ne (show 5 ≠ 3 by decide)]
/-- Behind all of them. -/
theorem ChJ.behind (h : ChJ t fs vs W) (h1 : fs.getD 1 false = true) (h3 : fs.getD 3 false = true) (h4 : fs.getD 4 false = true) (h5 : fs.getD 5 false = true) :
    ∃ A1 c1 A2 c2, vs.getD 4 undef = .slice A1 (t.n + 1) c1 ∧ vs.getD 5 undef = .slice A2 (t.m + 1) c2 ∧ vs.getD 1 undef = .slice A1 (t.n + 1) c1 ∧ vs.getD 3 undef = .slice A2 (t.m + 1) c2 ∧ K.Row W t.base A1 (t.n + 1) c1 (t.us1 ++ [t.e1]) ∧ M.Row W t.base A2 (t.m + 1) c2 (t.us2 ++ [t.e2]) ∧ ∀ b ∈ blk A1, b ∉ blk A2 := by
  obtain ⟨f1, f2, k1, k2, k3, _, _⟩ := h.ex
  obtain ⟨A1, c1, e1, r1, b1⟩ := k1.new h1
  obtain ⟨A2, c2, e2, r2, b2⟩ := k2.new h3
  exact ⟨A1, c1, A2, c2, (h.s1 h4).trans e1, (h.s2 h5).trans e2, e1, e2, r1, r2, fun b m1 m2 => k3 b (b1 b m1) (b2 b m2)⟩
end
end Go.Proofs.Ytiojnpoefbnjoaa
