/- Two rows of one kind that a struct's fields hold, both appended to and stored again, in one region that draws its order ('x.A, x.B = append(x.A, a), append(x.B, b)'). Conditions: the struct's block; the rows are two. -/
import Derived.Test.YtmfpelgkjgpfmaaChain
set_option linter.unusedVariables false
set_option linter.unusedSimpArgs false
namespace Go.Proofs.Ytmfpelgkjgpfmaa
open Go.RowKit

/-- What stands still, told once. -/
structure T2 {α : Type} (K : Kind α) where
  WD : World
  base : Nat
  g : Nat
  YT : TypeId
  R : Value → Value → Array Value
  p1 : Nat
  p2 : Nat
  n : Nat
  A1 : Option Addr
  c1 : Nat
  us1 : List α
  e1 : α
  A2 : Option Addr
  c2 : Nat
  us2 : List α
  e2 : α
def T2.with1 {α : Type} {K : Kind α} (t : T2 K) (e : α) : T2 K := { t with e1 := e }
def T2.with2 {α : Type} {K : Kind α} (t : T2 K) (e : α) : T2 K := { t with e2 := e }
structure T2.Ok {α : Type} {K : Kind α} (t : T2 K) : Prop where
  w1 : K.wf t.e1
  w2 : K.wf t.e2
  few : t.n + 1 ≤ 8000
  ty : K.T ≠ t.YT
  r1 : ∀ a b, (t.R a b)[t.p1]? = some a
  r2 : ∀ a b, (t.R a b)[t.p2]? = some b
  s1 : ∀ a b v, (t.R a b).setIfInBounds t.p1 v = t.R v b
  s2 : ∀ a b v, (t.R a b).setIfInBounds t.p2 v = t.R a v
  base : t.base ≤ t.WD.heap.size
/-- The blocks that turn. -/
def T2.set {α : Type} {K : Kind α} (t : T2 K) (b : Nat) : Prop := b = t.g ∨ (t.base ≤ b ∧ ∃ cur, t.WD.heap[b]? = some (.cells cur K.T (0, 0)))
/-- Which is done: 0, 2: the element is laid; 1, 3: the row is appended to; 4, 5: it is stored. -/
structure J2 {α : Type} {K : Kind α} (t : T2 K) (fs : List Bool) (vs : List Value) (W : World) : Prop where
  ok : t.Ok
  lf : 6 ≤ fs.length
  lv : 4 ≤ vs.length
  ex : ∃ f1 f2, Ch K t.base t.A1 t.n t.c1 t.us1 t.e1 (fs.getD 0 false) (fs.getD 1 false) (vs.getD 0 undef) (vs.getD 1 undef) f1 W ∧ Ch K t.base t.A2 t.n t.c2 t.us2 t.e2 (fs.getD 2 false) (fs.getD 3 false) (vs.getD 2 undef) (vs.getD 3 undef) f2 W ∧ Two f1 f2
  row : W.heap[t.g]? = some (.cells (t.R (if fs.getD 4 false = true then vs.getD 1 undef else .slice t.A1 t.n t.c1) (if fs.getD 5 false = true then vs.getD 3 undef else .slice t.A2 t.n t.c2)) t.YT (0, 0))
  turn : Turn t.set t.WD W
section
variable {α : Type} {K : Kind α} {t : T2 K} {fs : List Bool} {vs : List Value} {W W' : World}
theorem J2.later (h : J2 t fs vs W) (hl : Later W W') : J2 t fs vs W' := by
  obtain ⟨f1, f2, h1, h2, h3⟩ := h.ex
  exact ⟨h.ok, h.lf, h.lv, ⟨f1, f2, h1.later hl, h2.later hl, h3⟩, (hl.block _ (Array.getElem?_eq_some_iff.1 h.row).1).trans h.row, h.turn.trans (Turn.of_below (fp := fun _ => False) hl) fun b hb => hb.elim⟩
theorem J2.base_le (h : J2 t fs vs W) : t.base ≤ W.heap.size := Nat.le_trans h.ok.base h.turn.size
/-- A block of that kind is one of those that may turn, or new. -/
theorem J2.inset (h : J2 t fs vs W) {b : Nat} (h1 : t.base ≤ b) (h2 : ∃ cur, W.heap[b]? = some (.cells cur K.T (0, 0))) : t.set b ∨ t.WD.heap.size ≤ b := by
  obtain ⟨cur, hc⟩ := h2
  by_cases hb : b < t.WD.heap.size
  · left
    by_cases hs : t.set b
    · exact hs
    · exact Or.inr ⟨h1, cur, (h.turn.block b hb hs).symm.trans hc⟩
  · exact Or.inr (by omega)
theorem J2.start (hok : t.Ok) (hf : fs = [false, false, false, false, false, false] ++ fs.drop 6) (hv : 4 ≤ vs.length) (h1 : K.Row t.WD t.base t.A1 t.n t.c1 t.us1) (h2 : K.Row t.WD t.base t.A2 t.n t.c2 t.us2) (hd : ∀ b ∈ blk t.A1, b ∉ blk t.A2) (hr : t.WD.heap[t.g]? = some (.cells (t.R (.slice t.A1 t.n t.c1) (.slice t.A2 t.n t.c2)) t.YT (0, 0))) : J2 t fs vs t.WD := by
  rw [hf]
  exact ⟨hok, by simp, hv, ⟨_, _, Ch.start h1, Ch.start h2, hd⟩, hr, Turn.refl _ _⟩
/- chain 1 -/
theorem J2.cell1 (h : J2 t fs vs W) (hs : fs.getD 4 false = false) : W.cell? ⟨t.g, t.p1, none⟩ = some (.slice t.A1 t.n t.c1) := by
  rw [cell_of_row _ _ _ _ _ _ h.row, h.ok.r1, hs]; rfl
theorem J2.build1 (h : J2 t fs vs W) (hb : fs.getD 0 false = false) (ha : fs.getD 1 false = false) (cs : Array Value) (hcs : cs = (K.cv t.e1).toArray) :
    J2 t (fs.set 0 true) (vs.set 0 (.slice (some ⟨W.heap.size, 0, none⟩) 1 1)) (W.alloc (.cells cs K.T)) := by
  obtain ⟨f1, f2, h1, h2, h3⟩ := h.ex
  have hl : Later W (W.alloc (.cells cs K.T)) := (Below.refl _ _).alloc (Nat.le_refl _) _
  have hk := h.later hl
  have lf := h.lf
  have lv := h.lv
  rw [hb, ha] at h1
  have h1' := h1.build h.base_le h.ok.w1 cs hcs
  have h2' := h2.later hl
  refine ⟨h.ok, by simpa using lf, by simpa using lv, ⟨(fun b => f1 b ∨ b = W.heap.size), f2, ?_, ?_, ?_⟩, ?_, hk.turn⟩
  · rw [gs_self (show 0 < fs.length by omega), gs_ne (show 0 ≠ 1 by decide), gs_self (show 0 < vs.length by omega), gs_ne (show 0 ≠ 1 by decide), ha]; exact h1'
  · rw [gs_ne (show 0 ≠ 2 by decide), gs_ne (show 0 ≠ 3 by decide), gs_ne (show 0 ≠ 2 by decide), gs_ne (show 0 ≠ 3 by decide)]; exact h2'
  · intro b hb hb2
    rcases hb with hb | rfl
    · exact h3 b hb hb2
    · have := h2.lt _ hb2; omega
  · rw [gs_ne (show 0 ≠ 4 by decide), gs_ne (show 0 ≠ 5 by decide), gs_ne (show 0 ≠ 1 by decide), gs_ne (show 0 ≠ 3 by decide)]; exact hk.row
theorem J2.append1t (h : J2 t fs vs W) (hb : fs.getD 0 false = true) (ha : fs.getD 1 false = false) (hs : fs.getD 4 false = false) :
    ∃ A' c' W2, (Builtin.append_ #[K.L, K.L] K.L #[.slice t.A1 t.n t.c1, vs.getD 0 undef]).run Try.prog W = .ok (.slice A' (t.n + 1) c') W2 ∧ J2 t (fs.set 1 true) (vs.set 1 (.slice A' (t.n + 1) c')) W2 ∧ Turn (fun b => ∃ cur, W.heap[b]? = some (.cells cur K.T (0, 0))) W W2 := by
  obtain ⟨f1, f2, h1, h2, h3⟩ := h.ex
  have lf := h.lf
  have lv := h.lv
  rw [hb, ha] at h1
  obtain ⟨A', c', W2, f', hr, h1', ht, hf⟩ := h1.append h.base_le h.ok.few
  have h2' := h2.turn ht h3
  have hg : ¬ f1 t.g := fun hh => by
    obtain ⟨_, cur, hc⟩ := h1.typed _ hh
    exact h.ok.ty (other_type hc h.row)
  refine ⟨A', c', W2, hr, ⟨h.ok, by simpa using lf, by simpa using lv, ⟨f', f2, ?_, ?_, ?_⟩, ?_, h.turn.trans ht fun b hh => h.inset (h1.typed b hh).1 (h1.typed b hh).2⟩, ht.mono fun b hh => Or.inl (h1.typed b hh).2⟩
  · rw [gs_self (show 1 < fs.length by omega), gs_ne (show 1 ≠ 0 by decide), gs_self (show 1 < vs.length by omega), gs_ne (show 1 ≠ 0 by decide), hb]; exact h1'
  · rw [gs_ne (show 1 ≠ 2 by decide), gs_ne (show 1 ≠ 3 by decide), gs_ne (show 1 ≠ 2 by decide), gs_ne (show 1 ≠ 3 by decide)]; exact h2'
  · intro b hb hb2
    rcases hf b hb with hb3 | hb3
    · exact h3 b hb3 hb2
    · have := h2.lt _ hb2; omega
  · have hrow := (ht.block t.g (Array.getElem?_eq_some_iff.1 h.row).1 hg).trans h.row
    rw [gs_ne (show 1 ≠ 4 by decide), gs_ne (show 1 ≠ 5 by decide), gs_ne (show 1 ≠ 3 by decide)]
    rw [hs] at hrow ⊢
    exact hrow
theorem J2.append1 (h : J2 t fs vs W) (hb : fs.getD 0 false = true) (ha : fs.getD 1 false = false) (hs : fs.getD 4 false = false) :
    ∃ A' c' W2, (Builtin.append_ #[K.L, K.L] K.L #[.slice t.A1 t.n t.c1, vs.getD 0 undef]).run Try.prog W = .ok (.slice A' (t.n + 1) c') W2 ∧ J2 t (fs.set 1 true) (vs.set 1 (.slice A' (t.n + 1) c')) W2 := by
  obtain ⟨A', c', W2, h1, h2, _⟩ := h.append1t hb ha hs
  exact ⟨A', c', W2, h1, h2⟩
theorem J2.value1 (h : J2 t fs vs W) (ha : fs.getD 1 false = true) : ∃ A' c', vs.getD 1 undef = .slice A' (t.n + 1) c' := by
  obtain ⟨f1, f2, h1, h2, h3⟩ := h.ex
  obtain ⟨A', c', e, _⟩ := h1.new ha
  exact ⟨A', c', e⟩
theorem J2.free1 (h : J2 t fs vs W) : (∃ u, W.cell? ⟨t.g, t.p1, none⟩ = some u) ∧ W.frozen? ⟨t.g, t.p1, none⟩ = false :=
  ⟨⟨_, by rw [cell_of_row _ _ _ _ _ _ h.row, h.ok.r1]⟩, by simp [World.frozen?, h.row]⟩
theorem J2.store1 (h : J2 t fs vs W) (hs : fs.getD 4 false = false) : J2 t (fs.set 4 true) vs (W.setCell ⟨t.g, t.p1, none⟩ (vs.getD 1 undef)) := by
  obtain ⟨f1, f2, h1, h2, h3⟩ := h.ex
  have lf := h.lf
  have ht : Turn (fun b => b = t.g) W (W.setCell ⟨t.g, t.p1, none⟩ (vs.getD 1 undef)) := Turn.of_setCell ⟨t.g, t.p1, none⟩ _ rfl
  have hg1 : Two (fun b => b = t.g) f1 := fun b hb hh => by
    subst hb
    obtain ⟨_, cur, hc⟩ := h1.typed _ hh
    exact h.ok.ty (other_type hc h.row)
  have hg2 : Two (fun b => b = t.g) f2 := fun b hb hh => by
    subst hb
    obtain ⟨_, cur, hc⟩ := h2.typed _ hh
    exact h.ok.ty (other_type hc h.row)
  refine ⟨h.ok, by simpa using lf, h.lv, ⟨f1, f2, ?_, ?_, h3⟩, ?_, h.turn.trans ht fun b hb => Or.inl (Or.inl hb)⟩
  · rw [gs_ne (show 4 ≠ 0 by decide), gs_ne (show 4 ≠ 1 by decide)]; exact h1.turn ht hg1
  · rw [gs_ne (show 4 ≠ 2 by decide), gs_ne (show 4 ≠ 3 by decide)]; exact h2.turn ht hg2
  · rw [gs_self (show 4 < fs.length by omega), gs_ne (show 4 ≠ 5 by decide), if_pos rfl]
    have e := h.ok.s1 (if fs.getD 4 false = true then vs.getD 1 undef else .slice t.A1 t.n t.c1) (if fs.getD 5 false = true then vs.getD 3 undef else .slice t.A2 t.n t.c2) (vs.getD 1 undef)
    rw [← e]
    simp [World.setCell, Array.getElem?_modify, h.row]
/- chain 2 -/
theorem J2.cell2 (h : J2 t fs vs W) (hs : fs.getD 5 false = false) : W.cell? ⟨t.g, t.p2, none⟩ = some (.slice t.A2 t.n t.c2) := by
  rw [cell_of_row _ _ _ _ _ _ h.row, h.ok.r2, hs]; rfl
theorem J2.build2 (h : J2 t fs vs W) (hb : fs.getD 2 false = false) (ha : fs.getD 3 false = false) (cs : Array Value) (hcs : cs = (K.cv t.e2).toArray) :
    J2 t (fs.set 2 true) (vs.set 2 (.slice (some ⟨W.heap.size, 0, none⟩) 1 1)) (W.alloc (.cells cs K.T)) := by
  obtain ⟨f1, f2, h1, h2, h3⟩ := h.ex
  have hl : Later W (W.alloc (.cells cs K.T)) := (Below.refl _ _).alloc (Nat.le_refl _) _
  have hk := h.later hl
  have lf := h.lf
  have lv := h.lv
  rw [hb, ha] at h2
  have h2' := h2.build h.base_le h.ok.w2 cs hcs
  have h1' := h1.later hl
  refine ⟨h.ok, by simpa using lf, by simpa using lv, ⟨f1, (fun b => f2 b ∨ b = W.heap.size), ?_, ?_, ?_⟩, ?_, hk.turn⟩
  · rw [gs_ne (show 2 ≠ 0 by decide), gs_ne (show 2 ≠ 1 by decide), gs_ne (show 2 ≠ 0 by decide), gs_ne (show 2 ≠ 1 by decide)]; exact h1'
  · rw [gs_self (show 2 < fs.length by omega), gs_ne (show 2 ≠ 3 by decide), gs_self (show 2 < vs.length by omega), gs_ne (show 2 ≠ 3 by decide), ha]; exact h2'
  · intro b hb hb2
    rcases hb2 with hb2 | rfl
    · exact h3 b hb hb2
    · have := h1.lt _ hb; omega
  · rw [gs_ne (show 2 ≠ 4 by decide), gs_ne (show 2 ≠ 5 by decide), gs_ne (show 2 ≠ 1 by decide), gs_ne (show 2 ≠ 3 by decide)]; exact hk.row
theorem J2.append2t (h : J2 t fs vs W) (hb : fs.getD 2 false = true) (ha : fs.getD 3 false = false) (hs : fs.getD 5 false = false) :
    ∃ A' c' W2, (Builtin.append_ #[K.L, K.L] K.L #[.slice t.A2 t.n t.c2, vs.getD 2 undef]).run Try.prog W = .ok (.slice A' (t.n + 1) c') W2 ∧ J2 t (fs.set 3 true) (vs.set 3 (.slice A' (t.n + 1) c')) W2 ∧ Turn (fun b => ∃ cur, W.heap[b]? = some (.cells cur K.T (0, 0))) W W2 := by
  obtain ⟨f1, f2, h1, h2, h3⟩ := h.ex
  have lf := h.lf
  have lv := h.lv
  rw [hb, ha] at h2
  obtain ⟨A', c', W2, f', hr, h2', ht, hf⟩ := h2.append h.base_le h.ok.few
  have h1' := h1.turn ht h3.flip
  have hg : ¬ f2 t.g := fun hh => by
    obtain ⟨_, cur, hc⟩ := h2.typed _ hh
    exact h.ok.ty (other_type hc h.row)
  refine ⟨A', c', W2, hr, ⟨h.ok, by simpa using lf, by simpa using lv, ⟨f1, f', ?_, ?_, ?_⟩, ?_, h.turn.trans ht fun b hh => h.inset (h2.typed b hh).1 (h2.typed b hh).2⟩, ht.mono fun b hh => Or.inl (h2.typed b hh).2⟩
  · rw [gs_ne (show 3 ≠ 0 by decide), gs_ne (show 3 ≠ 1 by decide), gs_ne (show 3 ≠ 0 by decide), gs_ne (show 3 ≠ 1 by decide)]; exact h1'
  · rw [gs_self (show 3 < fs.length by omega), gs_ne (show 3 ≠ 2 by decide), gs_self (show 3 < vs.length by omega), gs_ne (show 3 ≠ 2 by decide), hb]; exact h2'
  · intro b hb hb2
    rcases hf b hb2 with hb3 | hb3
    · exact h3 b hb hb3
    · have := h1.lt _ hb; omega
  · have hrow := (ht.block t.g (Array.getElem?_eq_some_iff.1 h.row).1 hg).trans h.row
    rw [gs_ne (show 3 ≠ 4 by decide), gs_ne (show 3 ≠ 5 by decide), gs_ne (show 3 ≠ 1 by decide)]
    rw [hs] at hrow ⊢
    exact hrow
theorem J2.append2 (h : J2 t fs vs W) (hb : fs.getD 2 false = true) (ha : fs.getD 3 false = false) (hs : fs.getD 5 false = false) :
    ∃ A' c' W2, (Builtin.append_ #[K.L, K.L] K.L #[.slice t.A2 t.n t.c2, vs.getD 2 undef]).run Try.prog W = .ok (.slice A' (t.n + 1) c') W2 ∧ J2 t (fs.set 3 true) (vs.set 3 (.slice A' (t.n + 1) c')) W2 := by
  obtain ⟨A', c', W2, h1, h2, _⟩ := h.append2t hb ha hs
  exact ⟨A', c', W2, h1, h2⟩
theorem J2.value2 (h : J2 t fs vs W) (ha : fs.getD 3 false = true) : ∃ A' c', vs.getD 3 undef = .slice A' (t.n + 1) c' := by
  obtain ⟨f1, f2, h1, h2, h3⟩ := h.ex
  obtain ⟨A', c', e, _⟩ := h2.new ha
  exact ⟨A', c', e⟩
theorem J2.free2 (h : J2 t fs vs W) : (∃ u, W.cell? ⟨t.g, t.p2, none⟩ = some u) ∧ W.frozen? ⟨t.g, t.p2, none⟩ = false :=
  ⟨⟨_, by rw [cell_of_row _ _ _ _ _ _ h.row, h.ok.r2]⟩, by simp [World.frozen?, h.row]⟩
theorem J2.store2 (h : J2 t fs vs W) (hs : fs.getD 5 false = false) : J2 t (fs.set 5 true) vs (W.setCell ⟨t.g, t.p2, none⟩ (vs.getD 3 undef)) := by
  obtain ⟨f1, f2, h1, h2, h3⟩ := h.ex
  have lf := h.lf
  have ht : Turn (fun b => b = t.g) W (W.setCell ⟨t.g, t.p2, none⟩ (vs.getD 3 undef)) := Turn.of_setCell ⟨t.g, t.p2, none⟩ _ rfl
  have hg1 : Two (fun b => b = t.g) f1 := fun b hb hh => by
    subst hb
    obtain ⟨_, cur, hc⟩ := h1.typed _ hh
    exact h.ok.ty (other_type hc h.row)
  have hg2 : Two (fun b => b = t.g) f2 := fun b hb hh => by
    subst hb
    obtain ⟨_, cur, hc⟩ := h2.typed _ hh
    exact h.ok.ty (other_type hc h.row)
  refine ⟨h.ok, by simpa using lf, h.lv, ⟨f1, f2, ?_, ?_, h3⟩, ?_, h.turn.trans ht fun b hb => Or.inl (Or.inl hb)⟩
  · rw [gs_ne (show 5 ≠ 0 by decide), gs_ne (show 5 ≠ 1 by decide)]; exact h1.turn ht hg1
  · rw [gs_ne (show 5 ≠ 2 by decide), gs_ne (show 5 ≠ 3 by decide)]; exact h2.turn ht hg2
  · rw [gs_self (show 5 < fs.length by omega), gs_ne (show 5 ≠ 4 by decide), if_pos rfl]
    have e := h.ok.s2 (if fs.getD 4 false = true then vs.getD 1 undef else .slice t.A1 t.n t.c1) (if fs.getD 5 false = true then vs.getD 3 undef else .slice t.A2 t.n t.c2) (vs.getD 3 undef)
    rw [← e]
    simp [World.setCell, Array.getElem?_modify, h.row]
/-- Nothing is laid yet: the elements may be others. -/
theorem J2.elem1 (h : J2 t fs vs W) (h0 : fs.getD 0 false = false) (h1 : fs.getD 1 false = false) (e : α) (he : K.wf e) : J2 (t.with1 e) fs vs W := by
  obtain ⟨f1, f2, k1, k2, k3⟩ := h.ex
  rw [h0, h1] at k1
  have k1' := k1.other e (vs.getD 0 undef) (vs.getD 1 undef)
  have hok : (t.with1 e).Ok := ⟨he, h.ok.w2, h.ok.few, h.ok.ty, h.ok.r1, h.ok.r2, h.ok.s1, h.ok.s2, h.ok.base⟩
  exact ⟨hok, h.lf, h.lv, ⟨f1, f2, by rw [h1, h0]; exact k1', k2, k3⟩, h.row, h.turn⟩
theorem J2.elem2 (h : J2 t fs vs W) (h0 : fs.getD 2 false = false) (h1 : fs.getD 3 false = false) (e : α) (he : K.wf e) : J2 (t.with2 e) fs vs W := by
  obtain ⟨f1, f2, k1, k2, k3⟩ := h.ex
  rw [h0, h1] at k2
  have k2' := k2.other e (vs.getD 2 undef) (vs.getD 3 undef)
  have hok : (t.with2 e).Ok := ⟨h.ok.w1, he, h.ok.few, h.ok.ty, h.ok.r1, h.ok.r2, h.ok.s1, h.ok.s2, h.ok.base⟩
  exact ⟨hok, h.lf, h.lv, ⟨f1, f2, k1, by rw [h1, h0]; exact k2', k3⟩, h.row, h.turn⟩
/-- Flags and slots behind those of the chains do not count. -/
theorem J2.beyond (h : J2 t fs vs W) {j k : Nat} (hj : 6 ≤ j) (hk : 4 ≤ k) (x : Bool) (v : Value) : J2 t (fs.set j x) (vs.set k v) W := by
  obtain ⟨f1, f2, k1, k2, k3⟩ := h.ex
  refine ⟨h.ok, by simpa using h.lf, by simpa using h.lv, ⟨f1, f2, ?_, ?_, k3⟩, ?_, h.turn⟩
  · rw [gs_ne (show j ≠ 0 by omega), gs_ne (show j ≠ 1 by omega), gs_ne (show k ≠ 0 by omega), gs_ne (show k ≠ 1 by omega)]; exact k1
  · rw [gs_ne (show j ≠ 2 by omega), gs_ne (show j ≠ 3 by omega), gs_ne (show k ≠ 2 by omega), gs_ne (show k ≠ 3 by omega)]; exact k2
  · rw [gs_ne (show j ≠ 4 by omega), gs_ne (show j ≠ 5 by omega), gs_ne (show k ≠ 1 by omega), gs_ne (show k ≠ 3 by omega)]; exact h.row
/-- All is done. -/
theorem J2.done (h : J2 t fs vs W) (h0 : fs.take 6 = [true, true, true, true, true, true]) : ∃ A1 c1 A2 c2, K.Row W t.base A1 (t.n + 1) c1 (t.us1 ++ [t.e1]) ∧ K.Row W t.base A2 (t.n + 1) c2 (t.us2 ++ [t.e2]) ∧ (∀ b ∈ blk A1, b ∉ blk A2) ∧ W.heap[t.g]? = some (.cells (t.R (.slice A1 (t.n + 1) c1) (.slice A2 (t.n + 1) c2)) t.YT (0, 0)) ∧ Turn t.set t.WD W := by
  have hg : ∀ k, k < 6 → fs.getD k false = true := fun k hk => by
    have e : fs.getD k false = (fs.take 6).getD k false := by rw [List.getD_eq_getElem?_getD, List.getD_eq_getElem?_getD, List.getElem?_take_of_lt hk]
    rw [e, h0]
    rcases (by omega : k = 0 ∨ k = 1 ∨ k = 2 ∨ k = 3 ∨ k = 4 ∨ k = 5) with rfl | rfl | rfl | rfl | rfl | rfl <;> rfl
  obtain ⟨f1, f2, h1, h2, h3⟩ := h.ex
  obtain ⟨A1, c1, e1, r1, b1⟩ := h1.new (hg 1 (by decide))
  obtain ⟨A2, c2, e2, r2, b2⟩ := h2.new (hg 3 (by decide))
  refine ⟨A1, c1, A2, c2, r1, r2, fun b hb hb2 => h3 b (b1 b hb) (b2 b hb2), ?_, h.turn⟩
  have := h.row
  rw [hg 4 (by decide), hg 5 (by decide), if_pos rfl, if_pos rfl, e1, e2] at this
  exact this
end
end Go.Proofs.Ytmfpelgkjgpfmaa
