/- A region that draws its order, in which several variables are made (alloc) and written (store), beside calls that make memory and values that tell no memory. Conditions: each temporary is written once; each variable is written once, behind it is made. -/
import Derived.Test.YtgdnpgijaijlhaaJoint
import Derived.Test.YtgdnpgijaijlhaaRowC
set_option linter.unusedVariables false
set_option linter.unusedSimpArgs false
namespace Go.Proofs.Ytgdnpgijaijlhaa
open Go Go.RowKit

theorem RowC.grown {w w' : World} {b : Nat} {cs : Array Value} {T : TypeId} {g : Nat} (h : RowC w b cs T) (hg : w.grownBy w' (some g)) (hn : b ≠ g) : RowC w' b cs T := ⟨(hg.block b h.lt (fun e => hn (Option.some.inj e))).trans h.row⟩
/-- What is known of an operation's value, if anything. -/
def Known (l : List (Option Value)) (i : Nat) (v : Value) : Prop := match l[i]? with | some (some u) => v = u | _ => True
/-- A variable of the region: its slot, the operations that make and write it, its cells ahead of that and behind, its type. -/
structure Box where
  d : Nat
  i0 : Nat
  i1 : Nat
  c0 : Array Value
  c1 : Array Value
  T : TypeId
def Box.ok (ops : Array Oper) (x : Box) : Bool := decide ((ops[x.i0]?).bind (·.dst) = some x.d) && decide (x.i0 ≠ x.i1) && needs ops x.i1 x.i0
structure Made (bs : List Box) (W0 : World) (listed : Array Bool) (a : Act) (w : World) : Prop where
  below : Below W0.heap.size W0 w
  made : ∀ x ∈ bs, listed.getD x.i0 false = true → ∃ g, a.tmps.getD x.d undef = .pointer (some ⟨g, 0, none⟩) ∧ W0.heap.size ≤ g ∧ RowC w g (if listed.getD x.i1 false then x.c1 else x.c0) x.T
  apart : ∀ x ∈ bs, ∀ y ∈ bs, x.d ≠ y.d → listed.getD x.i0 false = true → listed.getD y.i0 false = true → a.tmps.getD x.d undef ≠ a.tmps.getD y.d undef
structure Mv (bs : List Box) (i : Nat) (a : Act) (u : Value) (w w' : World) : Prop where
  writes : ∀ x ∈ bs, i = x.i1 → ∃ g, a.tmps.getD x.d undef = .pointer (some ⟨g, 0, none⟩) ∧ w.grownBy w' (some g) ∧ RowC w' g x.c1 x.T
  makes : ∀ x ∈ bs, i = x.i0 → ∃ g, u = .pointer (some ⟨g, 0, none⟩) ∧ w.heap.size ≤ g ∧ RowC w' g x.c0 x.T
  other : (∀ x ∈ bs, i ≠ x.i1) → Later w w'
/-- An operation that neither makes nor writes one. -/
theorem mv_later {bs : List Box} {i : Nat} {a : Act} {u : Value} {w w' : World} (hi : bs.all (fun x => decide (i ≠ x.i0) && decide (i ≠ x.i1)) = true) (h : Later w w') : Mv bs i a u w w' :=
  ⟨fun x hx e => absurd e (by have := List.all_eq_true.1 hi x hx; simp at this; exact this.2), fun x hx e => absurd e (by have := List.all_eq_true.1 hi x hx; simp at this; exact this.1), fun _ => h⟩
theorem mv_refl {bs : List Box} {i : Nat} {a : Act} {u : Value} {w : World} (hi : bs.all (fun x => decide (i ≠ x.i0) && decide (i ≠ x.i1)) = true) : Mv bs i a u w w := mv_later hi (later_refl _)
/-- The operation that makes one. -/
theorem mv_make {bs : List Box} {i g : Nat} {a : Act} {w w' : World} {c : Array Value} {T : TypeId} (hi : bs.all (fun x => decide (i ≠ x.i1)) = true) (hc : ∀ x ∈ bs, i = x.i0 → x.c0 = c ∧ x.T = T) (h : Later w w') (hg : w.heap.size ≤ g) (hr : RowC w' g c T) : Mv bs i a (.pointer (some ⟨g, 0, none⟩)) w w' :=
  ⟨fun x hx e => absurd e (by simpa using List.all_eq_true.1 hi x hx), fun x hx e => ⟨g, rfl, hg, by obtain ⟨e1, e2⟩ := hc x hx e; rw [e1, e2]; exact hr⟩, fun _ => h⟩
/-- The operation that writes one. -/
theorem mv_write {bs : List Box} {i g : Nat} {a : Act} {u : Value} {w w' : World} {x : Box} (hx : x ∈ bs) (hi : bs.all (fun y => decide (i ≠ y.i0) && (decide (i ≠ y.i1) || decide (y.d = x.d))) = true) (hxi : i = x.i1) (hu : ∀ y ∈ bs, y.d = x.d → y = x)
    (h0 : a.tmps.getD x.d undef = .pointer (some ⟨g, 0, none⟩)) (hg : w.grownBy w' (some g)) (hr : RowC w' g x.c1 x.T) : Mv bs i a u w w' :=
  ⟨fun y hy e => by
    have := List.all_eq_true.1 hi y hy
    simp [e] at this
    obtain rfl := hu y hy this.2
    exact ⟨g, h0, hg, hr⟩, fun y hy e => absurd e (by have := List.all_eq_true.1 hi y hy; simp at this; exact this.1), fun h => absurd hxi (h x hx)⟩
section
variable {ops : Array Oper} {P : Program} {Q : Exit → Act → World → Prop} {a0 a : Act} {l : List (Option Value)} {bs : List Box} {W0 w w' : World} {listed : Array Bool} {o : Oper} {v : Value} {j : Nat}
theorem put_at {d : Nat} (hd : o.dst = some d) (hlt : d < a.tmps.size) : (a.put o.dst v).tmps.getD d undef = v := by
  rw [hd]; unfold Act.put; simp [hlt]
theorem put_off {d : Nat} (hd : o.dst ≠ some d) : (a.put o.dst v).tmps.getD d undef = a.tmps.getD d undef := by
  unfold Act.put
  cases h : o.dst with
  | none => rfl
  | some q =>
    have : q ≠ d := fun e => hd (by rw [h, e])
    simp [Array.getElem?_setIfInBounds_ne this]
theorem made_step (ht : tidyB ops a0.tmps.size = true) (hb : bs.all (Box.ok ops) = true) (hdup : ∀ x ∈ bs, ∀ y ∈ bs, x.d = y.d → x = y)
    (H : Holds2 ops a0 (fun i v _ => Known l i v) (fun _ => none) listed a w) (h : Made bs W0 listed a w) (ho : ops[j]? = some o) (hl : listed.getD j true = false)
    (hda : ∀ e ∈ o.after, Region.binds .any e = true → listed.getD e.on false = true) (hm : Mv bs j a (match o.dst with | some _ => v | none => undef) w w') : Made bs W0 (listed.setIfInBounds j true) (a.put o.dst v) w' := by
  have hjl : j < listed.size := by rw [H.len]; exact lt_of_some ho
  have hok : ∀ x ∈ bs, (ops[x.i0]?).bind (·.dst) = some x.d ∧ x.i0 ≠ x.i1 ∧ needs ops x.i1 x.i0 = true := fun x hx => by
    have := List.all_eq_true.1 hb x hx
    unfold Box.ok at this
    simp only [Bool.and_eq_true, decide_eq_true_eq] at this
    exact ⟨this.1.1, this.1.2, this.2⟩
  have hat : ∀ x ∈ bs, j = x.i0 → o.dst = some x.d := fun x hx e => by
    have := (hok x hx).1
    rw [← e, ho] at this
    exact this
  have hoff : ∀ x ∈ bs, j ≠ x.i0 → o.dst ≠ some x.d := fun x hx e hd => by
    have := (hok x hx).1
    cases h0 : ops[x.i0]? with
    | none => rw [h0] at this; cases this
    | some p =>
      rw [h0] at this
      exact e (tidy_once ht ho h0 hd this)
  have hown : ∀ i, needs ops j i = true → listed.getD i false = true := fun i hi => by
    unfold needs at hi
    rw [ho] at hi
    obtain ⟨q, hq, hh⟩ := Array.any_eq_true.1 hi
    rw [Bool.and_eq_true] at hh
    have := hda _ (Array.getElem_mem hq) hh.2
    rwa [show (o.after[q]).on = i by simpa using hh.1] at this
  have hlf : listed.getD j false = false := by simp [hjl] at hl ⊢; exact hl
  have hset : (listed.setIfInBounds j true).getD j false = true := by simp [hjl]
  refine ⟨?_, fun x hx hm0 => ?_, fun x hx y hy hne hmx hmy => ?_⟩
  · by_cases e : ∃ y ∈ bs, j = y.i1
    · obtain ⟨y, hy, e⟩ := e
      obtain ⟨g, h1, h2, h3⟩ := hm.writes y hy e
      obtain ⟨g', k1, k2, _⟩ := h.made y hy (hown _ (by rw [e]; exact (hok y hy).2.2))
      rw [h1] at k1
      have : g = g' := by injection k1 with k1; injection k1 with k1; injection k1
      exact h.below.grown h2 h.below.size fun k hk => by rw [← Option.some.inj hk, this]; exact k2
    · exact below_chain h.below (hm.other fun y hy e1 => e ⟨y, hy, e1⟩)
  · by_cases e0 : j = x.i0
    · obtain ⟨g, h1, h2, h3⟩ := hm.makes x hx e0
      have hd := hat x hx e0
      rw [hd] at h1
      refine ⟨g, ?_, Nat.le_trans h.below.size h2, ?_⟩
      · rw [put_at hd (by rw [H.size]; exact tidy_in ht ho hd)]; exact h1
      · have hn1 : (listed.setIfInBounds j true).getD x.i1 false = false := by
          rw [e0, getD_set_ne false (hok x hx).2.1]
          cases hc : listed.getD x.i1 false with
          | false => rfl
          | true =>
            have := H.closed x.i1 x.i0 (hok x hx).2.2 hc
            rw [← e0, hlf] at this; cases this
        rw [hn1]
        exact h3
    · rw [getD_set_ne false e0] at hm0
      obtain ⟨g, h1, h2, h3⟩ := h.made x hx hm0
      refine ⟨g, by rw [put_off (hoff x hx e0)]; exact h1, h2, ?_⟩
      by_cases e1 : j = x.i1
      · obtain ⟨g', k1, k2, k3⟩ := hm.writes x hx e1
        rw [h1] at k1
        have : g = g' := by injection k1 with k1; injection k1 with k1; injection k1
        subst this
        rw [← e1, hset]
        exact k3
      · rw [getD_set_ne false e1]
        by_cases e : ∃ y ∈ bs, j = y.i1
        · obtain ⟨y, hy, e⟩ := e
          obtain ⟨g', k1, k2, k3⟩ := hm.writes y hy e
          have hyl := hown _ (by rw [e]; exact (hok y hy).2.2)
          by_cases hxy : x.d = y.d
          · obtain rfl := hdup x hx y hy hxy
            exact absurd e e1
          · refine h3.grown k2 fun eg => ?_
            exact h.apart x hx y hy hxy hm0 hyl (by rw [h1, k1, eg])
        · exact h3.since (hm.other fun y hy e1 => e ⟨y, hy, e1⟩)
  · have old : ∀ z ∈ bs, j ≠ z.i0 → (listed.setIfInBounds j true).getD z.i0 false = true → listed.getD z.i0 false = true ∧ (a.put o.dst v).tmps.getD z.d undef = a.tmps.getD z.d undef := fun z hz e hh => by
      rw [getD_set_ne false e] at hh
      exact ⟨hh, put_off (hoff z hz e)⟩
    have new : ∀ z ∈ bs, j = z.i0 → ∃ g, (a.put o.dst v).tmps.getD z.d undef = .pointer (some ⟨g, 0, none⟩) ∧ w.heap.size ≤ g := fun z hz e => by
      obtain ⟨g, h1, h2, _⟩ := hm.makes z hz e
      have hd := hat z hz e
      rw [hd] at h1
      exact ⟨g, by rw [put_at hd (by rw [H.size]; exact tidy_in ht ho hd)]; exact h1, h2⟩
    have lies : ∀ z ∈ bs, listed.getD z.i0 false = true → ∃ g, a.tmps.getD z.d undef = .pointer (some ⟨g, 0, none⟩) ∧ g < w.heap.size := fun z hz hh => by
      obtain ⟨g, h1, _, h3⟩ := h.made z hz hh
      exact ⟨g, h1, h3.lt⟩
    by_cases ex : j = x.i0
    · have ey : j ≠ y.i0 := fun e => hne (by
        have a1 := hat x hx ex
        have a2 := hat y hy e
        rw [a1] at a2
        exact Option.some.inj a2)
      obtain ⟨g, n1, n2⟩ := new x hx ex
      obtain ⟨hl', e'⟩ := old y hy ey hmy
      obtain ⟨g', o1, o2⟩ := lies y hy hl'
      rw [n1, e', o1]
      intro hh
      injection hh with hh
      injection hh with hh
      injection hh with hh
      omega
    · obtain ⟨hlx, e1⟩ := old x hx ex hmx
      by_cases ey : j = y.i0
      · obtain ⟨g, n1, n2⟩ := new y hy ey
        obtain ⟨g', o1, o2⟩ := lies x hx hlx
        rw [n1, e1, o1]
        intro hh
        injection hh with hh
        injection hh with hh
        injection hh with hh
        omega
      · obtain ⟨hly, e2⟩ := old y hy ey hmy
        rw [e1, e2]
        exact h.apart x hx y hy hne hlx hly
def StepB (P : Program) (ops : Array Oper) (Q : Exit → Act → World → Prop) (a0 : Act) (l : List (Option Value)) (bs : List Box) (W0 : World) (i : Nat) (o : Oper) : Prop :=
  ∀ (listed : Array Bool) (a : Act) (w : World), Holds2 ops a0 (fun i v _ => Known l i v) (fun _ => none) listed a w → Made bs W0 listed a w → listed.getD i true = false → (∀ e ∈ o.after, Region.binds .any e = true → listed.getD e.on false = true) →
    wpOp P ops Q i (fun a' w' => ∃ v, a' = a.put o.dst v ∧ True ∧ (Known l i (match o.dst with | some _ => v | none => undef) ∧ Mv bs i a (match o.dst with | some _ => v | none => undef) w w')) a w
def StepsB (P : Program) (ops : Array Oper) (Q : Exit → Act → World → Prop) (a0 : Act) (l : List (Option Value)) (bs : List Box) (W0 : World) : Nat → List Oper → Prop
  | _, [] => True
  | i, o :: rest => StepB P ops Q a0 l bs W0 i o ∧ StepsB P ops Q a0 l bs W0 (i + 1) rest
theorem StepsB.cons {i : Nat} {o : Oper} {rest : List Oper} (h : StepB P ops Q a0 l bs W0 i o) (hs : StepsB P ops Q a0 l bs W0 (i + 1) rest) : StepsB P ops Q a0 l bs W0 i (o :: rest) := ⟨h, hs⟩
theorem StepsB.nil {i : Nat} : StepsB P ops Q a0 l bs W0 i [] := trivial
theorem StepsB.at_ : ∀ {r : List Oper} {k : Nat}, StepsB P ops Q a0 l bs W0 k r → ∀ {i : Nat} {o : Oper}, r[i]? = some o → StepB P ops Q a0 l bs W0 (k + i) o
  | [], _, _, _, _, h => by simp at h
  | _ :: _, k, hs, 0, o, h => by
    simp at h
    subst h
    exact hs.1
  | _ :: rest, k, hs, i + 1, o, h => by
    have := StepsB.at_ hs.2 (i := i) (o := o) (by simpa using h)
    rw [show k + (i + 1) = k + 1 + i by omega]
    exact this
theorem any_of_boxes (ht : tidyB ops a0.tmps.size = true) (hb : bs.all (Box.ok ops) = true) (hdup : ∀ x ∈ bs, ∀ y ∈ bs, x.d = y.d → x = y) (hs : StepsB P ops Q a0 l bs W0 0 ops.toList)
    (fin : ∀ a w listed, a.defers = a0.defers → a.tmps.size = a0.tmps.size → Made bs W0 listed a w → (∀ i, i < ops.size → listed.getD i false = true) → (∀ i o, ops[i]? = some o → Known l i (outOf a o)) → a = (dstsOf ops).foldl (fun b k => b.put (some k) (a.tmps.getD k undef)) a0 → Q .normal a w) :
    ∀ (fuel : Nat) (listed : Array Bool) (a : Act) (w : World), listed.size = ops.size → listed.toList.count false = fuel → Holds2 ops a0 (fun i v _ => Known l i v) (fun _ => none) listed a w → Made bs W0 listed a w → wpAny P .any ops Q fuel listed a w := by
  have over : ∀ (listed : Array Bool) (a : Act) (w : World), listed.size = ops.size → Holds2 ops a0 (fun i v _ => Known l i v) (fun _ => none) listed a w → Made bs W0 listed a w → Region.ready .any ops listed = [] → Q .normal a w := fun listed a w hsz h hw hr =>
    fin a w listed h.defers h.size hw (fun i hi => ready_nil ht hr hsz i hi) (fun i o hi => h.done i o hi (ready_nil ht hr hsz i (lt_of_some hi)) (fun j hj => by cases hj)) (act_after h.defers h.size fun k hk => h.base k fun i o hi hdk => absurd hdk (by
      have hm : o ∈ ops.toList := by
        obtain ⟨hlt, rfl⟩ := Array.getElem?_eq_some_iff.1 hi
        simp
      have := List.all_eq_true.1 hk o hm
      simpa using this))
  intro fuel
  induction fuel with
  | zero =>
    intro listed a w hsz hc h hw
    have hr : Region.ready .any ops listed = [] := none_ready hc
    exact ⟨hr, over listed a w hsz h hw hr⟩
  | succ fuel ih =>
    intro listed a w hsz hc h hw
    refine ⟨fun hr => over listed a w hsz h hw hr, fun i hi => ?_⟩
    obtain ⟨hl, o, ho, hd⟩ := mem_ready.1 hi
    have hst := hs.at_ (i := i) (o := o) (by simpa using ho)
    rw [Nat.zero_add] at hst
    refine wpOp_mono ?_ (hst listed a w h hw hl hd)
    rintro a' w' ⟨v, rfl, _, hv, hm⟩
    exact ih _ _ _ (by simpa using hsz) (count_step hl hc) (h.put5 (R := fun _ _ _ _ => True) ht (fun _ _ _ _ _ _ _ _ _ _ h _ => h) hsz hl hd ho trivial hv) (made_step ht hb hdup h hw ho hl hd hm)
/-- THE REGION: from the world behind the draw. -/
theorem region_of_boxes {id : Nat} {w : World} (hm : P.follows .mixedOrders = true) (l : List (Option Value)) (bs : List Box) (ht : tidyB ops a0.tmps.size = true) (hb : bs.all (Box.ok ops) = true) (hdup : ∀ x ∈ bs, ∀ y ∈ bs, x.d = y.d → x = y) (hs : StepsB P ops Q a0 l bs w.drew 0 ops.toList)
    (fin : ∀ a w' listed, a.defers = a0.defers → a.tmps.size = a0.tmps.size → Made bs w.drew listed a w' → (∀ i, i < ops.size → listed.getD i false = true) → (∀ i o, ops[i]? = some o → Known l i (outOf a o)) → a = (dstsOf ops).foldl (fun b k => b.put (some k) (a.tmps.getD k undef)) a0 → Q .normal a w') : (Code.region id ops true).wp P Q a0 w := by
  refine wp_region_any hm ?_
  refine any_of_boxes (a0 := a0) (l := l) (bs := bs) (W0 := w.drew) ht hb hdup hs fin ops.size (Array.replicate ops.size false) a0 w.drew (by simp) (by simp) ?_ ?_
  · exact ⟨rfl, rfl, fun k _ => rfl, fun i o hi hl => by simp at hl; exact absurd hl (by
      by_cases h : i < ops.size <;> simp [h]), fun i j _ hl => by
      simp at hl; exact absurd hl (by by_cases h : i < ops.size <;> simp [h]), by simp⟩
  · have none_ : ∀ k, (Array.replicate ops.size false).getD k false = false := fun k => by
      by_cases h : k < ops.size <;> simp [h]
    exact ⟨Below.refl _ _, fun x hx h => (by rw [none_] at h; cases h), fun x hx y hy _ h => (by rw [none_] at h; cases h)⟩
end
end Go.Proofs.Ytgdnpgijaijlhaa
