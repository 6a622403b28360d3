/- A region that draws its order, told op by op, where what holds of the world may hang on which operations are done (Inv of both). Conditions: each temporary is written once. -/
import Derived.Test.YtfidamiomnohcaaRegion
import Derived.Test.YtfidamiomnohcaaOver
set_option linter.unusedVariables false
set_option linter.unusedSimpArgs false
set_option maxRecDepth 20000
namespace Go.Proofs.Ytfidamiomnohcaa
open Go Go.RowKit

section
variable {ops : Array Oper} {P : Program} {Q : Exit → Act → World → Prop} {a0 : Act} {F : Nat → Value → World → Prop} {dead : Nat → Option Nat} {R : Nat → World → World → Prop} {Inv : Array Bool → World → Prop}
def Step3 (P : Program) (ops : Array Oper) (Q : Exit → Act → World → Prop) (a0 : Act) (F : Nat → Value → World → Prop) (dead : Nat → Option Nat) (R : Nat → World → World → Prop) (Inv : Array Bool → World → Prop) (i : Nat) (o : Oper) : Prop :=
  ∀ (listed : Array Bool) (a : Act) (w : World), Holds2 ops a0 F dead listed a w → Inv listed w → listed.getD i true = false → (∀ e ∈ o.after, Region.binds .any e = true → listed.getD e.on false = true) →
    wpOp P ops Q i (fun a' w' => ∃ v, a' = a.put o.dst v ∧ R i w w' ∧ F i (match o.dst with | some _ => v | none => undef) w') a w
def Steps3 (P : Program) (ops : Array Oper) (Q : Exit → Act → World → Prop) (a0 : Act) (F : Nat → Value → World → Prop) (dead : Nat → Option Nat) (R : Nat → World → World → Prop) (Inv : Array Bool → World → Prop) : Nat → List Oper → Prop
  | _, [] => True
  | i, o :: rest => Step3 P ops Q a0 F dead R Inv i o ∧ Steps3 P ops Q a0 F dead R Inv (i + 1) rest
theorem Steps3.cons {i : Nat} {o : Oper} {rest : List Oper} (h : Step3 P ops Q a0 F dead R Inv i o) (hs : Steps3 P ops Q a0 F dead R Inv (i + 1) rest) : Steps3 P ops Q a0 F dead R Inv i (o :: rest) := ⟨h, hs⟩
theorem Steps3.nil {i : Nat} : Steps3 P ops Q a0 F dead R Inv i [] := trivial
theorem Steps3.at_ : ∀ {l : List Oper} {k : Nat}, Steps3 P ops Q a0 F dead R Inv k l → ∀ {i : Nat} {o : Oper}, l[i]? = some o → Step3 P ops Q a0 F dead R Inv (k + i) o
  | [], _, _, _, _, h => by simp at h
  | _ :: _, k, hs, 0, o, h => by
    simp at h
    subst h
    exact hs.1
  | _ :: rest, k, hs, i + 1, o, h => by
    have := Steps3.at_ hs.2 (i := i) (o := o) (by simpa using h)
    rw [show k + (i + 1) = k + 1 + i by omega]
    exact this
theorem any_of_steps3 (ht : tidyB ops a0.tmps.size = true) (hF : ∀ i j v w w', i ≠ j → dead i ≠ some j → needs ops i j = false → F i v w → R j w w' → F i v w') (hI : ∀ listed j w w', Inv listed w → listed.getD j true = false → R j w w' → Inv (listed.setIfInBounds j true) w') (hs : Steps3 P ops Q a0 F dead R Inv 0 ops.toList)
    (fin : ∀ a w listed, a.defers = a0.defers → a.tmps.size = a0.tmps.size → Inv listed w → (∀ i o, ops[i]? = some o → dead i = none → F i (outOf a o) w) → a = (dstsOf ops).foldl (fun b k => b.put (some k) (a.tmps.getD k undef)) a0 → Q .normal a w) :
    ∀ (fuel : Nat) (listed : Array Bool) (a : Act) (w : World), listed.size = ops.size → listed.toList.count false = fuel → Holds2 ops a0 F dead listed a w → Inv listed w → wpAny P .any ops Q fuel listed a w := by
  intro fuel
  induction fuel with
  | zero =>
    intro listed a w hsz hc h hw
    have hr : Region.ready .any ops listed = [] := none_ready hc
    exact ⟨hr, fin a w listed h.defers h.size hw (fun i o hi hd => h.done i o hi (ready_nil ht hr hsz i (lt_of_some hi)) (fun j hj => by rw [hd] at hj; cases hj)) (act_after h.defers h.size fun k hk => h.base k fun i o hi hdk => absurd hdk (by
      have hm : o ∈ ops.toList := by
        obtain ⟨hlt, rfl⟩ := Array.getElem?_eq_some_iff.1 hi
        simp
      have := List.all_eq_true.1 hk o hm
      simpa using this))⟩
  | succ fuel ih =>
    intro listed a w hsz hc h hw
    refine ⟨fun hr => fin a w listed h.defers h.size hw (fun i o hi hd => h.done i o hi (ready_nil ht hr hsz i (lt_of_some hi)) (fun j hj => by rw [hd] at hj; cases hj)) (act_after h.defers h.size fun k hk => h.base k fun i o hi hdk => absurd hdk (by
      have hm : o ∈ ops.toList := by
        obtain ⟨hlt, rfl⟩ := Array.getElem?_eq_some_iff.1 hi
        simp
      have := List.all_eq_true.1 hk o hm
      simpa using this)), fun i hi => ?_⟩
    obtain ⟨hl, o, ho, hd⟩ := mem_ready.1 hi
    have hst := hs.at_ (i := i) (o := o) (by simpa using ho)
    rw [Nat.zero_add] at hst
    refine wpOp_mono ?_ (hst listed a w h hw hl hd)
    rintro a' w' ⟨v, rfl, hr, hv⟩
    exact ih _ _ _ (by simpa using hsz) (count_step hl hc) (h.put ht hF hsz hl hd ho hr hv) (hI _ _ _ _ hw hl hr)
/-- THE REGION: from the world behind the draw. -/
theorem region_of_steps3 {id : Nat} {w : World} (hm : P.follows .mixedOrders = true) (F : Nat → Value → World → Prop) (dead : Nat → Option Nat) (R : Nat → World → World → Prop) (Inv : Array Bool → World → Prop) (ht : tidyB ops a0.tmps.size = true)
    (hF : ∀ i j v w w', i ≠ j → dead i ≠ some j → needs ops i j = false → F i v w → R j w w' → F i v w') (hI : ∀ listed j w w', Inv listed w → listed.getD j true = false → R j w w' → Inv (listed.setIfInBounds j true) w') (h0 : ∀ listed, Inv listed w.drew) (hs : Steps3 P ops Q a0 F dead R Inv 0 ops.toList)
    (fin : ∀ a w' listed, a.defers = a0.defers → a.tmps.size = a0.tmps.size → Inv listed w' → (∀ i o, ops[i]? = some o → dead i = none → F i (outOf a o) w') → a = (dstsOf ops).foldl (fun b k => b.put (some k) (a.tmps.getD k undef)) a0 → Q .normal a w') : (Code.region id ops true).wp P Q a0 w := by
  refine wp_region_any hm ?_
  refine any_of_steps3 (a0 := a0) (F := F) (dead := dead) (R := R) (Inv := Inv) ht hF hI hs fin ops.size (Array.replicate ops.size false) a0 w.drew (by simp) (by simp) ?_ (h0 _)
  exact ⟨rfl, rfl, fun k _ => rfl, fun i o hi hl => by simp at hl; exact absurd hl (by
    by_cases h : i < ops.size <;> simp [h]), fun i j _ hl => by
    simp at hl; exact absurd hl (by by_cases h : i < ops.size <;> simp [h]), by simp⟩
end
/-- As long as operation m is not done, all that was there stands; then all below block B, which is W0's. -/
def Until (m : Nat) (W0 Wa : World) (listed : Array Bool) (w : World) : Prop := Below W0.heap.size W0 w ∧ W0.heap.size ≤ w.heap.size ∧ (listed.getD m true = false → Later Wa w)
theorem until_start {m : Nat} {W0 Wa : World} (h : Below W0.heap.size W0 Wa) (listed : Array Bool) : Until m W0 Wa listed Wa := ⟨h, h.size, fun _ => later_refl _⟩
theorem until_step {m : Nat} {W0 Wa : World} {listed : Array Bool} {j : Nat} {w w' : World} (h : Until m W0 Wa listed w) (hl : listed.getD j true = false) (hR : But m W0.heap.size j w w') : Until m W0 Wa (listed.setIfInBounds j true) w' := by
  obtain ⟨h1, h2, h3⟩ := h
  obtain ⟨k1, k2⟩ := but_inv ⟨h1, h2⟩ hR
  refine ⟨k1, k2, fun hm => ?_⟩
  by_cases hj : j = m
  · subst hj
    exfalso
    by_cases hs : j < listed.size <;> simp [hs] at hm hl
  · have h4 : listed.getD m true = false := by rwa [getD_set_ne true hj] at hm
    unfold But at hR
    rw [if_neg hj] at hR
    exact later_trans _ _ _ (h3 h4) hR
/-- Operation m turns the row 'ob' alone; all others nothing that was there. -/
def ButRow (m : Nat) (ob : Option Nat) (j : Nat) (x y : World) : Prop := if j = m then x.grownBy y ob else Later x y
theorem butrow_later {m : Nat} {ob : Option Nat} {j : Nat} {x y : World} (hj : j ≠ m) (h : Later x y) : ButRow m ob j x y := by unfold ButRow; rw [if_neg hj]; exact h
theorem butrow_own {m : Nat} {ob : Option Nat} {x y : World} (h : x.grownBy y ob) : ButRow m ob m x y := by unfold ButRow; rw [if_pos rfl]; exact h
theorem butrow_refl {m : Nat} {ob : Option Nat} {j : Nat} (x : World) : ButRow m ob j x x := by unfold ButRow; split; exact World.grownBy.refl _ _; exact later_refl _
theorem butrow_grown {m : Nat} {ob : Option Nat} {j : Nat} {x y : World} (h : ButRow m ob j x y) : x.grownBy y ob := by
  unfold ButRow at h
  split at h
  · exact h
  · exact ⟨h.os, h.tape, h.output, h.size, fun i hi _ => h.block i hi⟩
/-- Facts that tell memory must be used up by 'm', or come behind it. -/
theorem fact2_stays_row (ops : Array Oper) (l : List Fact2) (m : Nat) (ob : Option Nat) (ds : List (Nat × Nat)) (hds : ∀ i, (∃ v, l[i]? = some (.is v)) ∨ deadOf ds i = some m ∨ l[i]? = none ∨ i = m ∨ needs ops i m = true) (i j : Nat) (v : Value) (w w' : World) (hm : i ≠ j) (hd : deadOf ds i ≠ some j) (hnn : needs ops i j = false) (h : fact2Of l i v w) (hR : ButRow m ob j w w') : fact2Of l i v w' := by
  refine fact2_stays ops l m 0 ds hds i j v w w' hm hd hnn h ?_
  unfold But
  unfold ButRow at hR
  split
  · rw [if_pos (by assumption)] at hR
    exact ⟨hR.os, hR.tape, hR.output, hR.size, fun k hk => absurd hk (Nat.not_lt_zero k)⟩
  · rw [if_neg (by assumption)] at hR
    exact hR
/-- As long as operation m is not done, all that was there stands; then all but the row 'ob'. -/
def UntilRow (m : Nat) (ob : Option Nat) (Wa : World) (listed : Array Bool) (w : World) : Prop := Wa.grownBy w ob ∧ (listed.getD m true = false → Later Wa w)
theorem untilrow_start {m : Nat} {ob : Option Nat} {Wa : World} (listed : Array Bool) : UntilRow m ob Wa listed Wa := ⟨World.grownBy.refl _ _, fun _ => later_refl _⟩
theorem untilrow_step {m : Nat} {ob : Option Nat} {Wa : World} {listed : Array Bool} {j : Nat} {w w' : World} (h : UntilRow m ob Wa listed w) (hl : listed.getD j true = false) (hR : ButRow m ob j w w') : UntilRow m ob Wa (listed.setIfInBounds j true) w' := by
  obtain ⟨h1, h3⟩ := h
  refine ⟨grownBy_trans h1 (butrow_grown hR), fun hm => ?_⟩
  by_cases hj : j = m
  · subst hj
    exfalso
    by_cases hs : j < listed.size <;> simp [hs] at hm hl
  · have h4 : listed.getD m true = false := by rwa [getD_set_ne true hj] at hm
    unfold ButRow at hR
    rw [if_neg hj] at hR
    exact later_trans _ _ _ (h3 h4) hR
end Go.Proofs.Ytfidamiomnohcaa
