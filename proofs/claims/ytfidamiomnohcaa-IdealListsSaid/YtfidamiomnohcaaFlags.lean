/- A region that draws its order, told op by op, where what holds of the world hangs on which of some operations (the list ms) are done, in whatever order: these may turn what they like, as long as that holds; all others nothing that was there. Conditions: each temporary is written once. -/
import Derived.Test.YtfidamiomnohcaaTail
set_option linter.unusedVariables false
set_option linter.unusedSimpArgs false
set_option maxRecDepth 20000
namespace Go.Proofs.Ytfidamiomnohcaa
open Go Go.RowKit

section
variable {ops : Array Oper} {P : Program} {Q : Exit → Act → World → Prop} {a0 : Act} {F : Nat → Value → World → Prop} {dead : Nat → Option Nat} {RL : Array Bool → Nat → World → World → Prop} {Inv : Array Bool → World → Prop}
def Step6 (P : Program) (ops : Array Oper) (Q : Exit → Act → World → Prop) (a0 : Act) (F : Nat → Value → World → Prop) (dead : Nat → Option Nat) (RL : Array Bool → Nat → World → World → Prop) (Inv : Array Bool → World → Prop) (i : Nat) (o : Oper) : Prop :=
  ∀ (listed : Array Bool) (a : Act) (w : World), Holds2 ops a0 F dead listed a w → Inv listed w → listed.getD i true = false → (∀ e ∈ o.after, Region.binds .any e = true → listed.getD e.on false = true) →
    wpOp P ops Q i (fun a' w' => ∃ v, a' = a.put o.dst v ∧ RL listed i w w' ∧ F i (match o.dst with | some _ => v | none => undef) w') a w
def Steps6 (P : Program) (ops : Array Oper) (Q : Exit → Act → World → Prop) (a0 : Act) (F : Nat → Value → World → Prop) (dead : Nat → Option Nat) (RL : Array Bool → Nat → World → World → Prop) (Inv : Array Bool → World → Prop) : Nat → List Oper → Prop
  | _, [] => True
  | i, o :: rest => Step6 P ops Q a0 F dead RL Inv i o ∧ Steps6 P ops Q a0 F dead RL Inv (i + 1) rest
theorem Steps6.cons {i : Nat} {o : Oper} {rest : List Oper} (h : Step6 P ops Q a0 F dead RL Inv i o) (hs : Steps6 P ops Q a0 F dead RL Inv (i + 1) rest) : Steps6 P ops Q a0 F dead RL Inv i (o :: rest) := ⟨h, hs⟩
theorem Steps6.nil {i : Nat} : Steps6 P ops Q a0 F dead RL Inv i [] := trivial
theorem Steps6.at_ : ∀ {l : List Oper} {k : Nat}, Steps6 P ops Q a0 F dead RL Inv k l → ∀ {i : Nat} {o : Oper}, l[i]? = some o → Step6 P ops Q a0 F dead RL Inv (k + i) o
  | [], _, _, _, _, h => by simp at h
  | _ :: _, k, hs, 0, o, h => by
    simp at h
    subst h
    exact hs.1
  | _ :: rest, k, hs, i + 1, o, h => by
    have := Steps6.at_ hs.2 (i := i) (o := o) (by simpa using h)
    rw [show k + (i + 1) = k + 1 + i by omega]
    exact this
theorem any_of_steps6 (ht : tidyB ops a0.tmps.size = true) (hF : ∀ listed i j v w w', i ≠ j → dead i ≠ some j → needs ops i j = false → (∀ d, dead i = some d → needs ops j d = false) → F i v w → RL listed j w w' → F i v w') (hI : ∀ listed j w w', Inv listed w → listed.getD j true = false → RL listed j w w' → Inv (listed.setIfInBounds j true) w') (hs : Steps6 P ops Q a0 F dead RL Inv 0 ops.toList)
    (fin : ∀ a w listed, a.defers = a0.defers → a.tmps.size = a0.tmps.size → Inv listed w → (∀ m, m < ops.size → listed.getD m false = true) → (∀ i o, ops[i]? = some o → dead i = none → F i (outOf a o) w) → a = (dstsOf ops).foldl (fun b k => b.put (some k) (a.tmps.getD k undef)) a0 → Q .normal a w) :
    ∀ (fuel : Nat) (listed : Array Bool) (a : Act) (w : World), listed.size = ops.size → listed.toList.count false = fuel → Holds2 ops a0 F dead listed a w → Inv listed w → wpAny P .any ops Q fuel listed a w := by
  intro fuel
  induction fuel with
  | zero =>
    intro listed a w hsz hc h hw
    have hr : Region.ready .any ops listed = [] := none_ready hc
    exact ⟨hr, fin a w listed h.defers h.size hw (ready_nil ht hr hsz) (fun i o hi hd => h.done i o hi (ready_nil ht hr hsz i (lt_of_some hi)) (fun j hj => by rw [hd] at hj; cases hj)) (act_after h.defers h.size fun k hk => h.base k fun i o hi hdk => absurd hdk (by
      have hm : o ∈ ops.toList := by
        obtain ⟨hlt, rfl⟩ := Array.getElem?_eq_some_iff.1 hi
        simp
      have := List.all_eq_true.1 hk o hm
      simpa using this))⟩
  | succ fuel ih =>
    intro listed a w hsz hc h hw
    refine ⟨fun hr => fin a w listed h.defers h.size hw (ready_nil ht hr hsz) (fun i o hi hd => h.done i o hi (ready_nil ht hr hsz i (lt_of_some hi)) (fun j hj => by rw [hd] at hj; cases hj)) (act_after h.defers h.size fun k hk => h.base k fun i o hi hdk => absurd hdk (by
      have hm : o ∈ ops.toList := by
        obtain ⟨hlt, rfl⟩ := Array.getElem?_eq_some_iff.1 hi
        simp
      have := List.all_eq_true.1 hk o hm
      simpa using this)), fun i hi => ?_⟩
    obtain ⟨hl, o, ho, hd⟩ := mem_ready.1 hi
    have hst := hs.at_ (i := i) (o := o) (by simpa using ho)
    rw [Nat.zero_add] at hst
    refine wpOp_mono ?_ (hst listed a w h hw hl hd)
    rintro a' w' ⟨v, rfl, hr, hv⟩
    exact ih _ _ _ (by simpa using hsz) (count_step hl hc) (h.put4 (R := RL listed) ht (hF listed) hsz hl hd ho hr hv) (hI _ _ _ _ hw hl hr)
/-- THE REGION: from the world behind the draw. -/
theorem region_of_steps6 {id : Nat} {w : World} (hm : P.follows .mixedOrders = true) (F : Nat → Value → World → Prop) (dead : Nat → Option Nat) (RL : Array Bool → Nat → World → World → Prop) (Inv : Array Bool → World → Prop) (ht : tidyB ops a0.tmps.size = true)
    (hF : ∀ listed i j v w w', i ≠ j → dead i ≠ some j → needs ops i j = false → (∀ d, dead i = some d → needs ops j d = false) → F i v w → RL listed j w w' → F i v w') (hI : ∀ listed j w w', Inv listed w → listed.getD j true = false → RL listed j w w' → Inv (listed.setIfInBounds j true) w') (h0 : Inv (Array.replicate ops.size false) w.drew) (hs : Steps6 P ops Q a0 F dead RL Inv 0 ops.toList)
    (fin : ∀ a w' listed, a.defers = a0.defers → a.tmps.size = a0.tmps.size → Inv listed w' → (∀ m, m < ops.size → listed.getD m false = true) → (∀ i o, ops[i]? = some o → dead i = none → F i (outOf a o) w') → a = (dstsOf ops).foldl (fun b k => b.put (some k) (a.tmps.getD k undef)) a0 → Q .normal a w') : (Code.region id ops true).wp P Q a0 w := by
  refine wp_region_any hm ?_
  refine any_of_steps6 (a0 := a0) (F := F) (dead := dead) (RL := RL) (Inv := Inv) ht hF hI hs fin ops.size (Array.replicate ops.size false) a0 w.drew (by simp) (by simp) ?_ h0
  exact ⟨rfl, rfl, fun k _ => rfl, fun i o hi hl => by simp at hl; exact absurd hl (by
    by_cases h : i < ops.size <;> simp [h]), fun i j _ hl => by
    simp at hl; exact absurd hl (by by_cases h : i < ops.size <;> simp [h]), by simp⟩
end
/-- Which of the operations are done. -/
def flags (ms : List Nat) (listed : Array Bool) : List Bool := ms.map fun m => listed.getD m true
theorem flags_other {ms : List Nat} {listed : Array Bool} {j : Nat} (hj : ms.contains j = false) : flags ms (listed.setIfInBounds j true) = flags ms listed := by
  unfold flags
  refine List.map_congr_left fun m hm => ?_
  have hne : j ≠ m := fun e => by
    subst e
    have : ms.contains j = true := by simpa using hm
    rw [hj] at this; cases this
  exact getD_set_ne true hne
/-- The operations of the list make what I says behind them; all others turn nothing that was there. -/
def Flag (I : List Bool → World → Prop) (ms : List Nat) (listed : Array Bool) (j : Nat) (x y : World) : Prop := (ms.contains j = false → Later x y) ∧ (ms.contains j = true → I (flags ms (listed.setIfInBounds j true)) y)
theorem flag_later {I : List Bool → World → Prop} {ms : List Nat} {listed : Array Bool} {j : Nat} {x y : World} (hj : ms.contains j = false) (h : Later x y) : Flag I ms listed j x y := ⟨fun _ => h, fun k => by rw [hj] at k; cases k⟩
theorem flag_here {I : List Bool → World → Prop} {ms : List Nat} {listed : Array Bool} {j : Nat} {x y : World} (hj : ms.contains j = true) (h : I (flags ms (listed.setIfInBounds j true)) y) : Flag I ms listed j x y := ⟨fun k => (by rw [hj] at k; cases k), fun _ => h⟩
theorem flag_step {I : List Bool → World → Prop} {ms : List Nat} (hI : ∀ fs x y, I fs x → Later x y → I fs y) {listed : Array Bool} {j : Nat} {x y : World} (h : I (flags ms listed) x) (hR : Flag I ms listed j x y) : I (flags ms (listed.setIfInBounds j true)) y := by
  cases hj : ms.contains j with
  | true => exact hR.2 hj
  | false => rw [flags_other hj]; exact hI _ _ _ h (hR.1 hj)
theorem flag_stays {I : List Bool → World → Prop} (ops : Array Oper) (l : List Fact2) (ms : List Nat) (ds : List (Nat × Nat)) (hds : hdsT ops l ms ds = true) (listed : Array Bool) (i j : Nat) (v : Value) (w w' : World) (hm : i ≠ j) (hd : deadOf ds i ≠ some j) (hnn : needs ops i j = false) (hdd : ∀ d, deadOf ds i = some d → needs ops j d = false) (h : fact2Of l i v w) (hR : Flag I ms listed j w w') : fact2Of l i v w' :=
  turns_stays ops l ms ds hds i j v w w' hm hd hnn hdd h hR.1
theorem flags_start {ms : List Nat} {n : Nat} (h : (ms.all fun m => decide (m < n)) = true) : flags ms (Array.replicate n false) = ms.map fun _ => false := by
  unfold flags
  refine List.map_congr_left fun m hm => ?_
  have := of_decide_eq_true (List.all_eq_true.1 h m hm)
  simp [this]
theorem flags_end {ms : List Nat} {n : Nat} {listed : Array Bool} (h : (ms.all fun m => decide (m < n)) = true) (hl : ∀ m, m < n → listed.getD m false = true) : flags ms listed = ms.map fun _ => true := by
  unfold flags
  refine List.map_congr_left fun m hm => ?_
  have h1 := hl m (of_decide_eq_true (List.all_eq_true.1 h m hm))
  by_cases h2 : m < listed.size
  · simp only [Array.getD, h2, dif_pos] at h1 ⊢; exact h1
  · simp [Array.getD, h2] at h1
section
variable {ops : Array Oper} {P : Program} {Q : Exit → Act → World → Prop} {a0 : Act}
/-- THE REGION. -/
theorem region_of_flags {id : Nat} {w : World} (hm : P.follows .mixedOrders = true) (l : List Fact2) (ds : List (Nat × Nat)) (ms : List Nat) (I : List Bool → World → Prop) (ht : tidyB ops a0.tmps.size = true)
    (hds : hdsT ops l ms ds = true) (hms : (ms.all fun m => decide (m < ops.size)) = true) (hI : ∀ fs x y, I fs x → Later x y → I fs y) (h0 : I (ms.map fun _ => false) w.drew)
    (hs : Steps6 P ops Q a0 (fact2Of l) (deadOf ds) (Flag I ms) (fun listed w => I (flags ms listed) w) 0 ops.toList)
    (fin : ∀ a w', a.defers = a0.defers → a.tmps.size = a0.tmps.size → I (ms.map fun _ => true) w' → (∀ i o, ops[i]? = some o → deadOf ds i = none → fact2Of l i (outOf a o) w') → a = (dstsOf ops).foldl (fun b k => b.put (some k) (a.tmps.getD k undef)) a0 → Q .normal a w') : (Code.region id ops true).wp P Q a0 w :=
  region_of_steps6 hm (fact2Of l) (deadOf ds) (Flag I ms) (fun listed w => I (flags ms listed) w) ht (fun listed i j v w w' h1 h2 h3 h4 h5 h6 => flag_stays ops l ms ds hds listed i j v w w' h1 h2 h3 h4 h5 h6)
    (fun listed j w w' h _ hR => flag_step hI h hR) (by rw [flags_start hms]; exact h0) hs
    (fun a w' listed h1 h2 h3 h4 h5 h6 => fin a w' h1 h2 (by rw [flags_end hms h4] at h3; exact h3) h5 h6)
end
end Go.Proofs.Ytfidamiomnohcaa
