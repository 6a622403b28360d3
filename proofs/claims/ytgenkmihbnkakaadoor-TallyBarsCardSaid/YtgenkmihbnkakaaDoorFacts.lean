/- A region that draws its order, told op by op: whatever order its edges allow, each operation finds what those before it have left. Conditions: each temporary is written once; what is known of a temporary stays. -/
import Derived.Orders
import Derived.WalkKit
set_option linter.unusedVariables false
set_option linter.unusedSimpArgs false
set_option maxRecDepth 20000
namespace Go.Proofs.YtgenkmihbnkakaaDoor
open Go

/-- What operation o has left in its temporary. -/
def outOf (a : Act) (o : Oper) : Value := match o.dst with | some d => a.tmps.getD d undef | none => undef

structure Holds (ops : Array Oper) (a0 : Act) (F : Nat → Value → World → Prop) (listed : Array Bool) (a : Act) (w : World) : Prop where
  defers : a.defers = a0.defers
  size : a.tmps.size = a0.tmps.size
  base : ∀ k, (∀ i o, ops[i]? = some o → o.dst = some k → listed.getD i true = false) → a.tmps.getD k undef = a0.tmps.getD k undef
  done : ∀ i o, ops[i]? = some o → listed.getD i false = true → F i (outOf a o) w

/-- Each temporary is written by one operation, and lies in the frame; each operation waits for earlier ones alone. -/
def tidyB (ops : Array Oper) (n : Nat) : Bool :=
  ((List.range ops.size).all fun i => (List.range ops.size).all fun j => i == j || (match (ops[i]?).bind (·.dst), (ops[j]?).bind (·.dst) with | some d, some e => d != e | _, _ => true)) &&
  ((List.range ops.size).all fun i => match ops[i]? with | some o => (match o.dst with | some d => decide (d < n) | none => true) && o.after.all fun e => !Region.binds .any e || decide (e.on < i) | none => true)
section
variable {ops : Array Oper} {n : Nat}
theorem lt_of_some {i : Nat} {o : Oper} (h : ops[i]? = some o) : i < ops.size := (Array.getElem?_eq_some_iff.1 h).1
theorem tidy_once (h : tidyB ops n = true) {i j : Nat} {o p : Oper} {d : Nat} (hi : ops[i]? = some o) (hj : ops[j]? = some p) (hd : o.dst = some d) (he : p.dst = some d) : i = j := by
  unfold tidyB at h
  rw [Bool.and_eq_true] at h
  have h1 := List.all_eq_true.1 (List.all_eq_true.1 h.1 i (List.mem_range.2 (lt_of_some hi))) j (List.mem_range.2 (lt_of_some hj))
  simp only [hi, hj, Option.bind_some, hd, he] at h1
  simpa using h1
theorem tidy_in (h : tidyB ops n = true) {i : Nat} {o : Oper} {d : Nat} (hi : ops[i]? = some o) (hd : o.dst = some d) : d < n := by
  unfold tidyB at h
  rw [Bool.and_eq_true] at h
  have h1 := List.all_eq_true.1 h.2 i (List.mem_range.2 (lt_of_some hi))
  simp only [hi, hd, Bool.and_eq_true, decide_eq_true_eq] at h1
  exact h1.1
theorem tidy_back (h : tidyB ops n = true) {i : Nat} {o : Oper} (hi : ops[i]? = some o) : ∀ e ∈ o.after, Region.binds .any e = true → e.on < i := by
  unfold tidyB at h
  rw [Bool.and_eq_true] at h
  have h1 := List.all_eq_true.1 h.2 i (List.mem_range.2 (lt_of_some hi))
  simp only [hi, Bool.and_eq_true] at h1
  intro e he hb
  have := Array.all_eq_true_iff_forall_mem.1 h1.2 e he
  simpa [hb] using this
theorem ready_nil (h : tidyB ops n = true) {listed : Array Bool} (hr : Region.ready .any ops listed = []) (hs : listed.size = ops.size) : ∀ i, i < ops.size → listed.getD i false = true := by
  intro i
  induction i using Nat.strongRecOn with
  | ind i ih =>
    intro hi
    by_cases hl : listed.getD i true = false
    · exfalso
      have : i ∈ Region.ready .any ops listed := mem_ready.2 ⟨hl, ops[i], Array.getElem?_eq_getElem hi, fun e he hbn => by
        have hb := tidy_back h (Array.getElem?_eq_getElem hi) e he hbn
        exact ih e.on hb (by omega)⟩
      rw [hr] at this
      cases this
    · have hi' : i < listed.size := by omega
      simp [hi'] at hl ⊢
      exact hl
theorem count_step {listed : Array Bool} {i fuel : Nat} (hl : listed.getD i true = false) (hc : listed.toList.count false = fuel + 1) : (listed.setIfInBounds i true).toList.count false = fuel := by
  have hi : i < listed.size := by
    rcases Nat.lt_or_ge i listed.size with h | h
    · exact h
    · simp [Array.getElem?_eq_none h] at hl
  have hv : listed[i] = false := by simpa [hi] using hl
  rw [Array.toList_setIfInBounds, List.count_set (by simpa using hi)]
  simp [hv, hc]
theorem none_ready {md : Region.Mode} {listed : Array Bool} (hc : listed.toList.count false = 0) : Region.ready md ops listed = [] := by
  rw [List.eq_nil_iff_forall_not_mem]
  intro i hi
  have hl := (mem_ready.1 hi).1
  have hi' : i < listed.size := by
    rcases Nat.lt_or_ge i listed.size with h | h
    · exact h
    · simp [Array.getElem?_eq_none h] at hl
  have hv : listed[i] = false := by simpa [hi'] using hl
  have : false ∈ listed.toList := by rw [← hv]; simp
  exact absurd (List.count_pos_iff.2 this) (by omega)

variable {P : Program} {Q : Exit → Act → World → Prop} {a0 : Act} {F : Nat → Value → World → Prop} {R : World → World → Prop} {w0 : World}

/-- What is to be shown of operation number i. -/
def Step (P : Program) (ops : Array Oper) (Q : Exit → Act → World → Prop) (a0 : Act) (F : Nat → Value → World → Prop) (R : World → World → Prop) (w0 : World) (i : Nat) (o : Oper) : Prop :=
  ∀ (listed : Array Bool) (a : Act) (w : World), Holds ops a0 F listed a w → R w0 w → (∀ e ∈ o.after, Region.binds .any e = true → listed.getD e.on false = true) →
    wpOp P ops Q i (fun a' w' => ∃ v, a' = a.put o.dst v ∧ R w w' ∧ F i (match o.dst with | some _ => v | none => undef) w') a w
def Steps (P : Program) (ops : Array Oper) (Q : Exit → Act → World → Prop) (a0 : Act) (F : Nat → Value → World → Prop) (R : World → World → Prop) (w0 : World) : Nat → List Oper → Prop
  | _, [] => True
  | i, o :: rest => Step P ops Q a0 F R w0 i o ∧ Steps P ops Q a0 F R w0 (i + 1) rest
theorem Steps.at_ : ∀ {l : List Oper} {k : Nat}, Steps P ops Q a0 F R w0 k l → ∀ {i : Nat} {o : Oper}, l[i]? = some o → Step P ops Q a0 F R w0 (k + i) o
  | [], _, _, _, _, h => by simp at h
  | _ :: _, k, hs, 0, o, h => by
    simp at h
    subst h
    exact hs.1
  | _ :: rest, k, hs, i + 1, o, h => by
    have := Steps.at_ hs.2 (i := i) (o := o) (by simpa using h)
    rw [show k + (i + 1) = k + 1 + i by omega]
    exact this

theorem Holds.put {listed : Array Bool} {a : Act} {w w' : World} {i : Nat} {o : Oper} {v : Value} (ht : tidyB ops a0.tmps.size = true) (hF : ∀ i v w w', F i v w → R w w' → F i v w')
    (h : Holds ops a0 F listed a w) (hs : listed.size = ops.size) (hi : ops[i]? = some o) (hR : R w w') (hv : F i (match o.dst with | some _ => v | none => undef) w') : Holds ops a0 F (listed.setIfInBounds i true) (a.put o.dst v) w' := by
  have hil : i < listed.size := by rw [hs]; exact lt_of_some hi
  have hput : ∀ d, (a.put o.dst v).tmps.getD d undef = if o.dst = some d ∧ d < a.tmps.size then v else a.tmps.getD d undef := by
    intro d
    unfold Act.put
    cases hd : o.dst with
    | none => simp
    | some e =>
      simp only [Option.some.injEq]
      by_cases hed : e = d
      · subst hed
        by_cases hlt : e < a.tmps.size
        · simp [hlt]
        · simp [hlt, Array.getElem?_eq_none (Nat.le_of_not_lt hlt)]
      · simp [hed, Array.getElem?_setIfInBounds_ne hed]
  refine ⟨?_, ?_, fun k hk => ?_, fun j p hj hl => ?_⟩
  · rw [← h.defers]; unfold Act.put; cases o.dst <;> rfl
  · rw [← h.size]; unfold Act.put; cases o.dst <;> simp
  · have hik : o.dst ≠ some k := fun e => by
      have := hk i o hi e
      simp [hil] at this
    rw [hput, if_neg (fun hh => hik hh.1)]
    refine h.base k fun j p hj hp => ?_
    have := hk j p hj hp
    by_cases hij : i = j
    · subst hij
      simp [hil] at this
    · rwa [getD_set_ne true hij] at this
  · by_cases hij : i = j
    · subst hij
      obtain rfl := Option.some.inj (hi.symm.trans hj)
      unfold outOf
      cases hd : o.dst with
      | none => rw [hd] at hv; exact hv
      | some d =>
        rw [hd] at hv
        have hlt : d < a.tmps.size := by rw [h.size]; exact tidy_in ht hi hd
        have := hput d
        rw [hd] at this
        simp only [hlt, and_self, if_true] at this
        show F i ((a.put (some d) v).tmps.getD d undef) w'
        rw [this]; exact hv
    · rw [getD_set_ne false hij] at hl
      have h0 := hF j _ w w' (h.done j p hj hl) hR
      have : outOf (a.put o.dst v) p = outOf a p := by
        unfold outOf
        cases hd : p.dst with
        | none => rfl
        | some d =>
          show (a.put o.dst v).tmps.getD d undef = a.tmps.getD d undef
          rw [hput, if_neg (fun hh => hij (tidy_once ht hi hj hh.1 hd))]
      rw [this]; exact h0

theorem any_of_steps (ht : tidyB ops a0.tmps.size = true) (hF : ∀ i v w w', F i v w → R w w' → F i v w') (hR : ∀ x y z, R x y → R y z → R x z) (hs : Steps P ops Q a0 F R w0 0 ops.toList)
    (fin : ∀ a w, a.defers = a0.defers → a.tmps.size = a0.tmps.size → R w0 w → (∀ i o, ops[i]? = some o → F i (outOf a o) w) → Q .normal a w) :
    ∀ (fuel : Nat) (listed : Array Bool) (a : Act) (w : World), listed.size = ops.size → listed.toList.count false = fuel → Holds ops a0 F listed a w → R w0 w → wpAny P .any ops Q fuel listed a w := by
  intro fuel
  induction fuel with
  | zero =>
    intro listed a w hsz hc h hw
    have hr : Region.ready .any ops listed = [] := none_ready hc
    exact ⟨hr, fin a w h.defers h.size hw fun i o hi => h.done i o hi (ready_nil ht hr hsz i (lt_of_some hi))⟩
  | succ fuel ih =>
    intro listed a w hsz hc h hw
    refine ⟨fun hr => fin a w h.defers h.size hw fun i o hi => h.done i o hi (ready_nil ht hr hsz i (lt_of_some hi)), fun i hi => ?_⟩
    obtain ⟨hl, o, ho, hd⟩ := mem_ready.1 hi
    have hst := hs.at_ (i := i) (o := o) (by simpa using ho)
    rw [Nat.zero_add] at hst
    refine wpOp_mono ?_ (hst listed a w h hw hd)
    rintro a' w' ⟨v, rfl, hr, hv⟩
    exact ih _ _ _ (by simpa using hsz) (count_step hl hc) (h.put ht hF hsz ho hr hv) (hR _ _ _ hw hr)

/-- THE REGION: from the world behind the draw. -/
theorem region_of_steps {id : Nat} {w : World} (hm : P.follows .mixedOrders = true) (F : Nat → Value → World → Prop) (R : World → World → Prop) (ht : tidyB ops a0.tmps.size = true)
    (hF : ∀ i v w w', F i v w → R w w' → F i v w') (hR : ∀ x y z, R x y → R y z → R x z) (h0 : R w.drew w.drew) (hs : Steps P ops Q a0 F R w.drew 0 ops.toList)
    (fin : ∀ a w', a.defers = a0.defers → a.tmps.size = a0.tmps.size → R w.drew w' → (∀ i o, ops[i]? = some o → F i (outOf a o) w') → Q .normal a w') : (Code.region id ops true).wp P Q a0 w := by
  refine wp_region_any hm ?_
  refine any_of_steps (w0 := w.drew) (a0 := a0) (F := F) (R := R) ht hF hR hs fin ops.size (Array.replicate ops.size false) a0 w.drew (by simp) (by simp) ?_ h0
  exact ⟨rfl, rfl, fun k _ => rfl, fun i o hi hl => by simp at hl; exact absurd hl (by
    by_cases h : i < ops.size <;> simp [h])⟩

/-- What a temporary that an earlier operation writes holds. -/
theorem Holds.get {listed : Array Bool} {a : Act} {w : World} (h : Holds ops a0 F listed a w) (i d : Nat) (hi : (ops[i]?).bind (·.dst) = some d) (hl : listed.getD i false = true) : F i (a.tmps.getD d undef) w := by
  cases ho : ops[i]? with
  | none => rw [ho] at hi; cases hi
  | some o =>
    rw [ho] at hi
    have hd : o.dst = some d := hi
    have := h.done i o ho hl
    unfold outOf at this
    rw [hd] at this
    exact this
/-- What a temporary that no operation of the region writes holds. -/
theorem Holds.old {listed : Array Bool} {a : Act} {w : World} (h : Holds ops a0 F listed a w) (k : Nat) (hk : (ops.toList.all fun o => o.dst != some k) = true) : a.tmps.getD k undef = a0.tmps.getD k undef :=
  h.base k fun i o hi hd => by
    have hm : o ∈ ops.toList := by
      have := (Array.getElem?_eq_some_iff.1 hi)
      obtain ⟨hlt, rfl⟩ := this
      simp
    have := List.all_eq_true.1 hk o hm
    rw [hd] at this
    simp at this

/- the ways that a step is shown -/
theorem step_value {i : Nat} {o : Oper} {a : Act} {w w' : World} {v : Value} (ho : ops[i]? = some o) (hw : Region.wanted o (yielded ops a.tmps) = true) (hrun : (execOp a.eval o).run P w = .ok (.value v) w') (hR : R w w') (hv : F i (match o.dst with | some _ => v | none => undef) w') :
    wpOp P ops Q i (fun a' w' => ∃ v, a' = a.put o.dst v ∧ R w w' ∧ F i (match o.dst with | some _ => v | none => undef) w') a w := by
  unfold wpOp
  simp only [ho, hw, if_true]
  refine Or.inl ?_
  unfold Oper.wp
  rw [hrun]
  exact ⟨v, rfl, hR, hv⟩
theorem wanted_at {o : Oper} {a : Act} {j : Nat} {d : Tmp} {b : Bool} (hg : o.guard = some (j, b)) (hd : (ops[j]?).bind (·.dst) = some d) (hv : a.tmps.getD d undef = .bool b) : Region.wanted o (yielded ops a.tmps) = true := by
  have : a.tmps[d]? = some (.bool b) := by
    rcases Nat.lt_or_ge d a.tmps.size with h | h
    · simp only [Array.getD_eq_getD_getElem?, Array.getElem?_eq_getElem h, Option.getD_some] at hv ⊢
      rw [hv]
    · simp only [Array.getD_eq_getD_getElem?, Array.getElem?_eq_none h, Option.getD_none] at hv
      cases hv
  have hy : yielded ops a.tmps j = some b := by
    unfold yielded
    simp only [hd, Option.bind_some, this]
  simp only [Region.wanted, hg, hy, beq_self_eq_true]
theorem step_call {i : Nat} {o : Oper} {a : Act} {w : World} {f : FuncId} {args : Array Value} (ho : ops[i]? = some o) (hw : Region.wanted o (yielded ops a.tmps) = true) (hrun : (execOp a.eval o).run P w = .ok (.enter f args) w)
    (hc : Calls P f args w fun e w' => ∃ v, e = .returned v ∧ R w w' ∧ F i (match o.dst with | some _ => v | none => undef) w') :
    wpOp P ops Q i (fun a' w' => ∃ v, a' = a.put o.dst v ∧ R w w' ∧ F i (match o.dst with | some _ => v | none => undef) w') a w := by
  unfold wpOp
  simp only [ho, hw, if_true]
  refine Or.inl ?_
  unfold Oper.wp
  rw [hrun]
  refine hc.mono ?_
  rintro e w' ⟨v, rfl, hr, hv⟩
  exact ⟨v, rfl, hr, hv⟩
end
end Go.Proofs.YtgenkmihbnkakaaDoor
