/- A region that draws its order, told op by op: the values that are known ahead (V), and beside them one law J of which of some operations (ms) are done, of some slots (ks), and of the world; J stays where new memory alone is made. Conditions: each temporary is written once. -/
import Derived.Test.YtfidamiomnohcaaFlags
set_option linter.unusedVariables false
set_option linter.unusedSimpArgs false
set_option maxRecDepth 20000
namespace Go.Proofs.Ytfidamiomnohcaa
open Go Go.RowKit

def slots (ks : List Nat) (a : Act) : List Value := ks.map fun k => a.tmps.getD k undef
def fv (V : List (Option Value)) (i : Nat) (v : Value) (_ : World) : Prop := match V[i]? with | some (some u) => v = u | _ => True
def none7 (_ : Nat) : Option Nat := none
section
variable {ops : Array Oper} {P : Program} {Q : Exit → Act → World → Prop} {a0 : Act} {V : List (Option Value)} {ms ks : List Nat} {J : List Bool → List Value → World → Prop}
def Step7 (P : Program) (ops : Array Oper) (Q : Exit → Act → World → Prop) (a0 : Act) (V : List (Option Value)) (ms ks : List Nat) (J : List Bool → List Value → World → Prop) (i : Nat) (o : Oper) : Prop :=
  ∀ (listed : Array Bool) (a : Act) (w : World), Holds2 ops a0 (fv V) none7 listed a w → J (flags ms listed) (slots ks a) w → listed.getD i true = false → (∀ e ∈ o.after, Region.binds .any e = true → listed.getD e.on false = true) →
    wpOp P ops Q i (fun a' w' => ∃ v, a' = a.put o.dst v ∧ J (flags ms (listed.setIfInBounds i true)) (slots ks (a.put o.dst v)) w' ∧ fv V i (match o.dst with | some _ => v | none => undef) w') a w
def Steps7 (P : Program) (ops : Array Oper) (Q : Exit → Act → World → Prop) (a0 : Act) (V : List (Option Value)) (ms ks : List Nat) (J : List Bool → List Value → World → Prop) : Nat → List Oper → Prop
  | _, [] => True
  | i, o :: rest => Step7 P ops Q a0 V ms ks J i o ∧ Steps7 P ops Q a0 V ms ks J (i + 1) rest
theorem Steps7.cons {i : Nat} {o : Oper} {rest : List Oper} (h : Step7 P ops Q a0 V ms ks J i o) (hs : Steps7 P ops Q a0 V ms ks J (i + 1) rest) : Steps7 P ops Q a0 V ms ks J i (o :: rest) := ⟨h, hs⟩
theorem Steps7.nil {i : Nat} : Steps7 P ops Q a0 V ms ks J i [] := trivial
theorem Steps7.at_ : ∀ {l : List Oper} {k : Nat}, Steps7 P ops Q a0 V ms ks J k l → ∀ {i : Nat} {o : Oper}, l[i]? = some o → Step7 P ops Q a0 V ms ks J (k + i) o
  | [], _, _, _, _, h => by simp at h
  | _ :: _, k, hs, 0, o, h => by
    simp at h
    subst h
    exact hs.1
  | _ :: rest, k, hs, i + 1, o, h => by
    have := Steps7.at_ hs.2 (i := i) (o := o) (by simpa using h)
    rw [show k + (i + 1) = k + 1 + i by omega]
    exact this
theorem any_of_steps7 (ht : tidyB ops a0.tmps.size = true) (hs : Steps7 P ops Q a0 V ms ks J 0 ops.toList)
    (fin : ∀ a w, a.defers = a0.defers → a.tmps.size = a0.tmps.size → (∀ listed : Array Bool, (∀ i, i < ops.size → listed.getD i false = true) → listed.size = ops.size → J (flags ms listed) (slots ks a) w) → (∀ i o, ops[i]? = some o → fv V i (outOf a o) w) → a = (dstsOf ops).foldl (fun b k => b.put (some k) (a.tmps.getD k undef)) a0 → Q .normal a w) :
    ∀ (fuel : Nat) (listed : Array Bool) (a : Act) (w : World), listed.size = ops.size → listed.toList.count false = fuel → Holds2 ops a0 (fv V) none7 listed a w → J (flags ms listed) (slots ks a) w → wpAny P .any ops Q fuel listed a w := by
  have key : ∀ (listed : Array Bool) (a : Act) (w : World), listed.size = ops.size → Region.ready .any ops listed = [] → Holds2 ops a0 (fv V) none7 listed a w → J (flags ms listed) (slots ks a) w → Q .normal a w := by
    intro listed a w hsz hr h hw
    have hall := fun i hi => ready_nil ht hr hsz i hi
    refine fin a w h.defers h.size (fun l2 h1 h2 => ?_) (fun i o hi => h.done i o hi (hall i (lt_of_some hi)) (fun j hj => by cases hj)) (act_after h.defers h.size fun k hk => h.base k fun i o hi hdk => absurd hdk (by
      have hm : o ∈ ops.toList := by
        obtain ⟨hlt, rfl⟩ := Array.getElem?_eq_some_iff.1 hi
        simp
      have := List.all_eq_true.1 hk o hm
      simpa using this))
    have e : l2 = listed := by
      apply Array.ext (h2.trans hsz.symm)
      intro i hi1 hi2
      have e1 := h1 i (by rw [← h2]; exact hi1)
      have e2 := hall i (by rw [← hsz]; exact hi2)
      simp only [Array.getD, hi1, hi2, dif_pos] at e1 e2
      exact e1.trans e2.symm
    rw [e]; exact hw
  intro fuel
  induction fuel with
  | zero =>
    intro listed a w hsz hc h hw
    have hr : Region.ready .any ops listed = [] := none_ready hc
    exact ⟨hr, key listed a w hsz hr h hw⟩
  | succ fuel ih =>
    intro listed a w hsz hc h hw
    refine ⟨fun hr => key listed a w hsz hr h hw, fun i hi => ?_⟩
    obtain ⟨hl, o, ho, hd⟩ := mem_ready.1 hi
    have hst := hs.at_ (i := i) (o := o) (by simpa using ho)
    rw [Nat.zero_add] at hst
    refine wpOp_mono ?_ (hst listed a w h hw hl hd)
    rintro a' w' ⟨v, rfl, hr, hv⟩
    exact ih _ _ _ (by simpa using hsz) (count_step hl hc) (h.put4 (R := fun _ _ _ => True) ht (fun i j v w w' _ _ _ _ h _ => h) hsz hl hd ho trivial hv) hr
/-- THE REGION: from the world behind the draw. -/
theorem region_of_steps7 {id : Nat} {w : World} (hm : P.follows .mixedOrders = true) (V : List (Option Value)) (ms ks : List Nat) (J : List Bool → List Value → World → Prop) (ht : tidyB ops a0.tmps.size = true) (hms : (ms.all fun m => decide (m < ops.size)) = true)
    (h0 : J (ms.map fun _ => false) (slots ks a0) w.drew) (hs : Steps7 P ops Q a0 V ms ks J 0 ops.toList)
    (fin : ∀ a w', a.defers = a0.defers → a.tmps.size = a0.tmps.size → J (ms.map fun _ => true) (slots ks a) w' → (∀ i o, ops[i]? = some o → fv V i (outOf a o) w') → a = (dstsOf ops).foldl (fun b k => b.put (some k) (a.tmps.getD k undef)) a0 → Q .normal a w') : (Code.region id ops true).wp P Q a0 w := by
  refine wp_region_any hm ?_
  refine any_of_steps7 (a0 := a0) (V := V) (ms := ms) (ks := ks) (J := J) ht hs (fun a w' h1 h2 h3 h4 h5 => fin a w' h1 h2 ?_ h4 h5) ops.size (Array.replicate ops.size false) a0 w.drew (by simp) (by simp) ?_ (by rw [flags_start hms]; exact h0)
  · have h6 := h3 (Array.replicate ops.size true) (fun i hi => by simp [hi]) (by simp)
    rwa [flags_end hms (fun i hi => by simp [hi])] at h6
  exact ⟨rfl, rfl, fun k _ => rfl, fun i o hi hl => by simp at hl; exact absurd hl (by
    by_cases h : i < ops.size <;> simp [h]), fun i j _ hl => by
    simp at hl; exact absurd hl (by by_cases h : i < ops.size <;> simp [h]), by simp⟩
/- steps -/
theorem slots_put {a : Act} {d : Option Nat} {v : Value} (h : ∀ k, d = some k → ks.contains k = false) : slots ks (a.put d v) = slots ks a := by
  unfold slots
  refine List.map_congr_left fun k hk => ?_
  unfold Act.put
  cases d with
  | none => rfl
  | some e =>
    have hne : e ≠ k := fun h2 => by
      have := h e rfl
      rw [h2] at this
      have h3 : ks.contains k = true := by simpa using hk
      rw [this] at h3; cases h3
    simp [Array.getElem?_setIfInBounds_ne hne]
theorem calm7 {i : Nat} {listed : Array Bool} {a : Act} {d : Option Nat} {v : Value} {w w' : World} (hJ : ∀ fs vs x y, J fs vs x → Later x y → J fs vs y) (hm : ms.contains i = false) (hk : (match d with | some k => ks.contains k | none => false) = false) (h : J (flags ms listed) (slots ks a) w) (hl : Later w w') :
    J (flags ms (listed.setIfInBounds i true)) (slots ks (a.put d v)) w' := by
  rw [flags_other hm, slots_put (fun k e => by rw [e] at hk; exact hk)]
  exact hJ _ _ _ _ h hl
theorem step7_value {i : Nat} {o : Oper} {listed : Array Bool} {a : Act} {w w' : World} {v : Value} (ho : ops[i]? = some o) (hw : Region.wanted o (yielded ops a.tmps) = true) (hrun : (execOp a.eval o).run P w = .ok (.value v) w')
    (hR : J (flags ms (listed.setIfInBounds i true)) (slots ks (a.put o.dst v)) w') (hv : fv V i (match o.dst with | some _ => v | none => undef) w') :
    wpOp P ops Q i (fun a' w' => ∃ v, a' = a.put o.dst v ∧ J (flags ms (listed.setIfInBounds i true)) (slots ks (a.put o.dst v)) w' ∧ fv V i (match o.dst with | some _ => v | none => undef) w') a w := by
  unfold wpOp
  simp only [ho, hw, if_true]
  refine Or.inl ?_
  unfold Oper.wp
  rw [hrun]
  exact ⟨v, rfl, hR, hv⟩
theorem step7_call {i : Nat} {o : Oper} {listed : Array Bool} {a : Act} {w : World} {f : FuncId} {args : Array Value} (ho : ops[i]? = some o) (hw : Region.wanted o (yielded ops a.tmps) = true) (hrun : (execOp a.eval o).run P w = .ok (.enter f args) w)
    (h : Calls P f args w fun e w' => ∃ v, e = .returned v ∧ J (flags ms (listed.setIfInBounds i true)) (slots ks (a.put o.dst v)) w' ∧ fv V i (match o.dst with | some _ => v | none => undef) w') :
    wpOp P ops Q i (fun a' w' => ∃ v, a' = a.put o.dst v ∧ J (flags ms (listed.setIfInBounds i true)) (slots ks (a.put o.dst v)) w' ∧ fv V i (match o.dst with | some _ => v | none => undef) w') a w := by
  unfold wpOp
  simp only [ho, hw, if_true]
  refine Or.inl ?_
  unfold Oper.wp
  rw [hrun]
  refine h.mono ?_
  rintro e w' ⟨v, rfl, hR, hv⟩
  exact ⟨v, rfl, hR, hv⟩
theorem step7_done {i : Nat} {o : Oper} {listed : Array Bool} {a : Act} {w w' : World} (ho : ops[i]? = some o) (hw : Region.wanted o (yielded ops a.tmps) = true) (hd : o.dst = none) (hrun : (execOp a.eval o).run P w = .ok .skip w')
    (hR : J (flags ms (listed.setIfInBounds i true)) (slots ks a) w') (hv : fv V i undef w') :
    wpOp P ops Q i (fun a' w' => ∃ v, a' = a.put o.dst v ∧ J (flags ms (listed.setIfInBounds i true)) (slots ks (a.put o.dst v)) w' ∧ fv V i (match o.dst with | some _ => v | none => undef) w') a w := by
  unfold wpOp
  simp only [ho, hw, if_true]
  refine Or.inl ?_
  unfold Oper.wp
  rw [hrun]
  exact ⟨undef, rfl, by rw [hd]; exact hR, by rw [hd]; exact hv⟩
theorem step7_skip {i : Nat} {o : Oper} {listed : Array Bool} {a : Act} {w : World} (ho : ops[i]? = some o) (hw : Region.wanted o (yielded ops a.tmps) = false)
    (hR : J (flags ms (listed.setIfInBounds i true)) (slots ks (a.put o.dst undef)) w) (hv : fv V i undef w) :
    wpOp P ops Q i (fun a' w' => ∃ v, a' = a.put o.dst v ∧ J (flags ms (listed.setIfInBounds i true)) (slots ks (a.put o.dst v)) w' ∧ fv V i (match o.dst with | some _ => v | none => undef) w') a w := by
  unfold wpOp
  simp only [ho, hw, Bool.false_eq_true, if_false]
  refine ⟨undef, rfl, hR, ?_⟩
  cases hd : o.dst with
  | none => exact hv
  | some d => exact hv
theorem unwanted_at {o : Oper} {a : Act} {j : Nat} {d : Tmp} {b c : Bool} (hg : o.guard = some (j, b)) (hd : (ops[j]?).bind (·.dst) = some d) (hv : a.tmps.getD d undef = .bool c) (hbc : (c == b) = false) : Region.wanted o (yielded ops a.tmps) = false := by
  have : a.tmps[d]? = some (.bool c) := by
    rcases Nat.lt_or_ge d a.tmps.size with h | h
    · simp only [Array.getD_eq_getD_getElem?, Array.getElem?_eq_getElem h, Option.getD_some] at hv ⊢
      rw [hv]
    · simp only [Array.getD_eq_getD_getElem?, Array.getElem?_eq_none h, Option.getD_none] at hv
      cases hv
  have hy : yielded ops a.tmps j = some c := by
    unfold yielded
    simp only [hd, Option.bind_some, this]
  simp only [Region.wanted, hg, hy]
  cases b <;> cases c <;> first | rfl | cases hbc
/-- What is done: so is what it needs. -/
theorem Holds2.dones {F : Nat → Value → World → Prop} {dead : Nat → Option Nat} {listed : Array Bool} {a : Act} {w : World} (f : Nat) {m i : Nat} (H : Holds2 ops a0 F dead listed a w) (hm : listed.getD m false = true) (hn : reach ops f m i = true) : listed.getD i false = true := by
  induction f generalizing m with
  | zero =>
    have : m = i := by simpa [reach] using hn
    rw [← this]; exact hm
  | succ f ih =>
    unfold reach at hn
    rcases Bool.or_eq_true_iff.1 hn with h | h
    · have : m = i := by simpa using h
      rw [← this]; exact hm
    · obtain ⟨k, _, hk⟩ := List.any_eq_true.1 h
      obtain ⟨h1, h2⟩ := Bool.and_eq_true_iff.1 hk
      exact ih (H.closed m k h1 hm) h2
theorem done_true {listed : Array Bool} {j : Nat} (h : listed.getD j false = true) : listed.getD j true = true := by
  by_cases hl : j < listed.size
  · simp only [Array.getD, hl, dif_pos] at h ⊢; exact h
  · simp [Array.getD, hl]
theorem set_self7 (l : Array Bool) (a : Nat) : (l.setIfInBounds a true).getD a true = true := by
  by_cases h : a < l.size <;> simp [h]
theorem put_self7 (a : Act) (d : Nat) (v : Value) (h : d < a.tmps.size) : (a.put (some d) v).tmps.getD d undef = v := by
  unfold Act.put
  simp [h]
end
end Go.Proofs.Ytfidamiomnohcaa
