/- A region that draws its order, told op by op, where some operations turn what others have left (an append in place): each fact lives until the operation that uses it up. Conditions: each temporary is written once. -/
import Derived.Test.YtgenkmihbnkakaaDoorOps
import Derived.Test.YtgenkmihbnkakaaDoorOwn
import Derived.Laws.BytesString
import Derived.Laws.Cells
set_option linter.unusedVariables false
set_option linter.unusedSimpArgs false
set_option maxRecDepth 20000
namespace Go.Proofs.YtgenkmihbnkakaaDoor
open Go Go.RowKit

/-- Operation i waits for operation j. -/
def needs (ops : Array Oper) (i j : Nat) : Bool := match ops[i]? with | some o => o.after.any fun e => e.on == j && Region.binds .any e | none => false
structure Holds2 (ops : Array Oper) (a0 : Act) (F : Nat → Value → World → Prop) (dead : Nat → Option Nat) (listed : Array Bool) (a : Act) (w : World) : Prop where
  defers : a.defers = a0.defers
  size : a.tmps.size = a0.tmps.size
  base : ∀ k, (∀ i o, ops[i]? = some o → o.dst = some k → listed.getD i true = false) → a.tmps.getD k undef = a0.tmps.getD k undef
  done : ∀ i o, ops[i]? = some o → listed.getD i false = true → (∀ j, dead i = some j → listed.getD j true = false) → F i (outOf a o) w
  closed : ∀ i j, needs ops i j = true → listed.getD i false = true → listed.getD j false = true
  len : listed.size = ops.size
section
variable {ops : Array Oper} {P : Program} {Q : Exit → Act → World → Prop} {a0 : Act} {F : Nat → Value → World → Prop} {dead : Nat → Option Nat} {R : Nat → World → World → Prop} {Inv : World → Prop}
def Step2 (P : Program) (ops : Array Oper) (Q : Exit → Act → World → Prop) (a0 : Act) (F : Nat → Value → World → Prop) (dead : Nat → Option Nat) (R : Nat → World → World → Prop) (Inv : World → Prop) (i : Nat) (o : Oper) : Prop :=
  ∀ (listed : Array Bool) (a : Act) (w : World), Holds2 ops a0 F dead listed a w → Inv w → listed.getD i true = false → (∀ e ∈ o.after, Region.binds .any e = true → listed.getD e.on false = true) →
    wpOp P ops Q i (fun a' w' => ∃ v, a' = a.put o.dst v ∧ R i w w' ∧ F i (match o.dst with | some _ => v | none => undef) w') a w
def Steps2 (P : Program) (ops : Array Oper) (Q : Exit → Act → World → Prop) (a0 : Act) (F : Nat → Value → World → Prop) (dead : Nat → Option Nat) (R : Nat → World → World → Prop) (Inv : World → Prop) : Nat → List Oper → Prop
  | _, [] => True
  | i, o :: rest => Step2 P ops Q a0 F dead R Inv i o ∧ Steps2 P ops Q a0 F dead R Inv (i + 1) rest
theorem Steps2.cons {i : Nat} {o : Oper} {rest : List Oper} (h : Step2 P ops Q a0 F dead R Inv i o) (hs : Steps2 P ops Q a0 F dead R Inv (i + 1) rest) : Steps2 P ops Q a0 F dead R Inv i (o :: rest) := ⟨h, hs⟩
theorem Steps2.nil {i : Nat} : Steps2 P ops Q a0 F dead R Inv i [] := trivial
theorem Steps2.at_ : ∀ {l : List Oper} {k : Nat}, Steps2 P ops Q a0 F dead R Inv k l → ∀ {i : Nat} {o : Oper}, l[i]? = some o → Step2 P ops Q a0 F dead R Inv (k + i) o
  | [], _, _, _, _, h => by simp at h
  | _ :: _, k, hs, 0, o, h => by
    simp at h
    subst h
    exact hs.1
  | _ :: rest, k, hs, i + 1, o, h => by
    have := Steps2.at_ hs.2 (i := i) (o := o) (by simpa using h)
    rw [show k + (i + 1) = k + 1 + i by omega]
    exact this
theorem Holds2.put {listed : Array Bool} {a : Act} {w w' : World} {i : Nat} {o : Oper} {v : Value} (ht : tidyB ops a0.tmps.size = true) (hF : ∀ i j v w w', i ≠ j → dead i ≠ some j → needs ops i j = false → F i v w → R j w w' → F i v w')
    (h : Holds2 ops a0 F dead listed a w) (hs : listed.size = ops.size) (hl : listed.getD i true = false) (hda : ∀ e ∈ o.after, Region.binds .any e = true → listed.getD e.on false = true) (hi : ops[i]? = some o) (hR : R i w w') (hv : F i (match o.dst with | some _ => v | none => undef) w') : Holds2 ops a0 F dead (listed.setIfInBounds i true) (a.put o.dst v) w' := by
  have hil : i < listed.size := by rw [hs]; exact lt_of_some hi
  have hput : ∀ d, (a.put o.dst v).tmps.getD d undef = if o.dst = some d ∧ d < a.tmps.size then v else a.tmps.getD d undef := by
    intro d
    unfold Act.put
    cases hd : o.dst with
    | none => simp
    | some e =>
      simp only [Option.some.injEq]
      by_cases hed : e = d
      · subst hed
        by_cases hlt : e < a.tmps.size
        · simp [hlt]
        · simp [hlt, Array.getElem?_eq_none (Nat.le_of_not_lt hlt)]
      · simp [hed, Array.getElem?_setIfInBounds_ne hed]
  have hkeep : ∀ j, listed.getD j false = true → (listed.setIfInBounds i true).getD j false = true := fun j hj => by
    by_cases hij : i = j
    · subst hij; simp [hil]
    · rwa [getD_set_ne false hij]
  have hown : ∀ j, needs ops i j = true → listed.getD j false = true := fun j hj => by
    unfold needs at hj
    rw [hi] at hj
    obtain ⟨q, hq, hh⟩ := Array.any_eq_true.1 hj
    rw [Bool.and_eq_true] at hh
    have := hda _ (Array.getElem_mem hq) hh.2
    rwa [show (o.after[q]).on = j by simpa using hh.1] at this
  refine ⟨?_, ?_, fun k hk => ?_, fun j p hj hl hdead => ?_, fun j q hj hlj => ?_, by simpa using h.len⟩
  · rw [← h.defers]; unfold Act.put; cases o.dst <;> rfl
  · rw [← h.size]; unfold Act.put; cases o.dst <;> simp
  · have hik : o.dst ≠ some k := fun e => by
      have := hk i o hi e
      simp [hil] at this
    rw [hput, if_neg (fun hh => hik hh.1)]
    refine h.base k fun j p hj hp => ?_
    have := hk j p hj hp
    by_cases hij : i = j
    · subst hij
      simp [hil] at this
    · rwa [getD_set_ne true hij] at this
  · by_cases hij : i = j
    · subst hij
      obtain rfl := Option.some.inj (hi.symm.trans hj)
      unfold outOf
      cases hd : o.dst with
      | none => rw [hd] at hv; exact hv
      | some d =>
        rw [hd] at hv
        have hlt : d < a.tmps.size := by rw [h.size]; exact tidy_in ht hi hd
        have := hput d
        rw [hd] at this
        simp only [hlt, and_self, if_true] at this
        show F i ((a.put (some d) v).tmps.getD d undef) w'
        rw [this]; exact hv
    · rw [getD_set_ne false hij] at hl
      have hnd : dead j ≠ some i := fun e => by
        have := hdead i e
        simp [hil] at this
      have hnn : needs ops j i = false := by
        cases hb : needs ops j i with
        | false => rfl
        | true =>
          have h1 := h.closed j i hb hl
          have h2 : listed.getD i true = listed.getD i false := by simp [hil]
          rw [‹listed.getD i true = false›] at h2
          rw [← h2] at h1; cases h1
      have h0 := hF j i _ w w' (fun e => hij e.symm) hnd hnn (h.done j p hj hl (fun d hd => by
        have h1 := hdead d hd
        by_cases hid : i = d
        · subst hid; simp [hil] at h1
        · rwa [getD_set_ne true hid] at h1)) hR
      have : outOf (a.put o.dst v) p = outOf a p := by
        unfold outOf
        cases hd : p.dst with
        | none => rfl
        | some d =>
          show (a.put o.dst v).tmps.getD d undef = a.tmps.getD d undef
          rw [hput, if_neg (fun hh => hij (tidy_once ht hi hj hh.1 hd))]
      rw [this]; exact h0
  · by_cases hij : i = j
    · subst hij
      exact hkeep q (hown q hj)
    · rw [getD_set_ne false hij] at hlj
      exact hkeep q (h.closed j q hj hlj)
/-- The slots that the operations write. -/
def dstsOf (ops : Array Oper) : List Nat := ops.toList.filterMap (·.dst)
theorem foldl_put (f : Nat → Value) (ws : List Nat) : ∀ (b : Act), (ws.foldl (fun b k => b.put (some k) (f k)) b).defers = b.defers ∧ (ws.foldl (fun b k => b.put (some k) (f k)) b).tmps.size = b.tmps.size ∧
    ∀ i, (ws.foldl (fun b k => b.put (some k) (f k)) b).tmps.getD i undef = if i ∈ ws ∧ i < b.tmps.size then f i else b.tmps.getD i undef := by
  induction ws with
  | nil => intro b; exact ⟨rfl, rfl, fun i => by simp⟩
  | cons k ws ih =>
    intro b
    obtain ⟨h1, h2, h3⟩ := ih (b.put (some k) (f k))
    refine ⟨h1, h2.trans (by unfold Act.put; simp), fun i => ?_⟩
    rw [List.foldl_cons, h3 i]
    have hsz : (b.put (some k) (f k)).tmps.size = b.tmps.size := by unfold Act.put; simp
    rw [hsz]
    have hp : (b.put (some k) (f k)).tmps.getD i undef = if i = k ∧ i < b.tmps.size then f i else b.tmps.getD i undef := by
      unfold Act.put
      by_cases hk : k = i
      · subst hk
        by_cases hlt : k < b.tmps.size
        · simp [hlt]
        · simp [hlt]
      · have hk' : ¬ i = k := fun e => hk e.symm
        simp [Array.getElem?_setIfInBounds_ne hk, hk']
    rw [hp]
    by_cases hlt : i < b.tmps.size
    · by_cases hw : i ∈ ws
      · simp [hw, hlt]
      · by_cases hk : i = k
        · subst hk
          simp [hlt]
        · simp [hw, hlt, hk]
    · simp [hlt]
theorem act_after {a : Act} (hd : a.defers = a0.defers) (hs : a.tmps.size = a0.tmps.size) (hb : ∀ k, (ops.toList.all fun o => o.dst != some k) = true → a.tmps.getD k undef = a0.tmps.getD k undef) :
    a = (dstsOf ops).foldl (fun b k => b.put (some k) (a.tmps.getD k undef)) a0 := by
  obtain ⟨h1, h2, h3⟩ := foldl_put (fun k => a.tmps.getD k undef) (dstsOf ops) a0
  generalize (dstsOf ops).foldl (fun b k => b.put (some k) (a.tmps.getD k undef)) a0 = c at h1 h2 h3
  have ht : a.tmps = c.tmps := by
    apply Array.ext
    · rw [hs, h2]
    · intro i hi hi'
      have e := h3 i
      have e1 : c.tmps.getD i undef = c.tmps[i] := by simp [hi']
      have e2 : a.tmps.getD i undef = a.tmps[i] := by simp [hi]
      rw [e1] at e
      rw [← e2, e]
      by_cases hm : i ∈ dstsOf ops
      · rw [if_pos ⟨hm, by omega⟩]
      · rw [if_neg (fun h => hm h.1)]
        refine hb i ?_
        rw [List.all_eq_true]
        intro o ho
        simp only [bne_iff_ne, ne_eq]
        intro e
        exact hm (List.mem_filterMap.2 ⟨o, ho, e⟩)
  cases a
  cases c
  simp only at ht hd h1 ⊢
  rw [ht, hd, ← h1]
theorem any_of_steps2 (ht : tidyB ops a0.tmps.size = true) (hF : ∀ i j v w w', i ≠ j → dead i ≠ some j → needs ops i j = false → F i v w → R j w w' → F i v w') (hI : ∀ j w w', Inv w → R j w w' → Inv w') (hs : Steps2 P ops Q a0 F dead R Inv 0 ops.toList)
    (fin : ∀ a w, a.defers = a0.defers → a.tmps.size = a0.tmps.size → Inv w → (∀ i o, ops[i]? = some o → dead i = none → F i (outOf a o) w) → a = (dstsOf ops).foldl (fun b k => b.put (some k) (a.tmps.getD k undef)) a0 → Q .normal a w) :
    ∀ (fuel : Nat) (listed : Array Bool) (a : Act) (w : World), listed.size = ops.size → listed.toList.count false = fuel → Holds2 ops a0 F dead listed a w → Inv w → wpAny P .any ops Q fuel listed a w := by
  intro fuel
  induction fuel with
  | zero =>
    intro listed a w hsz hc h hw
    have hr : Region.ready .any ops listed = [] := none_ready hc
    exact ⟨hr, fin a w h.defers h.size hw (fun i o hi hd => h.done i o hi (ready_nil ht hr hsz i (lt_of_some hi)) (fun j hj => by rw [hd] at hj; cases hj)) (act_after h.defers h.size fun k hk => h.base k fun i o hi hdk => absurd hdk (by
      have hm : o ∈ ops.toList := by
        obtain ⟨hlt, rfl⟩ := Array.getElem?_eq_some_iff.1 hi
        simp
      have := List.all_eq_true.1 hk o hm
      simpa using this))⟩
  | succ fuel ih =>
    intro listed a w hsz hc h hw
    refine ⟨fun hr => fin a w h.defers h.size hw (fun i o hi hd => h.done i o hi (ready_nil ht hr hsz i (lt_of_some hi)) (fun j hj => by rw [hd] at hj; cases hj)) (act_after h.defers h.size fun k hk => h.base k fun i o hi hdk => absurd hdk (by
      have hm : o ∈ ops.toList := by
        obtain ⟨hlt, rfl⟩ := Array.getElem?_eq_some_iff.1 hi
        simp
      have := List.all_eq_true.1 hk o hm
      simpa using this)), fun i hi => ?_⟩
    obtain ⟨hl, o, ho, hd⟩ := mem_ready.1 hi
    have hst := hs.at_ (i := i) (o := o) (by simpa using ho)
    rw [Nat.zero_add] at hst
    refine wpOp_mono ?_ (hst listed a w h hw hl hd)
    rintro a' w' ⟨v, rfl, hr, hv⟩
    exact ih _ _ _ (by simpa using hsz) (count_step hl hc) (h.put ht hF hsz hl hd ho hr hv) (hI _ _ _ hw hr)
/-- THE REGION: from the world behind the draw. -/
theorem region_of_steps2 {id : Nat} {w : World} (hm : P.follows .mixedOrders = true) (F : Nat → Value → World → Prop) (dead : Nat → Option Nat) (R : Nat → World → World → Prop) (Inv : World → Prop) (ht : tidyB ops a0.tmps.size = true)
    (hF : ∀ i j v w w', i ≠ j → dead i ≠ some j → needs ops i j = false → F i v w → R j w w' → F i v w') (hI : ∀ j w w', Inv w → R j w w' → Inv w') (h0 : Inv w.drew) (hs : Steps2 P ops Q a0 F dead R Inv 0 ops.toList)
    (fin : ∀ a w', a.defers = a0.defers → a.tmps.size = a0.tmps.size → Inv w' → (∀ i o, ops[i]? = some o → dead i = none → F i (outOf a o) w') → a = (dstsOf ops).foldl (fun b k => b.put (some k) (a.tmps.getD k undef)) a0 → Q .normal a w') : (Code.region id ops true).wp P Q a0 w := by
  refine wp_region_any hm ?_
  refine any_of_steps2 (a0 := a0) (F := F) (dead := dead) (R := R) (Inv := Inv) ht hF hI hs fin ops.size (Array.replicate ops.size false) a0 w.drew (by simp) (by simp) ?_ h0
  exact ⟨rfl, rfl, fun k _ => rfl, fun i o hi hl => by simp at hl; exact absurd hl (by
    by_cases h : i < ops.size <;> simp [h]), fun i j _ hl => by
    simp at hl; exact absurd hl (by by_cases h : i < ops.size <;> simp [h]), by simp⟩
theorem Holds2.get {listed : Array Bool} {a : Act} {w : World} (h : Holds2 ops a0 F dead listed a w) (i d : Nat) (hi : (ops[i]?).bind (·.dst) = some d) (hl : listed.getD i false = true) (hd : ∀ j, dead i = some j → listed.getD j true = false) : F i (a.tmps.getD d undef) w := by
  cases ho : ops[i]? with
  | none => rw [ho] at hi; cases hi
  | some o =>
    rw [ho] at hi
    have hd' : o.dst = some d := hi
    have := h.done i o ho hl hd
    unfold outOf at this
    rw [hd'] at this
    exact this
theorem Holds2.old {listed : Array Bool} {a : Act} {w : World} (h : Holds2 ops a0 F dead listed a w) (k : Nat) (hk : (ops.toList.all fun o => o.dst != some k) = true) : a.tmps.getD k undef = a0.tmps.getD k undef :=
  h.base k fun i o hi hd => by
    have hm : o ∈ ops.toList := by
      have := (Array.getElem?_eq_some_iff.1 hi)
      obtain ⟨hlt, rfl⟩ := this
      simp
    have := List.all_eq_true.1 hk o hm
    rw [hd] at this
    simp at this
/-- What a temporary holds that an operation j of the region writes, which waits for this one. -/
theorem Holds2.before {listed : Array Bool} {a : Act} {w : World} (h : Holds2 ops a0 F dead listed a w) (k j i0 : Nat) (hk : ((List.range ops.size).all fun i => i == j || (match ops[i]? with | some o => o.dst != some k | none => true)) = true) (hn : needs ops j i0 = true) (hl : listed.getD i0 true = false) : a.tmps.getD k undef = a0.tmps.getD k undef :=
  h.base k fun i o hi hd => by
    have h1 := List.all_eq_true.1 hk i (List.mem_range.2 (lt_of_some hi))
    simp only [hi, hd, Bool.or_eq_true, beq_iff_eq, bne_self_eq_false, Bool.false_eq_true, or_false] at h1
    subst h1
    have hil : i < listed.size := by rw [h.len]; exact lt_of_some hi
    cases hb : listed.getD i true with
    | false => rfl
    | true =>
      have h2 : listed.getD i false = true := by
        simp [hil] at hb ⊢
        exact hb
      have h3 := h.closed i i0 hn h2
      by_cases hz : i0 < listed.size
      · simp [hz] at h3 hl
        rw [hl] at h3; cases h3
      · simp [hz] at hl
/- the ways that a step is shown -/
theorem step2_value {i : Nat} {o : Oper} {a : Act} {w w' : World} {v : Value} (ho : ops[i]? = some o) (hw : Region.wanted o (yielded ops a.tmps) = true) (hrun : (execOp a.eval o).run P w = .ok (.value v) w') (hR : R i w w') (hv : F i (match o.dst with | some _ => v | none => undef) w') :
    wpOp P ops Q i (fun a' w' => ∃ v, a' = a.put o.dst v ∧ R i w w' ∧ F i (match o.dst with | some _ => v | none => undef) w') a w := by
  unfold wpOp
  simp only [ho, hw, if_true]
  refine Or.inl ?_
  unfold Oper.wp
  rw [hrun]
  exact ⟨v, rfl, hR, hv⟩
theorem step2_call {i : Nat} {o : Oper} {a : Act} {w : World} {f : FuncId} {args : Array Value} (ho : ops[i]? = some o) (hw : Region.wanted o (yielded ops a.tmps) = true) (hrun : (execOp a.eval o).run P w = .ok (.enter f args) w)
    (hc : Calls P f args w fun e w' => ∃ v, e = .returned v ∧ R i w w' ∧ F i (match o.dst with | some _ => v | none => undef) w') :
    wpOp P ops Q i (fun a' w' => ∃ v, a' = a.put o.dst v ∧ R i w w' ∧ F i (match o.dst with | some _ => v | none => undef) w') a w := by
  unfold wpOp
  simp only [ho, hw, if_true]
  refine Or.inl ?_
  unfold Oper.wp
  rw [hrun]
  refine hc.mono ?_
  rintro e w' ⟨v, rfl, hr, hv⟩
  exact ⟨v, rfl, hr, hv⟩
/-- One that leaves no value. -/
theorem step2_done {i : Nat} {o : Oper} {a : Act} {w w' : World} (ho : ops[i]? = some o) (hw : Region.wanted o (yielded ops a.tmps) = true) (hd : o.dst = none) (hrun : (execOp a.eval o).run P w = .ok .skip w') (hR : R i w w') (hv : F i undef w') :
    wpOp P ops Q i (fun a' w' => ∃ v, a' = a.put o.dst v ∧ R i w w' ∧ F i (match o.dst with | some _ => v | none => undef) w') a w := by
  unfold wpOp
  simp only [ho, hw, if_true]
  refine Or.inl ?_
  unfold Oper.wp
  rw [hrun]
  exact ⟨undef, rfl, hR, by rw [hd]; exact hv⟩
/-- An operation that is not wanted leaves nothing. -/
theorem step2_skip {i : Nat} {o : Oper} {a : Act} {w : World} (ho : ops[i]? = some o) (hw : Region.wanted o (yielded ops a.tmps) = false) (hR : R i w w) (hv : F i undef w) :
    wpOp P ops Q i (fun a' w' => ∃ v, a' = a.put o.dst v ∧ R i w w' ∧ F i (match o.dst with | some _ => v | none => undef) w') a w := by
  unfold wpOp
  simp only [ho, hw, Bool.false_eq_true, if_false]
  refine ⟨undef, rfl, hR, ?_⟩
  cases hd : o.dst with
  | none => exact hv
  | some d => exact hv
end
section
variable {P : Program} {a : Act} {o : Oper} {w w' : World}
theorem run_op_append {s x : Operand} {t : TypeId} {vs vx r : Value} (ho : o.op = .call { callee := .builtin .append, args := #[s, x], argTypes := #[t, t] }) (hs : a.eval s = vs) (hx : a.eval x = vx)
    (hrun : (Builtin.append_ #[t, t] o.type #[vs, vx]).run P w = .ok r w') : (execOp a.eval o).run P w = .ok (.value r) w' := by
  unfold execOp
  simp only [ho, resolve, invoke, builtin, Sem.run_bind, Sem.run_pure, Result.andThen_ok, List.map_toArray, List.map_cons, List.map_nil, hs, hx, hrun]
theorem run_op_len {x : Operand} {t e : TypeId} {A : Option Addr} {n c : Nat} (ht : P.underlying t = some (.slice e)) (ho : o.op = .call { callee := .builtin .len, args := #[x], argTypes := #[t] }) (hx : a.eval x = .slice A n c) :
    (execOp a.eval o).run P w = .ok (.value (.int .i64 (n : Int))) w := by
  unfold execOp
  simp only [ho, resolve, invoke, builtin, Sem.run_bind, Sem.run_pure, Result.andThen_ok, List.map_toArray, List.map_cons, List.map_nil, hx]
  simp [Builtin.len_, run_underlying ht, goInt]
end
/-- What is known of a temporary: its value; that it is a new row of these cells; that it is a row of bytes of the call's own. -/
inductive Fact2 where
  | is (v : Value)
  | row (rs : List Value)
  | own (base n : Nat) (bs : List Nat)
  | that (p : Value → World → Prop) (h : ∀ v w w', p v w → Later w w' → p v w')
def Fact2.holds : Fact2 → Value → World → Prop
  | .is u, v, _ => v = u
  | .row rs, v, w => ∃ g, v = .slice (some ⟨g, 0, none⟩) rs.length rs.length ∧ (∀ k r, rs[k]? = some r → w.cell? ⟨g, k, none⟩ = some r) ∧ g < w.heap.size
  | .own base n bs, v, w => ∃ A c, v = .slice A n c ∧ Own w base A n c bs
  | .that p _, v, w => p v w
def fact2Of (l : List Fact2) (i : Nat) (v : Value) (w : World) : Prop :=
  match l[i]? with
  | some f => f.holds v w
  | none => True
/-- Operation 'm' turns nothing below block B; all others nothing that was there. -/
def But (m B : Nat) (j : Nat) (x y : World) : Prop := if j = m then Below B x y else Later x y
theorem but_later {m B j : Nat} {x y : World} (hj : j ≠ m) (h : Later x y) : But m B j x y := by unfold But; rw [if_neg hj]; exact h
theorem but_own {m B : Nat} {x y : World} (h : Below B x y) : But m B m x y := by unfold But; rw [if_pos rfl]; exact h
/-- The same, where no operation turns what another one has left. -/
theorem but_refl {m B j : Nat} (x : World) : But m B j x x := by unfold But; split; exact Below.refl _ _; exact later_refl _
theorem but_inv {m B j : Nat} {w0 x y : World} (h : Below B w0 x ∧ B ≤ x.heap.size) (k : But m B j x y) : Below B w0 y ∧ B ≤ y.heap.size := by
  unfold But at k
  split at k
  · exact ⟨h.1.trans k, Nat.le_trans h.2 k.size⟩
  · exact ⟨h.1.trans (Below.mono k h.2), Nat.le_trans h.2 k.size⟩
def deadOf (l : List (Nat × Nat)) (i : Nat) : Option Nat := (l.find? fun p => p.1 == i).map (·.2)
/-- Facts that tell memory must be used up by 'm' (the list 'ds'), or there is none behind. -/
theorem fact2_stays (ops : Array Oper) (l : List Fact2) (m B : Nat) (ds : List (Nat × Nat)) (hds : ∀ i, (∃ v, l[i]? = some (.is v)) ∨ deadOf ds i = some m ∨ l[i]? = none ∨ i = m ∨ needs ops i m = true) (i j : Nat) (v : Value) (w w' : World) (hm : i ≠ j) (hd : deadOf ds i ≠ some j) (hnn : needs ops i j = false) (h : fact2Of l i v w) (hR : But m B j w w') : fact2Of l i v w' := by
  unfold fact2Of at h ⊢
  have hi := hds i
  cases hq : l[i]? with
  | none => trivial
  | some f =>
    rw [hq] at h
    have hj : (∃ v, f = .is v) ∨ j ≠ m := by
      rcases hi with ⟨u, hu⟩ | hi | hi | hi | hi
      · rw [hq] at hu; exact Or.inl ⟨u, Option.some.inj hu⟩
      · exact Or.inr fun e => hd (by rw [hi, e])
      · rw [hq] at hi; cases hi
      · exact Or.inr fun e => hm (hi.trans e.symm)
      · exact Or.inr fun e => by rw [e, hi] at hnn; cases hnn
    rcases hj with ⟨u, rfl⟩ | hj
    · exact h
    · unfold But at hR
      rw [if_neg hj] at hR
      cases f with
      | is u => exact h
      | row rs =>
        obtain ⟨g, e, hc, hg⟩ := h
        exact ⟨g, e, fun k r hk => later_cell hR (hc k r hk), Nat.lt_of_lt_of_le hg hR.size⟩
      | own base n bs =>
        obtain ⟨A, c, e, ho⟩ := h
        exact ⟨A, c, e, ho.since hR⟩
      | that p hp => exact hp _ _ _ h hR
/-- No operation turns what was there. -/
def Calm (_ : Nat) (x y : World) : Prop := Later x y
theorem calm_refl {j : Nat} (x : World) : Calm j x x := later_refl _
theorem calm_later {j : Nat} {x y : World} (h : Later x y) : Calm j x y := h
theorem calm_inv {j B : Nat} {w0 x y : World} (h : Below B w0 x ∧ B ≤ x.heap.size) (k : Calm j x y) : Below B w0 y ∧ B ≤ y.heap.size :=
  ⟨h.1.trans (Below.mono k h.2), Nat.le_trans h.2 (Below.size k)⟩
theorem fact2_calm (l : List Fact2) (i j : Nat) (v : Value) (w w' : World) (h : fact2Of l i v w) (hR : Calm j w w') : fact2Of l i v w' := by
  unfold fact2Of at h ⊢
  cases hq : l[i]? with
  | none => trivial
  | some f =>
    rw [hq] at h
    cases f with
    | is u => exact h
    | row rs =>
      obtain ⟨g, e, hc, hg⟩ := h
      exact ⟨g, e, fun k r hk => later_cell hR (hc k r hk), Nat.lt_of_lt_of_le hg (Below.size hR)⟩
    | own base n bs =>
      obtain ⟨A, c, e, ho⟩ := h
      exact ⟨A, c, e, ho.since hR⟩
    | that p hp => exact hp _ _ _ h hR
theorem row2_made (w : World) (vs : List Value) (t : TypeId) {n : Nat} (hn : vs.length = n) : Fact2.holds (.row vs) (.slice (some ⟨w.heap.size, 0, none⟩) n n) (w.alloc (.cells vs.toArray t)) :=
  ⟨w.heap.size, by rw [hn], fun k r hk => cell_first (by simpa using hk), by simp⟩
/-- Whether each fact that tells memory is used up by 'm', or comes behind it. -/
def hdsB (ops : Array Oper) (l : List Fact2) (m : Nat) (ds : List (Nat × Nat)) : Bool :=
  (List.range l.length).all fun i => (match l[i]? with | some (.is _) => true | _ => false) || deadOf ds i == some m || i == m || needs ops i m
theorem hds_of {ops : Array Oper} {l : List Fact2} {m : Nat} {ds : List (Nat × Nat)} (h : hdsB ops l m ds = true) (i : Nat) : (∃ v, l[i]? = some (.is v)) ∨ deadOf ds i = some m ∨ l[i]? = none ∨ i = m ∨ needs ops i m = true := by
  by_cases hi : i < l.length
  · have h1 := List.all_eq_true.1 h i (List.mem_range.2 hi)
    simp only [Bool.or_eq_true, beq_iff_eq] at h1
    rcases h1 with ((h1 | h1) | h1) | h1
    · cases hq : l[i]? with
      | none => exact Or.inr (Or.inr (Or.inl rfl))
      | some f =>
        rw [hq] at h1
        cases f with
        | is v => exact Or.inl ⟨v, rfl⟩
        | row rs => cases h1
        | own b n bs => cases h1
        | that p hp => cases h1
    · exact Or.inr (Or.inl h1)
    · exact Or.inr (Or.inr (Or.inr (Or.inl h1)))
    · exact Or.inr (Or.inr (Or.inr (Or.inr h1)))
  · exact Or.inr (Or.inr (Or.inl (List.getElem?_eq_none (by omega))))
theorem alive_none {ds : List (Nat × Nat)} {listed : Array Bool} {i : Nat} (h : deadOf ds i = none) : ∀ j, deadOf ds i = some j → listed.getD j true = false := fun j hj => by rw [h] at hj; cases hj
theorem alive_now {ds : List (Nat × Nat)} {listed : Array Bool} {i m : Nat} (h : deadOf ds i = some m) (hl : listed.getD m true = false) : ∀ j, deadOf ds i = some j → listed.getD j true = false := fun j hj => by
  rw [h] at hj
  injection hj with hj
  subst hj
  exact hl
section
variable {P : Program} {a : Act} {o : Oper} {w w' : World}
theorem run_op_extract {x : Operand} {k : Nat} {vs : Array Value} {r : Value} (ho : o.op = .extract x k) (hx : a.eval x = .tuple vs) (hk : vs[k]? = some r) : (execOp a.eval o).run P w = .ok (.value r) w := by
  unfold execOp
  simp only [ho, hx]
  simp [Instr.extract, hk]
theorem run_op_store {t : TypeId} {x y : Operand} {vx vy : Value} (ho : o.op = .store t x y) (hx : a.eval x = vx) (hy : a.eval y = vy) (hrun : (Instr.storeAt t vx vy).run P w = .ok () w') : (execOp a.eval o).run P w = .ok .skip w' := by
  unfold execOp
  simp only [ho, Sem.run_bind, hx, hy, hrun, Result.andThen_ok]
  rfl
theorem run_op_not {t : TypeId} {x : Operand} {b : Bool} (ho : o.op = .unOp .not t x) (hx : a.eval x = .bool b) : (execOp a.eval o).run P w = .ok (.value (.bool (!b))) w := by
  unfold execOp
  simp only [ho, hx]
  go_simp
end
theorem run_index_u8 (ad : Addr) (n c k : Nat) (hk : k < n) (w : World) : (Instr.indexAt 52 (.slice (some ad) n c) (.int .i64 (k : Int))).run Tryd.prog w = .ok (.pointer (some (ad.add k))) w := by
  have i0 : (0 : Int) ≤ (k : Int) := by omega
  have i1 : (k : Int) < (n : Int) := by omega
  go_simp
theorem run_load_u8 (p : Addr) (z : Int) (w : World) (hc : w.cell? p = some (.int .u8 z)) : (Instr.loadAt 5 (.pointer (some p))).run Tryd.prog w = .ok (.int .u8 z) w := by
  go_simp
section
variable {P : Program} {a : Act} {o : Oper} {w w' : World}
theorem run_op_index {t : TypeId} {x i : Operand} {vx vi r : Value} (ho : o.op = .indexAddr t x i) (hx : a.eval x = vx) (hi : a.eval i = vi) (hrun : (Instr.indexAt t vx vi).run P w = .ok r w') : (execOp a.eval o).run P w = .ok (.value r) w' := by
  unfold execOp
  simp only [ho, Sem.run_bind, hx, hi, hrun, Result.andThen_ok]
  rfl
theorem run_op_fieldAddr {t : TypeId} {x : Operand} {k : Nat} {vx r : Value} (ho : o.op = .fieldAddr t x k) (hx : a.eval x = vx) (hrun : (Instr.fieldAt t vx k).run P w = .ok r w') : (execOp a.eval o).run P w = .ok (.value r) w' := by
  unfold execOp
  simp only [ho, Sem.run_bind, hx, hrun, Result.andThen_ok]
  rfl
theorem run_op_load {t : TypeId} {x : Operand} {vx r : Value} (ho : o.op = .load t x) (hx : a.eval x = vx) (hrun : (Instr.loadAt t vx).run P w = .ok r w') : (execOp a.eval o).run P w = .ok (.value r) w' := by
  unfold execOp
  simp only [ho, Sem.run_bind, hx, hrun, Result.andThen_ok]
  rfl
end
theorem run_sub_i64 (x y : Operand) (p q r : Int) (h : p - q = r) (h0 : -1000000 ≤ r) (h1 : r ≤ 1000000) (w : World) : (do eqGuard .sub 3 x y (.int .i64 p) (.int .i64 q); binOp .sub 3 (.int .i64 p) (.int .i64 q)).run Tryd.prog w = .ok (.int .i64 r) w := by
  subst h
  go_simp
  rw [IntKind.wrap_i64]; omega
theorem run_add_i64 (x y : Operand) (p q r : Int) (h : p + q = r) (h0 : -1000000 ≤ r) (h1 : r ≤ 1000000) (w : World) : (do eqGuard .add 3 x y (.int .i64 p) (.int .i64 q); binOp .add 3 (.int .i64 p) (.int .i64 q)).run Tryd.prog w = .ok (.int .i64 r) w := by
  subst h
  go_simp
  rw [IntKind.wrap_i64]; omega
theorem run_or_u8 (x y : Operand) (p q r : Int) (h : bits .or .u8 p q = r) (w : World) : (do eqGuard .or 5 x y (.int .u8 p) (.int .u8 q); binOp .or 5 (.int .u8 p) (.int .u8 q)).run Tryd.prog w = .ok (.int .u8 r) w := by
  subst h
  go_simp
theorem run_build_u8_2 (y z : Int) (w : World) : (Instr.buildSlice 52 2 #[(0, .int .u8 y), (1, .int .u8 z)]).run Tryd.prog w = .ok (.slice (some ⟨w.heap.size, 0, none⟩) 2 2) (w.alloc (.cells [.int .u8 y, .int .u8 z].toArray 5)) := by
  go_simp
/- bytes as a string -/
def strOf (bs : List Nat) : ByteArray := ⟨(bs.map UInt8.ofNat).toArray⟩
theorem strOf_inj {bs cs : List Nat} (hb : ∀ b ∈ bs, b < 256) (hc : ∀ b ∈ cs, b < 256) (h : strOf bs = strOf cs) : bs = cs := by
  have h1 : bs.map UInt8.ofNat = cs.map UInt8.ofNat := by
    have := congrArg (fun s : ByteArray => s.data.toList) h
    simpa [strOf] using this
  have h2 := congrArg (List.map UInt8.toNat) h1
  rw [List.map_map, List.map_map] at h2
  have id : ∀ l : List Nat, (∀ b ∈ l, b < 256) → l.map (UInt8.toNat ∘ UInt8.ofNat) = l := fun l hl => by
    conv => rhs; rw [← List.map_id l]
    refine List.map_congr_left fun b hbm => ?_
    have := hl b hbm
    simp; omega
  rw [id bs hb, id cs hc] at h2
  exact h2
theorem strOf_same (bs : List Nat) : (strOf bs != strOf bs) = false := by rw [bne, beq_toListBytes]; simp
theorem strOf_other {bs cs : List Nat} (hb : ∀ b ∈ bs, b < 256) (hc : ∀ b ∈ cs, b < 256) (h : ¬ bs = cs) : (strOf bs != strOf cs) = true := by
  rw [bne, beq_toListBytes]
  simp only [Bool.not_eq_true', beq_eq_false_iff_ne, ne_eq]
  intro e
  rw [ByteArray.toList_eq, ByteArray.toList_eq] at e
  refine h (strOf_inj hb hc ?_)
  apply ByteArray.ext
  exact Array.toList_inj.1 e
theorem foldl_push (bs : List Nat) (s : ByteArray) : (bs.map fun b => ((b : Nat) : Int)).foldl (fun r (n : Int) => r.push (UInt8.ofNat n.toNat)) s = ⟨(s.data.toList ++ bs.map UInt8.ofNat).toArray⟩ := by
  induction bs generalizing s with
  | nil => simp
  | cons b bs ih =>
    rw [List.map_cons, List.foldl_cons, ih]
    simp [ByteArray.push]
theorem conv_bytes {W : World} {A : Option Addr} {n : Nat} {bs : List Nat} (h : Bytes W W.heap.size A n bs) (c : Nat) : (convert 52 9 (.slice A n c)).run Tryd.prog W = .ok (.string (strOf bs)) W := by
  rw [run_convert_bytes_string (P := Tryd.prog) W 52 9 5 A n c Tryd.underlying52 Tryd.underlying5 Tryd.underlying9]
  rcases A with _ | ad
  · have hn : bs = [] := by
      rcases Nat.eq_zero_or_pos n with h0 | h0
      · exact List.eq_nil_of_length_eq_zero (h.len.trans h0)
      · obtain ⟨ad, h', _⟩ := h.lies 0 h0
        cases h'
    subst hn
    rfl
  · have hl : (loadCells ad n).run Tryd.prog W = .ok ((bs.map fun b => ((b : Nat) : Int)).map (Value.int .u8)).toArray W := by
      have hlen := h.len
      have := run_loadCells_list (P := Tryd.prog) (w := W) ad ((bs.map fun b => ((b : Nat) : Int)).map (Value.int .u8)) (fun j v hj => by
        rw [List.getElem?_map, List.getElem?_map] at hj
        cases hb : bs[j]? with
        | none => rw [hb] at hj; cases hj
        | some b =>
          rw [hb] at hj
          have hjl : j < n := by
            rcases Nat.lt_or_ge j n with h' | h'
            · exact h'
            · rw [List.getElem?_eq_none (by omega)] at hb; cases hb
          obtain ⟨ad', e1, e2, e3⟩ := h.lies j hjl
          obtain rfl := Option.some.inj e1
          rw [e3, ← Option.some.inj hj]
          unfold byteAt
          rw [List.getD_eq_getElem?_getD, hb]; rfl)
      rwa [List.length_map, List.length_map, hlen] at this
    rw [run_bytesToString (P := Tryd.prog) W ad n c _ hl, foldl_push]
    rfl
section
variable {P : Program} {a : Act} {o : Oper} {w w' : World}
theorem run_op_convert {s d : TypeId} {x : Operand} {vx r : Value} (ho : o.op = .convert s d x) (hx : a.eval x = vx) (hrun : (convert s d vx).run P w = .ok r w') : (execOp a.eval o).run P w = .ok (.value r) w' := by
  unfold execOp
  simp only [ho, Sem.run_bind, hx, hrun, Result.andThen_ok]
  rfl
end
theorem run_neq_str (x y : Operand) (p q : ByteArray) (b : Bool) (h : (p != q) = b) (w : World) : (do eqGuard .neq 9 x y (.string p) (.string q); binOp .neq 9 (.string p) (.string q)).run Tryd.prog w = .ok (.bool b) w := by
  subst h
  go_simp
  rw [← beq_toListBytes]; simp [bne]
end Go.Proofs.YtgenkmihbnkakaaDoor
