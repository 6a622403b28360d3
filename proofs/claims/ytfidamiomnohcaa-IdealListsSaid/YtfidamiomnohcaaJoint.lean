/- A region that draws its order, where what holds of the world may hang on the frame, too (an address that an operation of the region made): Inv of what is done, of the frame, and of the world. Conditions: each temporary is written once. -/
import Derived.Test.YtfidamiomnohcaaTail
set_option linter.unusedVariables false
set_option linter.unusedSimpArgs false
set_option maxRecDepth 20000
namespace Go.Proofs.Ytfidamiomnohcaa
open Go Go.RowKit

section
variable {ops : Array Oper} {P : Program} {Q : Exit → Act → World → Prop} {a0 : Act} {F : Nat → Value → World → Prop} {dead : Nat → Option Nat} {R : Nat → Act → World → World → Prop} {Inv : Array Bool → Act → World → Prop}
def Step5 (P : Program) (ops : Array Oper) (Q : Exit → Act → World → Prop) (a0 : Act) (F : Nat → Value → World → Prop) (dead : Nat → Option Nat) (R : Nat → Act → World → World → Prop) (Inv : Array Bool → Act → World → Prop) (i : Nat) (o : Oper) : Prop :=
  ∀ (listed : Array Bool) (a : Act) (w : World), Holds2 ops a0 F dead listed a w → Inv listed a w → listed.getD i true = false → (∀ e ∈ o.after, Region.binds .any e = true → listed.getD e.on false = true) →
    wpOp P ops Q i (fun a' w' => ∃ v, a' = a.put o.dst v ∧ R i a w w' ∧ F i (match o.dst with | some _ => v | none => undef) w') a w
def Steps5 (P : Program) (ops : Array Oper) (Q : Exit → Act → World → Prop) (a0 : Act) (F : Nat → Value → World → Prop) (dead : Nat → Option Nat) (R : Nat → Act → World → World → Prop) (Inv : Array Bool → Act → World → Prop) : Nat → List Oper → Prop
  | _, [] => True
  | i, o :: rest => Step5 P ops Q a0 F dead R Inv i o ∧ Steps5 P ops Q a0 F dead R Inv (i + 1) rest
theorem Steps5.cons {i : Nat} {o : Oper} {rest : List Oper} (h : Step5 P ops Q a0 F dead R Inv i o) (hs : Steps5 P ops Q a0 F dead R Inv (i + 1) rest) : Steps5 P ops Q a0 F dead R Inv i (o :: rest) := ⟨h, hs⟩
theorem Steps5.nil {i : Nat} : Steps5 P ops Q a0 F dead R Inv i [] := trivial
theorem Steps5.at_ : ∀ {l : List Oper} {k : Nat}, Steps5 P ops Q a0 F dead R Inv k l → ∀ {i : Nat} {o : Oper}, l[i]? = some o → Step5 P ops Q a0 F dead R Inv (k + i) o
  | [], _, _, _, _, h => by simp at h
  | _ :: _, k, hs, 0, o, h => by
    simp at h
    subst h
    exact hs.1
  | _ :: rest, k, hs, i + 1, o, h => by
    have := Steps5.at_ hs.2 (i := i) (o := o) (by simpa using h)
    rw [show k + (i + 1) = k + 1 + i by omega]
    exact this
theorem Holds2.put5 {listed : Array Bool} {a : Act} {w w' : World} {i : Nat} {o : Oper} {v : Value} (ht : tidyB ops a0.tmps.size = true) (hF : ∀ i j v a w w', i ≠ j → dead i ≠ some j → needs ops i j = false → (∀ d, dead i = some d → needs ops j d = false) → F i v w → R j a w w' → F i v w')
    (h : Holds2 ops a0 F dead listed a w) (hs : listed.size = ops.size) (hl : listed.getD i true = false) (hda : ∀ e ∈ o.after, Region.binds .any e = true → listed.getD e.on false = true) (hi : ops[i]? = some o) (hR : R i a w w') (hv : F i (match o.dst with | some _ => v | none => undef) w') : Holds2 ops a0 F dead (listed.setIfInBounds i true) (a.put o.dst v) w' := by
  have hil : i < listed.size := by rw [hs]; exact lt_of_some hi
  have hput : ∀ d, (a.put o.dst v).tmps.getD d undef = if o.dst = some d ∧ d < a.tmps.size then v else a.tmps.getD d undef := by
    intro d
    unfold Act.put
    cases hd : o.dst with
    | none => simp
    | some e =>
      simp only [Option.some.injEq]
      by_cases hed : e = d
      · subst hed
        by_cases hlt : e < a.tmps.size
        · simp [hlt]
        · simp [hlt, Array.getElem?_eq_none (Nat.le_of_not_lt hlt)]
      · simp [hed, Array.getElem?_setIfInBounds_ne hed]
  have hkeep : ∀ j, listed.getD j false = true → (listed.setIfInBounds i true).getD j false = true := fun j hj => by
    by_cases hij : i = j
    · subst hij; simp [hil]
    · rwa [getD_set_ne false hij]
  have hown : ∀ j, needs ops i j = true → listed.getD j false = true := fun j hj => by
    unfold needs at hj
    rw [hi] at hj
    obtain ⟨q, hq, hh⟩ := Array.any_eq_true.1 hj
    rw [Bool.and_eq_true] at hh
    have := hda _ (Array.getElem_mem hq) hh.2
    rwa [show (o.after[q]).on = j by simpa using hh.1] at this
  refine ⟨?_, ?_, fun k hk => ?_, fun j p hj hl hdead => ?_, fun j q hj hlj => ?_, by simpa using h.len⟩
  · rw [← h.defers]; unfold Act.put; cases o.dst <;> rfl
  · rw [← h.size]; unfold Act.put; cases o.dst <;> simp
  · have hik : o.dst ≠ some k := fun e => by
      have := hk i o hi e
      simp [hil] at this
    rw [hput, if_neg (fun hh => hik hh.1)]
    refine h.base k fun j p hj hp => ?_
    have := hk j p hj hp
    by_cases hij : i = j
    · subst hij
      simp [hil] at this
    · rwa [getD_set_ne true hij] at this
  · by_cases hij : i = j
    · subst hij
      obtain rfl := Option.some.inj (hi.symm.trans hj)
      unfold outOf
      cases hd : o.dst with
      | none => rw [hd] at hv; exact hv
      | some d =>
        rw [hd] at hv
        have hlt : d < a.tmps.size := by rw [h.size]; exact tidy_in ht hi hd
        have := hput d
        rw [hd] at this
        simp only [hlt, and_self, if_true] at this
        show F i ((a.put (some d) v).tmps.getD d undef) w'
        rw [this]; exact hv
    · rw [getD_set_ne false hij] at hl
      have hnd : dead j ≠ some i := fun e => by
        have := hdead i e
        simp [hil] at this
      have hnn : needs ops j i = false := by
        cases hb : needs ops j i with
        | false => rfl
        | true =>
          have h1 := h.closed j i hb hl
          have h2 : listed.getD i true = listed.getD i false := by simp [hil]
          rw [‹listed.getD i true = false›] at h2
          rw [← h2] at h1; cases h1
      have h0 := hF j i _ a w w' (fun e => hij e.symm) hnd hnn (fun d hd => by
        cases hb : needs ops i d with
        | false => rfl
        | true =>
          have h1 := hown d hb
          have h2 := hdead d hd
          by_cases hid : i = d
          · subst hid; simp [hil] at h2
          · rw [getD_set_ne true hid] at h2
            have h3 : listed.getD d false = listed.getD d true := by
              by_cases hdl : d < listed.size
              · simp [hdl]
              · simp [hdl] at h1
            rw [h3, h2] at h1; cases h1) (h.done j p hj hl (fun d hd => by
        have h1 := hdead d hd
        by_cases hid : i = d
        · subst hid; simp [hil] at h1
        · rwa [getD_set_ne true hid] at h1)) hR
      have : outOf (a.put o.dst v) p = outOf a p := by
        unfold outOf
        cases hd : p.dst with
        | none => rfl
        | some d =>
          show (a.put o.dst v).tmps.getD d undef = a.tmps.getD d undef
          rw [hput, if_neg (fun hh => hij (tidy_once ht hi hj hh.1 hd))]
      rw [this]; exact h0
  · by_cases hij : i = j
    · subst hij
      exact hkeep q (hown q hj)
    · rw [getD_set_ne false hij] at hlj
      exact hkeep q (h.closed j q hj hlj)
theorem any_of_steps5 (ht : tidyB ops a0.tmps.size = true) (hF : ∀ i j v a w w', i ≠ j → dead i ≠ some j → needs ops i j = false → (∀ d, dead i = some d → needs ops j d = false) → F i v w → R j a w w' → F i v w') (hI : ∀ listed j a w v w' o, ops[j]? = some o → a.tmps.size = a0.tmps.size → Holds2 ops a0 F dead listed a w → Inv listed a w → listed.size = ops.size → listed.getD j true = false → R j a w w' → F j (match o.dst with | some _ => v | none => undef) w' → Inv (listed.setIfInBounds j true) (a.put o.dst v) w') (hs : Steps5 P ops Q a0 F dead R Inv 0 ops.toList)
    (fin : ∀ a w listed, a.defers = a0.defers → a.tmps.size = a0.tmps.size → Inv listed a w → (∀ i, i < ops.size → listed.getD i false = true) → (∀ i o, ops[i]? = some o → dead i = none → F i (outOf a o) w) → a = (dstsOf ops).foldl (fun b k => b.put (some k) (a.tmps.getD k undef)) a0 → Q .normal a w) :
    ∀ (fuel : Nat) (listed : Array Bool) (a : Act) (w : World), listed.size = ops.size → listed.toList.count false = fuel → Holds2 ops a0 F dead listed a w → Inv listed a w → wpAny P .any ops Q fuel listed a w := by
  intro fuel
  induction fuel with
  | zero =>
    intro listed a w hsz hc h hw
    have hr : Region.ready .any ops listed = [] := none_ready hc
    exact ⟨hr, fin a w listed h.defers h.size hw (fun i hi => ready_nil ht hr hsz i hi) (fun i o hi hd => h.done i o hi (ready_nil ht hr hsz i (lt_of_some hi)) (fun j hj => by rw [hd] at hj; cases hj)) (act_after h.defers h.size fun k hk => h.base k fun i o hi hdk => absurd hdk (by
      have hm : o ∈ ops.toList := by
        obtain ⟨hlt, rfl⟩ := Array.getElem?_eq_some_iff.1 hi
        simp
      have := List.all_eq_true.1 hk o hm
      simpa using this))⟩
  | succ fuel ih =>
    intro listed a w hsz hc h hw
    refine ⟨fun hr => fin a w listed h.defers h.size hw (fun i hi => ready_nil ht hr hsz i hi) (fun i o hi hd => h.done i o hi (ready_nil ht hr hsz i (lt_of_some hi)) (fun j hj => by rw [hd] at hj; cases hj)) (act_after h.defers h.size fun k hk => h.base k fun i o hi hdk => absurd hdk (by
      have hm : o ∈ ops.toList := by
        obtain ⟨hlt, rfl⟩ := Array.getElem?_eq_some_iff.1 hi
        simp
      have := List.all_eq_true.1 hk o hm
      simpa using this)), fun i hi => ?_⟩
    obtain ⟨hl, o, ho, hd⟩ := mem_ready.1 hi
    have hst := hs.at_ (i := i) (o := o) (by simpa using ho)
    rw [Nat.zero_add] at hst
    refine wpOp_mono ?_ (hst listed a w h hw hl hd)
    rintro a' w' ⟨v, rfl, hr, hv⟩
    exact ih _ _ _ (by simpa using hsz) (count_step hl hc) (h.put5 ht hF hsz hl hd ho hr hv) (hI _ _ _ _ _ _ _ ho h.size h hw hsz hl hr hv)
/-- THE REGION: from the world behind the draw. -/
theorem region_of_steps5 {id : Nat} {w : World} (hm : P.follows .mixedOrders = true) (F : Nat → Value → World → Prop) (dead : Nat → Option Nat) (R : Nat → Act → World → World → Prop) (Inv : Array Bool → Act → World → Prop) (ht : tidyB ops a0.tmps.size = true)
    (hF : ∀ i j v a w w', i ≠ j → dead i ≠ some j → needs ops i j = false → (∀ d, dead i = some d → needs ops j d = false) → F i v w → R j a w w' → F i v w') (hI : ∀ listed j a w v w' o, ops[j]? = some o → a.tmps.size = a0.tmps.size → Holds2 ops a0 F dead listed a w → Inv listed a w → listed.size = ops.size → listed.getD j true = false → R j a w w' → F j (match o.dst with | some _ => v | none => undef) w' → Inv (listed.setIfInBounds j true) (a.put o.dst v) w') (h0 : Inv (Array.replicate ops.size false) a0 w.drew) (hs : Steps5 P ops Q a0 F dead R Inv 0 ops.toList)
    (fin : ∀ a w' listed, a.defers = a0.defers → a.tmps.size = a0.tmps.size → Inv listed a w' → (∀ i, i < ops.size → listed.getD i false = true) → (∀ i o, ops[i]? = some o → dead i = none → F i (outOf a o) w') → a = (dstsOf ops).foldl (fun b k => b.put (some k) (a.tmps.getD k undef)) a0 → Q .normal a w') : (Code.region id ops true).wp P Q a0 w := by
  refine wp_region_any hm ?_
  refine any_of_steps5 (a0 := a0) (F := F) (dead := dead) (R := R) (Inv := Inv) ht hF hI hs fin ops.size (Array.replicate ops.size false) a0 w.drew (by simp) (by simp) ?_ h0
  exact ⟨rfl, rfl, fun k _ => rfl, fun i o hi hl => by simp at hl; exact absurd hl (by
    by_cases h : i < ops.size <;> simp [h]), fun i j _ hl => by
    simp at hl; exact absurd hl (by by_cases h : i < ops.size <;> simp [h]), by simp⟩
end
/-- A variable that the region makes (operation i0, slot d) and writes (operation i1): P0 of it ahead of that, P1 behind. -/
structure BoxInv (d i0 i1 : Nat) (P0 P1 : World → Nat → Prop) (W0 : World) (listed : Array Bool) (a : Act) (w : World) : Prop where
  below : Below W0.heap.size W0 w
  made : listed.getD i0 false = true → ∃ g, a.tmps.getD d undef = .pointer (some ⟨g, 0, none⟩) ∧ W0.heap.size ≤ g ∧ (listed.getD i1 false = false → P0 w g) ∧ (listed.getD i1 false = true → P1 w g)
/-- Operation i1 writes that variable; all others turn nothing that was there. -/
structure BoxR (d i1 : Nat) (P1 : World → Nat → Prop) (W0 : World) (a : Act) (j : Nat) (w w' : World) : Prop where
  writes : j = i1 → ∃ g, a.tmps.getD d undef = .pointer (some ⟨g, 0, none⟩) ∧ W0.heap.size ≤ g ∧ w.grownBy w' (some g) ∧ P1 w' g
  other : j ≠ i1 → Later w w'
section
variable {ops : Array Oper} {a0 a : Act} {F : Nat → Value → World → Prop} {dead : Nat → Option Nat} {d i0 i1 j : Nat} {P0 P1 : World → Nat → Prop} {W0 w w' : World} {listed : Array Bool} {o : Oper} {v : Value}
theorem boxr_later (hj : j ≠ i1) (h : Later w w') : BoxR d i1 P1 W0 a j w w' := ⟨fun e => absurd e hj, fun _ => h⟩
theorem boxr_refl (hj : j ≠ i1) : BoxR d i1 P1 W0 a j w w := boxr_later hj (later_refl _)
theorem boxr_but (h : BoxR d i1 P1 W0 a j w w') : But i1 0 j w w' := by
  unfold But
  split
  · next e =>
    obtain ⟨g, _, h2, h3, _⟩ := h.writes e
    exact ⟨h3.os, h3.tape, h3.output, h3.size, fun k hk => absurd hk (Nat.not_lt_zero k)⟩
  · next e => exact h.other e
theorem boxinv_start (h : Below W0.heap.size W0 w) (h0 : listed.getD i0 false = false) : BoxInv d i0 i1 P0 P1 W0 listed a w := ⟨h, fun e => by rw [h0] at e; cases e⟩
theorem boxinv_step (ht : tidyB ops a0.tmps.size = true) (hi0 : (ops[i0]?).bind (·.dst) = some d) (hne : i0 ≠ i1) (hlate : needs ops i1 i0 = true)
    (hP0 : ∀ x y g, P0 x g → Later x y → P0 y g) (hP1 : ∀ x y g, P1 x g → Later x y → P1 y g)
    (hF : ∀ v w, F i0 v w → ∃ g, v = .pointer (some ⟨g, 0, none⟩) ∧ W0.heap.size ≤ g ∧ P0 w g)
    (ho : ops[j]? = some o) (hsz : a.tmps.size = a0.tmps.size) (h : BoxInv d i0 i1 P0 P1 W0 listed a w) (hs : listed.size = ops.size) (hl : listed.getD j true = false) (hR : BoxR d i1 P1 W0 a j w w') (hv : F j (match o.dst with | some _ => v | none => undef) w') (H : Holds2 ops a0 F dead listed a w) :
    BoxInv d i0 i1 P0 P1 W0 (listed.setIfInBounds j true) (a.put o.dst v) w' := by
  have hjl : j < listed.size := by rw [hs]; exact lt_of_some ho
  have hb : Below W0.heap.size W0 w' := by
    by_cases e : j = i1
    · obtain ⟨g, _, h2, h3, _⟩ := hR.writes e
      exact h.below.grown h3 h.below.size fun k hk => by rw [← Option.some.inj hk]; exact h2
    · exact below_chain h.below (hR.other e)
  refine ⟨hb, fun hm => ?_⟩
  by_cases e0 : j = i0
  · subst e0
    have hd : o.dst = some d := by rw [ho] at hi0; exact hi0
    have hlt : d < a.tmps.size := by rw [hsz]; exact tidy_in ht ho hd
    rw [hd] at hv
    obtain ⟨g, h1, h2, h3⟩ := hF _ _ hv
    refine ⟨g, ?_, h2, fun _ => h3, fun e1 => ?_⟩
    · rw [hd]; unfold Act.put; simp [hlt]; exact h1
    · exfalso
      rw [getD_set_ne false hne] at e1
      have := H.closed i1 j hlate e1
      simp [hjl] at this hl
      rw [this] at hl; cases hl
  · have hdn : o.dst ≠ some d := fun hd => by
      cases h0 : ops[i0]? with
      | none => rw [h0] at hi0; cases hi0
      | some p =>
        rw [h0] at hi0
        exact e0 (tidy_once ht ho h0 hd hi0)
    have hput : (a.put o.dst v).tmps.getD d undef = a.tmps.getD d undef := by
      unfold Act.put
      cases hd : o.dst with
      | none => rfl
      | some q =>
        have : q ≠ d := fun e => hdn (by rw [hd, e])
        simp [Array.getElem?_setIfInBounds_ne this]
    rw [getD_set_ne false e0] at hm
    obtain ⟨g, h1, h2, h3, h4⟩ := h.made hm
    rw [hput]
    by_cases e1 : j = i1
    · obtain ⟨g', k1, k2, k3, k4⟩ := hR.writes e1
      rw [h1] at k1
      have : g = g' := by injection k1 with k1; injection k1 with k1; injection k1
      subst this
      subst e1
      refine ⟨g, h1, h2, fun h5 => ?_, fun _ => k4⟩
      simp [hjl] at h5
    · rw [getD_set_ne false e1]
      exact ⟨g, h1, h2, fun h5 => hP0 _ _ _ (h3 h5) (hR.other e1), fun h5 => hP1 _ _ _ (h4 h5) (hR.other e1)⟩
end
section
variable {P : Program} {a : Act} {o : Oper} {w w' : World}
theorem run_op_alloc {t : TypeId} {r : Value} (ho : o.op = .alloc t) (hrun : (Instr.alloc t true (.tuple #[])).run P w = .ok r w') : (execOp a.eval o).run P w = .ok (.value r) w' := by
  unfold execOp
  simp only [ho, Sem.run_bind, hrun, Result.andThen_ok]
  rfl
theorem run_op_box {t : TypeId} {x : Operand} {vx r : Value} (ho : o.op = .box t x) (hx : a.eval x = vx) (hrun : (Instr.box t vx).run P w = .ok r w') : (execOp a.eval o).run P w = .ok (.value r) w' := by
  unfold execOp
  simp only [ho, Sem.run_bind, hx, hrun, Result.andThen_ok]
  rfl
theorem run_op_buildS {t : TypeId} {parts : Array (Nat × Operand)} {r : Value} (ho : o.op = .build t parts) (hrun : (Instr.build t (parts.map fun (i, x) => (i, a.eval x))).run P w = .ok r w') : (execOp a.eval o).run P w = .ok (.value r) w' := by
  unfold execOp
  simp only [ho, Sem.run_bind, hrun, Result.andThen_ok]
  rfl
end
end Go.Proofs.Ytfidamiomnohcaa
