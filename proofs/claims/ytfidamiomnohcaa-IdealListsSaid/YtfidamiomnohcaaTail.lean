/- A region that draws its order, some of whose operations (the list ms, each needs the one before) may turn whatever they like, all others nothing that was there: told op by op. Conditions: each temporary is written once. -/
import Derived.Test.YtfidamiomnohcaaRegion3
set_option linter.unusedVariables false
set_option linter.unusedSimpArgs false
set_option maxRecDepth 20000
namespace Go.Proofs.Ytfidamiomnohcaa
open Go Go.RowKit

section
variable {ops : Array Oper} {P : Program} {Q : Exit → Act → World → Prop} {a0 : Act} {F : Nat → Value → World → Prop} {dead : Nat → Option Nat} {R : Nat → World → World → Prop} {Inv : Array Bool → World → Prop}
theorem Holds2.put4 {listed : Array Bool} {a : Act} {w w' : World} {i : Nat} {o : Oper} {v : Value} (ht : tidyB ops a0.tmps.size = true) (hF : ∀ i j v w w', i ≠ j → dead i ≠ some j → needs ops i j = false → (∀ d, dead i = some d → needs ops j d = false) → F i v w → R j w w' → F i v w')
    (h : Holds2 ops a0 F dead listed a w) (hs : listed.size = ops.size) (hl : listed.getD i true = false) (hda : ∀ e ∈ o.after, Region.binds .any e = true → listed.getD e.on false = true) (hi : ops[i]? = some o) (hR : R i w w') (hv : F i (match o.dst with | some _ => v | none => undef) w') : Holds2 ops a0 F dead (listed.setIfInBounds i true) (a.put o.dst v) w' := by
  have hil : i < listed.size := by rw [hs]; exact lt_of_some hi
  have hput : ∀ d, (a.put o.dst v).tmps.getD d undef = if o.dst = some d ∧ d < a.tmps.size then v else a.tmps.getD d undef := by
    intro d
    unfold Act.put
    cases hd : o.dst with
    | none => simp
    | some e =>
      simp only [Option.some.injEq]
      by_cases hed : e = d
      · subst hed
        by_cases hlt : e < a.tmps.size
        · simp [hlt]
        · simp [hlt, Array.getElem?_eq_none (Nat.le_of_not_lt hlt)]
      · simp [hed, Array.getElem?_setIfInBounds_ne hed]
  have hkeep : ∀ j, listed.getD j false = true → (listed.setIfInBounds i true).getD j false = true := fun j hj => by
    by_cases hij : i = j
    · subst hij; simp [hil]
    · rwa [getD_set_ne false hij]
  have hown : ∀ j, needs ops i j = true → listed.getD j false = true := fun j hj => by
    unfold needs at hj
    rw [hi] at hj
    obtain ⟨q, hq, hh⟩ := Array.any_eq_true.1 hj
    rw [Bool.and_eq_true] at hh
    have := hda _ (Array.getElem_mem hq) hh.2
    rwa [show (o.after[q]).on = j by simpa using hh.1] at this
  refine ⟨?_, ?_, fun k hk => ?_, fun j p hj hl hdead => ?_, fun j q hj hlj => ?_, by simpa using h.len⟩
  · rw [← h.defers]; unfold Act.put; cases o.dst <;> rfl
  · rw [← h.size]; unfold Act.put; cases o.dst <;> simp
  · have hik : o.dst ≠ some k := fun e => by
      have := hk i o hi e
      simp [hil] at this
    rw [hput, if_neg (fun hh => hik hh.1)]
    refine h.base k fun j p hj hp => ?_
    have := hk j p hj hp
    by_cases hij : i = j
    · subst hij
      simp [hil] at this
    · rwa [getD_set_ne true hij] at this
  · by_cases hij : i = j
    · subst hij
      obtain rfl := Option.some.inj (hi.symm.trans hj)
      unfold outOf
      cases hd : o.dst with
      | none => rw [hd] at hv; exact hv
      | some d =>
        rw [hd] at hv
        have hlt : d < a.tmps.size := by rw [h.size]; exact tidy_in ht hi hd
        have := hput d
        rw [hd] at this
        simp only [hlt, and_self, if_true] at this
        show F i ((a.put (some d) v).tmps.getD d undef) w'
        rw [this]; exact hv
    · rw [getD_set_ne false hij] at hl
      have hnd : dead j ≠ some i := fun e => by
        have := hdead i e
        simp [hil] at this
      have hnn : needs ops j i = false := by
        cases hb : needs ops j i with
        | false => rfl
        | true =>
          have h1 := h.closed j i hb hl
          have h2 : listed.getD i true = listed.getD i false := by simp [hil]
          rw [‹listed.getD i true = false›] at h2
          rw [← h2] at h1; cases h1
      have h0 := hF j i _ w w' (fun e => hij e.symm) hnd hnn (fun d hd => by
        cases hb : needs ops i d with
        | false => rfl
        | true =>
          have h1 := hown d hb
          have h2 := hdead d hd
          by_cases hid : i = d
          · subst hid; simp [hil] at h2
          · rw [getD_set_ne true hid] at h2
            have h3 : listed.getD d false = listed.getD d true := by
              by_cases hdl : d < listed.size
              · simp [hdl]
              · simp [hdl] at h1
            rw [h3, h2] at h1; cases h1) (h.done j p hj hl (fun d hd => by
        have h1 := hdead d hd
        by_cases hid : i = d
        · subst hid; simp [hil] at h1
        · rwa [getD_set_ne true hid] at h1)) hR
      have : outOf (a.put o.dst v) p = outOf a p := by
        unfold outOf
        cases hd : p.dst with
        | none => rfl
        | some d =>
          show (a.put o.dst v).tmps.getD d undef = a.tmps.getD d undef
          rw [hput, if_neg (fun hh => hij (tidy_once ht hi hj hh.1 hd))]
      rw [this]; exact h0
  · by_cases hij : i = j
    · subst hij
      exact hkeep q (hown q hj)
    · rw [getD_set_ne false hij] at hlj
      exact hkeep q (h.closed j q hj hlj)
theorem any_of_steps4 (ht : tidyB ops a0.tmps.size = true) (hF : ∀ i j v w w', i ≠ j → dead i ≠ some j → needs ops i j = false → (∀ d, dead i = some d → needs ops j d = false) → F i v w → R j w w' → F i v w') (hI : ∀ listed j w w', Inv listed w → listed.getD j true = false → R j w w' → Inv (listed.setIfInBounds j true) w') (hs : Steps3 P ops Q a0 F dead R Inv 0 ops.toList)
    (fin : ∀ a w listed, a.defers = a0.defers → a.tmps.size = a0.tmps.size → Inv listed w → (∀ i o, ops[i]? = some o → dead i = none → F i (outOf a o) w) → a = (dstsOf ops).foldl (fun b k => b.put (some k) (a.tmps.getD k undef)) a0 → Q .normal a w) :
    ∀ (fuel : Nat) (listed : Array Bool) (a : Act) (w : World), listed.size = ops.size → listed.toList.count false = fuel → Holds2 ops a0 F dead listed a w → Inv listed w → wpAny P .any ops Q fuel listed a w := by
  intro fuel
  induction fuel with
  | zero =>
    intro listed a w hsz hc h hw
    have hr : Region.ready .any ops listed = [] := none_ready hc
    exact ⟨hr, fin a w listed h.defers h.size hw (fun i o hi hd => h.done i o hi (ready_nil ht hr hsz i (lt_of_some hi)) (fun j hj => by rw [hd] at hj; cases hj)) (act_after h.defers h.size fun k hk => h.base k fun i o hi hdk => absurd hdk (by
      have hm : o ∈ ops.toList := by
        obtain ⟨hlt, rfl⟩ := Array.getElem?_eq_some_iff.1 hi
        simp
      have := List.all_eq_true.1 hk o hm
      simpa using this))⟩
  | succ fuel ih =>
    intro listed a w hsz hc h hw
    refine ⟨fun hr => fin a w listed h.defers h.size hw (fun i o hi hd => h.done i o hi (ready_nil ht hr hsz i (lt_of_some hi)) (fun j hj => by rw [hd] at hj; cases hj)) (act_after h.defers h.size fun k hk => h.base k fun i o hi hdk => absurd hdk (by
      have hm : o ∈ ops.toList := by
        obtain ⟨hlt, rfl⟩ := Array.getElem?_eq_some_iff.1 hi
        simp
      have := List.all_eq_true.1 hk o hm
      simpa using this)), fun i hi => ?_⟩
    obtain ⟨hl, o, ho, hd⟩ := mem_ready.1 hi
    have hst := hs.at_ (i := i) (o := o) (by simpa using ho)
    rw [Nat.zero_add] at hst
    refine wpOp_mono ?_ (hst listed a w h hw hl hd)
    rintro a' w' ⟨v, rfl, hr, hv⟩
    exact ih _ _ _ (by simpa using hsz) (count_step hl hc) (h.put4 ht hF hsz hl hd ho hr hv) (hI _ _ _ _ hw hl hr)
/-- THE REGION: from the world behind the draw. -/
theorem region_of_steps4 {id : Nat} {w : World} (hm : P.follows .mixedOrders = true) (F : Nat → Value → World → Prop) (dead : Nat → Option Nat) (R : Nat → World → World → Prop) (Inv : Array Bool → World → Prop) (ht : tidyB ops a0.tmps.size = true)
    (hF : ∀ i j v w w', i ≠ j → dead i ≠ some j → needs ops i j = false → (∀ d, dead i = some d → needs ops j d = false) → F i v w → R j w w' → F i v w') (hI : ∀ listed j w w', Inv listed w → listed.getD j true = false → R j w w' → Inv (listed.setIfInBounds j true) w') (h0 : ∀ listed, Inv listed w.drew) (hs : Steps3 P ops Q a0 F dead R Inv 0 ops.toList)
    (fin : ∀ a w' listed, a.defers = a0.defers → a.tmps.size = a0.tmps.size → Inv listed w' → (∀ i o, ops[i]? = some o → dead i = none → F i (outOf a o) w') → a = (dstsOf ops).foldl (fun b k => b.put (some k) (a.tmps.getD k undef)) a0 → Q .normal a w') : (Code.region id ops true).wp P Q a0 w := by
  refine wp_region_any hm ?_
  refine any_of_steps4 (a0 := a0) (F := F) (dead := dead) (R := R) (Inv := Inv) ht hF hI hs fin ops.size (Array.replicate ops.size false) a0 w.drew (by simp) (by simp) ?_ (h0 _)
  exact ⟨rfl, rfl, fun k _ => rfl, fun i o hi hl => by simp at hl; exact absurd hl (by
    by_cases h : i < ops.size <;> simp [h]), fun i j _ hl => by
    simp at hl; exact absurd hl (by by_cases h : i < ops.size <;> simp [h]), by simp⟩
end
/-- The operations of the list do whatever they like; all others turn nothing that was there. -/
def Turns (ms : List Nat) (j : Nat) (x y : World) : Prop := ms.contains j = false → Later x y
theorem turns_later {ms : List Nat} {j : Nat} {x y : World} (h : Later x y) : Turns ms j x y := fun _ => h
theorem turns_here {ms : List Nat} {j : Nat} {x y : World} (hj : ms.contains j = true) : Turns ms j x y := fun h => by rw [hj] at h; cases h
theorem turns_refl {ms : List Nat} {j : Nat} (x : World) : Turns ms j x x := fun _ => later_refl _
/-- As long as none of these operations is done, all that was there stands. -/
def TillAll (ms : List Nat) (W0 : World) (listed : Array Bool) (w : World) : Prop := (∀ m ∈ ms, listed.getD m true = false) → Later W0 w
theorem tillall_start (ms : List Nat) (W0 : World) (listed : Array Bool) : TillAll ms W0 listed W0 := fun _ => later_refl _
theorem tillall_step {ms : List Nat} {W0 : World} {listed : Array Bool} {j : Nat} {w w' : World} (h : TillAll ms W0 listed w) (hl : listed.getD j true = false) (hR : Turns ms j w w') : TillAll ms W0 (listed.setIfInBounds j true) w' := by
  intro hm
  have hj : ms.contains j = false := by
    cases hc : ms.contains j with
    | false => rfl
    | true =>
      exfalso
      have := hm j (by simpa using hc)
      by_cases hs : j < listed.size <;> simp [hs] at this hl
  refine later_trans _ _ _ (h fun m hmm => ?_) (hR hj)
  have h1 := hm m hmm
  have hne : j ≠ m := fun e => by
    subst e
    have : ms.contains j = true := by simpa using hmm
    rw [hj] at this; cases this
  rwa [getD_set_ne true hne] at h1
/-- Whether each fact that tells memory is used up by one of these operations, or ahead of it, or comes behind it. -/
def hdsT (ops : Array Oper) (l : List Fact2) (ms : List Nat) (ds : List (Nat × Nat)) : Bool :=
  (List.range l.length).all fun i => (match l[i]? with | some (.is _) => true | _ => false) || ms.all fun m => deadOf ds i == some m || i == m || needs ops i m || (match deadOf ds i with | some d => needs ops m d | none => false)
theorem turns_stays (ops : Array Oper) (l : List Fact2) (ms : List Nat) (ds : List (Nat × Nat)) (hds : hdsT ops l ms ds = true) (i j : Nat) (v : Value) (w w' : World) (hm : i ≠ j) (hd : deadOf ds i ≠ some j) (hnn : needs ops i j = false) (hdd : ∀ d, deadOf ds i = some d → needs ops j d = false) (h : fact2Of l i v w) (hR : Turns ms j w w') : fact2Of l i v w' := by
  unfold fact2Of at h ⊢
  cases hq : l[i]? with
  | none => trivial
  | some f =>
    rw [hq] at h
    have hil : i < l.length := (List.getElem?_eq_some_iff.1 hq).1
    have h1 := List.all_eq_true.1 hds i (List.mem_range.2 hil)
    rw [hq] at h1
    cases hc : ms.contains j with
    | true =>
      have hval : ∃ u, f = .is u := by
        rcases Bool.or_eq_true_iff.1 h1 with h2 | h2
        · cases f with
          | is u => exact ⟨u, rfl⟩
          | row rs => cases h2
          | own b n bs => cases h2
          | that p hp => cases h2
        · exfalso
          have h3 := List.all_eq_true.1 h2 j (by simpa using hc)
          simp only [Bool.or_eq_true, beq_iff_eq] at h3
          rcases h3 with ((h3 | h3) | h3) | h3
          · exact hd h3
          · exact hm h3
          · rw [h3] at hnn; cases hnn
          · cases hdi : deadOf ds i with
            | none => rw [hdi] at h3; cases h3
            | some d =>
              rw [hdi] at h3
              have h4 : needs ops j d = true := h3
              rw [hdd d hdi] at h4; cases h4
      obtain ⟨u, rfl⟩ := hval
      exact h
    | false =>
      have hL := hR hc
      cases f with
      | is u => exact h
      | row rs =>
        obtain ⟨g, e, hc, hg⟩ := h
        exact ⟨g, e, fun k r hk => later_cell hL (hc k r hk), Nat.lt_of_lt_of_le hg hL.size⟩
      | own base n bs =>
        obtain ⟨A, c, e, ho⟩ := h
        exact ⟨A, c, e, ho.since hL⟩
      | that p hp => exact hp _ _ _ h hL
section
variable {ops : Array Oper} {a0 a : Act} {F : Nat → Value → World → Prop} {dead : Nat → Option Nat} {listed : Array Bool} {w : World}
/-- What m needs is not done yet: nor is m. -/
theorem Holds2.notyet {m i : Nat} (H : Holds2 ops a0 F dead listed a w) (hl : listed.getD i true = false) (hn : needs ops m i = true) : listed.getD m true = false := by
  cases hm : listed.getD m true with
  | false => rfl
  | true =>
    exfalso
    have hlt : m < listed.size := by
      rw [H.len]
      unfold needs at hn
      cases ho : ops[m]? with
      | none => rw [ho] at hn; cases hn
      | some o => exact (Array.getElem?_eq_some_iff.1 ho).1
    have hm' : listed.getD m false = true := by
      simp only [Array.getD, hlt, dif_pos] at hm ⊢
      exact hm
    have hi := H.closed m i hn hm'
    have hli : i < listed.size := by
      by_cases h : i < listed.size
      · exact h
      · simp [Array.getD, h] at hl
    simp only [Array.getD, hli, dif_pos] at hi hl
    rw [hi] at hl; cases hl
/-- Operation m needs operation i, by so many steps at most. -/
def reach (ops : Array Oper) : Nat → Nat → Nat → Bool
  | 0, m, i => m == i
  | f + 1, m, i => m == i || (List.range ops.size).any fun k => needs ops m k && reach ops f k i
theorem Holds2.notyets (f : Nat) {m i : Nat} (H : Holds2 ops a0 F dead listed a w) (hl : listed.getD i true = false) (hn : reach ops f m i = true) : listed.getD m true = false := by
  induction f generalizing m with
  | zero =>
    have : m = i := by simpa [reach] using hn
    rw [this]; exact hl
  | succ f ih =>
    unfold reach at hn
    rcases Bool.or_eq_true_iff.1 hn with h | h
    · have : m = i := by simpa using h
      rw [this]; exact hl
    · obtain ⟨k, _, hk⟩ := List.any_eq_true.1 h
      obtain ⟨h1, h2⟩ := Bool.and_eq_true_iff.1 hk
      exact H.notyet (ih h2) h1
/-- None of the list is done, while something that each of them needs is not. -/
theorem Holds2.nothing (f : Nat) {ms : List Nat} {i : Nat} (H : Holds2 ops a0 F dead listed a w) (hl : listed.getD i true = false) (hn : (ms.all fun m => reach ops f m i) = true) : ∀ m ∈ ms, listed.getD m true = false := fun m hm =>
  H.notyets f hl (List.all_eq_true.1 hn m hm)
end
section
variable {P : Program} {a : Act} {o : Oper} {w w' : World}
theorem run_op_nilCheck {x : Operand} {p : Addr} (ho : o.op = .nilCheck x) (hx : a.eval x = .pointer (some p)) : (execOp a.eval o).run P w = .ok (.value (.pointer (some p))) w := by
  unfold execOp
  simp only [ho, hx]
  rfl
theorem run_op_makeSlice {t : TypeId} {x y : Operand} {vx vy r : Value} (ho : o.op = .makeSlice t x y) (hx : a.eval x = vx) (hy : a.eval y = vy) (hrun : (Instr.makeSlice t vx vy).run P w = .ok r w') : (execOp a.eval o).run P w = .ok (.value r) w' := by
  unfold execOp
  simp only [ho, Sem.run_bind, hx, hy, hrun, Result.andThen_ok]
  rfl
end
end Go.Proofs.Ytfidamiomnohcaa
