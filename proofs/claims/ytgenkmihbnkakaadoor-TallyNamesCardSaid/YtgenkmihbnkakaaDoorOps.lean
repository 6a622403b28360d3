/- How single operations run, and what is known of their temporaries: for regions that draw their order. No conditions. -/
import Derived.Test.YtgenkmihbnkakaaDoorBase
import Derived.Test.YtgenkmihbnkakaaDoorFacts
import Derived.WalkLawsBesides
set_option linter.unusedVariables false
set_option linter.unusedSimpArgs false
set_option maxRecDepth 20000
namespace Go.Proofs.YtgenkmihbnkakaaDoor
open Go.RowKit

section
variable {P : Program} {a : Act} {o : Oper} {w w' : World}
theorem run_op_move {x : Operand} {v : Value} (ho : o.op = .move x) (hx : a.eval x = v) : (execOp a.eval o).run P w = .ok (.value v) w := by
  unfold execOp
  simp only [ho, hx]
  rfl
theorem run_op_assign {x : Operand} {v : Value} (ho : o.op = .assign x) (hx : a.eval x = v) : (execOp a.eval o).run P w = .ok (.value v) w := by
  unfold execOp
  simp only [ho, hx]
  rfl
theorem run_op_slice {t : TypeId} {x : Operand} {lo hi mx : Option Operand} {r : Value} (ho : o.op = .slice t x lo hi mx) (hrun : (Instr.sliceAt t (a.eval x) (lo.map a.eval) (hi.map a.eval) (mx.map a.eval)).run P w = .ok r w') :
    (execOp a.eval o).run P w = .ok (.value r) w' := by
  unfold execOp
  simp only [ho, Sem.run_bind, hrun, Result.andThen_ok]
  rfl
theorem run_op_build1 {t : TypeId} {x : Operand} {v r : Value} (ho : o.op = .buildSlice t 1 #[(0, x)]) (hx : a.eval x = v) (hrun : (Instr.buildSlice t 1 #[(0, v)]).run P w = .ok r w') :
    (execOp a.eval o).run P w = .ok (.value r) w' := by
  unfold execOp
  simp only [ho, Sem.run_bind, List.map_toArray, List.map_cons, List.map_nil, hx, hrun, Result.andThen_ok]
  rfl
theorem run_op_build {t : TypeId} {n : Nat} {parts : Array (Nat × Operand)} {r : Value} (ho : o.op = .buildSlice t n parts) (hrun : (Instr.buildSlice t n (parts.map fun (i, x) => (i, a.eval x))).run P w = .ok r w') :
    (execOp a.eval o).run P w = .ok (.value r) w' := by
  unfold execOp
  simp only [ho, Sem.run_bind, hrun, Result.andThen_ok]
  rfl
theorem run_op_bin {op : BinOp} {t u : TypeId} {x y : Operand} {vx vy r : Value} (ho : o.op = .binOp op t x y u) (hx : a.eval x = vx) (hy : a.eval y = vy)
    (hrun : (do eqGuard op t x y vx vy; binOp op t vx vy).run P w = .ok r w) : (execOp a.eval o).run P w = .ok (.value r) w := by
  have e : execOp a.eval o = (do let r ← (do eqGuard op t x y vx vy; binOp op t vx vy); pure (Next.value r)) := by
    unfold execOp
    simp only [ho, hx, hy]
  rw [e, Sem.run_bind, hrun]
  rfl
theorem run_op_pick {c x y : Operand} {v : Value} (ho : o.op = .pick c x y) (hc : a.eval c = .bool true) (hx : a.eval x = v) : (execOp a.eval o).run P w = .ok (.value v) w := by
  unfold execOp
  simp only [ho, hc, hx]
  rfl
theorem run_op_call {f : FuncId} {fn : Func} {args : Array Operand} {ts : Array TypeId} {vs : Array Value} (hf : P.funcs[f]? = some fn) (hn : (fn.name == "runtime.NumGoroutine") = false) (hb : fn.body.isNone = false)
    (ho : o.op = .call { callee := .value (.func f), args := args, argTypes := ts }) (hv : args.map a.eval = vs) : (execOp a.eval o).run P w = .ok (.enter f vs) w := by
  have hc : (callFunc f vs).run P w = .ok (.enter f vs) w := by
    have h1 : ¬ fn.name = "runtime.NumGoroutine" := by simpa using hn
    have h2 : ¬ fn.body = none := by
      intro h
      rw [h] at hb
      simp at hb
    simp [callFunc, hf, h1, h2]
  unfold execOp
  simp only [ho, resolve, invoke, hv]
  go_simp
end
theorem run_xor32 (x y : Operand) (p q : Int) (w : World) : (do eqGuard .xor 61 x y (.int .u32 p) (.int .u32 q); binOp .xor 61 (.int .u32 p) (.int .u32 q)).run Tryd.prog w = .ok (.int .u32 (bits .xor .u32 p q)) w := by
  go_simp
theorem run_eql32 (x y : Operand) (p q : Int) (h : p = q) (w : World) : (do eqGuard .eql 61 x y (.int .u32 p) (.int .u32 q); binOp .eql 61 (.int .u32 p) (.int .u32 q)).run Tryd.prog w = .ok (.bool true) w := by
  subst h
  go_simp
/-- What is known of a temporary: its value; or that it is a new row of these cells. -/
inductive Fact where
  | is (v : Value)
  | row (rs : List Value)
def Fact.holds : Fact → Value → World → Prop
  | .is u, v, _ => v = u
  | .row rs, v, w => ∃ g, v = .slice (some ⟨g, 0, none⟩) rs.length rs.length ∧ ∀ k r, rs[k]? = some r → w.cell? ⟨g, k, none⟩ = some r
def factOf (l : List Fact) (i : Nat) (v : Value) (w : World) : Prop :=
  match l[i]? with
  | some f => f.holds v w
  | none => True
/-- Nothing that was there has turned. -/
def Later (x y : World) : Prop := Below x.heap.size x y
theorem later_refl (x : World) : Later x x := Below.refl _ _
theorem later_trans (x y z : World) (h : Later x y) (k : Later y z) : Later x z := below_chain h k
theorem later_alloc (x : World) (o : Obj) : Later x (x.alloc o) := (Below.refl _ _).alloc (Nat.le_refl _) _
theorem later_cell {x y : World} (h : Later x y) {p : Addr} {v : Value} (hc : x.cell? p = some v) : y.cell? p = some v := (Below.cell h (World.block_lt_of_cell? x p hc)).trans hc
theorem fact_stays (l : List Fact) (i : Nat) (v : Value) (w w' : World) (h : factOf l i v w) (hR : Later w w') : factOf l i v w' := by
  unfold factOf at h ⊢
  generalize l[i]? = q at h ⊢
  cases q with
  | none => trivial
  | some f =>
    cases f with
    | is u => exact h
    | row rs =>
      obtain ⟨g, e, hc⟩ := h
      exact ⟨g, e, fun k r hk => later_cell hR (hc k r hk)⟩
theorem row_new (w : World) (v : Value) (t : TypeId) : Fact.holds (.row [v]) (.slice (some ⟨w.heap.size, 0, none⟩) 1 1) (w.alloc (.cells #[v] t)) :=
  ⟨w.heap.size, rfl, fun k r hk => by
    rcases k with _ | k
    · exact cell_first hk
    · simp at hk⟩
theorem row_made (w : World) (vs : List Value) (t : TypeId) {n : Nat} (hn : vs.length = n) : Fact.holds (.row vs) (.slice (some ⟨w.heap.size, 0, none⟩) n n) (w.alloc (.cells vs.toArray t)) :=
  ⟨w.heap.size, by rw [hn], fun k r hk => cell_first (by simpa using hk)⟩
theorem dep_of {listed : Array Bool} {o : Oper} (hd : ∀ e ∈ o.after, Region.binds .any e = true → listed.getD e.on false = true) (j : Nat) (h : (o.after.any fun e => e.on == j && Region.binds .any e) = true) : listed.getD j false = true := by
  obtain ⟨i, hi, hh⟩ := Array.any_eq_true.1 h
  rw [Bool.and_eq_true] at hh
  have := hd _ (Array.getElem_mem hi) hh.2
  rwa [show (o.after[i]).on = j by simpa using hh.1] at this
theorem Steps.cons {P : Program} {ops : Array Oper} {Q : Exit → Act → World → Prop} {a0 : Act} {F : Nat → Value → World → Prop} {R : World → World → Prop} {w0 : World} {i : Nat} {o : Oper} {rest : List Oper}
    (h : Step P ops Q a0 F R w0 i o) (hs : Steps P ops Q a0 F R w0 (i + 1) rest) : Steps P ops Q a0 F R w0 i (o :: rest) := ⟨h, hs⟩
theorem Steps.nil {P : Program} {ops : Array Oper} {Q : Exit → Act → World → Prop} {a0 : Act} {F : Nat → Value → World → Prop} {R : World → World → Prop} {w0 : World} {i : Nat} : Steps P ops Q a0 F R w0 i [] := trivial
end Go.Proofs.YtgenkmihbnkakaaDoor
