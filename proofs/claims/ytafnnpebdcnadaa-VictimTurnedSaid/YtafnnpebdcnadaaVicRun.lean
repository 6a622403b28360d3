/- The runs of single operations on blocks. No conditions. -/
import Derived.Test.YtafnnpebdcnadaaVicSays
import Derived.Test.YtafnnpebdcnadaaRBlocks
import Derived.Test.YtafnnpebdcnadaaInsA
import Derived.Test.YtafnnpebdcnadaaShared
import Derived.Test.YtafnnpebdcnadaaOneApp
import Derived.Test.YtafnnpebdcnadaaQuiet
set_option linter.unusedVariables false
set_option linter.unusedSimpArgs false
namespace Go.Proofs.Ytafnnpebdcnadaa
open Go.RowKit Go.Sort

theorem VBAt.since {w w' : World} {p : Addr} {b : VB} (h : VBAt w p b) (hl : Later w w') (hp : p.block < w.heap.size) : VBAt w' p b :=
  ⟨(hl.cell hp).trans h.c0, (hl.cell (p := ⟨p.block, p.off + 1, none⟩) hp).trans h.c1, (hl.cell (p := ⟨p.block, p.off + 2, none⟩) hp).trans h.c2, (hl.cell (p := ⟨p.block, p.off + 3, none⟩) hp).trans h.c3, (hl.cell (p := ⟨p.block, p.off + 4, none⟩) hp).trans h.c4⟩
theorem RBAt.since {w w' : World} {p : Addr} {b : VB} (h : RBAt w p b) (hl : Later w w') (hp : p.block < w.heap.size) : RBAt w' p b :=
  ⟨(hl.cell hp).trans h.c0, (hl.cell (p := ⟨p.block, p.off + 1, none⟩) hp).trans h.c1, (hl.cell (p := ⟨p.block, p.off + 2, none⟩) hp).trans h.c2, (hl.cell (p := ⟨p.block, p.off + 3, none⟩) hp).trans h.c3, (hl.cell (p := ⟨p.block, p.off + 4, none⟩) hp).trans h.c4⟩
theorem run_load_vb (p : Addr) (b : VB) (w : World) (h : VBAt w p b) : (Instr.loadAt 34 (.pointer (some p))).run Try.prog w = .ok (vblkV b) w := by
  obtain ⟨c0, c1, c2, c3, c4⟩ := h
  unfold vblkV
  go_simp
theorem run_load_rb (p : Addr) (b : VB) (w : World) (h : RBAt w p b) : (Instr.loadAt 37 (.pointer (some p))).run Try.prog w = .ok (vblkV b) w := by
  obtain ⟨c0, c1, c2, c3, c4⟩ := h
  unfold vblkV
  go_simp
theorem run_build_vb (x : VB) (w : World) : (Instr.buildSlice 22 1 #[(0, vblkV x)]).run Try.prog w = .ok (.slice (some ⟨w.heap.size, 0, none⟩) 1 1) (w.alloc (.cells (vblkCells x).toArray 34)) := by
  unfold vblkV vblkCells
  go_simp
theorem run_build_rb (x : VB) (w : World) : (Instr.buildSlice 27 1 #[(0, vblkV x)]).run Try.prog w = .ok (.slice (some ⟨w.heap.size, 0, none⟩) 1 1) (w.alloc (.cells (vblkCells x).toArray 37)) := by
  unfold vblkV vblkCells
  go_simp
theorem run_index_vb (ad : Addr) (n c k : Nat) (hk : k < n) (w : World) : (Instr.indexAt 22 (.slice (some ad) n c) (.int .i64 (k : Int))).run Try.prog w = .ok (.pointer (some (ad.add (k * 5)))) w := by
  have i0 : (0 : Int) ≤ (k : Int) := by omega
  have i1 : (k : Int) < (n : Int) := by omega
  go_simp
theorem run_index_rb (ad : Addr) (n c k : Nat) (hk : k < n) (w : World) : (Instr.indexAt 27 (.slice (some ad) n c) (.int .i64 (k : Int))).run Try.prog w = .ok (.pointer (some (ad.add (k * 5)))) w := by
  have i0 : (0 : Int) ≤ (k : Int) := by omega
  have i1 : (k : Int) < (n : Int) := by omega
  go_simp
theorem low_natV (x : Int) (n : Nat) (hn : 0 < n) : ∃ q : Nat, q < n ∧ Hid (lowM x (n : Int) = (q : Int)) := by
  have := lowM_bd x (n : Int) (by omega)
  exact ⟨(lowM x n).toNat, by omega, by show _ = _; omega⟩
/-- A variable of a block's five cells. -/
theorem vb_new (w : World) (b : VB) (cs : Array Value) (hcs : cs = (vblkCells b).toArray) (T : TypeId) : VBAt (w.alloc (.cells cs T)) ⟨w.heap.size, 0, none⟩ b := by
  subst hcs
  exact ⟨by rw [cell_new]; rfl, by show (w.alloc _).cell? ⟨w.heap.size, 0 + 1, none⟩ = _; rw [cell_new]; rfl, by show (w.alloc _).cell? ⟨w.heap.size, 0 + 2, none⟩ = _; rw [cell_new]; rfl, by show (w.alloc _).cell? ⟨w.heap.size, 0 + 3, none⟩ = _; rw [cell_new]; rfl, by show (w.alloc _).cell? ⟨w.heap.size, 0 + 4, none⟩ = _; rw [cell_new]; rfl⟩
section
variable {P : Program} {a : Act} {o : Oper} {w w' : World}
theorem run_op_buildV {t : TypeId} {parts : Array (Nat × Operand)} {r : Value} (ho : o.op = .build t parts) (hrun : (Instr.build t (parts.map fun (i, x) => (i, a.eval x))).run P w = .ok r w') : (execOp a.eval o).run P w = .ok (.value r) w' := by
  unfold execOp
  simp only [ho, Sem.run_bind, hrun, Result.andThen_ok]
  rfl
end
theorem run_build_vb4 (p q r s : Int) (w : World) : (Instr.build 34 #[(0, .int .i64 p), (1, .int .i64 q), (2, .int .i64 r), (4, .int .i64 s)]).run Try.prog w = .ok (vblkV ⟨p, q, r, 0, s⟩) w := by
  unfold vblkV
  go_simp
theorem run_build_vb5 (p q r t s : Int) (w : World) : (Instr.build 34 #[(0, .int .i64 p), (1, .int .i64 q), (2, .int .i64 r), (3, .int .i64 t), (4, .int .i64 s)]).run Try.prog w = .ok (vblkV ⟨p, q, r, t, s⟩) w := by
  unfold vblkV
  go_simp
theorem run_build_rb5 (p q r t s : Int) (w : World) : (Instr.build 37 #[(0, .int .i64 p), (1, .int .i64 q), (2, .int .i64 r), (3, .int .i64 t), (4, .int .i64 s)]).run Try.prog w = .ok (vblkV ⟨p, q, r, t, s⟩) w := by
  unfold vblkV
  go_simp
theorem run_load_i (p : Addr) (z : Int) (w : World) (hc : w.cell? p = some (.int .i64 z)) : (Instr.loadAt 3 (.pointer (some p))).run Try.prog w = .ok (.int .i64 z) w := by go_simp
theorem quiet_saysi {P : Program} {f : FuncId} {args : Array Value} {W : World} {d : Nat} {os : Array Obj} {x : Int} (h : Calls P f args (grow (redrawn W d) os) (SaysI (grow (redrawn W d) os) x)) :
    Calls P f args (grow (redrawn W d) os) fun e w'' => e = .returned (.int .i64 x) ∧ ∃ p : Regrown, w'' = grow (redrawn W p.d) p.os := Calls.regrown_of (h.mono fun e w' h => ⟨h.1, h.2.out⟩)
/-- The places of a block's five cells. -/
theorem vb_cells {w : World} {B n : Nat} {A : Option Addr} {bs : List VB} (h : vblkK.Lie w B A n bs) {k : Nat} (hk : k < n) : ∃ ad, A = some ad ∧ ad.block < B ∧ VBAt w (ad.add (k * 5)) (bs.getD k VB.zero) ∧ VBWf (bs.getD k VB.zero) := by
  obtain ⟨ad, e1, e2, e3⟩ := h.each k hk
  exact ⟨ad, e1, e2, vblkAt_of e3, h.wf k⟩
end Go.Proofs.Ytafnnpebdcnadaa
