/- A row of numbers that is put in order in its place: what stands in it, what else may have turned. No conditions. -/
import Derived.Test.YtggijifealljiaaStableMath
import Derived.Test.YtggijifealljiaaKindMade
import Derived.Test.YtggijifealljiaaTurn
import Derived.Test.YtggijifealljiaaInts
import Derived.Test.YtggijifealljiaaGives
set_option linter.unusedVariables false
set_option linter.unusedSimpArgs false
namespace Go.Proofs.Ytggijifealljiaa
open Go.RowKit

/-- The row at block g holds V; of what stood in W0 it alone may have turned. -/
structure SRow (g n c : Nat) (W0 : World) (V : List Int) (W : World) : Prop where
  row : intK.Row W g (some ⟨g, 0, none⟩) n c V
  turn : Turn (fun b => b = g) W0 W
section
variable {g n c : Nat} {W0 W W' : World} {V V' : List Int}
theorem SRow.len (h : SRow g n c W0 V W) : V.length = n := h.row.len
theorem SRow.same (h : SRow g n c W0 V W) (e : V = V') : SRow g n c W0 V' W := e ▸ h
theorem SRow.lt (h : SRow g n c W0 V W) : g < W.heap.size := (h.row.row.lt g rfl).2
theorem SRow.cell (h : SRow g n c W0 V W) {i : Nat} (hi : i < n) : W.cell? ⟨g, i, none⟩ = some (.int .i64 (V.getD i 0)) := by
  obtain ⟨ad, e1, _, e3⟩ := h.row.lie.each i hi
  have := intAt_of e3
  rw [show i * intK.k = i from Nat.mul_one i, ← Option.some.inj e1, add_zero_addr] at this
  exact this
theorem SRow.free (h : SRow g n c W0 V W) (i : Nat) : W.frozen? ⟨g, i, none⟩ = false := by
  obtain ⟨cur, e⟩ := Row.typed h.row g (by simp [blk])
  simp [World.frozen?, e]
theorem SRow.at_ (h : SRow g n c W0 V W) {P S : List Int} {x : Int} {i : Nat} (e : V = P ++ x :: S) (hi : i = P.length) : W.cell? ⟨g, i, none⟩ = some (.int .i64 x) := by
  have hl := h.len
  rw [e] at hl
  have := h.cell (i := i) (by rw [← hl]; simp; omega)
  rw [e, gd_cons _ _ _ _ hi] at this
  exact this
theorem SRow.since (h : SRow g n c W0 V W) (hb : Below W.heap.size W W') : SRow g n c W0 V W' := ⟨h.row.since hb, h.turn.trans (Turn.of_below (fp := fun b => b = g) hb) fun b hb => Or.inl hb⟩
theorem SRow.drewN (h : SRow g n c W0 V W) (q : Nat) : SRow g n c W0 V (W.drewN q) := h.since (below_drewN (Below.refl _ _) q)
theorem SRow.put (h : SRow g n c W0 V W) {i : Nat} (hi : i < n) {x : Int} (hx : intK.wf x) : SRow g n c W0 (V.set i x) (W.setCell ⟨g, i, none⟩ (.int .i64 x)) := by
  have k := h.row.put (i := i) (r := 0) hi (by decide) (.int .i64 x) x rfl hx
  rw [show i * intK.k + 0 = i from Nat.mul_one i] at k
  exact ⟨k, h.turn.trans (Turn.of_setCell (fp := fun b => b = g) ⟨g, i, none⟩ _ rfl) fun b hb => Or.inl hb⟩
/-- An exchange. -/
theorem SRow.swap (h : SRow g n c W0 V W) {P Q S : List Int} {x y : Int} {i j : Nat} (e : V = P ++ x :: (Q ++ y :: S)) (hi : i = P.length) (hj : j = P.length + 1 + Q.length) :
    SRow g n c W0 (P ++ y :: (Q ++ x :: S)) ((W.setCell ⟨g, i, none⟩ (.int .i64 y)).setCell ⟨g, j, none⟩ (.int .i64 x)) := by
  have hl := h.len
  have hlen : P.length + 1 + Q.length < n := by rw [← hl, e]; simp; omega
  have hx : intK.wf x := h.row.wf x (by rw [e]; simp)
  have hy : intK.wf y := h.row.wf y (by rw [e]; simp)
  refine ((h.put (i := i) (by omega) hy).put (i := j) (by omega) hx).same ?_
  rw [e, set_swap _ _ _ _ _ _ _ hi hj]
theorem SRow.swap' (h : SRow g n c W0 V W) {P Q S : List Int} {x y : Int} {i j : Nat} (e : V = P ++ x :: (Q ++ y :: S)) (hi : i = P.length) (hj : j = P.length + 1 + Q.length) :
    SRow g n c W0 (P ++ y :: (Q ++ x :: S)) ((W.setCell ⟨g, j, none⟩ (.int .i64 x)).setCell ⟨g, i, none⟩ (.int .i64 y)) := by
  have hl := h.len
  have hlen : P.length + 1 + Q.length < n := by rw [← hl, e]; simp; omega
  have hx : intK.wf x := h.row.wf x (by rw [e]; simp)
  have hy : intK.wf y := h.row.wf y (by rw [e]; simp)
  refine ((h.put (i := j) (by omega) hx).put (i := i) (by omega) hy).same ?_
  rw [e, set_swap' _ _ _ _ _ _ _ hi hj]
end
/-- What a call leaves that puts the row in another order. -/
def Sorts (g n c : Nat) (W0 : World) (V : List Int) (e : Ending) (w' : World) : Prop := e = .returned (.tuple #[]) ∧ Hid (SRow g n c W0 V w')
/-- What is asked of the comparison: function h with one bound value. -/
def CmpAt (h : Nat) (p : Addr) (cf : Int → Int → Int) (g : Nat) (W0 : World) (ok : Int → Prop) : Prop :=
  ∀ (W : World), Turn (fun b => b = g) W0 W → ∀ x y, ok x → ok y → Calls Try.prog h #[.int .i64 x, .int .i64 y, .pointer (some p)] W fun e w' => e = .returned (.int .i64 (cf x y)) ∧ ∃ q, w' = W.drewN q
end Go.Proofs.Ytggijifealljiaa
