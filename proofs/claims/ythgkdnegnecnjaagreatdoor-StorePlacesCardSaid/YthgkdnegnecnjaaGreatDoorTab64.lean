/- A local array of 64 elements, by which element it has where, apart from the store. Conditions: none. -/
import Derived.Test.YthgkdnegnecnjaaGreatDoorPlacesM
import Derived.Test.YthgkdnegnecnjaaGreatDoorSstoree
import Derived.Test.YthgkdnegnecnjaaGreatDoorSinv
set_option linter.unusedVariables false
set_option linter.unusedSimpArgs false
set_option maxRecDepth 20000
namespace Go.Proofs.YthgkdnegnecnjaaGreatDoor
open Go.RowKit

structure Tab64 (fp : Nat → Prop) (w : World) (g : Nat) (T : TypeId) (f : Nat → Value) : Prop where
  row : ∃ cur, w.heap[g]? = some (.cells cur T (0, 0)) ∧ cur.size = 64 ∧ ∀ p, p < 64 → cur[p]? = some (f p)
  safe : ¬ fp g
section
variable {fp fq fp' : Nat → Prop} {w w' : World} {g p : Nat} {T : TypeId} {f f' : Nat → Value} {v : Value}
theorem Tab64.lt (h : Tab64 fp w g T f) : g < w.heap.size := by
  obtain ⟨cur, e, _⟩ := h.row
  exact (Array.getElem?_eq_some_iff.1 e).1
theorem Tab64.cell (h : Tab64 fp w g T f) (hp : p < 64) : w.cell? ⟨g, p, none⟩ = some (f p) := by
  obtain ⟨cur, e, _, hc⟩ := h.row
  rw [cell_of_row _ _ _ cur T (0, 0) e]; exact hc p hp
theorem Tab64.free (h : Tab64 fp w g T f) (p : Nat) : w.frozen? ⟨g, p, none⟩ = false := by
  obtain ⟨cur, e, _⟩ := h.row
  simp [World.frozen?, e]
theorem Tab64.keep (h : Tab64 fp w g T f) (ht : Turn fq w w') (hn : ¬ fq g) : Tab64 fp w' g T f := by
  obtain ⟨cur, e, rest⟩ := h.row
  exact ⟨⟨cur, (ht.block _ h.lt hn).trans e, rest⟩, h.safe⟩
theorem Tab64.step (h : Tab64 fp w g T f) (hm : Moves w fp w' fp') : Tab64 fp' w' g T f := by
  obtain ⟨cur, e, rest⟩ := h.row
  exact ⟨⟨cur, (hm.turn.block _ h.lt h.safe).trans e, rest⟩, fun hf => by
    rcases hm.grows _ hf with h1 | h1
    · exact h.safe h1
    · have := h.lt; omega⟩
theorem Tab64.since (h : Tab64 fp w g T f) (hb : Below w.heap.size w w') : Tab64 fp w' g T f := h.step (Moves.of_below hb)
theorem Tab64.set (h : Tab64 fp w g T f) (hp : p < 64) (hf : ∀ q, q < 64 → f' q = if q = p then v else f q) : Tab64 fp (w.setCell ⟨g, p, none⟩ v) g T f' := by
  obtain ⟨cur, e, hs, hc⟩ := h.row
  refine ⟨⟨cur.setIfInBounds p v, ?_, by simpa using hs, fun q hq => ?_⟩, h.safe⟩
  · simp [World.setCell, Array.getElem?_modify, e]
  · rw [hf q hq]
    by_cases hqp : q = p
    · subst hqp
      rw [Array.getElem?_setIfInBounds_self_of_lt (by omega), if_pos rfl]
    · rw [Array.getElem?_setIfInBounds_ne (fun e => hqp e.symm), hc q hq, if_neg hqp]
theorem Tab64.new (W : World) (C : Array Value) (hC : C = Array.replicate 64 v) (hf : ∀ b, fp b → b < W.heap.size) : Tab64 fp (W.alloc (.cells C T)) W.heap.size T fun _ => v := by
  subst hC
  refine ⟨⟨_, heap_alloc_new W _, by simp, fun p hp => ?_⟩, fun h => by have := hf _ h; omega⟩
  rw [Array.getElem?_replicate, if_pos hp]
end
theorem infoI64 : (Tryz.prog.info? 76).map (fun i => (i.zero, i.size, i.bytes)) = some (some (.agg (Array.replicate 64 (.int .i64 0))), 64, 512) := by kernel_rfl
theorem infoB64 : (Tryz.prog.info? 77).map (fun i => (i.zero, i.size, i.bytes)) = some (some (.agg (Array.replicate 64 (.bool false))), 64, 64) := by kernel_rfl
theorem zero_I64 (W : World) : (zeroValue 76).run Tryz.prog W = .ok (.agg (Array.replicate 64 (.int .i64 0))) W := by
  obtain ⟨i0, hi, hz0, hz1, hz2⟩ := info_parts infoI64
  simp [zeroValue, typeInfo, hi, hz0]
theorem zero_B64 (W : World) : (zeroValue 77).run Tryz.prog W = .ok (.agg (Array.replicate 64 (.bool false))) W := by
  obtain ⟨i0, hi, hz0, hz1, hz2⟩ := info_parts infoB64
  simp [zeroValue, typeInfo, hi, hz0]
theorem hdV_P (j : Nat) : hdV (hdP j) = .agg #[.int .i64 2, .int .u64 (j : Int), .int .i64 (1 + (j : Int)), .int .i64 0] := by
  unfold hdP hN hdV
  dsimp only
  rw [show ((Int.toNat (2 : Int) : Nat) : Int) = 2 from rfl, show (((j : Int).toNat : Nat) : Int) = (j : Int) from rfl, show (((1 + (j : Int)).toNat : Nat) : Int) = 1 + (j : Int) by omega]; rfl
theorem RdV.head {w : World} {b : Nat} {fp : Nat → Prop} {r : Hd.Rd} {x y : Value} (h : RdV w b fp r x y) : ∃ K A S G, y = .agg #[.int .i64 K, .int .u64 A, .int .i64 S, .int .i64 G] := by
  cases r <;> first | exact ⟨_, _, _, _, h.2⟩ | (obtain ⟨A, n, c, _, _, h3⟩ := h; exact ⟨_, _, _, _, h3⟩)
/-- A page's bytes are made in a region that draws its order, all else is read. -/
structure FillJ (WD : World) (ds : List Nat) (n : Nat) (fs : List Bool) (vs : List Value) (W : World) : Prop where
  below : Below WD.heap.size WD W
  own : fs.getD 0 false = true → ∃ A c, vs.getD 0 undef = .slice A n c ∧ Own W WD.heap.size A n c ds
theorem FillJ.later {WD : World} {ds : List Nat} {n : Nat} {fs : List Bool} {vs : List Value} {x y : World} (h : FillJ WD ds n fs vs x) (hl : Later x y) : FillJ WD ds n fs vs y :=
  ⟨below_chain h.below hl, fun e => by obtain ⟨A, c, e3, h3⟩ := h.own e; exact ⟨A, c, e3, h3.since hl⟩⟩
theorem FillJ.fill {WD : World} {ds : List Nat} {n c : Nat} {fs : List Bool} {vs : List Value} {x y : World} {A : Option Addr} (h : FillJ WD ds n fs vs x) (hv : 0 < vs.length) (hb : Below x.heap.size x y) (ho : Own y x.heap.size A n c ds) : FillJ WD ds n (fs.set 0 true) (vs.set 0 (.slice A n c)) y :=
  ⟨below_chain h.below hb, fun _ => ⟨A, c, by rw [List.getD_eq_getElem?_getD, List.getElem?_set_self hv]; rfl, ho.elder h.below.size⟩⟩
/-- What holds of the store and of both arrays, while pages are put. -/
structure PlR (w W : World) (g gc gA gB i : Nat) (l : Nat) (fp : Nat → Prop) (s : SS) (ta : Nat → Nat) (tb : Nat → Bool) : Prop where
  st : StoreAt W w.heap.size fp g gc s
  pi : PI s i ta tb
  ops : s.c.ops ≤ 2 * i
  mis : s.c.misuse = 0
  cnt : cntN s = l
  ra : Tab64 fp W gA 76 fun p => .int .i64 (ta p : Int)
  rb : Tab64 fp W gB 77 fun p => .bool (tb p)
  b : Below w.heap.size w W
/-- The same behind a crash, while they are read. -/
structure QlR (w W : World) (g gc gA gB i p : Nat) (ta : Nat → Nat) (tb : Nat → Bool) (fp : Nat → Prop) (s : SS) : Prop where
  st : StoreAt W w.heap.size fp g gc s
  pl : PL s i ta tb
  ops : s.c.ops ≤ 300 + p
  mis : s.c.misuse = 0
  ra : Tab64 fp W gA 76 fun p => .int .i64 (ta p : Int)
  rb : Tab64 fp W gB 77 fun p => .bool (tb p)
  b : Below w.heap.size w W
theorem start_pi : PI (startS (c16 [] [])) 0 (fun _ => 0) (fun _ => false) ∧ cntN (startS (c16 [] [])) = 0 := by
  have hn : ∀ k, k < 16 → (c16 [] []).nth k = ⟨List.replicate 4 (List.replicate 156 255), 0, 0, false, false⟩ := fun k hk => Chip.fresh_nth hk
  have hm : Chip.mayNew 16 4 128 ([] : List Int) [] = true := by kernel_rfl
  have hw : (c16 [] []).Wf := Chip.fresh_wf hm []
  have hcb : CBl (c16 [] []) := fun k q hk h1 h2 => by
    rw [hn k hk]; exact getD_rep _ _ _ _ h2
  obtain ⟨s1, h1, h2⟩ := new_rd hw ⟨rfl, rfl⟩ (by kernel_rfl)
  rw [new16] at h1
  obtain rfl := (Prod.mk.inj h1).1
  have hne : ∀ k q, k < 16 → nee (startS (c16 [] [])) k q = false := fun k q hk => by
    show ((List.replicate 16 (List.replicate 4 false)).getD k []).getD q false = false
    rw [getD_rep _ _ _ _ hk, List.getD_eq_getElem?_getD, List.getElem?_replicate]
    split <;> rfl
  refine ⟨⟨h2.si hw hcb, ⟨rfl, rfl, fun k hk => by rw [show (startS (c16 [] [])).c.nth k = (c16 [] []).nth k from rfl, hn k hk]⟩, rfl, rfl, rfl, fun k hk => by rw [show (startS (c16 [] [])).c.nth k = (c16 [] []).nth k from rfl, hn k hk], Nat.le_of_eq (by kernel_rfl), fun k q hk hq => ?_, fun k q hk hq e => ?_⟩, by kernel_rfl⟩
  · rw [hne k q hk]
  · rw [hne k q hk] at e; cases e
end Go.Proofs.YthgkdnegnecnjaaGreatDoor
