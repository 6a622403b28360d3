/- The landed table: seek. Conditions: the table's cells. -/
import Derived.Test.YthamnmadgfmbkaaTabFind
set_option linter.unusedVariables false
set_option linter.unusedSimpArgs false
namespace Go.Proofs.Ythamnmadgfmbkaa
open Go.RowKit

/-- A place in its block. -/
structure RowPl (w : World) (g : Nat) (p k : Int) : Prop where
  row : w.heap[g]? = some (.cells #[.int .i64 p, .int .i64 k] 54 (0, 0))
section
variable {w w' : World} {g : Nat} {p k : Int}
theorem RowPl.lt (h : RowPl w g p k) : g < w.heap.size := (Array.getElem?_eq_some_iff.1 h.row).1
theorem RowPl.c0 (h : RowPl w g p k) : w.cell? ⟨g, 0, none⟩ = some (.int .i64 p) := by rw [cell_of_row _ _ _ _ _ _ h.row]; rfl
theorem RowPl.c1 (h : RowPl w g p k) : w.cell? ⟨g, 1, none⟩ = some (.int .i64 k) := by rw [cell_of_row _ _ _ _ _ _ h.row]; rfl
theorem RowPl.free (h : RowPl w g p k) (j : Nat) : w.frozen? ⟨g, j, none⟩ = false := by simp [World.frozen?, h.row]
theorem RowPl.since (h : RowPl w g p k) (hb : Below w.heap.size w w') : RowPl w' g p k := ⟨(hb.block g h.lt).trans h.row⟩
theorem RowPl.keep {fq : Nat → Prop} (h : RowPl w g p k) (ht : Turn fq w w') (hn : ¬ fq g) : RowPl w' g p k := ⟨(ht.block g h.lt hn).trans h.row⟩
theorem rowPl_new (W : World) (p k : Int) : RowPl (W.alloc (.cells #[.int .i64 p, .int .i64 k] 54)) W.heap.size p k := ⟨heap_alloc_new W _⟩
theorem RowPl.put (h : RowPl w g p k) (q j : Int) : RowPl ((w.setCell ⟨g, 0, none⟩ (.int .i64 q)).setCell ⟨g, 1, none⟩ (.int .i64 j)) g q j := ⟨by simp [World.setCell, Array.getElem?_modify, h.row]⟩
theorem putPl_else (w : World) (g : Nat) (a b : Value) : w.grownBy ((w.setCell ⟨g, 0, none⟩ a).setCell ⟨g, 1, none⟩ b) (some g) := grownBy_trans (setCell_else w ⟨g, 0, none⟩ a) (setCell_else _ ⟨g, 1, none⟩ b)
end
def firstA (l : List E) : Int := (l.getD 0 E.zero).addr
section
variable {w : World} {base g h cA r c n : Nat} {l : List E} {fp : Nat → Prop} {v : Value} {m d : Int}
/-- The first entry's four cells. -/
theorem first_at (hr : entK.Row w base (some ⟨r, 0, none⟩) n c l) (h0 : 0 < n) : EntAt w ⟨r, 0, none⟩ (l.getD 0 E.zero) := by
  obtain ⟨ad, e1, e2, e3⟩ := ent_at hr.lie h0
  obtain rfl := Option.some.inj e1
  rw [Nat.zero_mul, add_none] at e3
  exact e3
theorem seek1_any (a : Int) (h0 : 0 < n) (hr : entK.Row w base (some ⟨r, 0, none⟩) n c l) :
    Calls Try.prog 34 #[.slice (some ⟨r, 0, none⟩) n c, .int .u64 a] w (SaysI w (cmpT (firstA l) a)) := by
  obtain ⟨e0, e1, e2, e3⟩ := first_at hr h0
  obtain ⟨⟨ya, yp, yd, yq⟩, HX⟩ : ∃ x, Hid (l.getD 0 E.zero = x) := ⟨_, rfl⟩
  unfold firstA
  rw [HX.out] at e0 e1 e2 e3 ⊢
  dsimp only at e0 e1 e2 e3 ⊢
  have i1 : (0 : Int) < (n : Int) := by omega
  have C := Lib.hid (compare_any ⟨ya, yp, yd, yq⟩ a w)
  unfold entV at C
  dsimp only at C
  clear hr
  go_enter Try.func34, Try.ntmps34
  go_wp2_with fail
  refine C.out.mono ?_
  rintro e W1 ⟨rfl, hb⟩
  go_wp2_with fail
  go_ret
  exact ⟨rfl, hb⟩
set_option maxHeartbeats 4000000 in
theorem brows_any (a : Int) (h0 : 0 < l.length) (k : TOne w base fp l h cA r c) :
    Calls Try.prog 33 #[.slice (some ⟨h, 0, none⟩) 1 cA, .int .u64 a, .func (.func 34) #[] #[]] w
      fun e w' => e = .returned (.tuple #[.int .i64 (if firstA l < a then 1 else 0), .bool (firstA l == a)]) ∧ Hid (Below w.heap.size w w') := by
  have hc : w.cell? ⟨h, 0, none⟩ = some (.slice (some ⟨r, 0, none⟩) l.length c) := by
    obtain ⟨ad, e1, e2, e3⟩ := k.rows.lie.each 0 (by decide)
    obtain rfl := Option.some.inj e1
    have := esK_at e3
    rwa [Nat.zero_mul, add_none] at this
  have HC := Lib.hid hc
  have HR := Lib.hid k.row
  have H0 := Lib.hid h0
  obtain ⟨f, HF⟩ : ∃ f, Hid (firstA l = f) := ⟨_, rfl⟩
  rw [HF.out]
  have C0 := Lib.hid (seek1_any a h0 k.row)
  rw [HF.out] at C0
  obtain ⟨n, HN⟩ : ∃ n, Hid (l.length = n) := ⟨_, rfl⟩
  rw [HN.out] at hc C0 HR HC H0
  have n0 : 0 < n := H0.out
  have S0 := Lib.hid (Below.refl w.heap.size w)
  clear k h0 H0
  have one : ∀ q : Nat, q < 1 → q = 0 := fun q hq => by omega
  by_cases hv : f < a
  · have hv2 : cmpT f a < 0 := cmpT_lt.2 hv
    have hne : (f == a) = false := beq_eq_false_iff_ne.2 (by omega)
    rw [if_pos hv, hne]
    go_enter Try.func33, Try.ntmps33
    go_wp2_with fail
    go_loopw [9, 10] (fun t9 t10 wr => (t9 = .int .i64 0 ∧ t10 = .int .i64 1 ∧ Hid (wr = w)) ∨ (t9 = .int .i64 1 ∧ t10 = .int .i64 1 ∧ Hid (Below w.heap.size w wr))) (fun t9 t10 _ => (intOf t10).toNat - (intOf t9).toNat)
    case atStart => exact Or.inl ⟨rfl, rfl, rfl⟩
    case round =>
      rcases hrel with ⟨rfl, rfl, hw⟩ | ⟨rfl, rfl, HB⟩
      · have hw' := hw.out
        subst hw'
        go_wp2_with fail
        refine C0.out.mono ?_
        rintro e W1 ⟨rfl, hb⟩
        go_wp2_with fail
        go_roundw
        case rel => exact Or.inr ⟨rfl, rfl, hb⟩
        case measure => simp [intOf]
      · go_wp2_with fail
        go_ret2
        exact ⟨rfl, HB⟩
  · have hv2 : ¬ cmpT f a < 0 := fun h => hv (cmpT_lt.1 h)
    rw [if_neg hv]
    have HGE : Hid ((cmpT f a == 0) = (f == a)) := by
      show _ = _
      by_cases hq : f = a
      · rw [cmpT_eq.2 hq, hq]; simp
      · rw [beq_eq_false_iff_ne.2 hq]; exact beq_eq_false_iff_ne.2 fun h => hq (cmpT_eq.1 h)
    go_enter Try.func33, Try.ntmps33
    go_wp2_with fail
    go_loopw [9, 10] (fun t9 t10 wr => (t9 = .int .i64 0 ∧ t10 = .int .i64 1 ∧ Hid (wr = w)) ∨ (t9 = .int .i64 0 ∧ t10 = .int .i64 0 ∧ Hid (Below w.heap.size w wr))) (fun t9 t10 _ => (intOf t10).toNat - (intOf t9).toNat)
    case atStart => exact Or.inl ⟨rfl, rfl, rfl⟩
    case round =>
      rcases hrel with ⟨rfl, rfl, hw⟩ | ⟨rfl, rfl, HB⟩
      · have hw' := hw.out
        subst hw'
        go_wp2_with fail
        refine C0.out.mono ?_
        rintro e W1 ⟨rfl, hb⟩
        go_wp2_with fail
        go_roundw
        case rel => exact Or.inr ⟨rfl, rfl, hb⟩
        case measure => simp [intOf]
      · have hlt : h < w.heap.size := by
          have := HC.out
          exact World.block_lt_of_cell? w _ this
        have hc' : wr.cell? ⟨h, 0, none⟩ = some (.slice (some ⟨r, 0, none⟩) n c) := (HB.out.cell (p := ⟨h, 0, none⟩) hlt).trans HC.out
        have C1 := Lib.hid (seek1_any a n0 (HR.out.since HB.out))
        rw [HF.out] at C1
        clear hc
        go_wp2_with fail
        refine C1.out.mono ?_
        rintro e W1 ⟨rfl, hb⟩
        have HB2 := Lib.hid (below_chain HB.out hb.out)
        go_wp2_with fail
        go_ret2
        rw [HGE.out]
        exact ⟨rfl, HB2⟩
end
end Go.Proofs.Ythamnmadgfmbkaa
