/- The landed yard: New. Conditions: none. -/
import Derived.Test.YtmfpelgkjgpfmaaYardFace2
set_option linter.unusedVariables false
set_option linter.unusedSimpArgs false
namespace Go.Proofs.Ytmfpelgkjgpfmaa
open Go.RowKit

theorem bk_made : ∃ i z, Try.prog.info? blkK.T = some i ∧ i.zero = some z ∧ i.size = blkK.k ∧ i.bytes ≤ 1000 ∧ z.cells = (blkK.cv blkK.dflt).toArray := by
  obtain ⟨i0, hi, hz0, hz1, hz2⟩ := info_parts infoBk
  exact ⟨i0, _, hi, hz0, hz1, by rw [hz2]; omega, rfl⟩
theorem use_made : ∃ i z, Try.prog.info? useK.T = some i ∧ i.zero = some z ∧ i.size = useK.k ∧ i.bytes ≤ 1000 ∧ z.cells = (useK.cv useK.dflt).toArray := by
  obtain ⟨i0, hi, hz0, hz1, hz2⟩ := info_parts infoUs
  exact ⟨i0, _, hi, hz0, hz1, by rw [hz2]; omega, rfl⟩
/-- So many blocks are made. -/
def newBk (au : Nat → Addr) (P i k : Nat) : BkV := if k < i then ⟨1, 0, ⟨some (au k), P, P⟩⟩ else BkV.zero
structure NewY_ (w : World) (base g n P i : Nat) (ab : Addr) (au : Nat → Addr) : Prop where
  base_le : base ≤ g
  row : w.heap[g]? = some (.cells #[.slice (some ab) n n] 51 (0, 0))
  br : blkK.Row w base (some ab) n n ((List.range n).map (newBk au P i))
  ur : ∀ k, k < i → useK.Row w base (some (au k)) P P (List.replicate P (false, false))
  inj : ∀ j k, j < i → k < i → (au j).block = (au k).block → j = k
section
variable {w w' : World} {base g n P i : Nat} {ab : Addr} {au : Nat → Addr}
theorem NewY_.c0 (h : NewY_ w base g n P i ab au) : w.cell? ⟨g, 0, none⟩ = some (.slice (some ab) n n) := by rw [cell_of_row _ _ _ _ _ _ h.row]; rfl
theorem NewY_.lt (h : NewY_ w base g n P i ab au) : g < w.heap.size := (Array.getElem?_eq_some_iff.1 h.row).1
theorem NewY_.abz (h : NewY_ w base g n P i ab au) : ab = ⟨ab.block, 0, none⟩ := row_zero h.br
theorem NewY_.typed (h : NewY_ w base g n P i ab au) : ∃ cur, w.heap[ab.block]? = some (.cells cur 54 (0, 0)) := Row.typed h.br _ (by simp [blk])
theorem NewY_.since (h : NewY_ w base g n P i ab au) (hb : Below w.heap.size w w') : NewY_ w' base g n P i ab au :=
  ⟨h.base_le, (hb.block g h.lt).trans h.row, h.br.since hb, fun k hk => (h.ur k hk).since hb, h.inj⟩
/-- One block more: its pages are new, and its three cells are stored. -/
theorem NewY_.next (h : NewY_ w base g n P i ab au) (hi : i < n) (hb : Below w.heap.size w w') (hu : useK.Row w' base (some ⟨w.heap.size, 0, none⟩) P P (List.replicate P (false, false))) :
    ∃ u0 u1 u2, w'.cell? (ab.add (i * 3)) = some u0 ∧ w'.frozen? (ab.add (i * 3)) = false ∧
      (w'.setCell (ab.add (i * 3)) (.int .i64 1)).cell? ⟨(ab.add (i * 3)).block, (ab.add (i * 3)).off + 1, none⟩ = some u1 ∧ (w'.setCell (ab.add (i * 3)) (.int .i64 1)).frozen? ⟨(ab.add (i * 3)).block, (ab.add (i * 3)).off + 1, none⟩ = false ∧
      ((w'.setCell (ab.add (i * 3)) (.int .i64 1)).setCell ⟨(ab.add (i * 3)).block, (ab.add (i * 3)).off + 1, none⟩ (.int .i64 0)).cell? ⟨(ab.add (i * 3)).block, (ab.add (i * 3)).off + 2, none⟩ = some u2 ∧ ((w'.setCell (ab.add (i * 3)) (.int .i64 1)).setCell ⟨(ab.add (i * 3)).block, (ab.add (i * 3)).off + 1, none⟩ (.int .i64 0)).frozen? ⟨(ab.add (i * 3)).block, (ab.add (i * 3)).off + 2, none⟩ = false ∧
      NewY_ (((w'.setCell (ab.add (i * 3)) (.int .i64 1)).setCell ⟨(ab.add (i * 3)).block, (ab.add (i * 3)).off + 1, none⟩ (.int .i64 0)).setCell ⟨(ab.add (i * 3)).block, (ab.add (i * 3)).off + 2, none⟩ (.slice (some ⟨w.heap.size, 0, none⟩) P P)) base g n P (i + 1) ab (fun k => if k = i then ⟨w.heap.size, 0, none⟩ else au k) ∧
      (∀ w0 : World, Below base w0 w' → Below base w0 (((w'.setCell (ab.add (i * 3)) (.int .i64 1)).setCell ⟨(ab.add (i * 3)).block, (ab.add (i * 3)).off + 1, none⟩ (.int .i64 0)).setCell ⟨(ab.add (i * 3)).block, (ab.add (i * 3)).off + 2, none⟩ (.slice (some ⟨w.heap.size, 0, none⟩) P P))) := by
  have h2 := h.since hb
  obtain ⟨cur, hc⟩ := h2.typed
  have hz := h.abz
  rw [placeZ hz]
  have hg : g < w.heap.size := h.lt
  have hne : g ≠ ab.block := fun e => absurd (other_type (w := w') h2.row (e ▸ hc)) (by decide)
  have hr0 := h2.br
  rw [hz] at hr0
  have hv : ∀ (f : Nat → BkV), ((List.range n).map f).getD i blkK.dflt = f i := fun f => getD_map_range _ _ _ _ hi
  have hv0 : newBk au P i i = BkV.zero := if_neg (Nat.lt_irrefl i)
  have r1 := hr0.put (i := i) (r := 0) hi (by decide) (.int .i64 1) ⟨1, 0, BV.zero⟩ (by rw [hv, hv0]; rfl) trivial
  have r2 := r1.put (i := i) (r := 1) hi (by decide) (.int .i64 0) ⟨1, 0, BV.zero⟩ (by rw [getD_setY, if_pos ⟨rfl, by simpa using hi⟩]; rfl) trivial
  have r3 := r2.put (i := i) (r := 2) hi (by decide) (.slice (some ⟨w.heap.size, 0, none⟩) P P) ⟨1, 0, ⟨some ⟨w.heap.size, 0, none⟩, P, P⟩⟩ (by rw [getD_setY, if_pos ⟨rfl, by simpa using hi⟩]; rfl) trivial
  have hcell : ∀ {W : World} {vs : List BkV} (hr : blkK.Row W base (some ⟨ab.block, 0, none⟩) n n vs) (r : Nat) (hr3 : r < 3), (∃ u, W.cell? ⟨ab.block, i * 3 + r, none⟩ = some u) ∧ W.frozen? ⟨ab.block, i * 3 + r, none⟩ = false := fun {W vs} hr r hr3 => by
    refine ⟨?_, hr.row.frozenAt _⟩
    obtain ⟨ad, e1, e2, e3⟩ := hr.lie.each i hi
    obtain rfl := Option.some.inj e1
    have hlen := blkK.len (vs.getD i blkK.dflt)
    obtain ⟨u, hu⟩ : ∃ u, (blkK.cv (vs.getD i blkK.dflt))[r]? = some u := ⟨_, List.getElem?_eq_getElem (by rw [hlen]; exact hr3)⟩
    have := e3 r u hu
    rw [addr_add] at this
    refine ⟨u, ?_⟩
    rw [← this]
    congr 1
    unfold Addr.add
    by_cases h0 : i * 3 + r = 0
    · rw [if_pos (show i * blkK.k + r = 0 from h0), h0]
    · rw [if_neg (show ¬ i * blkK.k + r = 0 from h0)]; simp; rfl
  obtain ⟨⟨u0, c0⟩, f0⟩ := hcell hr0 0 (by decide)
  obtain ⟨⟨u1, c1⟩, f1⟩ := hcell r1 1 (by decide)
  obtain ⟨⟨u2, c2⟩, f2⟩ := hcell r2 2 (by decide)
  have hgeb : base ≤ ab.block := Row.blk_ge h.br _ (by simp [blk])
  refine ⟨u0, u1, u2, c0, f0, c1, f1, c2, f2, ⟨h.base_le, ?_, ?_, fun k hk => ?_, fun j k hj hk e => ?_⟩, fun w0 hw0 => ((hw0.setCell (p := ⟨ab.block, i * 3, none⟩) hgeb _).setCell (p := ⟨ab.block, i * 3 + 1, none⟩) hgeb _).setCell (p := ⟨ab.block, i * 3 + 2, none⟩) hgeb _⟩
  · exact (setCell_heap _ _ _ _ _ hne).trans ((setCell_heap _ _ _ _ _ hne).trans ((setCell_heap _ _ _ _ _ hne).trans h2.row))
  · rw [hz]
    refine Kind.Row.same r3 ?_
    rw [List.set_set, List.set_set]
    refine (map_range_set _ _ _ _ _ hi ?_ fun j hj e => ?_).symm
    · unfold newBk
      rw [if_pos (Nat.lt_succ_self i)]; simp
    · unfold newBk
      by_cases h3 : j < i
      · rw [if_pos h3, if_pos (by omega)]; simp [e]
      · rw [if_neg h3, if_neg (by omega)]
  · have hrow : useK.Row w' base (some (if k = i then ⟨w.heap.size, 0, none⟩ else au k)) P P (List.replicate P (false, false)) := by
      by_cases e : k = i
      · rw [if_pos e]; exact hu
      · rw [if_neg e]; exact h2.ur k (by omega)
    refine Row.at_block hrow fun b hm => ?_
    obtain ⟨c2', hc2⟩ := Row.typed hrow b hm
    have hne2 : b ≠ ab.block := fun e => absurd (other_type (w := w') (e ▸ hc2) hc) (by decide)
    exact (setCell_heap _ _ _ _ _ hne2).trans ((setCell_heap _ _ _ _ _ hne2).trans (setCell_heap _ _ _ _ _ hne2))
  · have hlt : ∀ k, k < i → (au k).block < w.heap.size := fun k hk => Row.blk_lt (h.ur k hk) _ (by simp [blk])
    by_cases e1 : j = i
    · by_cases e2 : k = i
      · omega
      · have := hlt k (by omega)
        simp only [e1, if_true, e2, if_false] at e
        omega
    · by_cases e2 : k = i
      · have := hlt j (by omega)
        simp only [e2, if_true, e1, if_false] at e
        omega
      · simp only [e1, e2, if_false] at e
        exact h.inj j k (by omega) (by omega) e
end
theorem getD_repl {α : Type} (n k : Nat) (x : α) : (List.replicate n x).getD k x = x := by
  rw [List.getD_eq_getElem?_getD, List.getElem?_replicate]; split <;> rfl
theorem uses_rep (P : Nat) : usesV (List.replicate P false) (List.replicate P false) P = List.replicate P (false, false) := by
  unfold usesV
  refine List.eq_replicate_iff.2 ⟨by simp, fun u hu => ?_⟩
  obtain ⟨j, _, rfl⟩ := List.mem_map.1 hu
  rw [getD_repl]
theorem new_done {w w' : World} {g n P : Nat} {ab : Addr} {au : Nat → Addr} (h : NewY_ w' w.heap.size g n P n ab au) (h1 : 1 ≤ n) (h2 : n ≤ 32) (h3 : 1 ≤ P) (h4 : P ≤ 8) : YardAt w' w.heap.size (fun b => w.heap.size ≤ b ∧ b < w'.heap.size) g (freshY n P) := by
  have hS : (freshY n P).S.length = n := List.length_replicate ..
  refine ⟨fresh_yw h1 h2 h3 h4, ⟨h.base_le, h.lt⟩, fun b hb => hb.1, fun b hb => hb.2, ⟨⟨ab, au⟩, ⟨h.base_le, ?_, ?_, fun k hk => ?_, fun j k hj hk e => ?_⟩, ⟨?_, ?_⟩, fun k hk => ⟨?_, ?_⟩⟩⟩
  · rw [hS]; exact h.row
  · rw [hS]
    refine Kind.Row.same h.br ?_
    unfold bksV
    rw [hS]
    refine List.map_congr_left fun k hk => ?_
    have hk := List.mem_range.1 hk
    unfold newBk
    rw [if_pos hk]
    show _ = (⟨(List.replicate n (1 : Int)).getD k 0, (List.replicate n (0 : Int)).getD k 0, ⟨some (au k), P, P⟩⟩ : BkV)
    rw [getD_rep _ _ _ _ hk, getD_rep _ _ _ _ hk]
  · rw [hS] at hk
    refine Kind.Row.same (h.ur k hk) ?_
    show _ = usesV ((List.replicate n (List.replicate P false)).getD k []) ((List.replicate n (List.replicate P false)).getD k []) P
    rw [getD_rep _ _ _ _ hk]
    exact (uses_rep P).symm
  · rw [hS] at hj hk; exact h.inj j k hj hk e
  · exact Row.blk_ge h.br _ (by simp [blk])
  · exact Row.blk_lt h.br _ (by simp [blk])
  · rw [hS] at hk; exact Row.blk_ge (h.ur k hk) _ (by simp [blk])
  · rw [hS] at hk; exact Row.blk_lt (h.ur k hk) _ (by simp [blk])
set_option maxHeartbeats 8000000 in
set_option maxRecDepth 20000 in
theorem ynew_any (x y : Int) (w : World) : Calls Try.prog 7 #[.int .i64 x, .int .i64 y] w (NewY w (if mayY x y = true then some (freshY x.toNat y.toNat) else none)) := by
  have HB0 := Lib.hid (Below.refl w.heap.size w)
  by_cases h1 : x < 1
  · rw [if_neg (show ¬ mayY x y = true by unfold mayY; simp; omega)]
    go_enter Try.func7, Try.ntmps7
    go_wp2_with fail
    go_ret
    exact ⟨rfl, HB0.out⟩
  by_cases h2 : 32 < x
  · rw [if_neg (show ¬ mayY x y = true by unfold mayY; simp; omega)]
    go_enter Try.func7, Try.ntmps7
    go_wp2_with fail
    go_ret
    exact ⟨rfl, HB0.out⟩
  by_cases h3 : y < 1
  · rw [if_neg (show ¬ mayY x y = true by unfold mayY; simp; omega)]
    go_enter Try.func7, Try.ntmps7
    go_wp2_with fail
    go_ret
    exact ⟨rfl, HB0.out⟩
  by_cases h4 : 8 < y
  · rw [if_neg (show ¬ mayY x y = true by unfold mayY; simp; omega)]
    go_enter Try.func7, Try.ntmps7
    go_wp2_with fail
    go_ret
    exact ⟨rfl, HB0.out⟩
  rw [if_pos (show mayY x y = true by unfold mayY; simp; omega)]
  obtain ⟨n, rfl⟩ : ∃ n : Nat, x = (n : Int) := ⟨x.toNat, by omega⟩
  obtain ⟨P, rfl⟩ : ∃ P : Nat, y = (P : Int) := ⟨y.toNat, by omega⟩
  rw [Int.toNat_natCast, Int.toNat_natCast]
  have hn : n ≤ 32 := by omega
  have hn1 : 1 ≤ n := by omega
  have HP4 : Hid (1 ≤ P ∧ P ≤ 8) := by show _ ∧ _; omega
  have hP8 : P ≤ 8 := by omega
  obtain ⟨W1, hr1, hb1, ho1⟩ := Kind.made blkK bk_made n (n : Int) rfl (by omega) w w.heap.size (Nat.le_refl _)
  have hr1' : (Instr.makeSlice 49 (.int .i64 (n : Int)) (.int .i64 (n : Int))).run Try.prog w = .ok (.slice (some ⟨w.heap.size, 0, none⟩) n n) W1 := hr1
  obtain ⟨W2, HW2⟩ : ∃ W2, Hid (W2 = W1.alloc (.cells #[.slice (some ⟨w.heap.size, 0, none⟩) n n] 51)) := ⟨_, rfl⟩
  have L2 : Below W1.heap.size W1 W2 := by rw [HW2.out]; exact (Below.refl _ _).alloc (Nat.le_refl _) _
  have B2 := Lib.hid (below_chain hb1 L2)
  have R2 : Hid (NewY_ W2 w.heap.size W1.heap.size n P 0 ⟨w.heap.size, 0, none⟩ (fun _ => ⟨0, 0, none⟩)) := by
    refine ⟨hb1.size, by rw [HW2.out]; exact heap_alloc_new W1 _, Kind.Row.same (ho1.since L2) ?_, fun k hk => absurd hk (Nat.not_lt_zero k), fun j k hj => absurd hj (Nat.not_lt_zero j)⟩
    apply List.ext_getElem
    · simp
    · intro j h1 h2
      rw [List.getElem_replicate, List.getElem_map]
      rfl
  have c2 : (W1.alloc (.cells #[.slice (some ⟨w.heap.size, 0, none⟩) n n] 51)).cell? ⟨W1.heap.size, 0, none⟩ = some (.slice (some ⟨w.heap.size, 0, none⟩) n n) := by rw [← HW2.out]; exact R2.out.c0
  clear hr1 hb1 ho1 L2
  go_enter Try.func7, Try.ntmps7
  go_wp2_with fail
  rw [← HW2.out]
  obtain ⟨g, HG⟩ : ∃ g, Hid (W1.heap.size = g) := ⟨_, rfl⟩
  obtain ⟨ab, HAB⟩ : ∃ ab : Addr, Hid ((⟨w.heap.size, 0, none⟩ : Addr) = ab) := ⟨_, rfl⟩
  rw [HG.out] at R2 ⊢
  rw [HAB.out] at R2
  clear c2 hr1' h1 h2 h3 h4
  go_loopw [30] (fun t30 wr => ∃ (i : Nat) (au : Nat → Addr), t30 = .int .i64 i ∧ i ≤ n ∧ Hid (NewY_ wr w.heap.size g n P i ab au) ∧ Hid (Below w.heap.size w wr)) (fun t30 _ => n - (intOf t30).toNat)
  case atStart => exact ⟨0, _, rfl, Nat.zero_le _, R2, B2⟩
  clear R2 B2
  case round =>
    obtain ⟨i, au, rfl, hi, HR, HB⟩ := hrel
    have i0 : (0 : Int) ≤ (i : Int) := by omega
    by_cases hlt : i < n
    · have i1 : (i : Int) < (n : Int) := by omega
      have c0 := HR.out.c0
      have hRd := HR.out.since (w' := wr.drew) ((Below.refl _ _).drew)
      have hBd : Below w.heap.size w wr.drew := below_chain HB.out ((Below.refl _ _).drew)
      obtain ⟨W3, hr3, hb3, ho3⟩ := Kind.made useK use_made P (P : Int) rfl (by omega) wr.drew wr.drew.heap.size (Nat.le_refl _)
      have hr3' : (Instr.makeSlice 52 (.int .i64 (P : Int)) (.int .i64 (P : Int))).run Try.prog wr.drew = .ok (.slice (some ⟨wr.drew.heap.size, 0, none⟩) P P) W3 := hr3
      obtain ⟨u0, u1, u2, d0, f0, d1, f1, d2, f2, hN, hBB⟩ := hRd.next hlt hb3 (ho3.elder hBd.size)
      have HN := Lib.hid hN
      have HBB := Lib.hid (hBB w (below_chain hBd hb3))
      have c3 : W3.cell? ⟨g, 0, none⟩ = some (.slice (some ab) n n) := (hRd.since hb3).c0
      clear hr3 hb3 ho3 hN hBB HB HR hRd hBd
      go_wp2_with fail
      go_region
      go_wp2_with fail
      go_roundw
      case rel => exact ⟨i + 1, _, by go_num, by omega, HN, HBB⟩
      case measure => simp [intOf]; omega
    · obtain rfl : i = n := by omega
      go_wp2_with fail
      go_ret
      exact ⟨g, _, rfl, new_done HR.out hn1 hn HP4.out.1 HP4.out.2, HB.out⟩
end Go.Proofs.Ytmfpelgkjgpfmaa
