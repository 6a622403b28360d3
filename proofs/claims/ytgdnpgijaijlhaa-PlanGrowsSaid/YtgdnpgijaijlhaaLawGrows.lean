/- PlanGrows: a block more has its pages more, and at most one block more for a checkpoint; greater pages have no fewer entries of a segment, and no less room. For every input. -/
import Derived.Test.YtgdnpgijaijlhaaLawFits
import Derived.Test.YtgdnpgijaijlhaaGeoRow
set_option linter.unusedVariables false
set_option linter.unusedSimpArgs false
namespace Go.Proofs.Ytgdnpgijaijlhaa
open Go.RowKit Go.Sort

def nC (n : Nums) : Array Value := #[.int .i64 n.pages, .int .i64 n.each, .int .i64 n.check, .int .i64 n.spare, .int .i64 n.room, .int .i64 n.most]
theorem run_alloc_nums9 (w : World) : (Instr.alloc 28 true (.tuple #[])).run Try.prog w = .ok (.pointer (some ⟨w.heap.size, 0, none⟩)) (w.alloc (.cells #[.int .i64 0, .int .i64 0, .int .i64 0, .int .i64 0, .int .i64 0, .int .i64 0] 28)) := by go_simp
theorem putN_else9 (w : World) (g : Nat) (n : Nums) : w.grownBy (putN w g n) (some g) :=
  grownBy_trans (grownBy_trans (grownBy_trans (grownBy_trans (grownBy_trans (setCell_else w ⟨g, 0, none⟩ _) (setCell_else _ ⟨g, 1, none⟩ _)) (setCell_else _ ⟨g, 2, none⟩ _)) (setCell_else _ ⟨g, 3, none⟩ _)) (setCell_else _ ⟨g, 4, none⟩ _)) (setCell_else _ ⟨g, 5, none⟩ _)
theorem run_store_nums9 {W : World} {b : Nat} (h : RowC W b #[.int .i64 0, .int .i64 0, .int .i64 0, .int .i64 0, .int .i64 0, .int .i64 0] 28) (n : Nums) : (Instr.storeAt 28 (.pointer (some ⟨b, 0, none⟩)) (.agg #[.int .i64 n.pages, .int .i64 n.each, .int .i64 n.check, .int .i64 n.spare, .int .i64 n.room, .int .i64 n.most])).run Try.prog W = .ok () (putN W b n) := by
  have r0 := h.cell 0
  have r1 := h.cell 1
  have r2 := h.cell 2
  have r3 := h.cell 3
  have r4 := h.cell 4
  have r5 := h.cell 5
  have f0 := h.free 0
  have f1 := h.free 1
  have f2 := h.free 2
  have f3 := h.free 3
  have f4 := h.free 4
  have f5 := h.free 5
  simp at r0 r1 r2 r3 r4 r5
  unfold putN
  go_simp
theorem row_putN9 {W : World} {b : Nat} (h : RowC W b #[.int .i64 0, .int .i64 0, .int .i64 0, .int .i64 0, .int .i64 0, .int .i64 0] 28) (n : Nums) : RowC (putN W b n) b #[.int .i64 n.pages, .int .i64 n.each, .int .i64 n.check, .int .i64 n.spare, .int .i64 n.room, .int .i64 n.most] 28 := row_putN (m := ⟨0, 0, 0, 0, 0, 0⟩) h n
/-- What is known of the three. -/
theorem grows_math {b p s : Int} (h : inG ⟨b, p, s⟩ = true) (hs : s + 1 ≤ 256) (hb : b + 1 ≤ 32) :
    (ofG ⟨b, p, s⟩).each ≤ (ofG ⟨b, p, s + 1⟩).each ∧ (ofG ⟨b, p, s + 1⟩).check ≤ (ofG ⟨b, p, s⟩).check ∧ (ofG ⟨b + 1, p, s⟩).pages = (ofG ⟨b, p, s⟩).pages + p ∧ (ofG ⟨b, p, s⟩).check ≤ (ofG ⟨b + 1, p, s⟩).check ∧
    (ofG ⟨b + 1, p, s⟩).check ≤ (ofG ⟨b, p, s⟩).check + 1 ∧ (ofG ⟨b, p, s⟩).room ≤ (ofG ⟨b, p, s + 1⟩).room ∧ 8 * (ofG ⟨b, p, s⟩).pages < (ofG ⟨b, p, s⟩).most ∧ 64 ≤ (ofG ⟨b, p, s⟩).pages ∧ (ofG ⟨b, p, s⟩).pages ≤ 256 ∧ 1 ≤ (ofG ⟨b, p, s⟩).check ∧ (ofG ⟨b, p, s⟩).check ≤ 64 := by
  obtain ⟨i0, i1, i2, i3, i4, i5⟩ := inG_out h
  dsimp only at i0 i1 i2 i3 i4 i5
  have h1 : inG ⟨b, p, s + 1⟩ = true := inG_yes (by dsimp only; omega)
  have h2 : inG ⟨b + 1, p, s⟩ = true := inG_yes (by dsimp only; omega)
  have ha := area_bd h
  have hc := check_in h
  have w1 := grow_wide h h1
  have w2 := grow_tall h h2
  have w3 := each_mono i4 hs
  rw [ofG_in h, ofG_in h1, ofG_in h2]
  dsimp only at ha ⊢
  have e : (b + 1) * p = b * p + p := by rw [Int.add_mul]; omega
  refine ⟨w3, w1, e, w2.1, w2.2, by omega, by omega, ha.1, ha.2, hc.1, hc.2⟩
set_option maxHeartbeats 8000000 in
theorem grows_law (x1 x2 x3 : Int) (w : World) : Calls Try.prog 6 #[.int .i64 x1, .int .i64 x2, .int .i64 x3] w (SaysB w true) := by
  obtain ⟨la, Hla⟩ : ∃ la, Hid (lowM x1 16 = la) := ⟨_, rfl⟩
  have dla := lowM_bd x1 16 (by omega)
  rw [Hla.out] at dla
  obtain ⟨la0, la1⟩ := dla
  obtain ⟨lb, Hlb⟩ : ∃ lb, Hid (lowM x2 5 = lb) := ⟨_, rfl⟩
  have dlb := lowM_bd x2 5 (by omega)
  rw [Hlb.out] at dlb
  obtain ⟨lb0, lb1⟩ := dlb
  obtain ⟨lc, Hlc⟩ : ∃ lc, Hid (lowM x3 128 = lc) := ⟨_, rfl⟩
  have dlc := lowM_bd x3 128 (by omega)
  rw [Hlc.out] at dlc
  obtain ⟨lc0, lc1⟩ := dlc
  obtain ⟨b, Hb⟩ : ∃ b, Hid (16 + la = b) := ⟨_, rfl⟩
  have b0 : 16 ≤ b := by rw [← Hb.out]; omega
  have b1 : b ≤ 31 := by rw [← Hb.out]; omega
  obtain ⟨p, Hp⟩ : ∃ p, Hid (4 + lb = p) := ⟨_, rfl⟩
  have p0 : 4 ≤ p := by rw [← Hp.out]; omega
  have p1 : p ≤ 8 := by rw [← Hp.out]; omega
  obtain ⟨s, Hs⟩ : ∃ s, Hid (128 + lc = s) := ⟨_, rfl⟩
  have s0 : 128 ≤ s := by rw [← Hs.out]; omega
  have s1 : s ≤ 255 := by rw [← Hs.out]; omega
  have S1 := Lib.hid (since_alloc (Below.refl w.heap.size w) (.cells #[.int .i64 b, .int .i64 p, .int .i64 s] 23))
  have G1 : Hid (GeoAt (w.alloc (.cells #[.int .i64 b, .int .i64 p, .int .i64 s] 23)) w.heap.size ⟨b, p, s⟩) := geoAt_new w ⟨b, p, s⟩
  obtain ⟨W1, HW1⟩ : ∃ W1, Hid (W1 = w.alloc (.cells #[.int .i64 b, .int .i64 p, .int .i64 s] 23)) := ⟨_, rfl⟩
  go_enter Try.func6, Try.ntmps6
  go_wp2_with fail
  refine (low_any x1 16 (by omega) (by omega) _).mono ?_
  rw [Hla.out]
  rintro e w' ⟨rfl, rfl⟩
  go_wp2_with fail
  refine (low_any x2 5 (by omega) (by omega) _).mono ?_
  rw [Hlb.out]
  rintro e w' ⟨rfl, rfl⟩
  go_wp2_with fail
  refine (low_any x3 128 (by omega) (by omega) _).mono ?_
  rw [Hlc.out]
  rintro e w' ⟨rfl, rfl⟩
  go_wp2_with fail
  rw [Hb.out, Hp.out, Hs.out, ← HW1.out]
  rw [← HW1.out] at S1 G1
  have hin := in_of b0 (by omega) p0 p1 s0 (by omega)
  clear HW1 Hla la0 la1 Hlb lb0 lb1 Hlc lc0 lc1 Hb Hp
  obtain ⟨m0, m1, m2, m3, m4, m5, m6, m7, m8, m9, m10⟩ := grows_math hin (by omega) (by omega)
  obtain ⟨st, HST⟩ : ∃ st, Hid (s + 1 = st) := ⟨_, rfl⟩
  obtain ⟨bt, HBT⟩ : ∃ bt, Hid (b + 1 = bt) := ⟨_, rfl⟩
  have hst := HST.out
  have hbt := HBT.out
  rw [hst] at m0 m1 m5
  rw [hbt] at m2 m3 m4
  obtain ⟨A, HA⟩ : ∃ A, Hid (ofG ⟨b, p, s⟩ = A) := ⟨_, rfl⟩
  obtain ⟨B, HB⟩ : ∃ B, Hid (ofG ⟨b, p, st⟩ = B) := ⟨_, rfl⟩
  obtain ⟨C, HC⟩ : ∃ C, Hid (ofG ⟨bt, p, s⟩ = C) := ⟨_, rfl⟩
  rw [HA.out, HB.out] at m0 m1 m5
  rw [HA.out, HC.out] at m2 m3 m4
  rw [HA.out] at m6 m7 m8 m9 m10
  have cA := Lib.hid (fun W => of_any ⟨b, p, s⟩ W)
  have cB := Lib.hid (fun W => of_any ⟨b, p, st⟩ W)
  have cC := Lib.hid (fun W => of_any ⟨bt, p, s⟩ W)
  rw [HA.out] at cA
  rw [HB.out] at cB
  rw [HC.out] at cC
  obtain ⟨A0, A1, A2, A3, A4, A5⟩ := A
  obtain ⟨B0, B1, B2, B3, B4, B5⟩ := B
  obtain ⟨C0, C1, C2, C3, C4, C5⟩ := C
  unfold geoV numsV at cA cB cC
  dsimp only at cA cB cC m0 m1 m2 m3 m4 m5 m6 m7 m8 m9 m10
  clear HA HB HC HST HBT
  have GD := Lib.hid (G1.out.since (Below.refl _ _).drew)
  have SD := Lib.hid (S1.out.drew)
  refine region_of_boxes (by kernel_rfl) [some (.agg #[.int .i64 b, .int .i64 p, .int .i64 s]), some (.agg #[.int .i64 b, .int .i64 p, .int .i64 s]), none, none, none, none] [⟨8, 2, 4, #[.int .i64 0, .int .i64 0, .int .i64 0], #[.int .i64 b, .int .i64 p, .int .i64 s], 23⟩, ⟨9, 3, 5, #[.int .i64 0, .int .i64 0, .int .i64 0], #[.int .i64 b, .int .i64 p, .int .i64 s], 23⟩] (by kernel_rfl) (by kernel_rfl) (by intro x hx y hy e; simp at hx hy; rcases hx with rfl | rfl <;> rcases hy with rfl | rfl <;> first | rfl | (simp at e)) ?_ ?_
  · refine StepsB.cons ?_ (StepsB.cons ?_ (StepsB.cons ?_ (StepsB.cons ?_ (StepsB.cons ?_ (StepsB.cons ?_ (StepsB.nil))))))
    · intro listed a W H hw hl hd
      have t7 : a.tmps.getD 7 undef = .pointer (some ⟨w.heap.size, 0, none⟩) := (H.old 7 (by kernel_rfl)).trans rfl
      exact step2_value (R := fun _ _ _ => True) (F := fun i v w' => Known [some (.agg #[.int .i64 b, .int .i64 p, .int .i64 s]), some (.agg #[.int .i64 b, .int .i64 p, .int .i64 s]), none, none, none, none] i v ∧ Mv ([⟨8, 2, 4, #[.int .i64 0, .int .i64 0, .int .i64 0], #[.int .i64 b, .int .i64 p, .int .i64 s], 23⟩, ⟨9, 3, 5, #[.int .i64 0, .int .i64 0, .int .i64 0], #[.int .i64 b, .int .i64 p, .int .i64 s], 23⟩] : List Box) i a v W w') (i := 0) rfl rfl (run_op_load rfl t7 (run_load_geo (GD.out.since hw.below))) trivial ⟨rfl, (mv_refl (by kernel_rfl))⟩
    · intro listed a W H hw hl hd
      have t7 : a.tmps.getD 7 undef = .pointer (some ⟨w.heap.size, 0, none⟩) := (H.old 7 (by kernel_rfl)).trans rfl
      exact step2_value (R := fun _ _ _ => True) (F := fun i v w' => Known [some (.agg #[.int .i64 b, .int .i64 p, .int .i64 s]), some (.agg #[.int .i64 b, .int .i64 p, .int .i64 s]), none, none, none, none] i v ∧ Mv ([⟨8, 2, 4, #[.int .i64 0, .int .i64 0, .int .i64 0], #[.int .i64 b, .int .i64 p, .int .i64 s], 23⟩, ⟨9, 3, 5, #[.int .i64 0, .int .i64 0, .int .i64 0], #[.int .i64 b, .int .i64 p, .int .i64 s], 23⟩] : List Box) i a v W w') (i := 1) rfl rfl (run_op_load rfl t7 (run_load_geo (GD.out.since hw.below))) trivial ⟨rfl, (mv_refl (by kernel_rfl))⟩
    · intro listed a W H hw hl hd
      exact step2_value (R := fun _ _ _ => True) (F := fun i v w' => Known [some (.agg #[.int .i64 b, .int .i64 p, .int .i64 s]), some (.agg #[.int .i64 b, .int .i64 p, .int .i64 s]), none, none, none, none] i v ∧ Mv ([⟨8, 2, 4, #[.int .i64 0, .int .i64 0, .int .i64 0], #[.int .i64 b, .int .i64 p, .int .i64 s], 23⟩, ⟨9, 3, 5, #[.int .i64 0, .int .i64 0, .int .i64 0], #[.int .i64 b, .int .i64 p, .int .i64 s], 23⟩] : List Box) i a v W w') (i := 2) rfl rfl (run_op_alloc rfl (run_alloc_geo W)) trivial ⟨trivial, mv_make (by kernel_rfl) (by intro x hx e; simp at hx; rcases hx with rfl | rfl <;> first | exact ⟨rfl, rfl⟩ | (simp at e)) (later_alloc _ _) (Nat.le_refl _) (RowC.new W _ _)⟩
    · intro listed a W H hw hl hd
      exact step2_value (R := fun _ _ _ => True) (F := fun i v w' => Known [some (.agg #[.int .i64 b, .int .i64 p, .int .i64 s]), some (.agg #[.int .i64 b, .int .i64 p, .int .i64 s]), none, none, none, none] i v ∧ Mv ([⟨8, 2, 4, #[.int .i64 0, .int .i64 0, .int .i64 0], #[.int .i64 b, .int .i64 p, .int .i64 s], 23⟩, ⟨9, 3, 5, #[.int .i64 0, .int .i64 0, .int .i64 0], #[.int .i64 b, .int .i64 p, .int .i64 s], 23⟩] : List Box) i a v W w') (i := 3) rfl rfl (run_op_alloc rfl (run_alloc_geo W)) trivial ⟨trivial, mv_make (by kernel_rfl) (by intro x hx e; simp at hx; rcases hx with rfl | rfl <;> first | exact ⟨rfl, rfl⟩ | (simp at e)) (later_alloc _ _) (Nat.le_refl _) (RowC.new W _ _)⟩
    · intro listed a W H hw hl hd
      have t23 : a.tmps.getD 23 undef = .agg #[.int .i64 b, .int .i64 p, .int .i64 s] := H.get 0 23 (by kernel_rfl) (dep_of hd 0 (by kernel_rfl)) (fun _ e => by cases e)
      obtain ⟨gb, e0, _, r⟩ := hw.made (⟨8, 2, 4, #[.int .i64 0, .int .i64 0, .int .i64 0], #[.int .i64 b, .int .i64 p, .int .i64 s], 23⟩ : Box) (by simp) (dep_of hd 2 (by kernel_rfl))
      have hlf : listed.getD 4 false = false := by
        have := H.len
        by_cases hh : 4 < listed.size
        · simp [hh] at hl ⊢; exact hl
        · simp [hh]
      rw [show listed.getD ((⟨8, 2, 4, #[.int .i64 0, .int .i64 0, .int .i64 0], #[.int .i64 b, .int .i64 p, .int .i64 s], 23⟩ : Box) : Box).i1 false = false from hlf] at r
      exact step2_done (R := fun _ _ _ => True) (F := fun i v w' => Known [some (.agg #[.int .i64 b, .int .i64 p, .int .i64 s]), some (.agg #[.int .i64 b, .int .i64 p, .int .i64 s]), none, none, none, none] i v ∧ Mv ([⟨8, 2, 4, #[.int .i64 0, .int .i64 0, .int .i64 0], #[.int .i64 b, .int .i64 p, .int .i64 s], 23⟩, ⟨9, 3, 5, #[.int .i64 0, .int .i64 0, .int .i64 0], #[.int .i64 b, .int .i64 p, .int .i64 s], 23⟩] : List Box) i a v W w') (i := 4) rfl rfl rfl (run_op_store rfl e0 t23 (run_store_geo r ⟨b, p, s⟩)) trivial ⟨trivial, mv_write (x := (⟨8, 2, 4, #[.int .i64 0, .int .i64 0, .int .i64 0], #[.int .i64 b, .int .i64 p, .int .i64 s], 23⟩ : Box)) (by simp) (by kernel_rfl) rfl (by intro y hy e; simp at hy; rcases hy with rfl | rfl <;> first | rfl | (simp at e)) e0 (putG_else W gb ⟨b, p, s⟩) (row_putG r rfl ⟨b, p, s⟩)⟩
    · intro listed a W H hw hl hd
      have t24 : a.tmps.getD 24 undef = .agg #[.int .i64 b, .int .i64 p, .int .i64 s] := H.get 1 24 (by kernel_rfl) (dep_of hd 1 (by kernel_rfl)) (fun _ e => by cases e)
      obtain ⟨gb, e0, _, r⟩ := hw.made (⟨9, 3, 5, #[.int .i64 0, .int .i64 0, .int .i64 0], #[.int .i64 b, .int .i64 p, .int .i64 s], 23⟩ : Box) (by simp) (dep_of hd 3 (by kernel_rfl))
      have hlf : listed.getD 5 false = false := by
        have := H.len
        by_cases hh : 5 < listed.size
        · simp [hh] at hl ⊢; exact hl
        · simp [hh]
      rw [show listed.getD ((⟨9, 3, 5, #[.int .i64 0, .int .i64 0, .int .i64 0], #[.int .i64 b, .int .i64 p, .int .i64 s], 23⟩ : Box) : Box).i1 false = false from hlf] at r
      exact step2_done (R := fun _ _ _ => True) (F := fun i v w' => Known [some (.agg #[.int .i64 b, .int .i64 p, .int .i64 s]), some (.agg #[.int .i64 b, .int .i64 p, .int .i64 s]), none, none, none, none] i v ∧ Mv ([⟨8, 2, 4, #[.int .i64 0, .int .i64 0, .int .i64 0], #[.int .i64 b, .int .i64 p, .int .i64 s], 23⟩, ⟨9, 3, 5, #[.int .i64 0, .int .i64 0, .int .i64 0], #[.int .i64 b, .int .i64 p, .int .i64 s], 23⟩] : List Box) i a v W w') (i := 5) rfl rfl rfl (run_op_store rfl e0 t24 (run_store_geo r ⟨b, p, s⟩)) trivial ⟨trivial, mv_write (x := (⟨9, 3, 5, #[.int .i64 0, .int .i64 0, .int .i64 0], #[.int .i64 b, .int .i64 p, .int .i64 s], 23⟩ : Box)) (by simp) (by kernel_rfl) rfl (by intro y hy e; simp at hy; rcases hy with rfl | rfl <;> first | rfl | (simp at e)) e0 (putG_else W gb ⟨b, p, s⟩) (row_putG r rfl ⟨b, p, s⟩)⟩
  · intro a WC listed hdef hsz hinv hall0 hall hact
    obtain ⟨gb8, e8, l8, hr8⟩ := hinv.made (⟨8, 2, 4, #[.int .i64 0, .int .i64 0, .int .i64 0], #[.int .i64 b, .int .i64 p, .int .i64 s], 23⟩ : Box) (by simp) (hall0 2 (by decide))
    rw [show listed.getD (⟨8, 2, 4, #[.int .i64 0, .int .i64 0, .int .i64 0], #[.int .i64 b, .int .i64 p, .int .i64 s], 23⟩ : Box).i1 false = true from hall0 4 (by decide)] at hr8
    have HR8 : Hid (RowC WC gb8 #[.int .i64 b, .int .i64 p, .int .i64 s] 23) := hr8
    obtain ⟨gb9, e9, l9, hr9⟩ := hinv.made (⟨9, 3, 5, #[.int .i64 0, .int .i64 0, .int .i64 0], #[.int .i64 b, .int .i64 p, .int .i64 s], 23⟩ : Box) (by simp) (hall0 3 (by decide))
    rw [show listed.getD (⟨9, 3, 5, #[.int .i64 0, .int .i64 0, .int .i64 0], #[.int .i64 b, .int .i64 p, .int .i64 s], 23⟩ : Box).i1 false = true from hall0 5 (by decide)] at hr9
    have HR9 : Hid (RowC WC gb9 #[.int .i64 b, .int .i64 p, .int .i64 s] 23) := hr9
    have HN8_9 : ¬ gb8 = gb9 := fun e => hinv.apart (⟨8, 2, 4, #[.int .i64 0, .int .i64 0, .int .i64 0], #[.int .i64 b, .int .i64 p, .int .i64 s], 23⟩ : Box) (by simp) (⟨9, 3, 5, #[.int .i64 0, .int .i64 0, .int .i64 0], #[.int .i64 b, .int .i64 p, .int .i64 s], 23⟩ : Box) (by simp) (by simp) (hall0 2 (by decide)) (hall0 3 (by decide)) (by rw [e8, e9, e])
    have HBL := Lib.hid hinv.below
    obtain ⟨u, hu⟩ : ∃ u : Nat → Value, ∀ k, a.tmps.getD k undef = u k := ⟨_, fun _ => rfl⟩
    rw [hu] at e8 e9
    dsimp only at e8 e9
    simp only [hu] at hact
    have hact' : a = ([23, 24, 8, 9] : List Nat).foldl (fun b k => b.put (some k) (u k)) _ := hact
    simp only [List.foldl] at hact'
    simp only [Act.put, List.setIfInBounds_toArray, List.set_cons_succ, List.set_cons_zero] at hact'
    rw [e8, e9] at hact'
    have HAC := Lib.hid hact'
    have HL8 : Hid (W1.drew.heap.size ≤ gb8) := l8
    have HL9 : Hid (W1.drew.heap.size ≤ gb9) := l9
    clear hu hact hact' hall hall0 hdef hsz hinv e8 l8 hr8 e9 l9 hr9
    have SC := Lib.hid (below_chain SD.out HBL.out)
    have GC := Lib.hid (GD.out.since HBL.out)
    have LW : Hid (w.heap.size < W1.drew.heap.size) := GD.out.lt
    have hg8 : w.heap.size ≤ gb8 := by have := LW.out; have := HL8.out; omega
    have hg9 : w.heap.size ≤ gb9 := by have := LW.out; have := HL9.out; omega
    have ne8 : ¬ w.heap.size = gb8 := by have := LW.out; have := HL8.out; omega
    have ne9 : ¬ w.heap.size = gb9 := by have := LW.out; have := HL9.out; omega
    clear SD GD S1 G1 HBL LW HL8 HL9
    have w0 := HR8.out.cell 2
    have w1 := HR8.out.free 2
    have w2 := HR9.out.cell 0
    have w3 := HR9.out.free 0
    simp at w0 w2
    rw [HAC.out]
    go_wp2_with fail
    have SE := Lib.hid ((SC.out.setCell (p := ⟨gb8, 2, none⟩) hg8 (.int .i64 st)).setCell (p := ⟨gb9, 0, none⟩) hg9 (.int .i64 bt))
    have GE := Lib.hid ((GC.out.other ne8 2 (.int .i64 st)).other ne9 0 (.int .i64 bt))
    have A8 := Lib.hid (((HR8.out.put 2 (.int .i64 st)).other HN8_9 0 (.int .i64 bt)))
    have A9 := Lib.hid (((HR9.out.other (fun e => HN8_9 e.symm) 2 (.int .i64 st)).put 0 (.int .i64 bt)))
    obtain ⟨WE, HWE⟩ : ∃ WE, Hid (WE = (WC.setCell ⟨gb8, 2, none⟩ (.int .i64 st)).setCell ⟨gb9, 0, none⟩ (.int .i64 bt)) := ⟨_, rfl⟩
    rw [← HWE.out] at SE GE A8 A9 ⊢
    clear HWE SC GC HR8 HR9 w0 w1 w2 w3 HAC
    have SF := Lib.hid (SE.out.drew)
    have GF := Lib.hid (GE.out.since (Below.refl _ _).drew)
    have GW : Hid (GeoAt WE.drew gb8 ⟨b, p, st⟩) := (GeoAt.of_row (g := ⟨b, p, st⟩) A8.out).since (Below.refl _ _).drew
    have GT : Hid (GeoAt WE.drew gb9 ⟨bt, p, s⟩) := (GeoAt.of_row (g := ⟨bt, p, s⟩) A9.out).since (Below.refl _ _).drew
    refine region_of_boxes (by kernel_rfl) [some (.agg #[.int .i64 b, .int .i64 p, .int .i64 s]), some (.agg #[.int .i64 A0, .int .i64 A1, .int .i64 A2, .int .i64 A3, .int .i64 A4, .int .i64 A5]), some (.agg #[.int .i64 b, .int .i64 p, .int .i64 st]), some (.agg #[.int .i64 B0, .int .i64 B1, .int .i64 B2, .int .i64 B3, .int .i64 B4, .int .i64 B5]), some (.agg #[.int .i64 bt, .int .i64 p, .int .i64 s]), some (.agg #[.int .i64 C0, .int .i64 C1, .int .i64 C2, .int .i64 C3, .int .i64 C4, .int .i64 C5]), none, none, none, none, none, none] [⟨10, 6, 9, #[.int .i64 0, .int .i64 0, .int .i64 0, .int .i64 0, .int .i64 0, .int .i64 0], #[.int .i64 A0, .int .i64 A1, .int .i64 A2, .int .i64 A3, .int .i64 A4, .int .i64 A5], 28⟩, ⟨11, 7, 10, #[.int .i64 0, .int .i64 0, .int .i64 0, .int .i64 0, .int .i64 0, .int .i64 0], #[.int .i64 B0, .int .i64 B1, .int .i64 B2, .int .i64 B3, .int .i64 B4, .int .i64 B5], 28⟩, ⟨12, 8, 11, #[.int .i64 0, .int .i64 0, .int .i64 0, .int .i64 0, .int .i64 0, .int .i64 0], #[.int .i64 C0, .int .i64 C1, .int .i64 C2, .int .i64 C3, .int .i64 C4, .int .i64 C5], 28⟩] (by kernel_rfl) (by kernel_rfl) (by intro x hx y hy e; simp at hx hy; rcases hx with rfl | rfl | rfl <;> rcases hy with rfl | rfl | rfl <;> first | rfl | (simp at e)) ?_ ?_
    · refine StepsB.cons ?_ (StepsB.cons ?_ (StepsB.cons ?_ (StepsB.cons ?_ (StepsB.cons ?_ (StepsB.cons ?_ (StepsB.cons ?_ (StepsB.cons ?_ (StepsB.cons ?_ (StepsB.cons ?_ (StepsB.cons ?_ (StepsB.cons ?_ (StepsB.nil))))))))))))
      · intro listed a W H hw hl hd
        have t7 : a.tmps.getD 7 undef = .pointer (some ⟨w.heap.size, 0, none⟩) := (H.old 7 (by kernel_rfl)).trans rfl
        exact step2_value (R := fun _ _ _ => True) (F := fun i v w' => Known [some (.agg #[.int .i64 b, .int .i64 p, .int .i64 s]), some (.agg #[.int .i64 A0, .int .i64 A1, .int .i64 A2, .int .i64 A3, .int .i64 A4, .int .i64 A5]), some (.agg #[.int .i64 b, .int .i64 p, .int .i64 st]), some (.agg #[.int .i64 B0, .int .i64 B1, .int .i64 B2, .int .i64 B3, .int .i64 B4, .int .i64 B5]), some (.agg #[.int .i64 bt, .int .i64 p, .int .i64 s]), some (.agg #[.int .i64 C0, .int .i64 C1, .int .i64 C2, .int .i64 C3, .int .i64 C4, .int .i64 C5]), none, none, none, none, none, none] i v ∧ Mv ([⟨10, 6, 9, #[.int .i64 0, .int .i64 0, .int .i64 0, .int .i64 0, .int .i64 0, .int .i64 0], #[.int .i64 A0, .int .i64 A1, .int .i64 A2, .int .i64 A3, .int .i64 A4, .int .i64 A5], 28⟩, ⟨11, 7, 10, #[.int .i64 0, .int .i64 0, .int .i64 0, .int .i64 0, .int .i64 0, .int .i64 0], #[.int .i64 B0, .int .i64 B1, .int .i64 B2, .int .i64 B3, .int .i64 B4, .int .i64 B5], 28⟩, ⟨12, 8, 11, #[.int .i64 0, .int .i64 0, .int .i64 0, .int .i64 0, .int .i64 0, .int .i64 0], #[.int .i64 C0, .int .i64 C1, .int .i64 C2, .int .i64 C3, .int .i64 C4, .int .i64 C5], 28⟩] : List Box) i a v W w') (i := 0) rfl rfl (run_op_load rfl t7 (run_load_geo (GF.out.since hw.below))) trivial ⟨rfl, (mv_refl (by kernel_rfl))⟩
      · intro listed a W H hw hl hd
        have t33 : a.tmps.getD 33 undef = .agg #[.int .i64 b, .int .i64 p, .int .i64 s] := H.get 0 33 (by kernel_rfl) (dep_of hd 0 (by kernel_rfl)) (fun _ e => by cases e)
        refine step2_call (R := fun _ _ _ => True) (F := fun i v w' => Known [some (.agg #[.int .i64 b, .int .i64 p, .int .i64 s]), some (.agg #[.int .i64 A0, .int .i64 A1, .int .i64 A2, .int .i64 A3, .int .i64 A4, .int .i64 A5]), some (.agg #[.int .i64 b, .int .i64 p, .int .i64 st]), some (.agg #[.int .i64 B0, .int .i64 B1, .int .i64 B2, .int .i64 B3, .int .i64 B4, .int .i64 B5]), some (.agg #[.int .i64 bt, .int .i64 p, .int .i64 s]), some (.agg #[.int .i64 C0, .int .i64 C1, .int .i64 C2, .int .i64 C3, .int .i64 C4, .int .i64 C5]), none, none, none, none, none, none] i v ∧ Mv ([⟨10, 6, 9, #[.int .i64 0, .int .i64 0, .int .i64 0, .int .i64 0, .int .i64 0, .int .i64 0], #[.int .i64 A0, .int .i64 A1, .int .i64 A2, .int .i64 A3, .int .i64 A4, .int .i64 A5], 28⟩, ⟨11, 7, 10, #[.int .i64 0, .int .i64 0, .int .i64 0, .int .i64 0, .int .i64 0, .int .i64 0], #[.int .i64 B0, .int .i64 B1, .int .i64 B2, .int .i64 B3, .int .i64 B4, .int .i64 B5], 28⟩, ⟨12, 8, 11, #[.int .i64 0, .int .i64 0, .int .i64 0, .int .i64 0, .int .i64 0, .int .i64 0], #[.int .i64 C0, .int .i64 C1, .int .i64 C2, .int .i64 C3, .int .i64 C4, .int .i64 C5], 28⟩] : List Box) i a v W w') (i := 1) rfl rfl (run_op_call (vs := #[.agg #[.int .i64 b, .int .i64 p, .int .i64 s]]) Try.func12 (by kernel_rfl) (by kernel_rfl) rfl (by simp only [List.map_toArray, List.map_cons, List.map_nil]; show #[a.tmps.getD 33 undef] = _; rw [t33])) ?_
        refine (cA.out W).mono ?_
        rintro e W2 ⟨rfl, hb⟩
        exact ⟨_, rfl, trivial, rfl, mv_later (by kernel_rfl) hb.out⟩
      · intro listed a W H hw hl hd
        have t8 : a.tmps.getD 8 undef = .pointer (some ⟨gb8, 0, none⟩) := (H.old 8 (by kernel_rfl)).trans rfl
        exact step2_value (R := fun _ _ _ => True) (F := fun i v w' => Known [some (.agg #[.int .i64 b, .int .i64 p, .int .i64 s]), some (.agg #[.int .i64 A0, .int .i64 A1, .int .i64 A2, .int .i64 A3, .int .i64 A4, .int .i64 A5]), some (.agg #[.int .i64 b, .int .i64 p, .int .i64 st]), some (.agg #[.int .i64 B0, .int .i64 B1, .int .i64 B2, .int .i64 B3, .int .i64 B4, .int .i64 B5]), some (.agg #[.int .i64 bt, .int .i64 p, .int .i64 s]), some (.agg #[.int .i64 C0, .int .i64 C1, .int .i64 C2, .int .i64 C3, .int .i64 C4, .int .i64 C5]), none, none, none, none, none, none] i v ∧ Mv ([⟨10, 6, 9, #[.int .i64 0, .int .i64 0, .int .i64 0, .int .i64 0, .int .i64 0, .int .i64 0], #[.int .i64 A0, .int .i64 A1, .int .i64 A2, .int .i64 A3, .int .i64 A4, .int .i64 A5], 28⟩, ⟨11, 7, 10, #[.int .i64 0, .int .i64 0, .int .i64 0, .int .i64 0, .int .i64 0, .int .i64 0], #[.int .i64 B0, .int .i64 B1, .int .i64 B2, .int .i64 B3, .int .i64 B4, .int .i64 B5], 28⟩, ⟨12, 8, 11, #[.int .i64 0, .int .i64 0, .int .i64 0, .int .i64 0, .int .i64 0, .int .i64 0], #[.int .i64 C0, .int .i64 C1, .int .i64 C2, .int .i64 C3, .int .i64 C4, .int .i64 C5], 28⟩] : List Box) i a v W w') (i := 2) rfl rfl (run_op_load rfl t8 (run_load_geo (g := ⟨b, p, st⟩) (GW.out.since hw.below))) trivial ⟨rfl, (mv_refl (by kernel_rfl))⟩
      · intro listed a W H hw hl hd
        have t35 : a.tmps.getD 35 undef = .agg #[.int .i64 b, .int .i64 p, .int .i64 st] := H.get 2 35 (by kernel_rfl) (dep_of hd 2 (by kernel_rfl)) (fun _ e => by cases e)
        refine step2_call (R := fun _ _ _ => True) (F := fun i v w' => Known [some (.agg #[.int .i64 b, .int .i64 p, .int .i64 s]), some (.agg #[.int .i64 A0, .int .i64 A1, .int .i64 A2, .int .i64 A3, .int .i64 A4, .int .i64 A5]), some (.agg #[.int .i64 b, .int .i64 p, .int .i64 st]), some (.agg #[.int .i64 B0, .int .i64 B1, .int .i64 B2, .int .i64 B3, .int .i64 B4, .int .i64 B5]), some (.agg #[.int .i64 bt, .int .i64 p, .int .i64 s]), some (.agg #[.int .i64 C0, .int .i64 C1, .int .i64 C2, .int .i64 C3, .int .i64 C4, .int .i64 C5]), none, none, none, none, none, none] i v ∧ Mv ([⟨10, 6, 9, #[.int .i64 0, .int .i64 0, .int .i64 0, .int .i64 0, .int .i64 0, .int .i64 0], #[.int .i64 A0, .int .i64 A1, .int .i64 A2, .int .i64 A3, .int .i64 A4, .int .i64 A5], 28⟩, ⟨11, 7, 10, #[.int .i64 0, .int .i64 0, .int .i64 0, .int .i64 0, .int .i64 0, .int .i64 0], #[.int .i64 B0, .int .i64 B1, .int .i64 B2, .int .i64 B3, .int .i64 B4, .int .i64 B5], 28⟩, ⟨12, 8, 11, #[.int .i64 0, .int .i64 0, .int .i64 0, .int .i64 0, .int .i64 0, .int .i64 0], #[.int .i64 C0, .int .i64 C1, .int .i64 C2, .int .i64 C3, .int .i64 C4, .int .i64 C5], 28⟩] : List Box) i a v W w') (i := 3) rfl rfl (run_op_call (vs := #[.agg #[.int .i64 b, .int .i64 p, .int .i64 st]]) Try.func12 (by kernel_rfl) (by kernel_rfl) rfl (by simp only [List.map_toArray, List.map_cons, List.map_nil]; show #[a.tmps.getD 35 undef] = _; rw [t35])) ?_
        refine (cB.out W).mono ?_
        rintro e W2 ⟨rfl, hb⟩
        exact ⟨_, rfl, trivial, rfl, mv_later (by kernel_rfl) hb.out⟩
      · intro listed a W H hw hl hd
        have t9 : a.tmps.getD 9 undef = .pointer (some ⟨gb9, 0, none⟩) := (H.old 9 (by kernel_rfl)).trans rfl
        exact step2_value (R := fun _ _ _ => True) (F := fun i v w' => Known [some (.agg #[.int .i64 b, .int .i64 p, .int .i64 s]), some (.agg #[.int .i64 A0, .int .i64 A1, .int .i64 A2, .int .i64 A3, .int .i64 A4, .int .i64 A5]), some (.agg #[.int .i64 b, .int .i64 p, .int .i64 st]), some (.agg #[.int .i64 B0, .int .i64 B1, .int .i64 B2, .int .i64 B3, .int .i64 B4, .int .i64 B5]), some (.agg #[.int .i64 bt, .int .i64 p, .int .i64 s]), some (.agg #[.int .i64 C0, .int .i64 C1, .int .i64 C2, .int .i64 C3, .int .i64 C4, .int .i64 C5]), none, none, none, none, none, none] i v ∧ Mv ([⟨10, 6, 9, #[.int .i64 0, .int .i64 0, .int .i64 0, .int .i64 0, .int .i64 0, .int .i64 0], #[.int .i64 A0, .int .i64 A1, .int .i64 A2, .int .i64 A3, .int .i64 A4, .int .i64 A5], 28⟩, ⟨11, 7, 10, #[.int .i64 0, .int .i64 0, .int .i64 0, .int .i64 0, .int .i64 0, .int .i64 0], #[.int .i64 B0, .int .i64 B1, .int .i64 B2, .int .i64 B3, .int .i64 B4, .int .i64 B5], 28⟩, ⟨12, 8, 11, #[.int .i64 0, .int .i64 0, .int .i64 0, .int .i64 0, .int .i64 0, .int .i64 0], #[.int .i64 C0, .int .i64 C1, .int .i64 C2, .int .i64 C3, .int .i64 C4, .int .i64 C5], 28⟩] : List Box) i a v W w') (i := 4) rfl rfl (run_op_load rfl t9 (run_load_geo (g := ⟨bt, p, s⟩) (GT.out.since hw.below))) trivial ⟨rfl, (mv_refl (by kernel_rfl))⟩
      · intro listed a W H hw hl hd
        have t37 : a.tmps.getD 37 undef = .agg #[.int .i64 bt, .int .i64 p, .int .i64 s] := H.get 4 37 (by kernel_rfl) (dep_of hd 4 (by kernel_rfl)) (fun _ e => by cases e)
        refine step2_call (R := fun _ _ _ => True) (F := fun i v w' => Known [some (.agg #[.int .i64 b, .int .i64 p, .int .i64 s]), some (.agg #[.int .i64 A0, .int .i64 A1, .int .i64 A2, .int .i64 A3, .int .i64 A4, .int .i64 A5]), some (.agg #[.int .i64 b, .int .i64 p, .int .i64 st]), some (.agg #[.int .i64 B0, .int .i64 B1, .int .i64 B2, .int .i64 B3, .int .i64 B4, .int .i64 B5]), some (.agg #[.int .i64 bt, .int .i64 p, .int .i64 s]), some (.agg #[.int .i64 C0, .int .i64 C1, .int .i64 C2, .int .i64 C3, .int .i64 C4, .int .i64 C5]), none, none, none, none, none, none] i v ∧ Mv ([⟨10, 6, 9, #[.int .i64 0, .int .i64 0, .int .i64 0, .int .i64 0, .int .i64 0, .int .i64 0], #[.int .i64 A0, .int .i64 A1, .int .i64 A2, .int .i64 A3, .int .i64 A4, .int .i64 A5], 28⟩, ⟨11, 7, 10, #[.int .i64 0, .int .i64 0, .int .i64 0, .int .i64 0, .int .i64 0, .int .i64 0], #[.int .i64 B0, .int .i64 B1, .int .i64 B2, .int .i64 B3, .int .i64 B4, .int .i64 B5], 28⟩, ⟨12, 8, 11, #[.int .i64 0, .int .i64 0, .int .i64 0, .int .i64 0, .int .i64 0, .int .i64 0], #[.int .i64 C0, .int .i64 C1, .int .i64 C2, .int .i64 C3, .int .i64 C4, .int .i64 C5], 28⟩] : List Box) i a v W w') (i := 5) rfl rfl (run_op_call (vs := #[.agg #[.int .i64 bt, .int .i64 p, .int .i64 s]]) Try.func12 (by kernel_rfl) (by kernel_rfl) rfl (by simp only [List.map_toArray, List.map_cons, List.map_nil]; show #[a.tmps.getD 37 undef] = _; rw [t37])) ?_
        refine (cC.out W).mono ?_
        rintro e W2 ⟨rfl, hb⟩
        exact ⟨_, rfl, trivial, rfl, mv_later (by kernel_rfl) hb.out⟩
      · intro listed a W H hw hl hd
        exact step2_value (R := fun _ _ _ => True) (F := fun i v w' => Known [some (.agg #[.int .i64 b, .int .i64 p, .int .i64 s]), some (.agg #[.int .i64 A0, .int .i64 A1, .int .i64 A2, .int .i64 A3, .int .i64 A4, .int .i64 A5]), some (.agg #[.int .i64 b, .int .i64 p, .int .i64 st]), some (.agg #[.int .i64 B0, .int .i64 B1, .int .i64 B2, .int .i64 B3, .int .i64 B4, .int .i64 B5]), some (.agg #[.int .i64 bt, .int .i64 p, .int .i64 s]), some (.agg #[.int .i64 C0, .int .i64 C1, .int .i64 C2, .int .i64 C3, .int .i64 C4, .int .i64 C5]), none, none, none, none, none, none] i v ∧ Mv ([⟨10, 6, 9, #[.int .i64 0, .int .i64 0, .int .i64 0, .int .i64 0, .int .i64 0, .int .i64 0], #[.int .i64 A0, .int .i64 A1, .int .i64 A2, .int .i64 A3, .int .i64 A4, .int .i64 A5], 28⟩, ⟨11, 7, 10, #[.int .i64 0, .int .i64 0, .int .i64 0, .int .i64 0, .int .i64 0, .int .i64 0], #[.int .i64 B0, .int .i64 B1, .int .i64 B2, .int .i64 B3, .int .i64 B4, .int .i64 B5], 28⟩, ⟨12, 8, 11, #[.int .i64 0, .int .i64 0, .int .i64 0, .int .i64 0, .int .i64 0, .int .i64 0], #[.int .i64 C0, .int .i64 C1, .int .i64 C2, .int .i64 C3, .int .i64 C4, .int .i64 C5], 28⟩] : List Box) i a v W w') (i := 6) rfl rfl (run_op_alloc rfl (run_alloc_nums9 W)) trivial ⟨trivial, mv_make (by kernel_rfl) (by intro x hx e; simp at hx; rcases hx with rfl | rfl | rfl <;> first | exact ⟨rfl, rfl⟩ | (simp at e)) (later_alloc _ _) (Nat.le_refl _) (RowC.new W _ _)⟩
      · intro listed a W H hw hl hd
        exact step2_value (R := fun _ _ _ => True) (F := fun i v w' => Known [some (.agg #[.int .i64 b, .int .i64 p, .int .i64 s]), some (.agg #[.int .i64 A0, .int .i64 A1, .int .i64 A2, .int .i64 A3, .int .i64 A4, .int .i64 A5]), some (.agg #[.int .i64 b, .int .i64 p, .int .i64 st]), some (.agg #[.int .i64 B0, .int .i64 B1, .int .i64 B2, .int .i64 B3, .int .i64 B4, .int .i64 B5]), some (.agg #[.int .i64 bt, .int .i64 p, .int .i64 s]), some (.agg #[.int .i64 C0, .int .i64 C1, .int .i64 C2, .int .i64 C3, .int .i64 C4, .int .i64 C5]), none, none, none, none, none, none] i v ∧ Mv ([⟨10, 6, 9, #[.int .i64 0, .int .i64 0, .int .i64 0, .int .i64 0, .int .i64 0, .int .i64 0], #[.int .i64 A0, .int .i64 A1, .int .i64 A2, .int .i64 A3, .int .i64 A4, .int .i64 A5], 28⟩, ⟨11, 7, 10, #[.int .i64 0, .int .i64 0, .int .i64 0, .int .i64 0, .int .i64 0, .int .i64 0], #[.int .i64 B0, .int .i64 B1, .int .i64 B2, .int .i64 B3, .int .i64 B4, .int .i64 B5], 28⟩, ⟨12, 8, 11, #[.int .i64 0, .int .i64 0, .int .i64 0, .int .i64 0, .int .i64 0, .int .i64 0], #[.int .i64 C0, .int .i64 C1, .int .i64 C2, .int .i64 C3, .int .i64 C4, .int .i64 C5], 28⟩] : List Box) i a v W w') (i := 7) rfl rfl (run_op_alloc rfl (run_alloc_nums9 W)) trivial ⟨trivial, mv_make (by kernel_rfl) (by intro x hx e; simp at hx; rcases hx with rfl | rfl | rfl <;> first | exact ⟨rfl, rfl⟩ | (simp at e)) (later_alloc _ _) (Nat.le_refl _) (RowC.new W _ _)⟩
      · intro listed a W H hw hl hd
        exact step2_value (R := fun _ _ _ => True) (F := fun i v w' => Known [some (.agg #[.int .i64 b, .int .i64 p, .int .i64 s]), some (.agg #[.int .i64 A0, .int .i64 A1, .int .i64 A2, .int .i64 A3, .int .i64 A4, .int .i64 A5]), some (.agg #[.int .i64 b, .int .i64 p, .int .i64 st]), some (.agg #[.int .i64 B0, .int .i64 B1, .int .i64 B2, .int .i64 B3, .int .i64 B4, .int .i64 B5]), some (.agg #[.int .i64 bt, .int .i64 p, .int .i64 s]), some (.agg #[.int .i64 C0, .int .i64 C1, .int .i64 C2, .int .i64 C3, .int .i64 C4, .int .i64 C5]), none, none, none, none, none, none] i v ∧ Mv ([⟨10, 6, 9, #[.int .i64 0, .int .i64 0, .int .i64 0, .int .i64 0, .int .i64 0, .int .i64 0], #[.int .i64 A0, .int .i64 A1, .int .i64 A2, .int .i64 A3, .int .i64 A4, .int .i64 A5], 28⟩, ⟨11, 7, 10, #[.int .i64 0, .int .i64 0, .int .i64 0, .int .i64 0, .int .i64 0, .int .i64 0], #[.int .i64 B0, .int .i64 B1, .int .i64 B2, .int .i64 B3, .int .i64 B4, .int .i64 B5], 28⟩, ⟨12, 8, 11, #[.int .i64 0, .int .i64 0, .int .i64 0, .int .i64 0, .int .i64 0, .int .i64 0], #[.int .i64 C0, .int .i64 C1, .int .i64 C2, .int .i64 C3, .int .i64 C4, .int .i64 C5], 28⟩] : List Box) i a v W w') (i := 8) rfl rfl (run_op_alloc rfl (run_alloc_nums9 W)) trivial ⟨trivial, mv_make (by kernel_rfl) (by intro x hx e; simp at hx; rcases hx with rfl | rfl | rfl <;> first | exact ⟨rfl, rfl⟩ | (simp at e)) (later_alloc _ _) (Nat.le_refl _) (RowC.new W _ _)⟩
      · intro listed a W H hw hl hd
        have t34 : a.tmps.getD 34 undef = .agg #[.int .i64 A0, .int .i64 A1, .int .i64 A2, .int .i64 A3, .int .i64 A4, .int .i64 A5] := H.get 1 34 (by kernel_rfl) (dep_of hd 1 (by kernel_rfl)) (fun _ e => by cases e)
        obtain ⟨gb, e0, _, r⟩ := hw.made (⟨10, 6, 9, #[.int .i64 0, .int .i64 0, .int .i64 0, .int .i64 0, .int .i64 0, .int .i64 0], #[.int .i64 A0, .int .i64 A1, .int .i64 A2, .int .i64 A3, .int .i64 A4, .int .i64 A5], 28⟩ : Box) (by simp) (dep_of hd 6 (by kernel_rfl))
        have hlf : listed.getD 9 false = false := by
          have := H.len
          by_cases hh : 9 < listed.size
          · simp [hh] at hl ⊢; exact hl
          · simp [hh]
        rw [show listed.getD ((⟨10, 6, 9, #[.int .i64 0, .int .i64 0, .int .i64 0, .int .i64 0, .int .i64 0, .int .i64 0], #[.int .i64 A0, .int .i64 A1, .int .i64 A2, .int .i64 A3, .int .i64 A4, .int .i64 A5], 28⟩ : Box) : Box).i1 false = false from hlf] at r
        exact step2_done (R := fun _ _ _ => True) (F := fun i v w' => Known [some (.agg #[.int .i64 b, .int .i64 p, .int .i64 s]), some (.agg #[.int .i64 A0, .int .i64 A1, .int .i64 A2, .int .i64 A3, .int .i64 A4, .int .i64 A5]), some (.agg #[.int .i64 b, .int .i64 p, .int .i64 st]), some (.agg #[.int .i64 B0, .int .i64 B1, .int .i64 B2, .int .i64 B3, .int .i64 B4, .int .i64 B5]), some (.agg #[.int .i64 bt, .int .i64 p, .int .i64 s]), some (.agg #[.int .i64 C0, .int .i64 C1, .int .i64 C2, .int .i64 C3, .int .i64 C4, .int .i64 C5]), none, none, none, none, none, none] i v ∧ Mv ([⟨10, 6, 9, #[.int .i64 0, .int .i64 0, .int .i64 0, .int .i64 0, .int .i64 0, .int .i64 0], #[.int .i64 A0, .int .i64 A1, .int .i64 A2, .int .i64 A3, .int .i64 A4, .int .i64 A5], 28⟩, ⟨11, 7, 10, #[.int .i64 0, .int .i64 0, .int .i64 0, .int .i64 0, .int .i64 0, .int .i64 0], #[.int .i64 B0, .int .i64 B1, .int .i64 B2, .int .i64 B3, .int .i64 B4, .int .i64 B5], 28⟩, ⟨12, 8, 11, #[.int .i64 0, .int .i64 0, .int .i64 0, .int .i64 0, .int .i64 0, .int .i64 0], #[.int .i64 C0, .int .i64 C1, .int .i64 C2, .int .i64 C3, .int .i64 C4, .int .i64 C5], 28⟩] : List Box) i a v W w') (i := 9) rfl rfl rfl (run_op_store rfl e0 t34 (run_store_nums9 r ⟨A0, A1, A2, A3, A4, A5⟩)) trivial ⟨trivial, mv_write (x := (⟨10, 6, 9, #[.int .i64 0, .int .i64 0, .int .i64 0, .int .i64 0, .int .i64 0, .int .i64 0], #[.int .i64 A0, .int .i64 A1, .int .i64 A2, .int .i64 A3, .int .i64 A4, .int .i64 A5], 28⟩ : Box)) (by simp) (by kernel_rfl) rfl (by intro y hy e; simp at hy; rcases hy with rfl | rfl | rfl <;> first | rfl | (simp at e)) e0 (putN_else9 W gb ⟨A0, A1, A2, A3, A4, A5⟩) (row_putN9 r ⟨A0, A1, A2, A3, A4, A5⟩)⟩
      · intro listed a W H hw hl hd
        have t36 : a.tmps.getD 36 undef = .agg #[.int .i64 B0, .int .i64 B1, .int .i64 B2, .int .i64 B3, .int .i64 B4, .int .i64 B5] := H.get 3 36 (by kernel_rfl) (dep_of hd 3 (by kernel_rfl)) (fun _ e => by cases e)
        obtain ⟨gb, e0, _, r⟩ := hw.made (⟨11, 7, 10, #[.int .i64 0, .int .i64 0, .int .i64 0, .int .i64 0, .int .i64 0, .int .i64 0], #[.int .i64 B0, .int .i64 B1, .int .i64 B2, .int .i64 B3, .int .i64 B4, .int .i64 B5], 28⟩ : Box) (by simp) (dep_of hd 7 (by kernel_rfl))
        have hlf : listed.getD 10 false = false := by
          have := H.len
          by_cases hh : 10 < listed.size
          · simp [hh] at hl ⊢; exact hl
          · simp [hh]
        rw [show listed.getD ((⟨11, 7, 10, #[.int .i64 0, .int .i64 0, .int .i64 0, .int .i64 0, .int .i64 0, .int .i64 0], #[.int .i64 B0, .int .i64 B1, .int .i64 B2, .int .i64 B3, .int .i64 B4, .int .i64 B5], 28⟩ : Box) : Box).i1 false = false from hlf] at r
        exact step2_done (R := fun _ _ _ => True) (F := fun i v w' => Known [some (.agg #[.int .i64 b, .int .i64 p, .int .i64 s]), some (.agg #[.int .i64 A0, .int .i64 A1, .int .i64 A2, .int .i64 A3, .int .i64 A4, .int .i64 A5]), some (.agg #[.int .i64 b, .int .i64 p, .int .i64 st]), some (.agg #[.int .i64 B0, .int .i64 B1, .int .i64 B2, .int .i64 B3, .int .i64 B4, .int .i64 B5]), some (.agg #[.int .i64 bt, .int .i64 p, .int .i64 s]), some (.agg #[.int .i64 C0, .int .i64 C1, .int .i64 C2, .int .i64 C3, .int .i64 C4, .int .i64 C5]), none, none, none, none, none, none] i v ∧ Mv ([⟨10, 6, 9, #[.int .i64 0, .int .i64 0, .int .i64 0, .int .i64 0, .int .i64 0, .int .i64 0], #[.int .i64 A0, .int .i64 A1, .int .i64 A2, .int .i64 A3, .int .i64 A4, .int .i64 A5], 28⟩, ⟨11, 7, 10, #[.int .i64 0, .int .i64 0, .int .i64 0, .int .i64 0, .int .i64 0, .int .i64 0], #[.int .i64 B0, .int .i64 B1, .int .i64 B2, .int .i64 B3, .int .i64 B4, .int .i64 B5], 28⟩, ⟨12, 8, 11, #[.int .i64 0, .int .i64 0, .int .i64 0, .int .i64 0, .int .i64 0, .int .i64 0], #[.int .i64 C0, .int .i64 C1, .int .i64 C2, .int .i64 C3, .int .i64 C4, .int .i64 C5], 28⟩] : List Box) i a v W w') (i := 10) rfl rfl rfl (run_op_store rfl e0 t36 (run_store_nums9 r ⟨B0, B1, B2, B3, B4, B5⟩)) trivial ⟨trivial, mv_write (x := (⟨11, 7, 10, #[.int .i64 0, .int .i64 0, .int .i64 0, .int .i64 0, .int .i64 0, .int .i64 0], #[.int .i64 B0, .int .i64 B1, .int .i64 B2, .int .i64 B3, .int .i64 B4, .int .i64 B5], 28⟩ : Box)) (by simp) (by kernel_rfl) rfl (by intro y hy e; simp at hy; rcases hy with rfl | rfl | rfl <;> first | rfl | (simp at e)) e0 (putN_else9 W gb ⟨B0, B1, B2, B3, B4, B5⟩) (row_putN9 r ⟨B0, B1, B2, B3, B4, B5⟩)⟩
      · intro listed a W H hw hl hd
        have t38 : a.tmps.getD 38 undef = .agg #[.int .i64 C0, .int .i64 C1, .int .i64 C2, .int .i64 C3, .int .i64 C4, .int .i64 C5] := H.get 5 38 (by kernel_rfl) (dep_of hd 5 (by kernel_rfl)) (fun _ e => by cases e)
        obtain ⟨gb, e0, _, r⟩ := hw.made (⟨12, 8, 11, #[.int .i64 0, .int .i64 0, .int .i64 0, .int .i64 0, .int .i64 0, .int .i64 0], #[.int .i64 C0, .int .i64 C1, .int .i64 C2, .int .i64 C3, .int .i64 C4, .int .i64 C5], 28⟩ : Box) (by simp) (dep_of hd 8 (by kernel_rfl))
        have hlf : listed.getD 11 false = false := by
          have := H.len
          by_cases hh : 11 < listed.size
          · simp [hh] at hl ⊢; exact hl
          · simp [hh]
        rw [show listed.getD ((⟨12, 8, 11, #[.int .i64 0, .int .i64 0, .int .i64 0, .int .i64 0, .int .i64 0, .int .i64 0], #[.int .i64 C0, .int .i64 C1, .int .i64 C2, .int .i64 C3, .int .i64 C4, .int .i64 C5], 28⟩ : Box) : Box).i1 false = false from hlf] at r
        exact step2_done (R := fun _ _ _ => True) (F := fun i v w' => Known [some (.agg #[.int .i64 b, .int .i64 p, .int .i64 s]), some (.agg #[.int .i64 A0, .int .i64 A1, .int .i64 A2, .int .i64 A3, .int .i64 A4, .int .i64 A5]), some (.agg #[.int .i64 b, .int .i64 p, .int .i64 st]), some (.agg #[.int .i64 B0, .int .i64 B1, .int .i64 B2, .int .i64 B3, .int .i64 B4, .int .i64 B5]), some (.agg #[.int .i64 bt, .int .i64 p, .int .i64 s]), some (.agg #[.int .i64 C0, .int .i64 C1, .int .i64 C2, .int .i64 C3, .int .i64 C4, .int .i64 C5]), none, none, none, none, none, none] i v ∧ Mv ([⟨10, 6, 9, #[.int .i64 0, .int .i64 0, .int .i64 0, .int .i64 0, .int .i64 0, .int .i64 0], #[.int .i64 A0, .int .i64 A1, .int .i64 A2, .int .i64 A3, .int .i64 A4, .int .i64 A5], 28⟩, ⟨11, 7, 10, #[.int .i64 0, .int .i64 0, .int .i64 0, .int .i64 0, .int .i64 0, .int .i64 0], #[.int .i64 B0, .int .i64 B1, .int .i64 B2, .int .i64 B3, .int .i64 B4, .int .i64 B5], 28⟩, ⟨12, 8, 11, #[.int .i64 0, .int .i64 0, .int .i64 0, .int .i64 0, .int .i64 0, .int .i64 0], #[.int .i64 C0, .int .i64 C1, .int .i64 C2, .int .i64 C3, .int .i64 C4, .int .i64 C5], 28⟩] : List Box) i a v W w') (i := 11) rfl rfl rfl (run_op_store rfl e0 t38 (run_store_nums9 r ⟨C0, C1, C2, C3, C4, C5⟩)) trivial ⟨trivial, mv_write (x := (⟨12, 8, 11, #[.int .i64 0, .int .i64 0, .int .i64 0, .int .i64 0, .int .i64 0, .int .i64 0], #[.int .i64 C0, .int .i64 C1, .int .i64 C2, .int .i64 C3, .int .i64 C4, .int .i64 C5], 28⟩ : Box)) (by simp) (by kernel_rfl) rfl (by intro y hy e; simp at hy; rcases hy with rfl | rfl | rfl <;> first | rfl | (simp at e)) e0 (putN_else9 W gb ⟨C0, C1, C2, C3, C4, C5⟩) (row_putN9 r ⟨C0, C1, C2, C3, C4, C5⟩)⟩
    · intro a WK listed hdef hsz hinv hall0 hall hact
      obtain ⟨gb10, e10, l10, hr10⟩ := hinv.made (⟨10, 6, 9, #[.int .i64 0, .int .i64 0, .int .i64 0, .int .i64 0, .int .i64 0, .int .i64 0], #[.int .i64 A0, .int .i64 A1, .int .i64 A2, .int .i64 A3, .int .i64 A4, .int .i64 A5], 28⟩ : Box) (by simp) (hall0 6 (by decide))
      rw [show listed.getD (⟨10, 6, 9, #[.int .i64 0, .int .i64 0, .int .i64 0, .int .i64 0, .int .i64 0, .int .i64 0], #[.int .i64 A0, .int .i64 A1, .int .i64 A2, .int .i64 A3, .int .i64 A4, .int .i64 A5], 28⟩ : Box).i1 false = true from hall0 9 (by decide)] at hr10
      have HR10 : Hid (RowC WK gb10 #[.int .i64 A0, .int .i64 A1, .int .i64 A2, .int .i64 A3, .int .i64 A4, .int .i64 A5] 28) := hr10
      obtain ⟨gb11, e11, l11, hr11⟩ := hinv.made (⟨11, 7, 10, #[.int .i64 0, .int .i64 0, .int .i64 0, .int .i64 0, .int .i64 0, .int .i64 0], #[.int .i64 B0, .int .i64 B1, .int .i64 B2, .int .i64 B3, .int .i64 B4, .int .i64 B5], 28⟩ : Box) (by simp) (hall0 7 (by decide))
      rw [show listed.getD (⟨11, 7, 10, #[.int .i64 0, .int .i64 0, .int .i64 0, .int .i64 0, .int .i64 0, .int .i64 0], #[.int .i64 B0, .int .i64 B1, .int .i64 B2, .int .i64 B3, .int .i64 B4, .int .i64 B5], 28⟩ : Box).i1 false = true from hall0 10 (by decide)] at hr11
      have HR11 : Hid (RowC WK gb11 #[.int .i64 B0, .int .i64 B1, .int .i64 B2, .int .i64 B3, .int .i64 B4, .int .i64 B5] 28) := hr11
      obtain ⟨gb12, e12, l12, hr12⟩ := hinv.made (⟨12, 8, 11, #[.int .i64 0, .int .i64 0, .int .i64 0, .int .i64 0, .int .i64 0, .int .i64 0], #[.int .i64 C0, .int .i64 C1, .int .i64 C2, .int .i64 C3, .int .i64 C4, .int .i64 C5], 28⟩ : Box) (by simp) (hall0 8 (by decide))
      rw [show listed.getD (⟨12, 8, 11, #[.int .i64 0, .int .i64 0, .int .i64 0, .int .i64 0, .int .i64 0, .int .i64 0], #[.int .i64 C0, .int .i64 C1, .int .i64 C2, .int .i64 C3, .int .i64 C4, .int .i64 C5], 28⟩ : Box).i1 false = true from hall0 11 (by decide)] at hr12
      have HR12 : Hid (RowC WK gb12 #[.int .i64 C0, .int .i64 C1, .int .i64 C2, .int .i64 C3, .int .i64 C4, .int .i64 C5] 28) := hr12
      have HN10_11 : ¬ gb10 = gb11 := fun e => hinv.apart (⟨10, 6, 9, #[.int .i64 0, .int .i64 0, .int .i64 0, .int .i64 0, .int .i64 0, .int .i64 0], #[.int .i64 A0, .int .i64 A1, .int .i64 A2, .int .i64 A3, .int .i64 A4, .int .i64 A5], 28⟩ : Box) (by simp) (⟨11, 7, 10, #[.int .i64 0, .int .i64 0, .int .i64 0, .int .i64 0, .int .i64 0, .int .i64 0], #[.int .i64 B0, .int .i64 B1, .int .i64 B2, .int .i64 B3, .int .i64 B4, .int .i64 B5], 28⟩ : Box) (by simp) (by simp) (hall0 6 (by decide)) (hall0 7 (by decide)) (by rw [e10, e11, e])
      have HN10_12 : ¬ gb10 = gb12 := fun e => hinv.apart (⟨10, 6, 9, #[.int .i64 0, .int .i64 0, .int .i64 0, .int .i64 0, .int .i64 0, .int .i64 0], #[.int .i64 A0, .int .i64 A1, .int .i64 A2, .int .i64 A3, .int .i64 A4, .int .i64 A5], 28⟩ : Box) (by simp) (⟨12, 8, 11, #[.int .i64 0, .int .i64 0, .int .i64 0, .int .i64 0, .int .i64 0, .int .i64 0], #[.int .i64 C0, .int .i64 C1, .int .i64 C2, .int .i64 C3, .int .i64 C4, .int .i64 C5], 28⟩ : Box) (by simp) (by simp) (hall0 6 (by decide)) (hall0 8 (by decide)) (by rw [e10, e12, e])
      have HN11_12 : ¬ gb11 = gb12 := fun e => hinv.apart (⟨11, 7, 10, #[.int .i64 0, .int .i64 0, .int .i64 0, .int .i64 0, .int .i64 0, .int .i64 0], #[.int .i64 B0, .int .i64 B1, .int .i64 B2, .int .i64 B3, .int .i64 B4, .int .i64 B5], 28⟩ : Box) (by simp) (⟨12, 8, 11, #[.int .i64 0, .int .i64 0, .int .i64 0, .int .i64 0, .int .i64 0, .int .i64 0], #[.int .i64 C0, .int .i64 C1, .int .i64 C2, .int .i64 C3, .int .i64 C4, .int .i64 C5], 28⟩ : Box) (by simp) (by simp) (hall0 7 (by decide)) (hall0 8 (by decide)) (by rw [e11, e12, e])
      have HBL := Lib.hid hinv.below
      obtain ⟨u, hu⟩ : ∃ u : Nat → Value, ∀ k, a.tmps.getD k undef = u k := ⟨_, fun _ => rfl⟩
      rw [hu] at e10 e11 e12
      dsimp only at e10 e11 e12
      simp only [hu] at hact
      have hact' : a = ([33, 34, 35, 36, 37, 38, 10, 11, 12] : List Nat).foldl (fun b k => b.put (some k) (u k)) _ := hact
      simp only [List.foldl] at hact'
      simp only [Act.put, List.setIfInBounds_toArray, List.set_cons_succ, List.set_cons_zero] at hact'
      rw [e10, e11, e12] at hact'
      have HAC := Lib.hid hact'
      have HL10 : Hid (WE.drew.heap.size ≤ gb10) := l10
      have HL11 : Hid (WE.drew.heap.size ≤ gb11) := l11
      have HL12 : Hid (WE.drew.heap.size ≤ gb12) := l12
      clear hu hact hact' hall hall0 hdef hsz hinv e10 l10 hr10 e11 l11 hr11 e12 l12 hr12
      have SK := Lib.hid (below_chain SF.out HBL.out)
      have GK := Lib.hid (GF.out.since HBL.out)
      clear SF GF GW GT SE GE A8 A9 HBL HL10 HL11 HL12 HN10_11 HN10_12 HN11_12 cA cB cC
      obtain ⟨q0, q1, q2, _⟩ := GK.out
      dsimp only at q0 q1 q2
      have a0' : WK.cell? ⟨gb10, 0, none⟩ = some (.int .i64 A0) := HR10.out.cell 0
      have a1' : WK.cell? ⟨gb10, 1, none⟩ = some (.int .i64 A1) := HR10.out.cell 1
      have a2' : WK.cell? ⟨gb10, 2, none⟩ = some (.int .i64 A2) := HR10.out.cell 2
      have a4' : WK.cell? ⟨gb10, 4, none⟩ = some (.int .i64 A4) := HR10.out.cell 4
      have a5' : WK.cell? ⟨gb10, 5, none⟩ = some (.int .i64 A5) := HR10.out.cell 5
      have b1' : WK.cell? ⟨gb11, 1, none⟩ = some (.int .i64 B1) := HR11.out.cell 1
      have b2' : WK.cell? ⟨gb11, 2, none⟩ = some (.int .i64 B2) := HR11.out.cell 2
      have b4' : WK.cell? ⟨gb11, 4, none⟩ = some (.int .i64 B4) := HR11.out.cell 4
      have c0' : WK.cell? ⟨gb12, 0, none⟩ = some (.int .i64 C0) := HR12.out.cell 0
      have c2' : WK.cell? ⟨gb12, 2, none⟩ = some (.int .i64 C2) := HR12.out.cell 2
      have m2' := m2.symm
      clear m2
      rw [HAC.out]
      go_wp2_with fail
      refine (awake_any _).mono ?_
      rintro e' W9 ⟨rfl, hb9⟩
      have S9 := Lib.hid (below_chain SK.out hb9.out)
      clear q0 q1 q2 a0' a1' a2' a4' a5' b1' b2' b4' c0' c2'
      go_wp2_with fail
      go_ret
      exact ⟨rfl, S9⟩
end Go.Proofs.Ytgdnpgijaijlhaa
