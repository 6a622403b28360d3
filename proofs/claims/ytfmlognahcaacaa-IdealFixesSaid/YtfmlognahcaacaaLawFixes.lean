/- IdealFixes: true, whatever its arguments are. No conditions. -/
import Derived.Test.YtfmlognahcaacaaFixMath
set_option linter.unusedVariables false
set_option linter.unusedSimpArgs false
set_option maxRecDepth 20000
namespace Go.Proofs.Ytfmlognahcaacaa
open Go.RowKit

/-- Another ideal that lies apart. -/
def IdRest (fp : Nat → Prop) (w : World) (base : Nat) (fq : Nat → Prop) (o : Nat) (s : IS) : Prop := IdAt w base fq o s ∧ ∀ b, fq b → ¬ fp b
theorem IdRest.step {fp fp' fq : Nat → Prop} {w w' : World} {base o : Nat} {s : IS} (h : IdRest fp w base fq o s) (hm : Moves w fp w' fp') : IdRest fp' w' base fq o s :=
  ⟨h.1.turn hm.turn h.2, fun b hb hf => by
    rcases hm.grows b hf with h1 | h1
    · exact h.2 b hb h1
    · have := h.1.lt b hb; omega⟩
theorem IdRest.since {fp fq : Nat → Prop} {w w' : World} {base o : Nat} {s : IS} (h : IdRest fp w base fq o s) (hb : Below w.heap.size w w') : IdRest fp w' base fq o s := h.step (Moves.of_below hb)
theorem idrest_new {fp fq : Nat → Prop} {w w' : World} {o : Nat} {s : IS} (h : IdAt w' w.heap.size fq o s) (hf : ∀ b, fp b → b < w.heap.size) : IdRest fp w' w.heap.size fq o s :=
  ⟨h, fun b hb hfb => by have h1 := h.ge b hb; have h2 := hf b hfb; omega⟩
theorem copy_at {w : World} {base o : Nat} {fp : Nat → Prop} {s : IS} (h : IdAt w base fp o s) (hks : s.ks.length ≤ 900) (hlen : ∀ a, (s.f a).length ≤ 400) : Calls Try.prog 27 #[.pointer (some ⟨o, 0, none⟩)] w (CopyOut w s) := by
  obtain ⟨L, hL⟩ := h
  exact copy_any hL hks hlen
set_option maxHeartbeats 8000000 in
theorem fixes_same (a xa xb : Int) (sec : Bool) (w : World) (he : xa.tmod 1073741824 = xb.tmod 1073741824) : Calls Try.prog 4 #[.int .u64 a, .int .i64 xa, .int .i64 xb, .bool sec] w (SaysB w true) := by
  go_enter Try.func4, Try.ntmps4
  go_wp2_with fail
  refine (new_yes18 128 (by decide) (by decide) w).mono ?_
  rintro e W0 ⟨o, fp, rfl, hI, hB⟩
  have S0 := Lib.hid hB.out
  clear hI hB
  go_wp2_with fail
  refine (awake18_any W0).mono ?_
  rintro e W1 ⟨rfl, hB⟩
  have S1 := Lib.hid (below_chain S0.out hB.out)
  clear hB S0
  go_wp2_with fail
  go_ret
  exact ⟨rfl, S1⟩
theorem same_at (A A' : Option Addr) (n n' c c' : Nat) (bs cs : List Nat) (b : Bool) (w : World) (hn : n ≤ 300) (hn' : n' ≤ 300) (hA : Bytes w w.heap.size A n bs) (hA' : Bytes w w.heap.size A' n' cs) (hb : decide (bs = cs) = b) :
    Calls Try.prog 26 #[.slice A n c, .slice A' n' c'] w fun e w' => e = .returned (.bool b) ∧ Below w.heap.size w w' := by
  rw [← hb]
  exact same_any A A' n n' c c' bs cs w (by omega) (by omega) hA hA'
set_option maxHeartbeats 8000000 in
theorem fixes_equal (a xa xb : Int) (sec : Bool) (w : World) (X : List Nat) (HX : Hid (fillL xa 128 = X)) (HY : Hid (fillL xb 128 = X)) (HL : Hid (X.length = 128)) (he : ¬ xa.tmod 1073741824 = xb.tmod 1073741824) : Calls Try.prog 4 #[.int .u64 a, .int .i64 xa, .int .i64 xb, .bool sec] w (SaysB w true) := by
  go_enter Try.func4, Try.ntmps4
  go_wp2_with fail
  refine (new_yes18 128 (by decide) (by decide) w).mono ?_
  rintro e W0 ⟨o, fp, rfl, hI, hB⟩
  have S0 := Lib.hid hB.out
  clear hI hB
  go_wp2_with fail
  refine (fill_any xa 128 W0 (by decide)).mono ?_
  rw [HX.out]
  rintro e W1 ⟨A1, n1, c1, rfl, hO, hB⟩
  obtain rfl : 128 = n1 := by rw [← hO.len, HL.out]
  have S1 := Lib.hid (below_chain S0.out hB)
  have O1 := Lib.hid hO
  clear hO hB S0
  go_wp2_with fail
  refine (fill_any xb 128 W1 (by decide)).mono ?_
  rw [HY.out]
  rintro e W2 ⟨A2, n2, c2, rfl, hO, hB⟩
  obtain rfl : 128 = n2 := by rw [← hO.len, HL.out]
  have S2 := Lib.hid (below_chain S1.out hB)
  have O2 := Lib.hid hO
  have O1 := Lib.hid (O1.out.since hB)
  clear hO hB S1
  go_wp2_with fail
  refine (same_at A1 A2 128 128 c1 c2 X X true W2 (by decide) (by decide) O1.out.bytes O2.out.bytes (decide_eq_true rfl)).mono ?_
  rintro e W3 ⟨rfl, hB⟩
  have S3 := Lib.hid (below_chain S2.out hB)
  have O1 := Lib.hid (O1.out.since hB)
  have O2 := Lib.hid (O2.out.since hB)
  clear hB S2
  go_wp2_with fail
  refine (same_at A1 A2 128 128 c1 c2 X X true W3 (by decide) (by decide) O1.out.bytes O2.out.bytes (decide_eq_true rfl)).mono ?_
  rintro e W4 ⟨rfl, hB⟩
  have S4 := Lib.hid (below_chain S3.out hB)
  clear hB S3 O1 O2
  go_wp2_with fail
  refine (awake18_any W4).mono ?_
  rintro e W1 ⟨rfl, hB⟩
  have S5 := Lib.hid (below_chain S4.out hB.out)
  clear hB S4
  go_wp2_with fail
  go_ret
  exact ⟨rfl, S5⟩
set_option maxHeartbeats 8000000 in
theorem fixes_first (a xa xb : Int) (w : World) (X Y : List Nat) (s1 s2 s3 s5 s6 : IS) (HX : Hid (fillL xa 128 = X)) (HY : Hid (fillL xb 128 = Y)) (HLX : Hid (X.length = 128)) (HLY : Hid (Y.length = 128)) (HNE : Hid (decide (X = Y) = false)) (HA : Hid (U64 a)) (HM : Hid (FixM a X Y X Y s1 s2 s3 s5 s6)) (he : ¬ xa.tmod 1073741824 = xb.tmod 1073741824) : Calls Try.prog 4 #[.int .u64 a, .int .i64 xa, .int .i64 xb, .bool false] w (SaysB w true) := by
  obtain ⟨s4, ht4, hb4, ht5⟩ := HM.out.t4b
  have HT4 := Lib.hid ht4
  have HB4 := Lib.hid hb4
  have HT5 := Lib.hid ht5
  clear ht4 hb4 ht5
  go_enter Try.func4, Try.ntmps4
  go_wp2_with fail
  refine (new_yes18 128 (by decide) (by decide) w).mono ?_
  rintro e W0 ⟨o, fp, rfl, hI, hB⟩
  have S0 := Lib.hid hB.out
  have I0 := Lib.hid hI.out
  clear hI hB
  go_wp2_with fail
  refine (fill_any xa 128 W0 (by decide)).mono ?_
  rw [HX.out]
  rintro e W1 ⟨A1, n1, c1, rfl, hO, hB⟩
  obtain rfl : 128 = n1 := by rw [← hO.len, HLX.out]
  have S1 := Lib.hid (below_chain S0.out hB)
  have Z1 := Lib.hid (Rest.new hO I0.out.lt)
  have I1 := Lib.hid (I0.out.since hB)
  clear hO hB S0 I0
  go_wp2_with fail
  refine (fill_any xb 128 W1 (by decide)).mono ?_
  rw [HY.out]
  rintro e W2 ⟨A2, n2, c2, rfl, hO, hB⟩
  obtain rfl : 128 = n2 := by rw [← hO.len, HLY.out]
  have S2 := Lib.hid (below_chain S1.out hB)
  have Z2 := Lib.hid (Rest.new hO I1.out.lt)
  have Z1 := Lib.hid (Z1.out.since hB)
  have I2 := Lib.hid (I1.out.since hB)
  clear hO hB S1 I1
  go_wp2_with fail
  refine (same_at A1 A2 128 128 c1 c2 X Y false W2 (by decide) (by decide) Z1.out.own.bytes Z2.out.own.bytes HNE.out).mono ?_
  rintro e W3 ⟨rfl, hB⟩
  have S3 := Lib.hid (below_chain S2.out hB)
  have Z1 := Lib.hid (Z1.out.since hB)
  have Z2 := Lib.hid (Z2.out.since hB)
  have I3 := Lib.hid (I2.out.since hB)
  clear hB S2 I2
  go_wp2_with fail
  refine (take_at I3.out ⟨1, a, A1, 128, c1, 0⟩ ⟨1, 0, none, 0, 0, false, none, 0, 0⟩ X [] _ HM.out.t1 HA.out Z1.out.own.bytes Bytes.none_ (by show 1 ≤ 400; decide) (by show 0 ≤ 900; decide) rfl).mono ?_
  rintro e W4 ⟨rfl, fp4, hI, hM⟩
  have S4 := Lib.hid (hM.out.below S3.out I3.out.ge S3.out.size)
  have Z1 := Lib.hid (Z1.out.step hM.out)
  have Z2 := Lib.hid (Z2.out.step hM.out)
  have I4 := Lib.hid hI.out
  clear hI hM S3 I3
  go_wp2_with fail
  refine (take_at I4.out ⟨1, a, A2, 128, c2, 0⟩ ⟨4, 4, none, 0, 0, false, none, 0, 0⟩ Y [] _ HM.out.t2 HA.out Z2.out.own.bytes Bytes.none_ (Nat.le_trans (HM.out.b1.l a) (by decide)) (Nat.le_trans HM.out.b1.k (by decide)) rfl).mono ?_
  rintro e W5 ⟨rfl, fp5, hI, hM⟩
  have S5 := Lib.hid (hM.out.below S4.out I4.out.ge S4.out.size)
  have Z1 := Lib.hid (Z1.out.step hM.out)
  have Z2 := Lib.hid (Z2.out.step hM.out)
  have I5 := Lib.hid hI.out
  clear hI hM S4 I4
  go_wp2_with fail
  refine (copy_at I5.out (Nat.le_trans HM.out.b2.k (by decide)) (fun y => Nat.le_trans (HM.out.b2.l y) (by decide))).mono ?_
  rintro e W6 ⟨oc, fc, rfl, hC, hB⟩
  have S6 := Lib.hid (below_chain S5.out hB.out)
  have C6 : Hid (IdRest fp5 W6 W5.heap.size fc oc s2) := idrest_new hC.out I5.out.lt
  have Z1 := Lib.hid (Z1.out.since hB.out)
  have Z2 := Lib.hid (Z2.out.since hB.out)
  have I6 := Lib.hid (I5.out.since hB.out)
  clear hC hB S5 I5
  obtain ⟨g, HG⟩ : ∃ g, Hid (W6.heap.size = g) := ⟨_, rfl⟩
  obtain ⟨g2, HG2⟩ : ∃ q, Hid (g + 1 = q) := ⟨_, rfl⟩
  obtain ⟨W7, HW7⟩ : ∃ W, Hid ((W6.alloc (.cells #[.int .i64 2, .int .i64 0, .slice A1 128 c1, .bool true, .slice none 0 0] 36)).alloc (.cells #[.int .i64 2, .int .i64 0, .slice A2 128 c2, .bool true, .slice none 0 0] 36) = W) := ⟨_, rfl⟩
  have hB7 : Below W6.heap.size W6 W7 := by rw [← HW7.out]; exact since_alloc ((Below.refl _ _).alloc (Nat.le_refl _) _) _
  have B1 : Hid (RestC fp5 W7 g #[.int .i64 2, .int .i64 0, .slice A1 128 c1, .bool true, .slice none 0 0] 36) := by show RestC _ _ _ _ _; rw [← HW7.out, ← HG.out]; exact (RestC.new W6 _ _ I6.out.lt).since ((Below.refl _ _).alloc (Nat.le_refl _) _)
  have B2 : Hid (RestC fp5 W7 g2 #[.int .i64 2, .int .i64 0, .slice A2 128 c2, .bool true, .slice none 0 0] 36) := by
    show RestC _ _ _ _ _
    have h1 := RestC.new (fp := fp5) (W6.alloc (.cells #[.int .i64 2, .int .i64 0, .slice A1 128 c1, .bool true, .slice none 0 0] 36)) #[.int .i64 2, .int .i64 0, .slice A2 128 c2, .bool true, .slice none 0 0] 36 (fun b hb => by have := I6.out.lt b hb; simp; omega)
    rw [World.size_alloc, HG.out, HG2.out, HW7.out] at h1; exact h1
  have S7 := Lib.hid (below_chain S6.out hB7)
  have C7 := Lib.hid (C6.out.since hB7)
  have Z1 := Lib.hid (Z1.out.since hB7)
  have Z2 := Lib.hid (Z2.out.since hB7)
  have I7 := Lib.hid (I6.out.since hB7)
  clear S6 C6 I6
  clear hB7
  go_wp2_with fail
  rw [HW7.out, HG.out, HG2.out]
  refine (can_at I7.out a ⟨2, 0, A1, 128, c1, true, none, 0, 0⟩ X _ HM.out.c1 HA.out Z1.out.own.bytes (Nat.le_trans (HM.out.b2.l a) (by decide))).mono ?_
  rintro e W8 ⟨rfl, hB⟩
  have S8 := Lib.hid (below_chain S7.out hB)
  have C8 := Lib.hid (C7.out.since hB)
  have Z1 := Lib.hid (Z1.out.since hB)
  have Z2 := Lib.hid (Z2.out.since hB)
  have B1 := Lib.hid (B1.out.since hB)
  have B2 := Lib.hid (B2.out.since hB)
  have I8 := Lib.hid (I7.out.since hB)
  clear S7 C7 I7
  clear hB
  have d0 := B2.out.cell 0
  have d1 := B2.out.cell 1
  have d2 := B2.out.cell 2
  have d3 := B2.out.cell 3
  have d4 := B2.out.cell 4
  simp only [List.getElem?_toArray, List.getElem?_cons_zero, List.getElem?_cons_succ] at d0 d1 d2 d3 d4
  go_wp2_with fail
  clear d0 d1 d2 d3 d4
  refine (can_at I8.out a ⟨2, 0, A2, 128, c2, true, none, 0, 0⟩ Y _ HM.out.c2 HA.out Z2.out.own.bytes (Nat.le_trans (HM.out.b2.l a) (by decide))).mono ?_
  rintro e W9 ⟨rfl, hB⟩
  have S9 := Lib.hid (below_chain S8.out hB)
  have C9 := Lib.hid (C8.out.since hB)
  have Z1 := Lib.hid (Z1.out.since hB)
  have Z2 := Lib.hid (Z2.out.since hB)
  have B1 := Lib.hid (B1.out.since hB)
  have B2 := Lib.hid (B2.out.since hB)
  have I9 := Lib.hid (I8.out.since hB)
  clear S8 C8 I8
  clear hB
  go_wp2_with fail
  refine (can_at I9.out a ⟨4, 8, none, 0, 0, false, none, 0, 0⟩ [] _ HM.out.c3 HA.out Bytes.none_ (Nat.le_trans (HM.out.b2.l a) (by decide))).mono ?_
  rintro e W10 ⟨rfl, hB⟩
  have S10 := Lib.hid (below_chain S9.out hB)
  have C10 := Lib.hid (C9.out.since hB)
  have Z1 := Lib.hid (Z1.out.since hB)
  have Z2 := Lib.hid (Z2.out.since hB)
  have B1 := Lib.hid (B1.out.since hB)
  have B2 := Lib.hid (B2.out.since hB)
  have I10 := Lib.hid (I9.out.since hB)
  clear S9 C9 I9
  clear hB
  obtain ⟨g3, HG3⟩ : ∃ q, Hid (W10.heap.size = q) := ⟨_, rfl⟩
  obtain ⟨W11, HW11⟩ : ∃ W, Hid (W10.alloc (.cells #[.int .i64 3, .int .u64 a, .slice none 0 0, .int .i64 0] 32) = W) := ⟨_, rfl⟩
  have hB11 : Below W10.heap.size W10 W11 := by rw [← HW11.out]; exact (Below.refl _ _).alloc (Nat.le_refl _) _
  have B3 : Hid (RestC fp5 W11 g3 #[.int .i64 3, .int .u64 a, .slice none 0 0, .int .i64 0] 32) := by show RestC _ _ _ _ _; rw [← HW11.out, ← HG3.out]; exact RestC.new W10 _ _ I10.out.lt
  have S11 := Lib.hid (below_chain S10.out hB11)
  have C11 := Lib.hid (C10.out.since hB11)
  have Z1 := Lib.hid (Z1.out.since hB11)
  have Z2 := Lib.hid (Z2.out.since hB11)
  have B1 := Lib.hid (B1.out.since hB11)
  have B2 := Lib.hid (B2.out.since hB11)
  have I11 := Lib.hid (I10.out.since hB11)
  clear S10 C10 I10
  clear hB11
  have d0 := B1.out.cell 0
  have d1 := B1.out.cell 1
  have d2 := B1.out.cell 2
  have d3 := B1.out.cell 3
  have d4 := B1.out.cell 4
  simp only [List.getElem?_toArray, List.getElem?_cons_zero, List.getElem?_cons_succ] at d0 d1 d2 d3 d4
  rw [← HW11.out] at d0 d1 d2 d3 d4
  go_wp2_with fail
  clear d0 d1 d2 d3 d4
  rw [HW11.out, HG3.out]
  refine (take_at I11.out ⟨3, a, none, 0, 0, 0⟩ ⟨2, 0, A1, 128, c1, true, none, 0, 0⟩ [] X _ HM.out.t3 HA.out Bytes.none_ Z1.out.own.bytes (Nat.le_trans (HM.out.b2.l a) (by decide)) (Nat.le_trans HM.out.b2.k (by decide)) rfl).mono ?_
  rintro e W12 ⟨rfl, q12, hI, hM⟩
  have S12 := Lib.hid (hM.out.below S11.out I11.out.ge S11.out.size)
  have C12 := Lib.hid (C11.out.step hM.out)
  have Z1 := Lib.hid (Z1.out.step hM.out)
  have Z2 := Lib.hid (Z2.out.step hM.out)
  have B1 := Lib.hid (B1.out.step hM.out)
  have B2 := Lib.hid (B2.out.step hM.out)
  have B3 := Lib.hid (B3.out.step hM.out)
  have I12 := Lib.hid hI.out
  clear S11 C11 I11
  clear hI hM
  have d0 := B2.out.cell 0
  have d1 := B2.out.cell 1
  have d2 := B2.out.cell 2
  have d3 := B2.out.cell 3
  have d4 := B2.out.cell 4
  simp only [List.getElem?_toArray, List.getElem?_cons_zero, List.getElem?_cons_succ] at d0 d1 d2 d3 d4
  have h0 := B3.out.cell 0
  have h1 := B3.out.cell 1
  have h2 := B3.out.cell 2
  have h3 := B3.out.cell 3
  simp only [List.getElem?_toArray, List.getElem?_cons_zero, List.getElem?_cons_succ] at h0 h1 h2 h3
  go_wp2_with fail
  clear d0 d1 d2 d3 d4
  clear h0 h1 h2 h3
  refine (take_at I12.out ⟨3, a, none, 0, 0, 0⟩ ⟨2, 0, A2, 128, c2, true, none, 0, 0⟩ [] Y _ HM.out.t4 HA.out Bytes.none_ Z2.out.own.bytes (Nat.le_trans (HM.out.b3.l a) (by decide)) (Nat.le_trans HM.out.b3.k (by decide)) rfl).mono ?_
  rintro e W13 ⟨rfl, q13, hI, hM⟩
  have S13 := Lib.hid (hM.out.below S12.out I12.out.ge S12.out.size)
  have C13 := Lib.hid (C12.out.step hM.out)
  have Z1 := Lib.hid (Z1.out.step hM.out)
  have Z2 := Lib.hid (Z2.out.step hM.out)
  have B1 := Lib.hid (B1.out.step hM.out)
  have B2 := Lib.hid (B2.out.step hM.out)
  have B3 := Lib.hid (B3.out.step hM.out)
  have I13 := Lib.hid hI.out
  clear S12 C12 I12
  clear hI hM
  have d0 := B1.out.cell 0
  have d1 := B1.out.cell 1
  have d2 := B1.out.cell 2
  have d3 := B1.out.cell 3
  have d4 := B1.out.cell 4
  simp only [List.getElem?_toArray, List.getElem?_cons_zero, List.getElem?_cons_succ] at d0 d1 d2 d3 d4
  have h0 := B3.out.cell 0
  have h1 := B3.out.cell 1
  have h2 := B3.out.cell 2
  have h3 := B3.out.cell 3
  simp only [List.getElem?_toArray, List.getElem?_cons_zero, List.getElem?_cons_succ] at h0 h1 h2 h3
  go_wp2_with fail
  clear d0 d1 d2 d3 d4
  clear h0 h1 h2 h3
  refine (take_at I13.out ⟨3, a, none, 0, 0, 0⟩ ⟨2, 0, A1, 128, c1, true, none, 0, 0⟩ [] X _ HT4.out HA.out Bytes.none_ Z1.out.own.bytes (Nat.le_trans (HM.out.b3.l a) (by decide)) (Nat.le_trans HM.out.b3.k (by decide)) rfl).mono ?_
  rintro e W14 ⟨rfl, q14, hI, hM⟩
  have S14 := Lib.hid (hM.out.below S13.out I13.out.ge S13.out.size)
  have C14 := Lib.hid (C13.out.step hM.out)
  have Z1 := Lib.hid (Z1.out.step hM.out)
  have Z2 := Lib.hid (Z2.out.step hM.out)
  have B1 := Lib.hid (B1.out.step hM.out)
  have B2 := Lib.hid (B2.out.step hM.out)
  have B3 := Lib.hid (B3.out.step hM.out)
  have I14 := Lib.hid hI.out
  clear S13 C13 I13
  clear hI hM
  have d0 := B2.out.cell 0
  have d1 := B2.out.cell 1
  have d2 := B2.out.cell 2
  have d3 := B2.out.cell 3
  have d4 := B2.out.cell 4
  simp only [List.getElem?_toArray, List.getElem?_cons_zero, List.getElem?_cons_succ] at d0 d1 d2 d3 d4
  go_wp2_with fail
  clear d0 d1 d2 d3 d4
  refine (can_at C14.out.1 a ⟨2, 0, A2, 128, c2, true, none, 0, 0⟩ Y _ HM.out.c2 HA.out Z2.out.own.bytes (Nat.le_trans (HM.out.b2.l a) (by decide))).mono ?_
  rintro e W15 ⟨rfl, hB⟩
  have S15 := Lib.hid (below_chain S14.out hB)
  have C15 := Lib.hid (C14.out.since hB)
  have Z1 := Lib.hid (Z1.out.since hB)
  have Z2 := Lib.hid (Z2.out.since hB)
  have B1 := Lib.hid (B1.out.since hB)
  have B2 := Lib.hid (B2.out.since hB)
  have B3 := Lib.hid (B3.out.since hB)
  have I15 := Lib.hid (I14.out.since hB)
  clear S14 C14 I14
  clear hB
  have d0 := B1.out.cell 0
  have d1 := B1.out.cell 1
  have d2 := B1.out.cell 2
  have d3 := B1.out.cell 3
  have d4 := B1.out.cell 4
  simp only [List.getElem?_toArray, List.getElem?_cons_zero, List.getElem?_cons_succ] at d0 d1 d2 d3 d4
  go_wp2_with fail
  clear d0 d1 d2 d3 d4
  refine (can_at C15.out.1 a ⟨2, 0, A1, 128, c1, true, none, 0, 0⟩ X _ HM.out.c1 HA.out Z1.out.own.bytes (Nat.le_trans (HM.out.b2.l a) (by decide))).mono ?_
  rintro e W16 ⟨rfl, hB⟩
  have S16 := Lib.hid (below_chain S15.out hB)
  have C16 := Lib.hid (C15.out.since hB)
  have Z1 := Lib.hid (Z1.out.since hB)
  have Z2 := Lib.hid (Z2.out.since hB)
  have B1 := Lib.hid (B1.out.since hB)
  have B2 := Lib.hid (B2.out.since hB)
  have B3 := Lib.hid (B3.out.since hB)
  have I16 := Lib.hid (I15.out.since hB)
  clear S15 C15 I15
  clear hB
  go_wp2_with fail
  refine (take_at I16.out ⟨5, a, none, 0, 0, 0⟩ ⟨1, 0, none, 0, 0, false, none, 0, 0⟩ [] [] _ HT5.out HA.out Bytes.none_ Bytes.none_ (Nat.le_trans (HB4.out.l a) (by decide)) (Nat.le_trans HB4.out.k (by decide)) rfl).mono ?_
  rintro e W17 ⟨rfl, q17, hI, hM⟩
  have S17 := Lib.hid (hM.out.below S16.out I16.out.ge S16.out.size)
  have C17 := Lib.hid (C16.out.step hM.out)
  have Z1 := Lib.hid (Z1.out.step hM.out)
  have Z2 := Lib.hid (Z2.out.step hM.out)
  have B1 := Lib.hid (B1.out.step hM.out)
  have B2 := Lib.hid (B2.out.step hM.out)
  have B3 := Lib.hid (B3.out.step hM.out)
  have I17 := Lib.hid hI.out
  clear S16 C16 I16
  clear hI hM
  have h0 := B3.out.cell 0
  have h1 := B3.out.cell 1
  have h2 := B3.out.cell 2
  have h3 := B3.out.cell 3
  simp only [List.getElem?_toArray, List.getElem?_cons_zero, List.getElem?_cons_succ] at h0 h1 h2 h3
  go_wp2_with fail
  clear h0 h1 h2 h3
  refine (take_at I17.out ⟨3, a, none, 0, 0, 0⟩ ⟨4, 8, none, 0, 0, false, none, 0, 0⟩ [] [] _ HM.out.t6 HA.out Bytes.none_ Bytes.none_ (Nat.le_trans (HM.out.b5.l a) (by decide)) (Nat.le_trans HM.out.b5.k (by decide)) rfl).mono ?_
  rintro e W18 ⟨rfl, q18, hI, hM⟩
  have S18 := Lib.hid (hM.out.below S17.out I17.out.ge S17.out.size)
  have C18 := Lib.hid (C17.out.step hM.out)
  have Z1 := Lib.hid (Z1.out.step hM.out)
  have Z2 := Lib.hid (Z2.out.step hM.out)
  have B1 := Lib.hid (B1.out.step hM.out)
  have B2 := Lib.hid (B2.out.step hM.out)
  have B3 := Lib.hid (B3.out.step hM.out)
  have I18 := Lib.hid hI.out
  clear S17 C17 I17
  clear hI hM
  have d0 := B1.out.cell 0
  have d1 := B1.out.cell 1
  have d2 := B1.out.cell 2
  have d3 := B1.out.cell 3
  have d4 := B1.out.cell 4
  simp only [List.getElem?_toArray, List.getElem?_cons_zero, List.getElem?_cons_succ] at d0 d1 d2 d3 d4
  go_wp2_with fail
  clear d0 d1 d2 d3 d4
  refine (can_at I18.out a ⟨2, 0, A1, 128, c1, true, none, 0, 0⟩ X _ HM.out.c6 HA.out Z1.out.own.bytes (Nat.le_trans (HM.out.b6.l a) (by decide))).mono ?_
  rintro e W19 ⟨rfl, hB⟩
  have S19 := Lib.hid (below_chain S18.out hB)
  have C19 := Lib.hid (C18.out.since hB)
  have Z1 := Lib.hid (Z1.out.since hB)
  have Z2 := Lib.hid (Z2.out.since hB)
  have B1 := Lib.hid (B1.out.since hB)
  have B2 := Lib.hid (B2.out.since hB)
  have B3 := Lib.hid (B3.out.since hB)
  have I19 := Lib.hid (I18.out.since hB)
  clear S18 C18 I18
  clear hB
  go_wp2_with fail
  refine (awake18_any W19).mono ?_
  rintro e W20 ⟨rfl, hB⟩
  have S20 := Lib.hid (below_chain S19.out hB.out)
  clear hB
  go_wp2_with fail
  go_ret
  exact ⟨rfl, S20⟩
set_option maxHeartbeats 8000000 in
theorem fixes_second (a xa xb : Int) (w : World) (X Y : List Nat) (s1 s2 s3 s5 s6 : IS) (HX : Hid (fillL xa 128 = X)) (HY : Hid (fillL xb 128 = Y)) (HLX : Hid (X.length = 128)) (HLY : Hid (Y.length = 128)) (HNE : Hid (decide (X = Y) = false)) (HA : Hid (U64 a)) (HM : Hid (FixM a X Y Y X s1 s2 s3 s5 s6)) (he : ¬ xa.tmod 1073741824 = xb.tmod 1073741824) : Calls Try.prog 4 #[.int .u64 a, .int .i64 xa, .int .i64 xb, .bool true] w (SaysB w true) := by
  obtain ⟨s4, ht4, hb4, ht5⟩ := HM.out.t4b
  have HT4 := Lib.hid ht4
  have HB4 := Lib.hid hb4
  have HT5 := Lib.hid ht5
  clear ht4 hb4 ht5
  go_enter Try.func4, Try.ntmps4
  go_wp2_with fail
  refine (new_yes18 128 (by decide) (by decide) w).mono ?_
  rintro e W0 ⟨o, fp, rfl, hI, hB⟩
  have S0 := Lib.hid hB.out
  have I0 := Lib.hid hI.out
  clear hI hB
  go_wp2_with fail
  refine (fill_any xa 128 W0 (by decide)).mono ?_
  rw [HX.out]
  rintro e W1 ⟨A1, n1, c1, rfl, hO, hB⟩
  obtain rfl : 128 = n1 := by rw [← hO.len, HLX.out]
  have S1 := Lib.hid (below_chain S0.out hB)
  have Z1 := Lib.hid (Rest.new hO I0.out.lt)
  have I1 := Lib.hid (I0.out.since hB)
  clear hO hB S0 I0
  go_wp2_with fail
  refine (fill_any xb 128 W1 (by decide)).mono ?_
  rw [HY.out]
  rintro e W2 ⟨A2, n2, c2, rfl, hO, hB⟩
  obtain rfl : 128 = n2 := by rw [← hO.len, HLY.out]
  have S2 := Lib.hid (below_chain S1.out hB)
  have Z2 := Lib.hid (Rest.new hO I1.out.lt)
  have Z1 := Lib.hid (Z1.out.since hB)
  have I2 := Lib.hid (I1.out.since hB)
  clear hO hB S1 I1
  go_wp2_with fail
  refine (same_at A1 A2 128 128 c1 c2 X Y false W2 (by decide) (by decide) Z1.out.own.bytes Z2.out.own.bytes HNE.out).mono ?_
  rintro e W3 ⟨rfl, hB⟩
  have S3 := Lib.hid (below_chain S2.out hB)
  have Z1 := Lib.hid (Z1.out.since hB)
  have Z2 := Lib.hid (Z2.out.since hB)
  have I3 := Lib.hid (I2.out.since hB)
  clear hB S2 I2
  go_wp2_with fail
  refine (take_at I3.out ⟨1, a, A1, 128, c1, 0⟩ ⟨1, 0, none, 0, 0, false, none, 0, 0⟩ X [] _ HM.out.t1 HA.out Z1.out.own.bytes Bytes.none_ (by show 1 ≤ 400; decide) (by show 0 ≤ 900; decide) rfl).mono ?_
  rintro e W4 ⟨rfl, fp4, hI, hM⟩
  have S4 := Lib.hid (hM.out.below S3.out I3.out.ge S3.out.size)
  have Z1 := Lib.hid (Z1.out.step hM.out)
  have Z2 := Lib.hid (Z2.out.step hM.out)
  have I4 := Lib.hid hI.out
  clear hI hM S3 I3
  go_wp2_with fail
  refine (take_at I4.out ⟨1, a, A2, 128, c2, 0⟩ ⟨4, 4, none, 0, 0, false, none, 0, 0⟩ Y [] _ HM.out.t2 HA.out Z2.out.own.bytes Bytes.none_ (Nat.le_trans (HM.out.b1.l a) (by decide)) (Nat.le_trans HM.out.b1.k (by decide)) rfl).mono ?_
  rintro e W5 ⟨rfl, fp5, hI, hM⟩
  have S5 := Lib.hid (hM.out.below S4.out I4.out.ge S4.out.size)
  have Z1 := Lib.hid (Z1.out.step hM.out)
  have Z2 := Lib.hid (Z2.out.step hM.out)
  have I5 := Lib.hid hI.out
  clear hI hM S4 I4
  go_wp2_with fail
  refine (copy_at I5.out (Nat.le_trans HM.out.b2.k (by decide)) (fun y => Nat.le_trans (HM.out.b2.l y) (by decide))).mono ?_
  rintro e W6 ⟨oc, fc, rfl, hC, hB⟩
  have S6 := Lib.hid (below_chain S5.out hB.out)
  have C6 : Hid (IdRest fp5 W6 W5.heap.size fc oc s2) := idrest_new hC.out I5.out.lt
  have Z1 := Lib.hid (Z1.out.since hB.out)
  have Z2 := Lib.hid (Z2.out.since hB.out)
  have I6 := Lib.hid (I5.out.since hB.out)
  clear hC hB S5 I5
  obtain ⟨g, HG⟩ : ∃ g, Hid (W6.heap.size = g) := ⟨_, rfl⟩
  obtain ⟨g2, HG2⟩ : ∃ q, Hid (g + 1 = q) := ⟨_, rfl⟩
  obtain ⟨W7, HW7⟩ : ∃ W, Hid ((W6.alloc (.cells #[.int .i64 2, .int .i64 0, .slice A2 128 c2, .bool true, .slice none 0 0] 36)).alloc (.cells #[.int .i64 2, .int .i64 0, .slice A1 128 c1, .bool true, .slice none 0 0] 36) = W) := ⟨_, rfl⟩
  have hB7 : Below W6.heap.size W6 W7 := by rw [← HW7.out]; exact since_alloc ((Below.refl _ _).alloc (Nat.le_refl _) _) _
  have B1 : Hid (RestC fp5 W7 g #[.int .i64 2, .int .i64 0, .slice A2 128 c2, .bool true, .slice none 0 0] 36) := by show RestC _ _ _ _ _; rw [← HW7.out, ← HG.out]; exact (RestC.new W6 _ _ I6.out.lt).since ((Below.refl _ _).alloc (Nat.le_refl _) _)
  have B2 : Hid (RestC fp5 W7 g2 #[.int .i64 2, .int .i64 0, .slice A1 128 c1, .bool true, .slice none 0 0] 36) := by
    show RestC _ _ _ _ _
    have h1 := RestC.new (fp := fp5) (W6.alloc (.cells #[.int .i64 2, .int .i64 0, .slice A2 128 c2, .bool true, .slice none 0 0] 36)) #[.int .i64 2, .int .i64 0, .slice A1 128 c1, .bool true, .slice none 0 0] 36 (fun b hb => by have := I6.out.lt b hb; simp; omega)
    rw [World.size_alloc, HG.out, HG2.out, HW7.out] at h1; exact h1
  have S7 := Lib.hid (below_chain S6.out hB7)
  have C7 := Lib.hid (C6.out.since hB7)
  have Z1 := Lib.hid (Z1.out.since hB7)
  have Z2 := Lib.hid (Z2.out.since hB7)
  have I7 := Lib.hid (I6.out.since hB7)
  clear S6 C6 I6
  clear hB7
  go_wp2_with fail
  rw [HW7.out, HG.out, HG2.out]
  refine (can_at I7.out a ⟨2, 0, A2, 128, c2, true, none, 0, 0⟩ Y _ HM.out.c1 HA.out Z2.out.own.bytes (Nat.le_trans (HM.out.b2.l a) (by decide))).mono ?_
  rintro e W8 ⟨rfl, hB⟩
  have S8 := Lib.hid (below_chain S7.out hB)
  have C8 := Lib.hid (C7.out.since hB)
  have Z1 := Lib.hid (Z1.out.since hB)
  have Z2 := Lib.hid (Z2.out.since hB)
  have B1 := Lib.hid (B1.out.since hB)
  have B2 := Lib.hid (B2.out.since hB)
  have I8 := Lib.hid (I7.out.since hB)
  clear S7 C7 I7
  clear hB
  have d0 := B2.out.cell 0
  have d1 := B2.out.cell 1
  have d2 := B2.out.cell 2
  have d3 := B2.out.cell 3
  have d4 := B2.out.cell 4
  simp only [List.getElem?_toArray, List.getElem?_cons_zero, List.getElem?_cons_succ] at d0 d1 d2 d3 d4
  go_wp2_with fail
  clear d0 d1 d2 d3 d4
  refine (can_at I8.out a ⟨2, 0, A1, 128, c1, true, none, 0, 0⟩ X _ HM.out.c2 HA.out Z1.out.own.bytes (Nat.le_trans (HM.out.b2.l a) (by decide))).mono ?_
  rintro e W9 ⟨rfl, hB⟩
  have S9 := Lib.hid (below_chain S8.out hB)
  have C9 := Lib.hid (C8.out.since hB)
  have Z1 := Lib.hid (Z1.out.since hB)
  have Z2 := Lib.hid (Z2.out.since hB)
  have B1 := Lib.hid (B1.out.since hB)
  have B2 := Lib.hid (B2.out.since hB)
  have I9 := Lib.hid (I8.out.since hB)
  clear S8 C8 I8
  clear hB
  go_wp2_with fail
  refine (can_at I9.out a ⟨4, 8, none, 0, 0, false, none, 0, 0⟩ [] _ HM.out.c3 HA.out Bytes.none_ (Nat.le_trans (HM.out.b2.l a) (by decide))).mono ?_
  rintro e W10 ⟨rfl, hB⟩
  have S10 := Lib.hid (below_chain S9.out hB)
  have C10 := Lib.hid (C9.out.since hB)
  have Z1 := Lib.hid (Z1.out.since hB)
  have Z2 := Lib.hid (Z2.out.since hB)
  have B1 := Lib.hid (B1.out.since hB)
  have B2 := Lib.hid (B2.out.since hB)
  have I10 := Lib.hid (I9.out.since hB)
  clear S9 C9 I9
  clear hB
  obtain ⟨g3, HG3⟩ : ∃ q, Hid (W10.heap.size = q) := ⟨_, rfl⟩
  obtain ⟨W11, HW11⟩ : ∃ W, Hid (W10.alloc (.cells #[.int .i64 3, .int .u64 a, .slice none 0 0, .int .i64 0] 32) = W) := ⟨_, rfl⟩
  have hB11 : Below W10.heap.size W10 W11 := by rw [← HW11.out]; exact (Below.refl _ _).alloc (Nat.le_refl _) _
  have B3 : Hid (RestC fp5 W11 g3 #[.int .i64 3, .int .u64 a, .slice none 0 0, .int .i64 0] 32) := by show RestC _ _ _ _ _; rw [← HW11.out, ← HG3.out]; exact RestC.new W10 _ _ I10.out.lt
  have S11 := Lib.hid (below_chain S10.out hB11)
  have C11 := Lib.hid (C10.out.since hB11)
  have Z1 := Lib.hid (Z1.out.since hB11)
  have Z2 := Lib.hid (Z2.out.since hB11)
  have B1 := Lib.hid (B1.out.since hB11)
  have B2 := Lib.hid (B2.out.since hB11)
  have I11 := Lib.hid (I10.out.since hB11)
  clear S10 C10 I10
  clear hB11
  have d0 := B1.out.cell 0
  have d1 := B1.out.cell 1
  have d2 := B1.out.cell 2
  have d3 := B1.out.cell 3
  have d4 := B1.out.cell 4
  simp only [List.getElem?_toArray, List.getElem?_cons_zero, List.getElem?_cons_succ] at d0 d1 d2 d3 d4
  rw [← HW11.out] at d0 d1 d2 d3 d4
  go_wp2_with fail
  clear d0 d1 d2 d3 d4
  rw [HW11.out, HG3.out]
  refine (take_at I11.out ⟨3, a, none, 0, 0, 0⟩ ⟨2, 0, A2, 128, c2, true, none, 0, 0⟩ [] Y _ HM.out.t3 HA.out Bytes.none_ Z2.out.own.bytes (Nat.le_trans (HM.out.b2.l a) (by decide)) (Nat.le_trans HM.out.b2.k (by decide)) rfl).mono ?_
  rintro e W12 ⟨rfl, q12, hI, hM⟩
  have S12 := Lib.hid (hM.out.below S11.out I11.out.ge S11.out.size)
  have C12 := Lib.hid (C11.out.step hM.out)
  have Z1 := Lib.hid (Z1.out.step hM.out)
  have Z2 := Lib.hid (Z2.out.step hM.out)
  have B1 := Lib.hid (B1.out.step hM.out)
  have B2 := Lib.hid (B2.out.step hM.out)
  have B3 := Lib.hid (B3.out.step hM.out)
  have I12 := Lib.hid hI.out
  clear S11 C11 I11
  clear hI hM
  have d0 := B2.out.cell 0
  have d1 := B2.out.cell 1
  have d2 := B2.out.cell 2
  have d3 := B2.out.cell 3
  have d4 := B2.out.cell 4
  simp only [List.getElem?_toArray, List.getElem?_cons_zero, List.getElem?_cons_succ] at d0 d1 d2 d3 d4
  have h0 := B3.out.cell 0
  have h1 := B3.out.cell 1
  have h2 := B3.out.cell 2
  have h3 := B3.out.cell 3
  simp only [List.getElem?_toArray, List.getElem?_cons_zero, List.getElem?_cons_succ] at h0 h1 h2 h3
  go_wp2_with fail
  clear d0 d1 d2 d3 d4
  clear h0 h1 h2 h3
  refine (take_at I12.out ⟨3, a, none, 0, 0, 0⟩ ⟨2, 0, A1, 128, c1, true, none, 0, 0⟩ [] X _ HM.out.t4 HA.out Bytes.none_ Z1.out.own.bytes (Nat.le_trans (HM.out.b3.l a) (by decide)) (Nat.le_trans HM.out.b3.k (by decide)) rfl).mono ?_
  rintro e W13 ⟨rfl, q13, hI, hM⟩
  have S13 := Lib.hid (hM.out.below S12.out I12.out.ge S12.out.size)
  have C13 := Lib.hid (C12.out.step hM.out)
  have Z1 := Lib.hid (Z1.out.step hM.out)
  have Z2 := Lib.hid (Z2.out.step hM.out)
  have B1 := Lib.hid (B1.out.step hM.out)
  have B2 := Lib.hid (B2.out.step hM.out)
  have B3 := Lib.hid (B3.out.step hM.out)
  have I13 := Lib.hid hI.out
  clear S12 C12 I12
  clear hI hM
  have d0 := B1.out.cell 0
  have d1 := B1.out.cell 1
  have d2 := B1.out.cell 2
  have d3 := B1.out.cell 3
  have d4 := B1.out.cell 4
  simp only [List.getElem?_toArray, List.getElem?_cons_zero, List.getElem?_cons_succ] at d0 d1 d2 d3 d4
  have h0 := B3.out.cell 0
  have h1 := B3.out.cell 1
  have h2 := B3.out.cell 2
  have h3 := B3.out.cell 3
  simp only [List.getElem?_toArray, List.getElem?_cons_zero, List.getElem?_cons_succ] at h0 h1 h2 h3
  go_wp2_with fail
  clear d0 d1 d2 d3 d4
  clear h0 h1 h2 h3
  refine (take_at I13.out ⟨3, a, none, 0, 0, 0⟩ ⟨2, 0, A2, 128, c2, true, none, 0, 0⟩ [] Y _ HT4.out HA.out Bytes.none_ Z2.out.own.bytes (Nat.le_trans (HM.out.b3.l a) (by decide)) (Nat.le_trans HM.out.b3.k (by decide)) rfl).mono ?_
  rintro e W14 ⟨rfl, q14, hI, hM⟩
  have S14 := Lib.hid (hM.out.below S13.out I13.out.ge S13.out.size)
  have C14 := Lib.hid (C13.out.step hM.out)
  have Z1 := Lib.hid (Z1.out.step hM.out)
  have Z2 := Lib.hid (Z2.out.step hM.out)
  have B1 := Lib.hid (B1.out.step hM.out)
  have B2 := Lib.hid (B2.out.step hM.out)
  have B3 := Lib.hid (B3.out.step hM.out)
  have I14 := Lib.hid hI.out
  clear S13 C13 I13
  clear hI hM
  have d0 := B2.out.cell 0
  have d1 := B2.out.cell 1
  have d2 := B2.out.cell 2
  have d3 := B2.out.cell 3
  have d4 := B2.out.cell 4
  simp only [List.getElem?_toArray, List.getElem?_cons_zero, List.getElem?_cons_succ] at d0 d1 d2 d3 d4
  go_wp2_with fail
  clear d0 d1 d2 d3 d4
  refine (can_at C14.out.1 a ⟨2, 0, A1, 128, c1, true, none, 0, 0⟩ X _ HM.out.c2 HA.out Z1.out.own.bytes (Nat.le_trans (HM.out.b2.l a) (by decide))).mono ?_
  rintro e W15 ⟨rfl, hB⟩
  have S15 := Lib.hid (below_chain S14.out hB)
  have C15 := Lib.hid (C14.out.since hB)
  have Z1 := Lib.hid (Z1.out.since hB)
  have Z2 := Lib.hid (Z2.out.since hB)
  have B1 := Lib.hid (B1.out.since hB)
  have B2 := Lib.hid (B2.out.since hB)
  have B3 := Lib.hid (B3.out.since hB)
  have I15 := Lib.hid (I14.out.since hB)
  clear S14 C14 I14
  clear hB
  have d0 := B1.out.cell 0
  have d1 := B1.out.cell 1
  have d2 := B1.out.cell 2
  have d3 := B1.out.cell 3
  have d4 := B1.out.cell 4
  simp only [List.getElem?_toArray, List.getElem?_cons_zero, List.getElem?_cons_succ] at d0 d1 d2 d3 d4
  go_wp2_with fail
  clear d0 d1 d2 d3 d4
  refine (can_at C15.out.1 a ⟨2, 0, A2, 128, c2, true, none, 0, 0⟩ Y _ HM.out.c1 HA.out Z2.out.own.bytes (Nat.le_trans (HM.out.b2.l a) (by decide))).mono ?_
  rintro e W16 ⟨rfl, hB⟩
  have S16 := Lib.hid (below_chain S15.out hB)
  have C16 := Lib.hid (C15.out.since hB)
  have Z1 := Lib.hid (Z1.out.since hB)
  have Z2 := Lib.hid (Z2.out.since hB)
  have B1 := Lib.hid (B1.out.since hB)
  have B2 := Lib.hid (B2.out.since hB)
  have B3 := Lib.hid (B3.out.since hB)
  have I16 := Lib.hid (I15.out.since hB)
  clear S15 C15 I15
  clear hB
  go_wp2_with fail
  refine (take_at I16.out ⟨5, a, none, 0, 0, 0⟩ ⟨1, 0, none, 0, 0, false, none, 0, 0⟩ [] [] _ HT5.out HA.out Bytes.none_ Bytes.none_ (Nat.le_trans (HB4.out.l a) (by decide)) (Nat.le_trans HB4.out.k (by decide)) rfl).mono ?_
  rintro e W17 ⟨rfl, q17, hI, hM⟩
  have S17 := Lib.hid (hM.out.below S16.out I16.out.ge S16.out.size)
  have C17 := Lib.hid (C16.out.step hM.out)
  have Z1 := Lib.hid (Z1.out.step hM.out)
  have Z2 := Lib.hid (Z2.out.step hM.out)
  have B1 := Lib.hid (B1.out.step hM.out)
  have B2 := Lib.hid (B2.out.step hM.out)
  have B3 := Lib.hid (B3.out.step hM.out)
  have I17 := Lib.hid hI.out
  clear S16 C16 I16
  clear hI hM
  have h0 := B3.out.cell 0
  have h1 := B3.out.cell 1
  have h2 := B3.out.cell 2
  have h3 := B3.out.cell 3
  simp only [List.getElem?_toArray, List.getElem?_cons_zero, List.getElem?_cons_succ] at h0 h1 h2 h3
  go_wp2_with fail
  clear h0 h1 h2 h3
  refine (take_at I17.out ⟨3, a, none, 0, 0, 0⟩ ⟨4, 8, none, 0, 0, false, none, 0, 0⟩ [] [] _ HM.out.t6 HA.out Bytes.none_ Bytes.none_ (Nat.le_trans (HM.out.b5.l a) (by decide)) (Nat.le_trans HM.out.b5.k (by decide)) rfl).mono ?_
  rintro e W18 ⟨rfl, q18, hI, hM⟩
  have S18 := Lib.hid (hM.out.below S17.out I17.out.ge S17.out.size)
  have C18 := Lib.hid (C17.out.step hM.out)
  have Z1 := Lib.hid (Z1.out.step hM.out)
  have Z2 := Lib.hid (Z2.out.step hM.out)
  have B1 := Lib.hid (B1.out.step hM.out)
  have B2 := Lib.hid (B2.out.step hM.out)
  have B3 := Lib.hid (B3.out.step hM.out)
  have I18 := Lib.hid hI.out
  clear S17 C17 I17
  clear hI hM
  have d0 := B1.out.cell 0
  have d1 := B1.out.cell 1
  have d2 := B1.out.cell 2
  have d3 := B1.out.cell 3
  have d4 := B1.out.cell 4
  simp only [List.getElem?_toArray, List.getElem?_cons_zero, List.getElem?_cons_succ] at d0 d1 d2 d3 d4
  go_wp2_with fail
  clear d0 d1 d2 d3 d4
  refine (can_at I18.out a ⟨2, 0, A2, 128, c2, true, none, 0, 0⟩ Y _ HM.out.c6 HA.out Z2.out.own.bytes (Nat.le_trans (HM.out.b6.l a) (by decide))).mono ?_
  rintro e W19 ⟨rfl, hB⟩
  have S19 := Lib.hid (below_chain S18.out hB)
  have C19 := Lib.hid (C18.out.since hB)
  have Z1 := Lib.hid (Z1.out.since hB)
  have Z2 := Lib.hid (Z2.out.since hB)
  have B1 := Lib.hid (B1.out.since hB)
  have B2 := Lib.hid (B2.out.since hB)
  have B3 := Lib.hid (B3.out.since hB)
  have I19 := Lib.hid (I18.out.since hB)
  clear S18 C18 I18
  clear hB
  go_wp2_with fail
  refine (awake18_any W19).mono ?_
  rintro e W20 ⟨rfl, hB⟩
  have S20 := Lib.hid (below_chain S19.out hB.out)
  clear hB
  go_wp2_with fail
  go_ret
  exact ⟨rfl, S20⟩
theorem fixes_law (a xa xb : Int) (sec : Bool) (w : World) (ha : 0 ≤ a ∧ a ≤ 18446744073709551615) : Calls Try.prog 4 #[.int .u64 a, .int .i64 xa, .int .i64 xb, .bool sec] w (SaysB w true) := by
  by_cases he : xa.tmod 1073741824 = xb.tmod 1073741824
  · exact fixes_same a xa xb sec w he
  · by_cases hxy : fillL xa 128 = fillL xb 128
    · exact fixes_equal a xa xb sec w _ rfl hxy.symm (fillL_len _ _) he
    · cases sec
      · obtain ⟨s1, s2, s3, s5, s6, h⟩ := fix_math a (fillL xa 128) (fillL xb 128) (fillL xa 128) (fillL xb 128) (fillL_len _ _) (fillL_len _ _) (fun b => fillL_lt b) (fun b => fillL_lt b) hxy (Or.inl ⟨rfl, rfl⟩)
        exact fixes_first a xa xb w _ _ s1 s2 s3 s5 s6 rfl rfl (fillL_len _ _) (fillL_len _ _) (decide_eq_false hxy) ha h he
      · obtain ⟨s1, s2, s3, s5, s6, h⟩ := fix_math a (fillL xa 128) (fillL xb 128) (fillL xb 128) (fillL xa 128) (fillL_len _ _) (fillL_len _ _) (fun b => fillL_lt b) (fun b => fillL_lt b) hxy (Or.inr ⟨rfl, rfl⟩)
        exact fixes_second a xa xb w _ _ s1 s2 s3 s5 s6 rfl rfl (fillL_len _ _) (fillL_len _ _) (decide_eq_false hxy) ha h he
end Go.Proofs.Ytfmlognahcaacaa
