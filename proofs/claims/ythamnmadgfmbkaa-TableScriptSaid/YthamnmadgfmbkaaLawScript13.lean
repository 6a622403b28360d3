/- TableScript: true, whatever is asked. Conditions: the list's cells. -/
import Derived.Test.YthamnmadgfmbkaaRefTab3
import Derived.Test.YthamnmadgfmbkaaTabTwo
import Derived.Test.YthamnmadgfmbkaaActs13
import Derived.Test.YthamnmadgfmbkaaQuiet
set_option linter.unusedVariables false
set_option linter.unusedSimpArgs false
namespace Go.Proofs.Ythamnmadgfmbkaa
open Go.RowKit Go.Sort

/-- The landed table and the document's, side by side. -/
structure TR (w : World) (base : Nat) (fD fK : Nat → Prop) (gD gK : Nat) (l m : List E) : Prop where
  d : TabAt w base fD gD l
  k : RefTb w base fK gK m
  two : Two fD fK
section
variable {w w' w0 : World} {base gD gK B : Nat} {fD fK fD' fK' : Nat → Prop} {l m l' m' : List E}
theorem TR.lt (h : TR w base fD fK gD gK l m) : ∀ b, Or2 fD fK b → b < w.heap.size := fun b hb => hb.elim (h.d.lt b) (h.k.lt b)
theorem TR.ge (h : TR w base fD fK gD gK l m) : ∀ b, Or2 fD fK b → base ≤ b := fun b hb => hb.elim (h.d.ge b) (h.k.ge b)
theorem TR.since (h : TR w base fD fK gD gK l m) (hb : Below w.heap.size w w') : TR w' base fD fK gD gK l m := ⟨h.d.since hb, h.k.since hb, h.two⟩
theorem TR.left (h : TR w base fD fK gD gK l m) (hc : TabAt w' base fD' gD l') (hm : Moves w fD w' fD') : TR w' base fD' fK gD gK l' m ∧ Moves w (Or2 fD fK) w' (Or2 fD' fK) :=
  ⟨⟨hc, h.k.keep hm.turn h.two, h.two.left hm h.k.lt⟩, hm.orL fK⟩
theorem TR.right (h : TR w base fD fK gD gK l m) (hc : RefTb w' base fK' gK m') (hm : Moves w fK w' fK') : TR w' base fD fK' gD gK l m' ∧ Moves w (Or2 fD fK) w' (Or2 fD fK') :=
  ⟨⟨h.d.keep hm.turn h.two.flip, hc, h.two.right hm h.d.lt⟩, hm.orR fD⟩
theorem TR.below (h : TR w base fD fK gD gK l m) (hs : Below base w0 w) (hm : Moves w (Or2 fD fK) w' (Or2 fD' fK')) : Below base w0 w' := hm.below hs h.ge h.d.base_le
/-- Entry's cells in a block apart. -/
abbrev EC (x : E) : Array Value := #[.int .u64 x.addr, .int .i64 x.page, .bool x.dirty, .int .i64 x.seq]
theorem rest_en {fp : Nat → Prop} {W : World} {b : Nat} {x : E} (h : RestC fp W b (EC x) 32) : CellsEn W b x := RowEn.at_ ⟨h.row⟩
theorem rest_put {fp : Nat → Prop} {W : World} {b : Nat} {x : E} (h : RestC fp W b (EC x) 32) (u : E) : RestC fp ((((W.setCell ⟨b, 0, none⟩ (.int .u64 u.addr)).setCell ⟨b, 1, none⟩ (.int .i64 u.page)).setCell ⟨b, 2, none⟩ (.bool u.dirty)).setCell ⟨b, 3, none⟩ (.int .i64 u.seq)) b (EC u) 32 := ⟨(RowEn.put (e := x) ⟨h.row⟩ u).row, h.safe⟩
theorem rest_else {fp : Nat → Prop} {W : World} {b q : Nat} {cs : Array Value} {T : TypeId} (h : RestC fp W b cs T) (hq : b ≠ q) (v0 v1 v2 v3 : Value) : RestC fp ((((W.setCell ⟨q, 0, none⟩ v0).setCell ⟨q, 1, none⟩ v1).setCell ⟨q, 2, none⟩ v2).setCell ⟨q, 3, none⟩ v3) b cs T := (((h.other hq 0 v0).other hq 1 v1).other hq 2 v2).other hq 3 v3
theorem turn_put {W : World} (q : Nat) (v0 v1 v2 v3 : Value) : Turn (fun b => b = q) W ((((W.setCell ⟨q, 0, none⟩ v0).setCell ⟨q, 1, none⟩ v1).setCell ⟨q, 2, none⟩ v2).setCell ⟨q, 3, none⟩ v3) := Turn.of_grown (putEn_else W q v0 v1 v2 v3) fun b e => (Option.some.inj e).symm
theorem TR.at_turn {q : Nat} (h : TR w base fD fK gD gK l m) (ht : Turn (fun b => b = q) w w') (hq : ¬ Or2 fD fK q) : TR w' base fD fK gD gK l m :=
  ⟨h.d.keep ht fun b h1 h2 => hq (Or.inl (by rw [← show b = q from h1]; exact h2)), h.k.keep ht fun b h1 h2 => hq (Or.inr (by rw [← show b = q from h1]; exact h2)), h.two⟩
end
/-- Within a region that draws: the copy's list is told. -/
structure CopyJ (WD : World) (n : Nat) (l : List E) (fs : List Bool) (vs : List Value) (W : World) : Prop where
  lf : fs.length = 1
  lv : vs.length = 1
  below : Below WD.heap.size WD W
  row : fs.getD 0 false = true → ∃ A c, vs.getD 0 undef = .slice A n c ∧ entK.Row W WD.heap.size A n c l
theorem CopyJ.later {WD W W' : World} {n : Nat} {l : List E} {fs : List Bool} {vs : List Value} (h : CopyJ WD n l fs vs W) (hl : Later W W') : CopyJ WD n l fs vs W' :=
  ⟨h.lf, h.lv, below_chain h.below hl, fun e => by
    obtain ⟨A, c, h3, h4⟩ := h.row e
    exact ⟨A, c, h3, h4.since hl⟩⟩
theorem CopyJ.told {WD W W' : World} {n c : Nat} {A : Option Addr} {l : List E} {fs : List Bool} {vs : List Value} (h : CopyJ WD n l fs vs W) (hr : entK.Row W' W.heap.size A n c l) (hb : Below W.heap.size W W') : CopyJ WD n l (fs.set 0 true) (vs.set 0 (.slice A n c)) W' :=
  ⟨by simpa using h.lf, by simpa using h.lv, below_chain h.below hb, fun _ => ⟨A, c, gs_self (by have := h.lv; omega), hr.elder h.below.size⟩⟩
theorem CopyJ.start {WD : World} {n : Nat} {l : List E} {vs : List Value} (hv : vs.length = 1) : CopyJ WD n l [false] vs WD := ⟨rfl, hv, Below.refl _ _, fun e => by cases e⟩
set_option maxHeartbeats 64000000 in
set_option maxRecDepth 20000 in
theorem script_law (Aa : Option Addr) (na ca : Nat) (la : List A13) (w : World) (za : na ≤ 9223372036854775807) (hA : act13K.Lie w w.heap.size Aa na la) :
    Calls Try.prog 3 #[.slice Aa na ca] w (SaysB w true) := by
  have HA := Lib.hid hA
  clear hA
  by_cases h1 : 80 < na
  · go_enter Try.func3, Try.ntmps3
    go_wp2_with fail
    refine (tawake_any _).mono ?_
    rintro e W1 ⟨rfl, hb1⟩
    go_wp2_with fail
    go_ret
    exact ⟨rfl, hb1⟩
  have n80 : na ≤ 80 := by omega
  go_enter Try.func3, Try.ntmps3
  go_wp2_with fail
  clear h1
  refine (tnew_any _).mono ?_
  rintro e W0 ⟨g, fp0, rfl, hc0, hb0⟩
  obtain ⟨W1, HW1⟩ : ∃ W1, Hid (W1 = W0.alloc (.cells #[.slice none 0 0] 29)) := ⟨_, rfl⟩
  have hb1 : Below W0.heap.size W0 W1 := by rw [HW1.out]; exact (Below.refl _ _).alloc (Nat.le_refl _) _
  have S1 := Lib.hid (below_chain hb0 hb1)
  have HR1 : RefTb W1 w.heap.size (fun b => b = W0.heap.size) W0.heap.size [] := by
    refine ⟨tw_nil, rfl, fun b hb => by rw [hb]; exact hb0.size, fun b hb => by rw [hb, HW1.out]; simp, ⟨none, 0, 0, ⟨hb0.size, by rw [HW1.out]; exact heap_alloc_new W0 _, Kind.Row.none_⟩, fun b hb => by cases hb⟩⟩
  have T1 : Hid (TR W1 w.heap.size fp0 (fun b => b = W0.heap.size) g W0.heap.size [] []) := ⟨hc0.since hb1, HR1, fun b h2 h3 => by have := hc0.lt b h2; rw [show b = W0.heap.size from h3] at this; exact absurd this (Nat.lt_irrefl _)⟩
  go_wp2_with fail
  rw [← HW1.out]
  obtain ⟨gr, HGR⟩ : ∃ gr, Hid (W0.heap.size = gr) := ⟨_, rfl⟩
  obtain ⟨fq0, HFQ⟩ : ∃ fq : Nat → Prop, Hid ((fun b => b = W0.heap.size) = fq) := ⟨_, rfl⟩
  rw [HFQ.out, HGR.out] at T1
  rw [HGR.out]
  clear hc0 hb0 hb1 HR1 HW1 HFQ HGR
  go_loopw [5] (fun t5 wr => ∃ (i : Nat) (fp fq : Nat → Prop) (l : List E), t5 = .int .i64 i ∧ i ≤ na ∧ Hid (l.length ≤ i) ∧ Hid (TR wr w.heap.size fp fq g gr l l) ∧ Hid (Below w.heap.size w wr)) (fun t5 _ => na - (intOf t5).toNat)
  case atStart => exact ⟨0, fp0, fq0, [], rfl, Nat.zero_le _, Nat.zero_le _, T1, S1⟩
  clear T1 S1
  case round =>
    obtain ⟨Wa, rfl⟩ : ∃ Wa, Wa = wr := ⟨_, rfl⟩
    obtain ⟨i, fp, fq, l, rfl, hi, HL, HT, HS⟩ := hrel
    have i0 : (0 : Int) ≤ (i : Int) := by omega
    by_cases hlt : i < na
    · have i1 : (i : Int) < (na : Int) := by omega
      obtain ⟨ad, hA, hblk, hat, hwf⟩ := act13_at (HA.out.below HS.out) hlt
      have HWF := Lib.hid hwf
      obtain ⟨⟨dd, nn, ⟨xa, xp, xd, xs⟩, ff⟩, HX⟩ : ∃ x, Hid (la.getD i A13.zero = x) := ⟨_, rfl⟩
      rw [HX.out] at hat HWF
      obtain ⟨e0, e1, e2, e3, e4, e5, e6⟩ := hat
      dsimp only at e0 e1 e2 e3 e4 e5 e6
      obtain rfl := hA
      obtain ⟨V1, HV1⟩ : ∃ V1, Hid (V1 = Wa.alloc (.cells #[.int .i64 dd, .int .i64 nn, .int .u64 xa, .int .i64 xp, .bool xd, .int .i64 xs, .bool ff] 34)) := ⟨_, rfl⟩
      obtain ⟨V2, HV2⟩ : ∃ V2, Hid (V2 = V1.alloc (.cells (EC E.zero) 32)) := ⟨_, rfl⟩
      obtain ⟨V3, HV3⟩ : ∃ V3, Hid (V3 = V2.alloc (.cells (EC E.zero) 32)) := ⟨_, rfl⟩
      have hb1 : Below Wa.heap.size Wa V1 := by rw [HV1.out]; exact (Below.refl _ _).alloc (Nat.le_refl _) _
      have hb2 : Below V1.heap.size V1 V2 := by rw [HV2.out]; exact (Below.refl _ _).alloc (Nat.le_refl _) _
      have hb3 : Below V2.heap.size V2 V3 := by rw [HV3.out]; exact (Below.refl _ _).alloc (Nat.le_refl _) _
      have hz1 : V1.heap.size = Wa.heap.size + 1 := by rw [HV1.out]; simp
      have hz2 : V2.heap.size = Wa.heap.size + 1 + 1 := by rw [HV2.out, show (V1.alloc _).heap.size = V1.heap.size + 1 by simp, hz1]
      have T3 := Lib.hid (((HT.out.since hb1).since hb2).since hb3)
      have S3 := Lib.hid (below_chain (below_chain (below_chain HS.out hb1) hb2) hb3)
      have X3 : Hid (RestC (Or2 fp fq) V3 Wa.heap.size #[.int .i64 dd, .int .i64 nn, .int .u64 xa, .int .i64 xp, .bool xd, .int .i64 xs, .bool ff] 34) := by
        refine RestC.since (RestC.since ?_ hb2) hb3
        rw [HV1.out]; exact RestC.new Wa _ _ HT.out.lt
      have A3 : Hid (RestC (Or2 fp fq) V3 V1.heap.size (EC E.zero) 32) := by
        refine RestC.since ?_ hb3
        rw [HV2.out]; exact RestC.new V1 _ _ (HT.out.since hb1).lt
      have B3 : Hid (RestC (Or2 fp fq) V3 V2.heap.size (EC E.zero) 32) := by
        rw [HV3.out]; exact RestC.new V2 _ _ ((HT.out.since hb1).since hb2).lt
      rw [hz1] at A3
      rw [hz2] at B3
      have q0 : V3.cell? ⟨Wa.heap.size, 0, none⟩ = some (.int .i64 dd) := by rw [X3.out.cell]; rfl
      have q1 : V3.cell? ⟨Wa.heap.size, 1, none⟩ = some (.int .i64 nn) := by rw [X3.out.cell]; rfl
      have q2 : V3.cell? ⟨Wa.heap.size, 2, none⟩ = some (.int .u64 xa) := by rw [X3.out.cell]; rfl
      have q3 : V3.cell? ⟨Wa.heap.size, 3, none⟩ = some (.int .i64 xp) := by rw [X3.out.cell]; rfl
      have q4 : V3.cell? ⟨Wa.heap.size, 4, none⟩ = some (.bool xd) := by rw [X3.out.cell]; rfl
      have q5 : V3.cell? ⟨Wa.heap.size, 5, none⟩ = some (.int .i64 xs) := by rw [X3.out.cell]; rfl
      have q6 : V3.cell? ⟨Wa.heap.size, 6, none⟩ = some (.bool ff) := by rw [X3.out.cell]; rfl
      rw [HV3.out, HV2.out, HV1.out] at q0 q1 q2 q3 q4 q5 q6
      unfold EC E.zero at q0 q1 q2 q3 q4 q5 q6
      dsimp only at q0 q1 q2 q3 q4 q5 q6
      clear hb1 hb2 hb3 hz1 hz2
      have HVV : Hid (V3 = ((Wa.alloc (.cells #[.int .i64 dd, .int .i64 nn, .int .u64 xa, .int .i64 xp, .bool xd, .int .i64 xs, .bool ff] 34)).alloc (.cells #[.int .u64 0, .int .i64 0, .bool false, .int .i64 0] 32)).alloc (.cells #[.int .u64 0, .int .i64 0, .bool false, .int .i64 0] 32)) := by rw [HV3.out, HV2.out, HV1.out]; exact rfl
      obtain ⟨bx, HBX⟩ : ∃ bx, Hid (Wa.heap.size = bx) := ⟨_, rfl⟩
      rw [HBX.out] at X3 A3 B3
      clear HV3 HV2 HV1 HX hblk
      by_cases d0 : dd = 0
      · skip
        subst d0
        have HLL : Hid (l.length < 120) := by have := HL.out; show _ < _; omega
        have HBXW : Hid (w.heap.size ≤ bx) := by rw [← HBX.out]; exact HS.out.size
        go_wp2_with fail
        rw [← HVV.out]
        try rw [HBX.out]
        clear q0 q1 q2 q3 q4 q5 q6 HVV HT HS e0 e1 e2 e3 e4 e5 e6
        refine (tput_any ⟨xa, xp, xd, xs⟩ HWF.out.e_wf T3.out.d HLL.out).mono ?_
        rintro e U1 ⟨fp1, rfl, hc1, hm1⟩
        obtain ⟨ht1, hm1⟩ := T3.out.left hc1 hm1
        have T4 := Lib.hid ht1
        have S4 := Lib.hid (T3.out.below S3.out hm1)
        have A4 := Lib.hid (A3.out.step hm1)
        have B4 := Lib.hid (B3.out.step hm1)
        have X4 := Lib.hid (X3.out.step hm1)
        clear hc1 hm1 ht1 T3 S3 A3 B3 X3
        rw [pairO_any]
        obtain ⟨⟨ya, yp, yd, yq⟩, HY⟩ : ∃ y, Hid ((getT l xa).getD E.zero = y) := ⟨_, rfl⟩
        obtain ⟨pb, HPB⟩ : ∃ pb, Hid ((getT l xa).isSome = pb) := ⟨_, rfl⟩
        rw [HY.out, HPB.out]
        dsimp only
        obtain ⟨a0, a1, a2, a3⟩ := rest_en A4.out
        have f0 := A4.out.free 0
        have f1 := A4.out.free 1
        have f2 := A4.out.free 2
        have f3 := A4.out.free 3
        simp only [E.zero] at a0 a1 a2 a3
        obtain ⟨U2, HU2⟩ : ∃ U2, Hid (U2 = (((U1.setCell ⟨bx + 1, 0, none⟩ (.int .u64 ya)).setCell ⟨bx + 1, 1, none⟩ (.int .i64 yp)).setCell ⟨bx + 1, 2, none⟩ (.bool yd)).setCell ⟨bx + 1, 3, none⟩ (.int .i64 yq)) := ⟨_, rfl⟩
        have A5 : Hid (RestC (Or2 fp1 fq) U2 (bx + 1) (EC ⟨ya, yp, yd, yq⟩) 32) := by rw [HU2.out]; exact rest_put A4.out ⟨ya, yp, yd, yq⟩
        have B5 : Hid (RestC (Or2 fp1 fq) U2 (bx + 1 + 1) (EC E.zero) 32) := by rw [HU2.out]; exact rest_else B4.out (by omega) _ _ _ _
        have X5 : Hid (RestC (Or2 fp1 fq) U2 bx #[.int .i64 0, .int .i64 nn, .int .u64 xa, .int .i64 xp, .bool xd, .int .i64 xs, .bool ff] 34) := by rw [HU2.out]; exact rest_else X4.out (by omega) _ _ _ _
        have TU2 : Turn (fun b => b = bx + 1) U1 U2 := by rw [HU2.out]; exact turn_put (bx + 1) (.int .u64 ya) (.int .i64 yp) (.bool yd) (.int .i64 yq)
        have T5 := Lib.hid (T4.out.at_turn TU2 A4.out.safe)
        have S5 := Lib.hid (TU2.chain S4.out (fun b hb => by have := HBXW.out; rw [show b = bx + 1 from hb]; omega) T4.out.d.base_le)
        have x2 : U2.cell? ⟨bx, 2, none⟩ = some (.int .u64 xa) := by rw [X5.out.cell]; rfl
        have x3 : U2.cell? ⟨bx, 3, none⟩ = some (.int .i64 xp) := by rw [X5.out.cell]; rfl
        have x4 : U2.cell? ⟨bx, 4, none⟩ = some (.bool xd) := by rw [X5.out.cell]; rfl
        have x5 : U2.cell? ⟨bx, 5, none⟩ = some (.int .i64 xs) := by rw [X5.out.cell]; rfl
        rw [HU2.out] at x2 x3 x4 x5
        go_wp2_with fail
        rw [← HU2.out]
        clear x2 x3 x4 x5 a0 a1 a2 a3 f0 f1 f2 f3 TU2 T4 S4 A4 B4 X4 HU2
        refine (refput_any ⟨xa, xp, xd, xs⟩ HWF.out.e_wf T5.out.k HLL.out).mono ?_
        rintro e U3 ⟨fq1, rfl, hc1, hm1⟩
        obtain ⟨ht1, hm1⟩ := T5.out.right hc1 hm1
        have T6 := Lib.hid ht1
        have S6 := Lib.hid (T5.out.below S5.out hm1)
        have A6 := Lib.hid (A5.out.step hm1)
        have B6 := Lib.hid (B5.out.step hm1)
        clear hc1 hm1 ht1 T5 S5 A5 B5 X5
        rw [pairO_any, HY.out, HPB.out]
        dsimp only
        obtain ⟨a0, a1, a2, a3⟩ := rest_en B6.out
        have f0 := B6.out.free 0
        have f1 := B6.out.free 1
        have f2 := B6.out.free 2
        have f3 := B6.out.free 3
        simp only [E.zero] at a0 a1 a2 a3
        obtain ⟨U4, HU4⟩ : ∃ U4, Hid (U4 = (((U3.setCell ⟨bx + 1 + 1, 0, none⟩ (.int .u64 ya)).setCell ⟨bx + 1 + 1, 1, none⟩ (.int .i64 yp)).setCell ⟨bx + 1 + 1, 2, none⟩ (.bool yd)).setCell ⟨bx + 1 + 1, 3, none⟩ (.int .i64 yq)) := ⟨_, rfl⟩
        have A8 : Hid (RestC (Or2 fp1 fq1) U4 (bx + 1) (EC ⟨ya, yp, yd, yq⟩) 32) := by rw [HU4.out]; exact rest_else A6.out (by omega) _ _ _ _
        have B8 : Hid (RestC (Or2 fp1 fq1) U4 (bx + 1 + 1) (EC ⟨ya, yp, yd, yq⟩) 32) := by rw [HU4.out]; exact rest_put B6.out ⟨ya, yp, yd, yq⟩
        have TU4 : Turn (fun b => b = bx + 1 + 1) U3 U4 := by rw [HU4.out]; exact turn_put (bx + 1 + 1) (.int .u64 ya) (.int .i64 yp) (.bool yd) (.int .i64 yq)
        have T8 := Lib.hid (T6.out.at_turn TU4 B6.out.safe)
        have S8 := Lib.hid (TU4.chain S6.out (fun b hb => by have := HBXW.out; rw [show b = bx + 1 + 1 from hb]; omega) T6.out.d.base_le)
        have L8 : Hid ((putT l ⟨xa, xp, xd, xs⟩).length ≤ i + 1) := by have := HL.out; have := len_put_le l ⟨xa, xp, xd, xs⟩; show _ ≤ _; omega
        go_wp2_with fail
        rw [← HU4.out]
        clear a0 a1 a2 a3 f0 f1 f2 f3 TU4 T6 S6 A6 B6 HU4 HL HLL HWF HY HPB
        cases pb
        · obtain ⟨Ar, nr, cr, hRT, hRA⟩ := T8.out.k.ex
          have HNR : Hid ((putT l ⟨xa, xp, xd, xs⟩).length = nr) := hRT.lr.len
          have hnr : nr ≤ 100 := by have := L8.out; rw [← HNR.out]; omega
          have HWFL : Hid (∀ e ∈ (putT l ⟨xa, xp, xd, xs⟩), EWf e) := T8.out.k.wf.wf
          have HRT := Lib.hid hRT
          clear hRT hRA
          refine (tall_any T8.out.d).mono ?_
          rintro e U1 ⟨A7, n7, c7, rfl, hi7, hb7⟩
          obtain rfl : nr = n7 := by rw [← HNR.out]; exact hi7.out.len
          have TA := Lib.hid (T8.out.since hb7.out)
          have AA := Lib.hid (A8.out.since hb7.out)
          have BA := Lib.hid (B8.out.since hb7.out)
          have RA := Lib.hid (HRT.out.since hb7.out)
          have QA : Hid (entK.Row U1 U4.heap.size A7 nr c7 (putT l ⟨xa, xp, xd, xs⟩)) := hi7.out
          have HBB := Lib.hid hb7.out
          clear hb7 hi7 A8 B8 HRT 
          obtain ⟨a0, a1, a2, a3⟩ := rest_en AA.out
          obtain ⟨b0, b1, b2, b3⟩ := rest_en BA.out
          dsimp only at a0 a1 a2 a3 b0 b1 b2 b3
          have g0 := RA.out.c0
          have c1 := Lib.hid fun (d : Nat) (os : Array Obj) => quiet_says (sameentries_since A7 Ar nr c7 cr (putT l ⟨xa, xp, xd, xs⟩) (grow (redrawn U1 d) os) (by omega) (QA.out.since (below_regrown U1 d os)).lie (RA.out.since (below_regrown U1 d os)).lr.lie)
          have c2 := Lib.hid fun (d : Nat) (os : Array Obj) => Calls.regrown_of ((tlen_any (TA.out.d.since (below_regrown U1 d os))).mono fun e w' h => ⟨h.1, h.2.out⟩)
          have c3 := Lib.hid fun (d : Nat) (os : Array Obj) => Calls.regrown_of ((tdirty_any (TA.out.d.since (below_regrown U1 d os))).mono fun e w' h => ⟨h.1, h.2.out⟩)
          have c4 := Lib.hid fun (d : Nat) (os : Array Obj) => Calls.regrown_of ((refdirty_any (RA.out.since (below_regrown U1 d os)) HWFL.out (by omega)).mono fun e w' h => ⟨h.1, h.2.out⟩)
          rw [HNR.out] at c2
          obtain ⟨dty, HDT⟩ : ∃ dty, Hid (((dirtyT (putT l ⟨xa, xp, xd, xs⟩) : Nat) : Int) = dty) := ⟨_, rfl⟩
          rw [HDT.out] at c3 c4
          go_wp2_with fail
          have a0 := cell_regrown a0
          have a1 := cell_regrown a1
          have a2 := cell_regrown a2
          have a3 := cell_regrown a3
          have b0 := cell_regrown b0
          have b1 := cell_regrown b1
          have b2 := cell_regrown b2
          have b3 := cell_regrown b3
          have g0 := cell_regrown g0
          refine wp_region_quiet_below (by kernel_rfl) (by kernel_rfl) ?_
          repeat (go_big_quiet_step (first | (go_at_call 17; exact c1.out _ _) | (go_at_call 24; exact c2.out _ _) | (go_at_call 22; exact c3.out _ _) | (go_at_call 23; exact c4.out _ _)))
          refine wpQuiet_nil ?_
          intro U2 hw'
          have HB2 : Hid (Below U1.heap.size U1 U2) := by obtain ⟨⟨dq, osq⟩, hw''⟩ := hw'; rw [hw'']; exact below_regrown _ _ _
          clear hw' a0 a1 a2 a3 b0 b1 b2 b3 g0 c1 c2 c3 c4
          have QB := Lib.hid (QA.out.since HB2.out)
          have HBC := Lib.hid (below_chain HBB.out HB2.out)
          clear TA QA RA AA BA HB2 HDT HBB
          go_wp2_with fail
          refine (overentries_any A7 nr c7 _ _ _ (by omega) HBC.out.size QB.out).mono ?_
          rintro e U3 ⟨rfl, hg3⟩
          have HBD : Hid (Below U4.heap.size U4 U3) := HBC.out.grown hg3 HBC.out.size fun k hk => (QB.out.row.lt k hk).1
          have TF := Lib.hid (T8.out.since HBD.out)
          have SF := Lib.hid (below_chain S8.out HBD.out)
          clear hg3 QB HBC HBD T8 S8 HNR HWFL
          go_wp2_with fail
          go_roundw
          case rel => exact ⟨i + 1, fp1, fq1, (putT l ⟨xa, xp, xd, xs⟩), by go_num, by omega, L8, TF, SF⟩
          case measure => simp [intOf]; omega
        · obtain ⟨Ar, nr, cr, hRT, hRA⟩ := T8.out.k.ex
          have HNR : Hid ((putT l ⟨xa, xp, xd, xs⟩).length = nr) := hRT.lr.len
          have hnr : nr ≤ 100 := by have := L8.out; rw [← HNR.out]; omega
          have HWFL : Hid (∀ e ∈ (putT l ⟨xa, xp, xd, xs⟩), EWf e) := T8.out.k.wf.wf
          have HRT := Lib.hid hRT
          clear hRT hRA
          refine (tall_any T8.out.d).mono ?_
          rintro e U1 ⟨A7, n7, c7, rfl, hi7, hb7⟩
          obtain rfl : nr = n7 := by rw [← HNR.out]; exact hi7.out.len
          have TA := Lib.hid (T8.out.since hb7.out)
          have AA := Lib.hid (A8.out.since hb7.out)
          have BA := Lib.hid (B8.out.since hb7.out)
          have RA := Lib.hid (HRT.out.since hb7.out)
          have QA : Hid (entK.Row U1 U4.heap.size A7 nr c7 (putT l ⟨xa, xp, xd, xs⟩)) := hi7.out
          have HBB := Lib.hid hb7.out
          clear hb7 hi7 A8 B8 HRT 
          obtain ⟨a0, a1, a2, a3⟩ := rest_en AA.out
          obtain ⟨b0, b1, b2, b3⟩ := rest_en BA.out
          dsimp only at a0 a1 a2 a3 b0 b1 b2 b3
          have g0 := RA.out.c0
          have c1 := Lib.hid fun (d : Nat) (os : Array Obj) => quiet_says (sameentries_since A7 Ar nr c7 cr (putT l ⟨xa, xp, xd, xs⟩) (grow (redrawn U1 d) os) (by omega) (QA.out.since (below_regrown U1 d os)).lie (RA.out.since (below_regrown U1 d os)).lr.lie)
          have c2 := Lib.hid fun (d : Nat) (os : Array Obj) => Calls.regrown_of ((tlen_any (TA.out.d.since (below_regrown U1 d os))).mono fun e w' h => ⟨h.1, h.2.out⟩)
          have c3 := Lib.hid fun (d : Nat) (os : Array Obj) => Calls.regrown_of ((tdirty_any (TA.out.d.since (below_regrown U1 d os))).mono fun e w' h => ⟨h.1, h.2.out⟩)
          have c4 := Lib.hid fun (d : Nat) (os : Array Obj) => Calls.regrown_of ((refdirty_any (RA.out.since (below_regrown U1 d os)) HWFL.out (by omega)).mono fun e w' h => ⟨h.1, h.2.out⟩)
          rw [HNR.out] at c2
          obtain ⟨dty, HDT⟩ : ∃ dty, Hid (((dirtyT (putT l ⟨xa, xp, xd, xs⟩) : Nat) : Int) = dty) := ⟨_, rfl⟩
          rw [HDT.out] at c3 c4
          go_wp2_with fail
          have a0 := cell_regrown a0
          have a1 := cell_regrown a1
          have a2 := cell_regrown a2
          have a3 := cell_regrown a3
          have b0 := cell_regrown b0
          have b1 := cell_regrown b1
          have b2 := cell_regrown b2
          have b3 := cell_regrown b3
          have g0 := cell_regrown g0
          refine wp_region_quiet_below (by kernel_rfl) (by kernel_rfl) ?_
          repeat (go_big_quiet_step (first | (go_at_call 17; exact c1.out _ _) | (go_at_call 24; exact c2.out _ _) | (go_at_call 22; exact c3.out _ _) | (go_at_call 23; exact c4.out _ _)))
          refine wpQuiet_nil ?_
          intro U2 hw'
          have HB2 : Hid (Below U1.heap.size U1 U2) := by obtain ⟨⟨dq, osq⟩, hw''⟩ := hw'; rw [hw'']; exact below_regrown _ _ _
          clear hw' a0 a1 a2 a3 b0 b1 b2 b3 g0 c1 c2 c3 c4
          have QB := Lib.hid (QA.out.since HB2.out)
          have HBC := Lib.hid (below_chain HBB.out HB2.out)
          clear TA QA RA AA BA HB2 HDT HBB
          go_wp2_with fail
          refine (overentries_any A7 nr c7 _ _ _ (by omega) HBC.out.size QB.out).mono ?_
          rintro e U3 ⟨rfl, hg3⟩
          have HBD : Hid (Below U4.heap.size U4 U3) := HBC.out.grown hg3 HBC.out.size fun k hk => (QB.out.row.lt k hk).1
          have TF := Lib.hid (T8.out.since HBD.out)
          have SF := Lib.hid (below_chain S8.out HBD.out)
          clear hg3 QB HBC HBD T8 S8 HNR HWFL
          go_wp2_with fail
          go_roundw
          case rel => exact ⟨i + 1, fp1, fq1, (putT l ⟨xa, xp, xd, xs⟩), by go_num, by omega, L8, TF, SF⟩
          case measure => simp [intOf]; omega
      by_cases d1 : dd = 1
      · skip
        subst d1
        have HLL : Hid (l.length < 120) := by have := HL.out; show _ < _; omega
        have HBXW : Hid (w.heap.size ≤ bx) := by rw [← HBX.out]; exact HS.out.size
        go_wp2_with fail
        rw [← HVV.out]
        try rw [HBX.out]
        clear q0 q1 q2 q3 q4 q5 q6 HVV HT HS e0 e1 e2 e3 e4 e5 e6
        refine (tget_any xa HWF.out.e_wf.a0 HWF.out.e_wf.a1 T3.out.d).mono ?_
        rintro e U1 ⟨rfl, hb1⟩
        have T4 := Lib.hid (T3.out.since hb1.out)
        have S4 := Lib.hid (below_chain S3.out hb1.out)
        have A4 := Lib.hid (A3.out.since hb1.out)
        have B4 := Lib.hid (B3.out.since hb1.out)
        have X4 := Lib.hid (X3.out.since hb1.out)
        clear hb1 T3 S3 A3 B3 X3
        rw [pairO_any]
        obtain ⟨⟨ya, yp, yd, yq⟩, HY⟩ : ∃ y, Hid ((getT l xa).getD E.zero = y) := ⟨_, rfl⟩
        obtain ⟨pb, HPB⟩ : ∃ pb, Hid ((getT l xa).isSome = pb) := ⟨_, rfl⟩
        rw [HY.out, HPB.out]
        dsimp only
        obtain ⟨a0, a1, a2, a3⟩ := rest_en A4.out
        have f0 := A4.out.free 0
        have f1 := A4.out.free 1
        have f2 := A4.out.free 2
        have f3 := A4.out.free 3
        simp only [E.zero] at a0 a1 a2 a3
        obtain ⟨U2, HU2⟩ : ∃ U2, Hid (U2 = (((U1.setCell ⟨bx + 1, 0, none⟩ (.int .u64 ya)).setCell ⟨bx + 1, 1, none⟩ (.int .i64 yp)).setCell ⟨bx + 1, 2, none⟩ (.bool yd)).setCell ⟨bx + 1, 3, none⟩ (.int .i64 yq)) := ⟨_, rfl⟩
        have A5 : Hid (RestC (Or2 fp fq) U2 (bx + 1) (EC ⟨ya, yp, yd, yq⟩) 32) := by rw [HU2.out]; exact rest_put A4.out ⟨ya, yp, yd, yq⟩
        have B5 : Hid (RestC (Or2 fp fq) U2 (bx + 1 + 1) (EC E.zero) 32) := by rw [HU2.out]; exact rest_else B4.out (by omega) _ _ _ _
        have X5 : Hid (RestC (Or2 fp fq) U2 bx #[.int .i64 1, .int .i64 nn, .int .u64 xa, .int .i64 xp, .bool xd, .int .i64 xs, .bool ff] 34) := by rw [HU2.out]; exact rest_else X4.out (by omega) _ _ _ _
        have TU2 : Turn (fun b => b = bx + 1) U1 U2 := by rw [HU2.out]; exact turn_put (bx + 1) (.int .u64 ya) (.int .i64 yp) (.bool yd) (.int .i64 yq)
        have T5 := Lib.hid (T4.out.at_turn TU2 A4.out.safe)
        have S5 := Lib.hid (TU2.chain S4.out (fun b hb => by have := HBXW.out; rw [show b = bx + 1 from hb]; omega) T4.out.d.base_le)
        have x2 : U2.cell? ⟨bx, 2, none⟩ = some (.int .u64 xa) := by rw [X5.out.cell]; rfl
        have x3 : U2.cell? ⟨bx, 3, none⟩ = some (.int .i64 xp) := by rw [X5.out.cell]; rfl
        have x4 : U2.cell? ⟨bx, 4, none⟩ = some (.bool xd) := by rw [X5.out.cell]; rfl
        have x5 : U2.cell? ⟨bx, 5, none⟩ = some (.int .i64 xs) := by rw [X5.out.cell]; rfl
        rw [HU2.out] at x2 x3 x4 x5
        go_wp2_with fail
        rw [← HU2.out]
        clear x2 x3 x4 x5 a0 a1 a2 a3 f0 f1 f2 f3 TU2 T4 S4 A4 B4 X4 HU2
        obtain ⟨Ag, ng, cg, hRg, _⟩ := T5.out.k.ex
        refine (refget_any xa hRg T5.out.k.wf.srt (by rw [← hRg.lr.len]; exact T5.out.k.wf.few)).mono ?_
        clear hRg
        rintro e U3 ⟨rfl, hb1⟩
        have T6 := Lib.hid (T5.out.since hb1.out)
        have S6 := Lib.hid (below_chain S5.out hb1.out)
        have A6 := Lib.hid (A5.out.since hb1.out)
        have B6 := Lib.hid (B5.out.since hb1.out)
        clear hb1 T5 S5 A5 B5 X5
        rw [pairO_any, HY.out, HPB.out]
        dsimp only
        obtain ⟨a0, a1, a2, a3⟩ := rest_en B6.out
        have f0 := B6.out.free 0
        have f1 := B6.out.free 1
        have f2 := B6.out.free 2
        have f3 := B6.out.free 3
        simp only [E.zero] at a0 a1 a2 a3
        obtain ⟨U4, HU4⟩ : ∃ U4, Hid (U4 = (((U3.setCell ⟨bx + 1 + 1, 0, none⟩ (.int .u64 ya)).setCell ⟨bx + 1 + 1, 1, none⟩ (.int .i64 yp)).setCell ⟨bx + 1 + 1, 2, none⟩ (.bool yd)).setCell ⟨bx + 1 + 1, 3, none⟩ (.int .i64 yq)) := ⟨_, rfl⟩
        have A8 : Hid (RestC (Or2 fp fq) U4 (bx + 1) (EC ⟨ya, yp, yd, yq⟩) 32) := by rw [HU4.out]; exact rest_else A6.out (by omega) _ _ _ _
        have B8 : Hid (RestC (Or2 fp fq) U4 (bx + 1 + 1) (EC ⟨ya, yp, yd, yq⟩) 32) := by rw [HU4.out]; exact rest_put B6.out ⟨ya, yp, yd, yq⟩
        have TU4 : Turn (fun b => b = bx + 1 + 1) U3 U4 := by rw [HU4.out]; exact turn_put (bx + 1 + 1) (.int .u64 ya) (.int .i64 yp) (.bool yd) (.int .i64 yq)
        have T8 := Lib.hid (T6.out.at_turn TU4 B6.out.safe)
        have S8 := Lib.hid (TU4.chain S6.out (fun b hb => by have := HBXW.out; rw [show b = bx + 1 + 1 from hb]; omega) T6.out.d.base_le)
        have L8 : Hid ((l).length ≤ i + 1) := by exact Nat.le_succ_of_le HL.out
        go_wp2_with fail
        rw [← HU4.out]
        clear a0 a1 a2 a3 f0 f1 f2 f3 TU4 T6 S6 A6 B6 HU4 HL HLL HWF HY HPB
        cases pb
        · obtain ⟨Ar, nr, cr, hRT, hRA⟩ := T8.out.k.ex
          have HNR : Hid (l.length = nr) := hRT.lr.len
          have hnr : nr ≤ 100 := by have := L8.out; rw [← HNR.out]; omega
          have HWFL : Hid (∀ e ∈ l, EWf e) := T8.out.k.wf.wf
          have HRT := Lib.hid hRT
          clear hRT hRA
          refine (tall_any T8.out.d).mono ?_
          rintro e U1 ⟨A7, n7, c7, rfl, hi7, hb7⟩
          obtain rfl : nr = n7 := by rw [← HNR.out]; exact hi7.out.len
          have TA := Lib.hid (T8.out.since hb7.out)
          have AA := Lib.hid (A8.out.since hb7.out)
          have BA := Lib.hid (B8.out.since hb7.out)
          have RA := Lib.hid (HRT.out.since hb7.out)
          have QA : Hid (entK.Row U1 U4.heap.size A7 nr c7 l) := hi7.out
          have HBB := Lib.hid hb7.out
          clear hb7 hi7 A8 B8 HRT 
          obtain ⟨a0, a1, a2, a3⟩ := rest_en AA.out
          obtain ⟨b0, b1, b2, b3⟩ := rest_en BA.out
          dsimp only at a0 a1 a2 a3 b0 b1 b2 b3
          have g0 := RA.out.c0
          have c1 := Lib.hid fun (d : Nat) (os : Array Obj) => quiet_says (sameentries_since A7 Ar nr c7 cr l (grow (redrawn U1 d) os) (by omega) (QA.out.since (below_regrown U1 d os)).lie (RA.out.since (below_regrown U1 d os)).lr.lie)
          have c2 := Lib.hid fun (d : Nat) (os : Array Obj) => Calls.regrown_of ((tlen_any (TA.out.d.since (below_regrown U1 d os))).mono fun e w' h => ⟨h.1, h.2.out⟩)
          have c3 := Lib.hid fun (d : Nat) (os : Array Obj) => Calls.regrown_of ((tdirty_any (TA.out.d.since (below_regrown U1 d os))).mono fun e w' h => ⟨h.1, h.2.out⟩)
          have c4 := Lib.hid fun (d : Nat) (os : Array Obj) => Calls.regrown_of ((refdirty_any (RA.out.since (below_regrown U1 d os)) HWFL.out (by omega)).mono fun e w' h => ⟨h.1, h.2.out⟩)
          rw [HNR.out] at c2
          obtain ⟨dty, HDT⟩ : ∃ dty, Hid (((dirtyT l : Nat) : Int) = dty) := ⟨_, rfl⟩
          rw [HDT.out] at c3 c4
          go_wp2_with fail
          have a0 := cell_regrown a0
          have a1 := cell_regrown a1
          have a2 := cell_regrown a2
          have a3 := cell_regrown a3
          have b0 := cell_regrown b0
          have b1 := cell_regrown b1
          have b2 := cell_regrown b2
          have b3 := cell_regrown b3
          have g0 := cell_regrown g0
          refine wp_region_quiet_below (by kernel_rfl) (by kernel_rfl) ?_
          repeat (go_big_quiet_step (first | (go_at_call 17; exact c1.out _ _) | (go_at_call 24; exact c2.out _ _) | (go_at_call 22; exact c3.out _ _) | (go_at_call 23; exact c4.out _ _)))
          refine wpQuiet_nil ?_
          intro U2 hw'
          have HB2 : Hid (Below U1.heap.size U1 U2) := by obtain ⟨⟨dq, osq⟩, hw''⟩ := hw'; rw [hw'']; exact below_regrown _ _ _
          clear hw' a0 a1 a2 a3 b0 b1 b2 b3 g0 c1 c2 c3 c4
          have QB := Lib.hid (QA.out.since HB2.out)
          have HBC := Lib.hid (below_chain HBB.out HB2.out)
          clear TA QA RA AA BA HB2 HDT HBB
          go_wp2_with fail
          refine (overentries_any A7 nr c7 _ _ _ (by omega) HBC.out.size QB.out).mono ?_
          rintro e U3 ⟨rfl, hg3⟩
          have HBD : Hid (Below U4.heap.size U4 U3) := HBC.out.grown hg3 HBC.out.size fun k hk => (QB.out.row.lt k hk).1
          have TF := Lib.hid (T8.out.since HBD.out)
          have SF := Lib.hid (below_chain S8.out HBD.out)
          clear hg3 QB HBC HBD T8 S8 HNR HWFL
          go_wp2_with fail
          go_roundw
          case rel => exact ⟨i + 1, fp, fq, l, by go_num, by omega, L8, TF, SF⟩
          case measure => simp [intOf]; omega
        · obtain ⟨Ar, nr, cr, hRT, hRA⟩ := T8.out.k.ex
          have HNR : Hid (l.length = nr) := hRT.lr.len
          have hnr : nr ≤ 100 := by have := L8.out; rw [← HNR.out]; omega
          have HWFL : Hid (∀ e ∈ l, EWf e) := T8.out.k.wf.wf
          have HRT := Lib.hid hRT
          clear hRT hRA
          refine (tall_any T8.out.d).mono ?_
          rintro e U1 ⟨A7, n7, c7, rfl, hi7, hb7⟩
          obtain rfl : nr = n7 := by rw [← HNR.out]; exact hi7.out.len
          have TA := Lib.hid (T8.out.since hb7.out)
          have AA := Lib.hid (A8.out.since hb7.out)
          have BA := Lib.hid (B8.out.since hb7.out)
          have RA := Lib.hid (HRT.out.since hb7.out)
          have QA : Hid (entK.Row U1 U4.heap.size A7 nr c7 l) := hi7.out
          have HBB := Lib.hid hb7.out
          clear hb7 hi7 A8 B8 HRT 
          obtain ⟨a0, a1, a2, a3⟩ := rest_en AA.out
          obtain ⟨b0, b1, b2, b3⟩ := rest_en BA.out
          dsimp only at a0 a1 a2 a3 b0 b1 b2 b3
          have g0 := RA.out.c0
          have c1 := Lib.hid fun (d : Nat) (os : Array Obj) => quiet_says (sameentries_since A7 Ar nr c7 cr l (grow (redrawn U1 d) os) (by omega) (QA.out.since (below_regrown U1 d os)).lie (RA.out.since (below_regrown U1 d os)).lr.lie)
          have c2 := Lib.hid fun (d : Nat) (os : Array Obj) => Calls.regrown_of ((tlen_any (TA.out.d.since (below_regrown U1 d os))).mono fun e w' h => ⟨h.1, h.2.out⟩)
          have c3 := Lib.hid fun (d : Nat) (os : Array Obj) => Calls.regrown_of ((tdirty_any (TA.out.d.since (below_regrown U1 d os))).mono fun e w' h => ⟨h.1, h.2.out⟩)
          have c4 := Lib.hid fun (d : Nat) (os : Array Obj) => Calls.regrown_of ((refdirty_any (RA.out.since (below_regrown U1 d os)) HWFL.out (by omega)).mono fun e w' h => ⟨h.1, h.2.out⟩)
          rw [HNR.out] at c2
          obtain ⟨dty, HDT⟩ : ∃ dty, Hid (((dirtyT l : Nat) : Int) = dty) := ⟨_, rfl⟩
          rw [HDT.out] at c3 c4
          go_wp2_with fail
          have a0 := cell_regrown a0
          have a1 := cell_regrown a1
          have a2 := cell_regrown a2
          have a3 := cell_regrown a3
          have b0 := cell_regrown b0
          have b1 := cell_regrown b1
          have b2 := cell_regrown b2
          have b3 := cell_regrown b3
          have g0 := cell_regrown g0
          refine wp_region_quiet_below (by kernel_rfl) (by kernel_rfl) ?_
          repeat (go_big_quiet_step (first | (go_at_call 17; exact c1.out _ _) | (go_at_call 24; exact c2.out _ _) | (go_at_call 22; exact c3.out _ _) | (go_at_call 23; exact c4.out _ _)))
          refine wpQuiet_nil ?_
          intro U2 hw'
          have HB2 : Hid (Below U1.heap.size U1 U2) := by obtain ⟨⟨dq, osq⟩, hw''⟩ := hw'; rw [hw'']; exact below_regrown _ _ _
          clear hw' a0 a1 a2 a3 b0 b1 b2 b3 g0 c1 c2 c3 c4
          have QB := Lib.hid (QA.out.since HB2.out)
          have HBC := Lib.hid (below_chain HBB.out HB2.out)
          clear TA QA RA AA BA HB2 HDT HBB
          go_wp2_with fail
          refine (overentries_any A7 nr c7 _ _ _ (by omega) HBC.out.size QB.out).mono ?_
          rintro e U3 ⟨rfl, hg3⟩
          have HBD : Hid (Below U4.heap.size U4 U3) := HBC.out.grown hg3 HBC.out.size fun k hk => (QB.out.row.lt k hk).1
          have TF := Lib.hid (T8.out.since HBD.out)
          have SF := Lib.hid (below_chain S8.out HBD.out)
          clear hg3 QB HBC HBD T8 S8 HNR HWFL
          go_wp2_with fail
          go_roundw
          case rel => exact ⟨i + 1, fp, fq, l, by go_num, by omega, L8, TF, SF⟩
          case measure => simp [intOf]; omega
      by_cases d2 : dd = 2
      · skip
        subst d2
        have HLL : Hid (l.length < 120) := by have := HL.out; show _ < _; omega
        have HBXW : Hid (w.heap.size ≤ bx) := by rw [← HBX.out]; exact HS.out.size
        go_wp2_with fail
        rw [← HVV.out]
        try rw [HBX.out]
        clear q0 q1 q2 q3 q4 q5 q6 HVV HT HS e0 e1 e2 e3 e4 e5 e6
        refine (tdrop_any xa HWF.out.e_wf.a0 HWF.out.e_wf.a1 T3.out.d).mono ?_
        rintro e U1 ⟨fp1, rfl, hc1, hm1⟩
        obtain ⟨ht1, hm1⟩ := T3.out.left hc1 hm1
        have T4 := Lib.hid ht1
        have S4 := Lib.hid (T3.out.below S3.out hm1)
        have A4 := Lib.hid (A3.out.step hm1)
        have B4 := Lib.hid (B3.out.step hm1)
        have X4 := Lib.hid (X3.out.step hm1)
        clear hc1 hm1 ht1 T3 S3 A3 B3 X3
        rw [pairO_any]
        obtain ⟨⟨ya, yp, yd, yq⟩, HY⟩ : ∃ y, Hid ((getT l xa).getD E.zero = y) := ⟨_, rfl⟩
        obtain ⟨pb, HPB⟩ : ∃ pb, Hid ((getT l xa).isSome = pb) := ⟨_, rfl⟩
        rw [HY.out, HPB.out]
        dsimp only
        obtain ⟨a0, a1, a2, a3⟩ := rest_en A4.out
        have f0 := A4.out.free 0
        have f1 := A4.out.free 1
        have f2 := A4.out.free 2
        have f3 := A4.out.free 3
        simp only [E.zero] at a0 a1 a2 a3
        obtain ⟨U2, HU2⟩ : ∃ U2, Hid (U2 = (((U1.setCell ⟨bx + 1, 0, none⟩ (.int .u64 ya)).setCell ⟨bx + 1, 1, none⟩ (.int .i64 yp)).setCell ⟨bx + 1, 2, none⟩ (.bool yd)).setCell ⟨bx + 1, 3, none⟩ (.int .i64 yq)) := ⟨_, rfl⟩
        have A5 : Hid (RestC (Or2 fp1 fq) U2 (bx + 1) (EC ⟨ya, yp, yd, yq⟩) 32) := by rw [HU2.out]; exact rest_put A4.out ⟨ya, yp, yd, yq⟩
        have B5 : Hid (RestC (Or2 fp1 fq) U2 (bx + 1 + 1) (EC E.zero) 32) := by rw [HU2.out]; exact rest_else B4.out (by omega) _ _ _ _
        have X5 : Hid (RestC (Or2 fp1 fq) U2 bx #[.int .i64 2, .int .i64 nn, .int .u64 xa, .int .i64 xp, .bool xd, .int .i64 xs, .bool ff] 34) := by rw [HU2.out]; exact rest_else X4.out (by omega) _ _ _ _
        have TU2 : Turn (fun b => b = bx + 1) U1 U2 := by rw [HU2.out]; exact turn_put (bx + 1) (.int .u64 ya) (.int .i64 yp) (.bool yd) (.int .i64 yq)
        have T5 := Lib.hid (T4.out.at_turn TU2 A4.out.safe)
        have S5 := Lib.hid (TU2.chain S4.out (fun b hb => by have := HBXW.out; rw [show b = bx + 1 from hb]; omega) T4.out.d.base_le)
        have x2 : U2.cell? ⟨bx, 2, none⟩ = some (.int .u64 xa) := by rw [X5.out.cell]; rfl
        have x3 : U2.cell? ⟨bx, 3, none⟩ = some (.int .i64 xp) := by rw [X5.out.cell]; rfl
        have x4 : U2.cell? ⟨bx, 4, none⟩ = some (.bool xd) := by rw [X5.out.cell]; rfl
        have x5 : U2.cell? ⟨bx, 5, none⟩ = some (.int .i64 xs) := by rw [X5.out.cell]; rfl
        rw [HU2.out] at x2 x3 x4 x5
        go_wp2_with fail
        rw [← HU2.out]
        clear x2 x3 x4 x5 a0 a1 a2 a3 f0 f1 f2 f3 TU2 T4 S4 A4 B4 X4 HU2
        refine (refdrop_any xa T5.out.k).mono ?_
        rintro e U3 ⟨fq1, rfl, hc1, hm1⟩
        obtain ⟨ht1, hm1⟩ := T5.out.right hc1 hm1
        have T6 := Lib.hid ht1
        have S6 := Lib.hid (T5.out.below S5.out hm1)
        have A6 := Lib.hid (A5.out.step hm1)
        have B6 := Lib.hid (B5.out.step hm1)
        clear hc1 hm1 ht1 T5 S5 A5 B5 X5
        rw [pairO_any, HY.out, HPB.out]
        dsimp only
        obtain ⟨a0, a1, a2, a3⟩ := rest_en B6.out
        have f0 := B6.out.free 0
        have f1 := B6.out.free 1
        have f2 := B6.out.free 2
        have f3 := B6.out.free 3
        simp only [E.zero] at a0 a1 a2 a3
        obtain ⟨U4, HU4⟩ : ∃ U4, Hid (U4 = (((U3.setCell ⟨bx + 1 + 1, 0, none⟩ (.int .u64 ya)).setCell ⟨bx + 1 + 1, 1, none⟩ (.int .i64 yp)).setCell ⟨bx + 1 + 1, 2, none⟩ (.bool yd)).setCell ⟨bx + 1 + 1, 3, none⟩ (.int .i64 yq)) := ⟨_, rfl⟩
        have A8 : Hid (RestC (Or2 fp1 fq1) U4 (bx + 1) (EC ⟨ya, yp, yd, yq⟩) 32) := by rw [HU4.out]; exact rest_else A6.out (by omega) _ _ _ _
        have B8 : Hid (RestC (Or2 fp1 fq1) U4 (bx + 1 + 1) (EC ⟨ya, yp, yd, yq⟩) 32) := by rw [HU4.out]; exact rest_put B6.out ⟨ya, yp, yd, yq⟩
        have TU4 : Turn (fun b => b = bx + 1 + 1) U3 U4 := by rw [HU4.out]; exact turn_put (bx + 1 + 1) (.int .u64 ya) (.int .i64 yp) (.bool yd) (.int .i64 yq)
        have T8 := Lib.hid (T6.out.at_turn TU4 B6.out.safe)
        have S8 := Lib.hid (TU4.chain S6.out (fun b hb => by have := HBXW.out; rw [show b = bx + 1 + 1 from hb]; omega) T6.out.d.base_le)
        have L8 : Hid ((dropT l xa).length ≤ i + 1) := by have := HL.out; have := len_drop_le l xa; show _ ≤ _; omega
        go_wp2_with fail
        rw [← HU4.out]
        clear a0 a1 a2 a3 f0 f1 f2 f3 TU4 T6 S6 A6 B6 HU4 HL HLL HWF HY HPB
        cases pb
        · obtain ⟨Ar, nr, cr, hRT, hRA⟩ := T8.out.k.ex
          have HNR : Hid ((dropT l xa).length = nr) := hRT.lr.len
          have hnr : nr ≤ 100 := by have := L8.out; rw [← HNR.out]; omega
          have HWFL : Hid (∀ e ∈ (dropT l xa), EWf e) := T8.out.k.wf.wf
          have HRT := Lib.hid hRT
          clear hRT hRA
          refine (tall_any T8.out.d).mono ?_
          rintro e U1 ⟨A7, n7, c7, rfl, hi7, hb7⟩
          obtain rfl : nr = n7 := by rw [← HNR.out]; exact hi7.out.len
          have TA := Lib.hid (T8.out.since hb7.out)
          have AA := Lib.hid (A8.out.since hb7.out)
          have BA := Lib.hid (B8.out.since hb7.out)
          have RA := Lib.hid (HRT.out.since hb7.out)
          have QA : Hid (entK.Row U1 U4.heap.size A7 nr c7 (dropT l xa)) := hi7.out
          have HBB := Lib.hid hb7.out
          clear hb7 hi7 A8 B8 HRT 
          obtain ⟨a0, a1, a2, a3⟩ := rest_en AA.out
          obtain ⟨b0, b1, b2, b3⟩ := rest_en BA.out
          dsimp only at a0 a1 a2 a3 b0 b1 b2 b3
          have g0 := RA.out.c0
          have c1 := Lib.hid fun (d : Nat) (os : Array Obj) => quiet_says (sameentries_since A7 Ar nr c7 cr (dropT l xa) (grow (redrawn U1 d) os) (by omega) (QA.out.since (below_regrown U1 d os)).lie (RA.out.since (below_regrown U1 d os)).lr.lie)
          have c2 := Lib.hid fun (d : Nat) (os : Array Obj) => Calls.regrown_of ((tlen_any (TA.out.d.since (below_regrown U1 d os))).mono fun e w' h => ⟨h.1, h.2.out⟩)
          have c3 := Lib.hid fun (d : Nat) (os : Array Obj) => Calls.regrown_of ((tdirty_any (TA.out.d.since (below_regrown U1 d os))).mono fun e w' h => ⟨h.1, h.2.out⟩)
          have c4 := Lib.hid fun (d : Nat) (os : Array Obj) => Calls.regrown_of ((refdirty_any (RA.out.since (below_regrown U1 d os)) HWFL.out (by omega)).mono fun e w' h => ⟨h.1, h.2.out⟩)
          rw [HNR.out] at c2
          obtain ⟨dty, HDT⟩ : ∃ dty, Hid (((dirtyT (dropT l xa) : Nat) : Int) = dty) := ⟨_, rfl⟩
          rw [HDT.out] at c3 c4
          go_wp2_with fail
          have a0 := cell_regrown a0
          have a1 := cell_regrown a1
          have a2 := cell_regrown a2
          have a3 := cell_regrown a3
          have b0 := cell_regrown b0
          have b1 := cell_regrown b1
          have b2 := cell_regrown b2
          have b3 := cell_regrown b3
          have g0 := cell_regrown g0
          refine wp_region_quiet_below (by kernel_rfl) (by kernel_rfl) ?_
          repeat (go_big_quiet_step (first | (go_at_call 17; exact c1.out _ _) | (go_at_call 24; exact c2.out _ _) | (go_at_call 22; exact c3.out _ _) | (go_at_call 23; exact c4.out _ _)))
          refine wpQuiet_nil ?_
          intro U2 hw'
          have HB2 : Hid (Below U1.heap.size U1 U2) := by obtain ⟨⟨dq, osq⟩, hw''⟩ := hw'; rw [hw'']; exact below_regrown _ _ _
          clear hw' a0 a1 a2 a3 b0 b1 b2 b3 g0 c1 c2 c3 c4
          have QB := Lib.hid (QA.out.since HB2.out)
          have HBC := Lib.hid (below_chain HBB.out HB2.out)
          clear TA QA RA AA BA HB2 HDT HBB
          go_wp2_with fail
          refine (overentries_any A7 nr c7 _ _ _ (by omega) HBC.out.size QB.out).mono ?_
          rintro e U3 ⟨rfl, hg3⟩
          have HBD : Hid (Below U4.heap.size U4 U3) := HBC.out.grown hg3 HBC.out.size fun k hk => (QB.out.row.lt k hk).1
          have TF := Lib.hid (T8.out.since HBD.out)
          have SF := Lib.hid (below_chain S8.out HBD.out)
          clear hg3 QB HBC HBD T8 S8 HNR HWFL
          go_wp2_with fail
          go_roundw
          case rel => exact ⟨i + 1, fp1, fq1, (dropT l xa), by go_num, by omega, L8, TF, SF⟩
          case measure => simp [intOf]; omega
        · obtain ⟨Ar, nr, cr, hRT, hRA⟩ := T8.out.k.ex
          have HNR : Hid ((dropT l xa).length = nr) := hRT.lr.len
          have hnr : nr ≤ 100 := by have := L8.out; rw [← HNR.out]; omega
          have HWFL : Hid (∀ e ∈ (dropT l xa), EWf e) := T8.out.k.wf.wf
          have HRT := Lib.hid hRT
          clear hRT hRA
          refine (tall_any T8.out.d).mono ?_
          rintro e U1 ⟨A7, n7, c7, rfl, hi7, hb7⟩
          obtain rfl : nr = n7 := by rw [← HNR.out]; exact hi7.out.len
          have TA := Lib.hid (T8.out.since hb7.out)
          have AA := Lib.hid (A8.out.since hb7.out)
          have BA := Lib.hid (B8.out.since hb7.out)
          have RA := Lib.hid (HRT.out.since hb7.out)
          have QA : Hid (entK.Row U1 U4.heap.size A7 nr c7 (dropT l xa)) := hi7.out
          have HBB := Lib.hid hb7.out
          clear hb7 hi7 A8 B8 HRT 
          obtain ⟨a0, a1, a2, a3⟩ := rest_en AA.out
          obtain ⟨b0, b1, b2, b3⟩ := rest_en BA.out
          dsimp only at a0 a1 a2 a3 b0 b1 b2 b3
          have g0 := RA.out.c0
          have c1 := Lib.hid fun (d : Nat) (os : Array Obj) => quiet_says (sameentries_since A7 Ar nr c7 cr (dropT l xa) (grow (redrawn U1 d) os) (by omega) (QA.out.since (below_regrown U1 d os)).lie (RA.out.since (below_regrown U1 d os)).lr.lie)
          have c2 := Lib.hid fun (d : Nat) (os : Array Obj) => Calls.regrown_of ((tlen_any (TA.out.d.since (below_regrown U1 d os))).mono fun e w' h => ⟨h.1, h.2.out⟩)
          have c3 := Lib.hid fun (d : Nat) (os : Array Obj) => Calls.regrown_of ((tdirty_any (TA.out.d.since (below_regrown U1 d os))).mono fun e w' h => ⟨h.1, h.2.out⟩)
          have c4 := Lib.hid fun (d : Nat) (os : Array Obj) => Calls.regrown_of ((refdirty_any (RA.out.since (below_regrown U1 d os)) HWFL.out (by omega)).mono fun e w' h => ⟨h.1, h.2.out⟩)
          rw [HNR.out] at c2
          obtain ⟨dty, HDT⟩ : ∃ dty, Hid (((dirtyT (dropT l xa) : Nat) : Int) = dty) := ⟨_, rfl⟩
          rw [HDT.out] at c3 c4
          go_wp2_with fail
          have a0 := cell_regrown a0
          have a1 := cell_regrown a1
          have a2 := cell_regrown a2
          have a3 := cell_regrown a3
          have b0 := cell_regrown b0
          have b1 := cell_regrown b1
          have b2 := cell_regrown b2
          have b3 := cell_regrown b3
          have g0 := cell_regrown g0
          refine wp_region_quiet_below (by kernel_rfl) (by kernel_rfl) ?_
          repeat (go_big_quiet_step (first | (go_at_call 17; exact c1.out _ _) | (go_at_call 24; exact c2.out _ _) | (go_at_call 22; exact c3.out _ _) | (go_at_call 23; exact c4.out _ _)))
          refine wpQuiet_nil ?_
          intro U2 hw'
          have HB2 : Hid (Below U1.heap.size U1 U2) := by obtain ⟨⟨dq, osq⟩, hw''⟩ := hw'; rw [hw'']; exact below_regrown _ _ _
          clear hw' a0 a1 a2 a3 b0 b1 b2 b3 g0 c1 c2 c3 c4
          have QB := Lib.hid (QA.out.since HB2.out)
          have HBC := Lib.hid (below_chain HBB.out HB2.out)
          clear TA QA RA AA BA HB2 HDT HBB
          go_wp2_with fail
          refine (overentries_any A7 nr c7 _ _ _ (by omega) HBC.out.size QB.out).mono ?_
          rintro e U3 ⟨rfl, hg3⟩
          have HBD : Hid (Below U4.heap.size U4 U3) := HBC.out.grown hg3 HBC.out.size fun k hk => (QB.out.row.lt k hk).1
          have TF := Lib.hid (T8.out.since HBD.out)
          have SF := Lib.hid (below_chain S8.out HBD.out)
          clear hg3 QB HBC HBD T8 S8 HNR HWFL
          go_wp2_with fail
          go_roundw
          case rel => exact ⟨i + 1, fp1, fq1, (dropT l xa), by go_num, by omega, L8, TF, SF⟩
          case measure => simp [intOf]; omega
      by_cases d3 : dd = 3
      · skip
        subst d3
        have L3 : Hid (l.length ≤ i + 1) := Nat.le_succ_of_le HL.out
        go_wp2_with fail
        rw [← HVV.out]
        try rw [HBX.out]
        clear q0 q1 q2 q3 q4 q5 q6 HVV HT HS e0 e1 e2 e3 e4 e5 e6
        refine (tfrom_any xa nn ff HWF.out.e_wf.a0 HWF.out.e_wf.a1 HWF.out.n_lo HWF.out.n_hi T3.out.d).mono ?_
        rintro e U1 ⟨A4, n4, c4, rfl, hi4, hb4⟩
        obtain ⟨fl, HFL⟩ : ∃ fl, Hid (fromT l xa nn ff = fl) := ⟨_, rfl⟩
        have HN4 : Hid (fl.length = n4) := by rw [← HFL.out]; exact hi4.out.len
        have hn4 : n4 ≤ 100 := by
          rw [← HN4.out, ← HFL.out]
          have h5 : (fromT l xa nn ff).length ≤ l.length := by
            unfold fromT
            rw [List.length_take]
            exact Nat.le_trans (Nat.min_le_right _ _) (List.length_filter_le _ _)
          have := HL.out
          omega
        have Q4 : Hid (entK.Row U1 V3.heap.size A4 n4 c4 fl) := by rw [← HFL.out]; exact hi4.out
        have HB4 := Lib.hid hb4.out
        have T4 := Lib.hid (T3.out.since hb4.out)
        have X4 := Lib.hid (X3.out.since hb4.out)
        clear hi4 hb4 X3
        have x1 : U1.cell? ⟨bx, 1, none⟩ = some (.int .i64 nn) := by rw [X4.out.cell]; rfl
        have x2 : U1.cell? ⟨bx, 2, none⟩ = some (.int .u64 xa) := by rw [X4.out.cell]; rfl
        have x6 : U1.cell? ⟨bx, 6, none⟩ = some (.bool ff) := by rw [X4.out.cell]; rfl
        obtain ⟨Ag, ng, cg, hRg, _⟩ := T4.out.k.ex
        have CR := Lib.hid (reffrom_any xa nn ff hRg T4.out.k.wf.wf (by rw [← hRg.lr.len]; exact T4.out.k.wf.few) HWF.out.n_lo HWF.out.n_hi)
        clear hRg
        rw [HFL.out] at CR
        go_wp2_with fail
        refine CR.out.mono ?_
        rintro e U2 ⟨A5, n5, c5, rfl, hi5, hb5⟩
        obtain rfl : n4 = n5 := by rw [← HN4.out]; exact hi5.out.len
        have Q5 := Lib.hid (Q4.out.since hb5.out)
        have HB5 := Lib.hid (below_chain HB4.out hb5.out)
        have P5 := Lib.hid hi5.out.lie
        clear hi5 hb5 Q4 HB4 T4 X4 CR x1 x2 x6
        go_wp2_with fail
        refine (sameentries_since A4 A5 n4 c4 c5 fl _ (by omega) Q5.out.lie P5.out).mono ?_
        rintro e U3 ⟨rfl, hb6⟩
        have Q6 := Lib.hid (Q5.out.since hb6.out)
        have HB6 := Lib.hid (below_chain HB5.out hb6.out)
        clear hb6 Q5 HB5 P5
        go_wp2_with fail
        refine (overentries_any A4 n4 c4 _ _ _ (by omega) HB6.out.size Q6.out).mono ?_
        rintro e U4 ⟨rfl, hg7⟩
        have HB7 : Hid (Below V3.heap.size V3 U4) := HB6.out.grown hg7 HB6.out.size fun k hk => (Q6.out.row.lt k hk).1
        have T7 := Lib.hid (T3.out.since HB7.out)
        have S7 := Lib.hid (below_chain S3.out HB7.out)
        have A7' : Hid (RestC (Or2 fp fq) U4 (bx + 1) (EC ⟨0, 0, false, 0⟩) 32) := A3.out.since HB7.out
        have B7' : Hid (RestC (Or2 fp fq) U4 (bx + 1 + 1) (EC ⟨0, 0, false, 0⟩) 32) := B3.out.since HB7.out
        clear hg7 Q6 HB6 HB7 T3 S3 A3 B3 HFL HN4 HL HWF
        go_wp2_with fail
        obtain ⟨Ar, nr, cr, hRT, hRA⟩ := T7.out.k.ex
        have HNR : Hid (l.length = nr) := hRT.lr.len
        have hnr : nr ≤ 100 := by have := L3.out; rw [← HNR.out]; omega
        have HWFL : Hid (∀ e ∈ l, EWf e) := T7.out.k.wf.wf
        have HRT := Lib.hid hRT
        clear hRT hRA
        refine (tall_any T7.out.d).mono ?_
        rintro e U1 ⟨A7, n7, c7, rfl, hi7, hb7⟩
        obtain rfl : nr = n7 := by rw [← HNR.out]; exact hi7.out.len
        have TA := Lib.hid (T7.out.since hb7.out)
        have AA := Lib.hid (A7'.out.since hb7.out)
        have BA := Lib.hid (B7'.out.since hb7.out)
        have RA := Lib.hid (HRT.out.since hb7.out)
        have QA : Hid (entK.Row U1 U4.heap.size A7 nr c7 l) := hi7.out
        have HBB := Lib.hid hb7.out
        clear hb7 hi7 A7' B7' HRT 
        obtain ⟨a0, a1, a2, a3⟩ := rest_en AA.out
        obtain ⟨b0, b1, b2, b3⟩ := rest_en BA.out
        dsimp only at a0 a1 a2 a3 b0 b1 b2 b3
        have g0 := RA.out.c0
        have c1 := Lib.hid fun (d : Nat) (os : Array Obj) => quiet_says (sameentries_since A7 Ar nr c7 cr l (grow (redrawn U1 d) os) (by omega) (QA.out.since (below_regrown U1 d os)).lie (RA.out.since (below_regrown U1 d os)).lr.lie)
        have c2 := Lib.hid fun (d : Nat) (os : Array Obj) => Calls.regrown_of ((tlen_any (TA.out.d.since (below_regrown U1 d os))).mono fun e w' h => ⟨h.1, h.2.out⟩)
        have c3 := Lib.hid fun (d : Nat) (os : Array Obj) => Calls.regrown_of ((tdirty_any (TA.out.d.since (below_regrown U1 d os))).mono fun e w' h => ⟨h.1, h.2.out⟩)
        have c4 := Lib.hid fun (d : Nat) (os : Array Obj) => Calls.regrown_of ((refdirty_any (RA.out.since (below_regrown U1 d os)) HWFL.out (by omega)).mono fun e w' h => ⟨h.1, h.2.out⟩)
        rw [HNR.out] at c2
        obtain ⟨dty, HDT⟩ : ∃ dty, Hid (((dirtyT l : Nat) : Int) = dty) := ⟨_, rfl⟩
        rw [HDT.out] at c3 c4
        go_wp2_with fail
        have a0 := cell_regrown a0
        have a1 := cell_regrown a1
        have a2 := cell_regrown a2
        have a3 := cell_regrown a3
        have b0 := cell_regrown b0
        have b1 := cell_regrown b1
        have b2 := cell_regrown b2
        have b3 := cell_regrown b3
        have g0 := cell_regrown g0
        refine wp_region_quiet_below (by kernel_rfl) (by kernel_rfl) ?_
        repeat (go_big_quiet_step (first | (go_at_call 17; exact c1.out _ _) | (go_at_call 24; exact c2.out _ _) | (go_at_call 22; exact c3.out _ _) | (go_at_call 23; exact c4.out _ _)))
        refine wpQuiet_nil ?_
        intro U2 hw'
        have HB2 : Hid (Below U1.heap.size U1 U2) := by obtain ⟨⟨dq, osq⟩, hw''⟩ := hw'; rw [hw'']; exact below_regrown _ _ _
        clear hw' a0 a1 a2 a3 b0 b1 b2 b3 g0 c1 c2 c3 c4
        have QB := Lib.hid (QA.out.since HB2.out)
        have HBC := Lib.hid (below_chain HBB.out HB2.out)
        clear TA QA RA AA BA HB2 HDT HBB
        go_wp2_with fail
        refine (overentries_any A7 nr c7 _ _ _ (by omega) HBC.out.size QB.out).mono ?_
        rintro e U3 ⟨rfl, hg3⟩
        have HBD : Hid (Below U4.heap.size U4 U3) := HBC.out.grown hg3 HBC.out.size fun k hk => (QB.out.row.lt k hk).1
        have TF := Lib.hid (T7.out.since HBD.out)
        have SF := Lib.hid (below_chain S7.out HBD.out)
        clear hg3 QB HBC HBD T7 S7 HNR HWFL
        go_wp2_with fail
        go_roundw
        case rel => exact ⟨i + 1, fp, fq, l, by go_num, by omega, L3, TF, SF⟩
        case measure => simp [intOf]; omega
      by_cases d4 : dd = 4
      · skip
        subst d4
        have HLL : Hid (l.length < 120) := by have := HL.out; show _ < _; omega
        have L3 : Hid (l.length ≤ i + 1) := Nat.le_succ_of_le HL.out
        go_wp2_with fail
        rw [← HVV.out]
        try rw [HBX.out]
        clear q0 q1 q2 q3 q4 q5 q6 HVV HT HS e0 e1 e2 e3 e4 e5 e6
        refine (tcopy_any T3.out.d).mono ?_
        rintro e U1 ⟨g3, fp3, rfl, hc1, hb1⟩
        obtain ⟨Ar, n, cr, hRT, hRA⟩ := T3.out.k.ex
        have HNR : Hid (l.length = n) := hRT.lr.len
        have HN9 : Hid (n ≤ 120) := by show _ ≤ _; rw [← HNR.out]; exact T3.out.k.wf.few
        have HWFL : Hid (∀ e ∈ l, EWf e) := T3.out.k.wf.wf
        obtain ⟨WD, HWD⟩ : ∃ W, Hid (W = U1.drew) := ⟨_, rfl⟩
        have HDL : Below U1.heap.size U1 WD := by rw [HWD.out]; exact (Below.refl _ _).drew
        have HBV := Lib.hid (below_chain hb1 HDL)
        have HCD := Lib.hid (hc1.since HDL)
        have HRD := Lib.hid (hRT.since HBV.out)
        obtain ⟨dty, HDT⟩ : ∃ dty, Hid (((dirtyT l : Nat) : Int) = dty) := ⟨_, rfl⟩
        clear hc1 hb1 hRT hRA HDL
        go_wp2_with fail
        refine region_of_steps7 (by kernel_rfl) [some (.pointer (some ⟨g3, 0, none⟩)), some (.bool false), some (.bool false), some (.pointer (some ⟨g3, 0, none⟩)), none, some (.pointer (some ⟨gr, 0, none⟩)), some (.pointer (some ⟨gr, 0, none⟩)), some (.pointer (some ⟨gr, 0, none⟩)), some (.slice Ar n cr), some (.bool true), some (.bool false), some (.bool false), some (.bool false), some (.pointer (some ⟨g3, 0, none⟩)), some (.int .i64 dty), some (.pointer (some ⟨gr, 0, none⟩)), some (.int .i64 dty), some (.bool false), some (.bool false)] [4] [120] (CopyJ WD n l) (by kernel_rfl) (by kernel_rfl) (by rw [← HWD.out]; exact CopyJ.start (by rw [slots_len]; rfl)) ?_ ?_
        · refine Steps7.cons ?_ (Steps7.cons ?_ (Steps7.cons ?_ (Steps7.cons ?_ (Steps7.cons ?_ (Steps7.cons ?_ (Steps7.cons ?_ (Steps7.cons ?_ (Steps7.cons ?_ (Steps7.cons ?_ (Steps7.cons ?_ (Steps7.cons ?_ (Steps7.cons ?_ (Steps7.cons ?_ (Steps7.cons ?_ (Steps7.cons ?_ (Steps7.cons ?_ (Steps7.cons ?_ (Steps7.cons ?_ (Steps7.nil)))))))))))))))))))
          · intro listed a W H hj hl hd
            have t12 : a.tmps.getD 12 undef = .pointer (some ⟨g3, 0, none⟩) := (H.old 12 (by kernel_rfl)).trans rfl
            exact step7_value (i := 0) rfl rfl (run_op_move rfl t12) (calm7 (fun fs vs x y h hl => CopyJ.later h hl) (by kernel_rfl) (by kernel_rfl) hj (later_refl _)) rfl
          · intro listed a W H hj hl hd
            have t116 : a.tmps.getD 116 undef = .pointer (some ⟨g3, 0, none⟩) := H.get 0 116 (by kernel_rfl) (dep_of hd 0 (by kernel_rfl)) (fun _ h => by cases h)
            exact step7_value (i := 1) rfl rfl (run_op_bin rfl t116 rfl (by go_simp)) (calm7 (fun fs vs x y h hl => CopyJ.later h hl) (by kernel_rfl) (by kernel_rfl) hj (later_refl _)) rfl
          · intro listed a W H hj hl hd
            have t117 : a.tmps.getD 117 undef = .bool false := H.get 1 117 (by kernel_rfl) (dep_of hd 1 (by kernel_rfl)) (fun _ h => by cases h)
            exact step7_value (i := 2) rfl rfl (run_op_move rfl t117) (calm7 (fun fs vs x y h hl => CopyJ.later h hl) (by kernel_rfl) (by kernel_rfl) hj (later_refl _)) rfl
          · intro listed a W H hj hl hd
            have t118 : a.tmps.getD 118 undef = .bool false := H.get 2 118 (by kernel_rfl) (dep_of hd 2 (by kernel_rfl)) (fun _ h => by cases h)
            have t12 : a.tmps.getD 12 undef = .pointer (some ⟨g3, 0, none⟩) := (H.old 12 (by kernel_rfl)).trans rfl
            exact step7_value (i := 3) rfl (wanted_at (j := 2) (d := 118) (b := false) rfl (by kernel_rfl) t118) (run_op_move rfl t12) (calm7 (fun fs vs x y h hl => CopyJ.later h hl) (by kernel_rfl) (by kernel_rfl) hj (later_refl _)) rfl
          · intro listed a W H hj hl hd
            have t118 : a.tmps.getD 118 undef = .bool false := H.get 2 118 (by kernel_rfl) (dep_of hd 2 (by kernel_rfl)) (fun _ h => by cases h)
            have t119 : a.tmps.getD 119 undef = .pointer (some ⟨g3, 0, none⟩) := H.get 3 119 (by kernel_rfl) (dep_of hd 3 (by kernel_rfl)) (fun _ h => by cases h)
            refine step7_call (i := 4) rfl (wanted_at (j := 2) (d := 118) (b := false) rfl (by kernel_rfl) t118) (run_op_call (vs := #[.pointer (some ⟨g3, 0, none⟩)]) Try.func21 (by kernel_rfl) (by kernel_rfl) rfl (by simp only [List.map_toArray, List.map_cons, List.map_nil]; show #[a.tmps.getD 119 undef] = _; rw [t119])) ?_
            refine (tall_any (HCD.out.since hj.below)).mono ?_
            rintro e W2 ⟨A9, n9, c9, rfl, hi9, hb9⟩
            obtain rfl : n = n9 := by rw [← HNR.out]; exact hi9.out.len
            have hk9 := hj.told hi9.out hb9.out
            rw [← flags_put (m := 4) 0 rfl (by decide), ← slots_at (a := a) (d := 120) 0 rfl (by decide) (by rw [H.size]; exact of_decide_eq_true (by kernel_rfl))] at hk9
            exact ⟨_, rfl, hk9, trivial⟩
          · intro listed a W H hj hl hd
            have t118 : a.tmps.getD 118 undef = .bool false := H.get 2 118 (by kernel_rfl) (dep_of hd 2 (by kernel_rfl)) (fun _ h => by cases h)
            have t4 : a.tmps.getD 4 undef = .pointer (some ⟨gr, 0, none⟩) := (H.old 4 (by kernel_rfl)).trans rfl
            exact step7_value (i := 5) rfl (wanted_at (j := 2) (d := 118) (b := false) rfl (by kernel_rfl) t118) (run_op_move rfl t4) (calm7 (fun fs vs x y h hl => CopyJ.later h hl) (by kernel_rfl) (by kernel_rfl) hj (later_refl _)) rfl
          · intro listed a W H hj hl hd
            have t118 : a.tmps.getD 118 undef = .bool false := H.get 2 118 (by kernel_rfl) (dep_of hd 2 (by kernel_rfl)) (fun _ h => by cases h)
            have t121 : a.tmps.getD 121 undef = .pointer (some ⟨gr, 0, none⟩) := H.get 5 121 (by kernel_rfl) (dep_of hd 5 (by kernel_rfl)) (fun _ h => by cases h)
            exact step7_value (i := 6) rfl (wanted_at (j := 2) (d := 118) (b := false) rfl (by kernel_rfl) t118) (run_op_nilCheck rfl t121) (calm7 (fun fs vs x y h hl => CopyJ.later h hl) (by kernel_rfl) (by kernel_rfl) hj (later_refl _)) rfl
          · intro listed a W H hj hl hd
            have t118 : a.tmps.getD 118 undef = .bool false := H.get 2 118 (by kernel_rfl) (dep_of hd 2 (by kernel_rfl)) (fun _ h => by cases h)
            have t122 : a.tmps.getD 122 undef = .pointer (some ⟨gr, 0, none⟩) := H.get 6 122 (by kernel_rfl) (dep_of hd 6 (by kernel_rfl)) (fun _ h => by cases h)
            exact step7_value (i := 7) rfl (wanted_at (j := 2) (d := 118) (b := false) rfl (by kernel_rfl) t118) (run_op_fieldAddr rfl t122 (run_tab_list gr W)) (calm7 (fun fs vs x y h hl => CopyJ.later h hl) (by kernel_rfl) (by kernel_rfl) hj (later_refl _)) rfl
          · intro listed a W H hj hl hd
            have t118 : a.tmps.getD 118 undef = .bool false := H.get 2 118 (by kernel_rfl) (dep_of hd 2 (by kernel_rfl)) (fun _ h => by cases h)
            have t123 : a.tmps.getD 123 undef = .pointer (some ⟨gr, 0, none⟩) := H.get 7 123 (by kernel_rfl) (dep_of hd 7 (by kernel_rfl)) (fun _ h => by cases h)
            exact step7_value (i := 8) rfl (wanted_at (j := 2) (d := 118) (b := false) rfl (by kernel_rfl) t118) (run_op_load rfl t123 (run_load_ents gr n cr Ar W (HRD.out.since hj.below).c0)) (calm7 (fun fs vs x y h hl => CopyJ.later h hl) (by kernel_rfl) (by kernel_rfl) hj (later_refl _)) rfl
          · intro listed a W H hj hl hd
            have t118 : a.tmps.getD 118 undef = .bool false := H.get 2 118 (by kernel_rfl) (dep_of hd 2 (by kernel_rfl)) (fun _ h => by cases h)
            have d120 : listed.getD 4 false = true := dep_of hd 4 (by kernel_rfl)
            have t124 : a.tmps.getD 124 undef = .slice Ar n cr := H.get 8 124 (by kernel_rfl) (dep_of hd 8 (by kernel_rfl)) (fun _ h => by cases h)
            refine step7_call (i := 9) rfl (wanted_at (j := 2) (d := 118) (b := false) rfl (by kernel_rfl) t118) (run_op_call (vs := #[a.tmps.getD 120 undef, .slice Ar n cr]) Try.func17 (by kernel_rfl) (by kernel_rfl) rfl (by simp only [List.map_toArray, List.map_cons, List.map_nil]; show #[a.tmps.getD 120 undef, a.tmps.getD 124 undef] = _; rw [t124])) ?_
            obtain ⟨A9, c9, e9, r9⟩ := hj.row (done_true d120)
            rw [show a.tmps.getD 120 undef = .slice A9 n c9 from e9]
            refine (sameentries_since A9 Ar n c9 cr l W (by have := HN9.out; omega) r9.lie (HRD.out.since hj.below).lr.lie).mono ?_
            rintro e W2 ⟨rfl, hb9⟩
            exact ⟨_, rfl, (calm7 (fun fs vs x y h hl => CopyJ.later h hl) (by kernel_rfl) (by kernel_rfl) hj hb9.out), rfl⟩
          · intro listed a W H hj hl hd
            have t118 : a.tmps.getD 118 undef = .bool false := H.get 2 118 (by kernel_rfl) (dep_of hd 2 (by kernel_rfl)) (fun _ h => by cases h)
            have t125 : a.tmps.getD 125 undef = .bool true := H.get 9 125 (by kernel_rfl) (dep_of hd 9 (by kernel_rfl)) (fun _ h => by cases h)
            exact step7_value (i := 10) rfl (wanted_at (j := 2) (d := 118) (b := false) rfl (by kernel_rfl) t118) (run_op_not rfl t125) (calm7 (fun fs vs x y h hl => CopyJ.later h hl) (by kernel_rfl) (by kernel_rfl) hj (later_refl _)) rfl
          · intro listed a W H hj hl hd
            have t118 : a.tmps.getD 118 undef = .bool false := H.get 2 118 (by kernel_rfl) (dep_of hd 2 (by kernel_rfl)) (fun _ h => by cases h)
            have t126 : a.tmps.getD 126 undef = .bool false := H.get 10 126 (by kernel_rfl) (dep_of hd 10 (by kernel_rfl)) (fun _ h => by cases h)
            exact step7_value (i := 11) rfl rfl (run_op_pickF rfl t118 t126) (calm7 (fun fs vs x y h hl => CopyJ.later h hl) (by kernel_rfl) (by kernel_rfl) hj (later_refl _)) rfl
          · intro listed a W H hj hl hd
            have t127 : a.tmps.getD 127 undef = .bool false := H.get 11 127 (by kernel_rfl) (dep_of hd 11 (by kernel_rfl)) (fun _ h => by cases h)
            exact step7_value (i := 12) rfl rfl (run_op_move rfl t127) (calm7 (fun fs vs x y h hl => CopyJ.later h hl) (by kernel_rfl) (by kernel_rfl) hj (later_refl _)) rfl
          · intro listed a W H hj hl hd
            have t128 : a.tmps.getD 128 undef = .bool false := H.get 12 128 (by kernel_rfl) (dep_of hd 12 (by kernel_rfl)) (fun _ h => by cases h)
            have t12 : a.tmps.getD 12 undef = .pointer (some ⟨g3, 0, none⟩) := (H.old 12 (by kernel_rfl)).trans rfl
            exact step7_value (i := 13) rfl (wanted_at (j := 12) (d := 128) (b := false) rfl (by kernel_rfl) t128) (run_op_move rfl t12) (calm7 (fun fs vs x y h hl => CopyJ.later h hl) (by kernel_rfl) (by kernel_rfl) hj (later_refl _)) rfl
          · intro listed a W H hj hl hd
            have t128 : a.tmps.getD 128 undef = .bool false := H.get 12 128 (by kernel_rfl) (dep_of hd 12 (by kernel_rfl)) (fun _ h => by cases h)
            have t129 : a.tmps.getD 129 undef = .pointer (some ⟨g3, 0, none⟩) := H.get 13 129 (by kernel_rfl) (dep_of hd 13 (by kernel_rfl)) (fun _ h => by cases h)
            refine step7_call (i := 14) rfl (wanted_at (j := 12) (d := 128) (b := false) rfl (by kernel_rfl) t128) (run_op_call (vs := #[.pointer (some ⟨g3, 0, none⟩)]) Try.func22 (by kernel_rfl) (by kernel_rfl) rfl (by simp only [List.map_toArray, List.map_cons, List.map_nil]; show #[a.tmps.getD 129 undef] = _; rw [t129])) ?_
            refine (tdirty_any (HCD.out.since hj.below)).mono ?_
            rw [HDT.out]
            rintro e W2 ⟨rfl, hb9⟩
            exact ⟨_, rfl, (calm7 (fun fs vs x y h hl => CopyJ.later h hl) (by kernel_rfl) (by kernel_rfl) hj hb9.out), rfl⟩
          · intro listed a W H hj hl hd
            have t128 : a.tmps.getD 128 undef = .bool false := H.get 12 128 (by kernel_rfl) (dep_of hd 12 (by kernel_rfl)) (fun _ h => by cases h)
            have t4 : a.tmps.getD 4 undef = .pointer (some ⟨gr, 0, none⟩) := (H.old 4 (by kernel_rfl)).trans rfl
            exact step7_value (i := 15) rfl (wanted_at (j := 12) (d := 128) (b := false) rfl (by kernel_rfl) t128) (run_op_move rfl t4) (calm7 (fun fs vs x y h hl => CopyJ.later h hl) (by kernel_rfl) (by kernel_rfl) hj (later_refl _)) rfl
          · intro listed a W H hj hl hd
            have t128 : a.tmps.getD 128 undef = .bool false := H.get 12 128 (by kernel_rfl) (dep_of hd 12 (by kernel_rfl)) (fun _ h => by cases h)
            have t131 : a.tmps.getD 131 undef = .pointer (some ⟨gr, 0, none⟩) := H.get 15 131 (by kernel_rfl) (dep_of hd 15 (by kernel_rfl)) (fun _ h => by cases h)
            refine step7_call (i := 16) rfl (wanted_at (j := 12) (d := 128) (b := false) rfl (by kernel_rfl) t128) (run_op_call (vs := #[.pointer (some ⟨gr, 0, none⟩)]) Try.func23 (by kernel_rfl) (by kernel_rfl) rfl (by simp only [List.map_toArray, List.map_cons, List.map_nil]; show #[a.tmps.getD 131 undef] = _; rw [t131])) ?_
            refine (refdirty_any (HRD.out.since hj.below) HWFL.out HN9.out).mono ?_
            rw [HDT.out]
            rintro e W2 ⟨rfl, hb9⟩
            exact ⟨_, rfl, (calm7 (fun fs vs x y h hl => CopyJ.later h hl) (by kernel_rfl) (by kernel_rfl) hj hb9.out), rfl⟩
          · intro listed a W H hj hl hd
            have t128 : a.tmps.getD 128 undef = .bool false := H.get 12 128 (by kernel_rfl) (dep_of hd 12 (by kernel_rfl)) (fun _ h => by cases h)
            have t130 : a.tmps.getD 130 undef = .int .i64 dty := H.get 14 130 (by kernel_rfl) (dep_of hd 14 (by kernel_rfl)) (fun _ h => by cases h)
            have t132 : a.tmps.getD 132 undef = .int .i64 dty := H.get 16 132 (by kernel_rfl) (dep_of hd 16 (by kernel_rfl)) (fun _ h => by cases h)
            exact step7_value (i := 17) rfl (wanted_at (j := 12) (d := 128) (b := false) rfl (by kernel_rfl) t128) (run_op_bin rfl t130 t132 (bin_neq _ _ _ dty dty false (by simp))) (calm7 (fun fs vs x y h hl => CopyJ.later h hl) (by kernel_rfl) (by kernel_rfl) hj (later_refl _)) rfl
          · intro listed a W H hj hl hd
            have t128 : a.tmps.getD 128 undef = .bool false := H.get 12 128 (by kernel_rfl) (dep_of hd 12 (by kernel_rfl)) (fun _ h => by cases h)
            have t133 : a.tmps.getD 133 undef = .bool false := H.get 17 133 (by kernel_rfl) (dep_of hd 17 (by kernel_rfl)) (fun _ h => by cases h)
            exact step7_value (i := 18) rfl rfl (run_op_pickF rfl t128 t133) (calm7 (fun fs vs x y h hl => CopyJ.later h hl) (by kernel_rfl) (by kernel_rfl) hj (later_refl _)) rfl
        · intro a WC hdef hsz hw hall hact
          obtain ⟨u, hu⟩ : ∃ u : Nat → Value, ∀ k, a.tmps.getD k undef = u k := ⟨_, fun _ => rfl⟩
          have h134 : u 134 = .bool false := by rw [← hu]; exact hall 18 _ rfl
          simp only [hu] at hact
          have hact' : a = ([116, 117, 118, 119, 120, 121, 122, 123, 124, 125, 126, 127, 128, 129, 130, 131, 132, 133, 134] : List Nat).foldl (fun b k => b.put (some k) (u k)) _ := hact
          simp only [List.foldl] at hact'
          simp only [Act.put, List.setIfInBounds_toArray, List.set_cons_succ, List.set_cons_zero] at hact'
          have HAC := Lib.hid hact'
          have HX9 := Lib.hid hw
          clear hact hact' hall hdef hsz hw
          rw [h134] at HAC
          rw [HAC.out]
          have HBW : Hid (Below V3.heap.size V3 WC) := below_chain HBV.out HX9.out.below
          have C5 : Hid (TabAt WC V3.heap.size fp3 g3 l) := HCD.out.since HX9.out.below
          have X5 := Lib.hid (X3.out.since HBW.out)
          have x2 : WC.cell? ⟨bx, 2, none⟩ = some (.int .u64 xa) := by rw [X5.out.cell]; rfl
          have x3 : WC.cell? ⟨bx, 3, none⟩ = some (.int .i64 xp) := by rw [X5.out.cell]; rfl
          have x4 : WC.cell? ⟨bx, 4, none⟩ = some (.bool xd) := by rw [X5.out.cell]; rfl
          have x5 : WC.cell? ⟨bx, 5, none⟩ = some (.int .i64 xs) := by rw [X5.out.cell]; rfl
          clear HX9 hu HRD HCD HBV HWD X3
          go_wp2_with fail
          refine (tput_any ⟨xa, xp, xd, xs⟩ HWF.out.e_wf C5.out HLL.out).mono ?_
          rintro e U3 ⟨fp4, rfl, hc6, hm6⟩
          have HB6 := Lib.hid (hm6.below HBW.out C5.out.ge HBW.out.size)
          have C6 := Lib.hid hc6
          clear hc6 hm6 C5 HBW X5 x2 x3 x4 x5
          go_wp2_with fail
          refine (tdrop_any 0 (by omega) (by omega) C6.out).mono ?_
          rintro e U4 ⟨fp5, rfl, hc7, hm7⟩
          have HB7 := Lib.hid (hm7.below HB6.out C6.out.ge HB6.out.size)
          have T7 := Lib.hid (T3.out.since HB7.out)
          have S7 := Lib.hid (below_chain S3.out HB7.out)
          have A7' : Hid (RestC (Or2 fp fq) U4 (bx + 1) (EC ⟨0, 0, false, 0⟩) 32) := A3.out.since HB7.out
          have B7' : Hid (RestC (Or2 fp fq) U4 (bx + 1 + 1) (EC ⟨0, 0, false, 0⟩) 32) := B3.out.since HB7.out
          clear hc7 hm7 C6 HB6 HB7 T3 S3 A3 B3 HNR HN9 HWFL HDT HLL HWF HL
          go_wp2_with fail
          obtain ⟨Ar, nr, cr, hRT, hRA⟩ := T7.out.k.ex
          have HNR : Hid (l.length = nr) := hRT.lr.len
          have hnr : nr ≤ 100 := by have := L3.out; rw [← HNR.out]; omega
          have HWFL : Hid (∀ e ∈ l, EWf e) := T7.out.k.wf.wf
          have HRT := Lib.hid hRT
          clear hRT hRA
          refine (tall_any T7.out.d).mono ?_
          rintro e U1 ⟨A7, n7, c7, rfl, hi7, hb7⟩
          obtain rfl : nr = n7 := by rw [← HNR.out]; exact hi7.out.len
          have TA := Lib.hid (T7.out.since hb7.out)
          have AA := Lib.hid (A7'.out.since hb7.out)
          have BA := Lib.hid (B7'.out.since hb7.out)
          have RA := Lib.hid (HRT.out.since hb7.out)
          have QA : Hid (entK.Row U1 U4.heap.size A7 nr c7 l) := hi7.out
          have HBB := Lib.hid hb7.out
          clear hb7 hi7 A7' B7' HRT 
          obtain ⟨a0, a1, a2, a3⟩ := rest_en AA.out
          obtain ⟨b0, b1, b2, b3⟩ := rest_en BA.out
          dsimp only at a0 a1 a2 a3 b0 b1 b2 b3
          have g0 := RA.out.c0
          have c1 := Lib.hid fun (d : Nat) (os : Array Obj) => quiet_says (sameentries_since A7 Ar nr c7 cr l (grow (redrawn U1 d) os) (by omega) (QA.out.since (below_regrown U1 d os)).lie (RA.out.since (below_regrown U1 d os)).lr.lie)
          have c2 := Lib.hid fun (d : Nat) (os : Array Obj) => Calls.regrown_of ((tlen_any (TA.out.d.since (below_regrown U1 d os))).mono fun e w' h => ⟨h.1, h.2.out⟩)
          have c3 := Lib.hid fun (d : Nat) (os : Array Obj) => Calls.regrown_of ((tdirty_any (TA.out.d.since (below_regrown U1 d os))).mono fun e w' h => ⟨h.1, h.2.out⟩)
          have c4 := Lib.hid fun (d : Nat) (os : Array Obj) => Calls.regrown_of ((refdirty_any (RA.out.since (below_regrown U1 d os)) HWFL.out (by omega)).mono fun e w' h => ⟨h.1, h.2.out⟩)
          rw [HNR.out] at c2
          obtain ⟨dty, HDT⟩ : ∃ dty, Hid (((dirtyT l : Nat) : Int) = dty) := ⟨_, rfl⟩
          rw [HDT.out] at c3 c4
          go_wp2_with fail
          have a0 := cell_regrown a0
          have a1 := cell_regrown a1
          have a2 := cell_regrown a2
          have a3 := cell_regrown a3
          have b0 := cell_regrown b0
          have b1 := cell_regrown b1
          have b2 := cell_regrown b2
          have b3 := cell_regrown b3
          have g0 := cell_regrown g0
          refine wp_region_quiet_below (by kernel_rfl) (by kernel_rfl) ?_
          repeat (go_big_quiet_step (first | (go_at_call 17; exact c1.out _ _) | (go_at_call 24; exact c2.out _ _) | (go_at_call 22; exact c3.out _ _) | (go_at_call 23; exact c4.out _ _)))
          refine wpQuiet_nil ?_
          intro U2 hw'
          have HB2 : Hid (Below U1.heap.size U1 U2) := by obtain ⟨⟨dq, osq⟩, hw''⟩ := hw'; rw [hw'']; exact below_regrown _ _ _
          clear hw' a0 a1 a2 a3 b0 b1 b2 b3 g0 c1 c2 c3 c4
          have QB := Lib.hid (QA.out.since HB2.out)
          have HBC := Lib.hid (below_chain HBB.out HB2.out)
          clear TA QA RA AA BA HB2 HDT HBB
          go_wp2_with fail
          refine (overentries_any A7 nr c7 _ _ _ (by omega) HBC.out.size QB.out).mono ?_
          rintro e U3 ⟨rfl, hg3⟩
          have HBD : Hid (Below U4.heap.size U4 U3) := HBC.out.grown hg3 HBC.out.size fun k hk => (QB.out.row.lt k hk).1
          have TF := Lib.hid (T7.out.since HBD.out)
          have SF := Lib.hid (below_chain S7.out HBD.out)
          clear hg3 QB HBC HBD T7 S7 HNR HWFL
          go_wp2_with fail
          go_roundw
          case rel => exact ⟨i + 1, fp, fq, l, by go_num, by omega, L3, TF, SF⟩
          case measure => simp [intOf]; omega
      · go_wp2_with fail
        rw [← HVV.out, HBX.out]
        have L3 : Hid (l.length ≤ i + 1) := Nat.le_succ_of_le HL.out
        have A3 : Hid (RestC (Or2 fp fq) V3 (bx + 1) (EC ⟨0, 0, false, 0⟩) 32) := A3
        have B3 : Hid (RestC (Or2 fp fq) V3 (bx + 1 + 1) (EC ⟨0, 0, false, 0⟩) 32) := B3
        clear q0 q1 q2 q3 q4 q5 q6 HVV d0 d1 d2 d3 d4 e0 e1 e2 e3 e4 e5 e6 HL HT HS X3
        obtain ⟨Ar, nr, cr, hRT, hRA⟩ := T3.out.k.ex
        have HNR : Hid (l.length = nr) := hRT.lr.len
        have hnr : nr ≤ 100 := by have := L3.out; rw [← HNR.out]; omega
        have HWFL : Hid (∀ e ∈ l, EWf e) := T3.out.k.wf.wf
        have HRT := Lib.hid hRT
        clear hRT hRA
        refine (tall_any T3.out.d).mono ?_
        rintro e U1 ⟨A7, n7, c7, rfl, hi7, hb7⟩
        obtain rfl : nr = n7 := by rw [← HNR.out]; exact hi7.out.len
        have TA := Lib.hid (T3.out.since hb7.out)
        have AA := Lib.hid (A3.out.since hb7.out)
        have BA := Lib.hid (B3.out.since hb7.out)
        have RA := Lib.hid (HRT.out.since hb7.out)
        have QA : Hid (entK.Row U1 V3.heap.size A7 nr c7 l) := hi7.out
        have HBB := Lib.hid hb7.out
        clear hb7 hi7 A3 B3 HRT 
        obtain ⟨a0, a1, a2, a3⟩ := rest_en AA.out
        obtain ⟨b0, b1, b2, b3⟩ := rest_en BA.out
        dsimp only at a0 a1 a2 a3 b0 b1 b2 b3
        have g0 := RA.out.c0
        have c1 := Lib.hid fun (d : Nat) (os : Array Obj) => quiet_says (sameentries_since A7 Ar nr c7 cr l (grow (redrawn U1 d) os) (by omega) (QA.out.since (below_regrown U1 d os)).lie (RA.out.since (below_regrown U1 d os)).lr.lie)
        have c2 := Lib.hid fun (d : Nat) (os : Array Obj) => Calls.regrown_of ((tlen_any (TA.out.d.since (below_regrown U1 d os))).mono fun e w' h => ⟨h.1, h.2.out⟩)
        have c3 := Lib.hid fun (d : Nat) (os : Array Obj) => Calls.regrown_of ((tdirty_any (TA.out.d.since (below_regrown U1 d os))).mono fun e w' h => ⟨h.1, h.2.out⟩)
        have c4 := Lib.hid fun (d : Nat) (os : Array Obj) => Calls.regrown_of ((refdirty_any (RA.out.since (below_regrown U1 d os)) HWFL.out (by omega)).mono fun e w' h => ⟨h.1, h.2.out⟩)
        rw [HNR.out] at c2
        obtain ⟨dty, HDT⟩ : ∃ dty, Hid (((dirtyT l : Nat) : Int) = dty) := ⟨_, rfl⟩
        rw [HDT.out] at c3 c4
        go_wp2_with fail
        have a0 := cell_regrown a0
        have a1 := cell_regrown a1
        have a2 := cell_regrown a2
        have a3 := cell_regrown a3
        have b0 := cell_regrown b0
        have b1 := cell_regrown b1
        have b2 := cell_regrown b2
        have b3 := cell_regrown b3
        have g0 := cell_regrown g0
        refine wp_region_quiet_below (by kernel_rfl) (by kernel_rfl) ?_
        repeat (go_big_quiet_step (first | (go_at_call 17; exact c1.out _ _) | (go_at_call 24; exact c2.out _ _) | (go_at_call 22; exact c3.out _ _) | (go_at_call 23; exact c4.out _ _)))
        refine wpQuiet_nil ?_
        intro U2 hw'
        have HB2 : Hid (Below U1.heap.size U1 U2) := by obtain ⟨⟨dq, osq⟩, hw''⟩ := hw'; rw [hw'']; exact below_regrown _ _ _
        clear hw' a0 a1 a2 a3 b0 b1 b2 b3 g0 c1 c2 c3 c4
        have QB := Lib.hid (QA.out.since HB2.out)
        have HBC := Lib.hid (below_chain HBB.out HB2.out)
        clear TA QA RA AA BA HB2 HDT HBB
        go_wp2_with fail
        refine (overentries_any A7 nr c7 _ _ _ (by omega) HBC.out.size QB.out).mono ?_
        rintro e U3 ⟨rfl, hg3⟩
        have HBD : Hid (Below V3.heap.size V3 U3) := HBC.out.grown hg3 HBC.out.size fun k hk => (QB.out.row.lt k hk).1
        have TF := Lib.hid (T3.out.since HBD.out)
        have SF := Lib.hid (below_chain S3.out HBD.out)
        clear hg3 QB HBC HBD T3 S3 HNR HWFL
        go_wp2_with fail
        go_roundw
        case rel => exact ⟨i + 1, fp, fq, l, by go_num, by omega, L3, TF, SF⟩
        case measure => simp [intOf]; omega
    · go_wp2_with fail
      refine (tawake_any _).mono ?_
      rintro e W1 ⟨rfl, hb1⟩
      have S9 := Lib.hid (below_chain HS.out hb1.out)
      go_wp2_with fail
      go_ret
      exact ⟨rfl, S9⟩
end Go.Proofs.Ythamnmadgfmbkaa
