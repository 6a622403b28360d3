/- The landed table: Drop. Conditions: the table's cells. -/
import Derived.Test.YthamnmadgfmbkaaTabGet2
set_option linter.unusedVariables false
set_option linter.unusedSimpArgs false
namespace Go.Proofs.Ythamnmadgfmbkaa
open Go.RowKit

theorem RowEn.keep {w w' : World} {b : Nat} {x : E} {fq : Nat → Prop} (h : RowEn w b x) (ht : Turn fq w w') (hn : ¬ fq b) : RowEn w' b x := ⟨(ht.block b h.lt hn).trans h.row⟩
section
variable {w W3 W4 W5 : World} {base g b0 : Nat} {fp fq : Nat → Prop} {l L : List E} {v : Value} {m d : Int}
/-- A block that is no part of the table, ahead of a move and behind. -/
theorem apart_of (hf : ∀ b, fp b → b < w.heap.size) (M : Moves W3 fp W4 fq) (h0 : w.heap.size ≤ b0) (h3 : b0 < W3.heap.size) : ¬ fp b0 ∧ ¬ fq b0 := by
  have h1 : ¬ fp b0 := fun h => by have := hf b0 h; omega
  refine ⟨h1, fun h => ?_⟩
  rcases M.grows b0 h with h2 | h2
  · exact h1 h2
  · omega
/-- What a call leaves that turned the table, and stored its answer. -/
theorem lead_fin (hf : ∀ b, fp b → b < w.heap.size) (S3 : Below w.heap.size w W3) (M : Moves W3 fp W4 fq) (T5 : Turn fq W4 W5) (K5 : TCore W5 base fq g L v m d) (h0 : w.heap.size ≤ b0) (h3 : b0 < W3.heap.size) (hw : TW L) (hm : m = L.length) (hd : d = dirtyT L) (x y z u : Value) :
    ∃ fp', TabAt ((((W5.setCell ⟨b0, 0, none⟩ x).setCell ⟨b0, 1, none⟩ y).setCell ⟨b0, 2, none⟩ z).setCell ⟨b0, 3, none⟩ u) base fp' g L ∧ Moves w fp ((((W5.setCell ⟨b0, 0, none⟩ x).setCell ⟨b0, 1, none⟩ y).setCell ⟨b0, 2, none⟩ z).setCell ⟨b0, 3, none⟩ u) fp' := by
  obtain ⟨h1, h2⟩ := apart_of hf M h0 h3
  subst hm hd
  have hg := putEn_else W5 b0 x y z u
  have hq : ∀ b, fq b → fp b ∨ w.heap.size ≤ b := fun b hb => (M.grows b hb).imp id fun h => Nat.le_trans S3.size h
  refine ⟨fq, ⟨hw, v, K5.keep hg.size fun b hb => hg.block b (K5.lt b hb) fun e => h2 (by rw [← Option.some.inj e]; exact hb)⟩, ⟨?_, hq⟩⟩
  exact (((Turn.of_below (fp := fp) S3).trans M.turn fun b hb => Or.inl hb).trans T5 hq).trans (Turn.of_grown (fp := fun q => q = b0) hg fun q e => (Option.some.inj e).symm) fun b hb => Or.inr (by rw [hb]; exact h0)
set_option maxHeartbeats 8000000 in
set_option maxRecDepth 20000 in
theorem tdrop_any (a : Int) (h0 : 0 ≤ a) (h1 : a ≤ 18446744073709551615) (hD : TabAt w base fp g l) : Calls Try.prog 14 #[.pointer (some ⟨g, 0, none⟩), .int .u64 a] w (TLeads w base fp g (dropT l a) (getT l a)) := by
  obtain ⟨v, K⟩ := hD.core
  have HS := Lib.hid hD.wf.srt
  have HTW := Lib.hid (tw_drop hD.wf a)
  have HDD := Lib.hid hD
  have HFW := Lib.hid hD.wf.few
  obtain ⟨W0, HW0⟩ : ∃ W0, Hid (W0 = w.alloc (.cells #[.int .u64 0, .int .i64 0, .bool false, .int .i64 0] 32)) := ⟨_, rfl⟩
  have S0 : Hid (Below w.heap.size w W0) := by rw [HW0.out]; exact (Below.refl _ _).alloc (Nat.le_refl _) _
  have R0 : Hid (RowEn W0 w.heap.size E.zero) := by rw [HW0.out]; exact rowEn_new w E.zero
  have K0 := Lib.hid (K.since S0.out)
  have C := Lib.hid (tseek_any a hD.wf.srt hD.wf.few K0.out)
  obtain ⟨b0, HB0⟩ : ∃ b0, Hid (w.heap.size = b0) := ⟨_, rfl⟩
  rw [HB0.out] at R0
  have HBW : Hid (b0 = w.heap.size) := HB0.out.symm
  obtain ⟨k, HK⟩ : ∃ k, Hid (aheadT l a = k) := ⟨_, rfl⟩
  rw [HK.out] at C
  clear K hD h0 h1
  unfold seekV at C
  cases hg : getT l a with
  | none =>
    rw [hg] at C
    have HG := Lib.hid hg
    clear hg
    go_enter Try.func14, Try.ntmps14
    go_wp2_with fail
    rw [← HW0.out, HB0.out]
    clear HW0 HB0
    refine C.out.mono ?_
    rintro e W1 ⟨rfl, hb⟩
    have hb2 : Below W1.heap.size W1 (W1.alloc (.cells #[.int .i64 0, .int .i64 (k : Int)] 54)) := (Below.refl _ _).alloc (Nat.le_refl _) _
    have S2 := Lib.hid (below_chain (below_chain S0.out hb.out) hb2)
    have R2 := Lib.hid ((R0.out.since hb.out).since hb2)
    have K2 := Lib.hid ((K0.out.since hb.out).since hb2)
    obtain ⟨d0, d1, d2, d3⟩ := R2.out.at_
    have f0 := R2.out.free 0
    have f1 := R2.out.free 1
    have f2 := R2.out.free 2
    have f3 := R2.out.free 3
    unfold E.zero at d0 d1 d2 d3
    dsimp only at d0 d1 d2 d3
    clear hb hb2 S0 R0 K0 C
    obtain ⟨W2, HW2⟩ : ∃ W2, Hid (W2 = W1.alloc (.cells #[.int .i64 0, .int .i64 (k : Int)] 54)) := ⟨_, rfl⟩
    go_wp2_with fail
    rw [← HW2.out]
    rw [← HW2.out] at S2 R2 K2
    have HL : Hid (dropT l a = l) := drop_none HG.out
    obtain ⟨fp9, hF9, hM9⟩ := lead_fin HDD.out.lt S2.out (Moves.refl fp W2) (Turn.refl fp W2) K2.out (Nat.le_of_eq HBW.out.symm) R2.out.lt HDD.out.wf rfl rfl (.int .u64 0) (.int .i64 0) (.bool false) (.int .i64 0)
    have R9 := Lib.hid (R2.out.put ⟨0, 0, false, 0⟩)
    dsimp only at R9
    obtain ⟨W9, HW9⟩ : ∃ W9, Hid (W9 = ((((W2.setCell ⟨b0, 0, none⟩ (.int .u64 0)).setCell ⟨b0, 1, none⟩ (.int .i64 0)).setCell ⟨b0, 2, none⟩ (.bool false)).setCell ⟨b0, 3, none⟩ (.int .i64 0))) := ⟨_, rfl⟩
    rw [← HW9.out] at R9 hF9 hM9 ⊢
    obtain ⟨r0, r1, r2, r3⟩ := R9.out.at_
    dsimp only at r0 r1 r2 r3
    have HF : Hid (TLeads w base fp g (dropT l a) none (.returned (pairO none)) W9) := by rw [HL.out]; exact ⟨fp9, rfl, hF9, hM9⟩
    exact bodyPost_ret (v := pairO none) (by simp [results, Try.results14, go_sem, r0, r1, r2, r3]; rfl) rfl HF.out
  | some y =>
    rw [hg] at C
    have HG := Lib.hid hg
    obtain ⟨h, cA, r, c, rfl, ho, hk, hy⟩ := K0.out.rows.one HS.out hg
    rw [HK.out] at hk hy
    have HO := Lib.hid ho
    have HY := Lib.hid hy
    have HKN := Lib.hid hk
    obtain ⟨n, HN⟩ : ∃ n, Hid (l.length = n) := ⟨_, rfl⟩
    obtain ⟨ya, yp, yd, yq⟩ := y
    clear ho hk hy hg
    go_enter Try.func14, Try.ntmps14
    go_wp2_with fail
    rw [← HW0.out, HB0.out]
    clear HW0 HB0
    refine C.out.mono ?_
    rintro e W1 ⟨rfl, hb⟩
    obtain ⟨W2, HW2⟩ : ∃ W2, Hid (W2 = W1.alloc (.cells #[.int .i64 0, .int .i64 (k : Int)] 54)) := ⟨_, rfl⟩
    have hb2 : Below W1.heap.size W1 W2 := by rw [HW2.out]; exact (Below.refl _ _).alloc (Nat.le_refl _) _
    have P2 : Hid (RowPl W2 W1.heap.size 0 k) := by rw [HW2.out]; exact rowPl_new W1 0 k
    have S2 := Lib.hid (below_chain (below_chain S0.out hb.out) hb2)
    have R2 := Lib.hid ((R0.out.since hb.out).since hb2)
    have K2 := Lib.hid ((K0.out.since hb.out).since hb2)
    have O2 := Lib.hid ((HO.out.since hb.out).since hb2)
    obtain ⟨b6, HB6⟩ : ∃ b, Hid (W1.heap.size = b) := ⟨_, rfl⟩
    rw [HB6.out] at P2
    clear hb hb2 S0 R0 K0 C HO
    go_wp2_with fail
    rw [← HW2.out, HB6.out]
    clear HW2 HB6
    have hbd : Below W2.heap.size W2 W2.drew := (Below.refl _ _).drew
    have K3 := Lib.hid (K2.out.since hbd)
    have O3 := Lib.hid (O2.out.since hbd)
    have P3 := Lib.hid (P2.out.since hbd)
    have c0 := K3.out.c0
    have q0 := P3.out.c0
    have q1 := P3.out.c1
    have t0 := O3.out.c0
    obtain ⟨e0, e1, e2, e3, i0, i1⟩ := O3.out.at_ HKN.out
    rw [HY.out] at e0 e1 e2 e3
    rw [HN.out] at i1 t0
    dsimp only at e0 e1 e2 e3
    have hba : Below W2.heap.size W2 (W2.alloc (.cells #[.int .u64 0, .int .i64 0, .bool false, .int .i64 0] 32)) := (Below.refl _ _).alloc (Nat.le_refl _) _
    have Ka := K2.out.since hba
    have Oa := O2.out.since hba
    have Pa := P2.out.since hba
    have c0a := Ka.c0
    have q0a := Pa.c0
    have q1a := Pa.c1
    have t0a := Oa.c0
    obtain ⟨e0a, e1a, e2a, e3a, _, _⟩ := Oa.at_ HKN.out
    rw [HY.out] at e0a e1a e2a e3a
    rw [HN.out] at t0a
    dsimp only at e0a e1a e2a e3a
    have c0b : (W2.alloc (.cells #[.int .u64 0, .int .i64 0, .bool false, .int .i64 0] 32)).drew.cell? ⟨g, 0, none⟩ = _ := c0a
    have q0b : (W2.alloc (.cells #[.int .u64 0, .int .i64 0, .bool false, .int .i64 0] 32)).drew.cell? ⟨b6, 0, none⟩ = _ := q0a
    have q1b : (W2.alloc (.cells #[.int .u64 0, .int .i64 0, .bool false, .int .i64 0] 32)).drew.cell? ⟨b6, 1, none⟩ = _ := q1a
    have t0b : (W2.alloc (.cells #[.int .u64 0, .int .i64 0, .bool false, .int .i64 0] 32)).drew.cell? ⟨h, 0, none⟩ = _ := t0a
    clear Ka Oa Pa hba
    go_region
    clear c0 q0 q1 t0 e0 e1 e2 e3 i0 i1 c0a q0a q1a t0a e0a e1a e2a e3a c0b q0b q1b t0b K3 O3 P3 hbd
    obtain ⟨W3, HW3⟩ : ∃ W3, Hid (W3 = (W2.alloc (.cells #[.int .u64 ya, .int .i64 yp, .bool yd, .int .i64 yq] 32)).drew) := ⟨_, rfl⟩
    have hb3 : Below W2.heap.size W2 W3 := by rw [HW3.out]; exact ((Below.refl _ _).alloc (Nat.le_refl _) _).drew
    have Y3 : Hid (RowEn W3 W2.heap.size ⟨ya, yp, yd, yq⟩) := by rw [HW3.out]; exact ⟨(rowEn_new W2 ⟨ya, yp, yd, yq⟩).row⟩
    have hb8 : w.heap.size ≤ W2.heap.size := S2.out.size
    obtain ⟨b8, HB8⟩ : ∃ b, Hid (W2.heap.size = b) := ⟨_, rfl⟩
    rw [← HW3.out, HB8.out]
    rw [HB8.out] at Y3 hb8
    have HB8W := Lib.hid hb8
    have HB80 : Hid (b0 < b8) := by rw [← HB8.out]; exact R2.out.lt
    have S3 := Lib.hid (below_chain S2.out hb3)
    have R3 := Lib.hid (R2.out.since hb3)
    have K3 := Lib.hid (K2.out.since hb3)
    have O3 := Lib.hid (O2.out.since hb3)
    have P3 := Lib.hid (P2.out.since hb3)
    have CR := Lib.hid (tremove_any (k := k) HFW.out HKN.out K3.out O3.out)
    have p0 := P3.out.c0
    have p1 := P3.out.c1
    clear hb3 hb8 HW3 HB8 S2 R2 K2 O2 P2
    go_wp2_with fail
    refine CR.out.mono ?_
    rintro e W4 ⟨rfl, v4, hK4, hM4⟩
    have HA0 := Lib.hid (apart_of (b0 := b0) HDD.out.lt hM4 (Nat.le_of_eq HBW.out.symm) R3.out.lt)
    have HA8 := Lib.hid (apart_of (b0 := b8) HDD.out.lt hM4 HB8W.out Y3.out.lt)
    have R4 := Lib.hid (R3.out.keep hM4.turn HA0.out.1)
    have Y4 := Lib.hid (Y3.out.keep hM4.turn HA8.out.1)
    have HM4 := Lib.hid hM4
    have HDC := HDD.out.wf.few
    have hdl : dirtyT l ≤ l.length := List.countP_le_length
    have CC := Lib.hid (tcount_any ⟨ya, yp, yd, yq⟩ (-1) (by decide) (by decide) (by omega) (by omega) (by omega) (by omega) hK4)
    unfold entV at CC
    dsimp only at CC
    have HBS := Lib.hid R3.out.lt
    obtain ⟨y0, y1, y2, y3⟩ := Y4.out.at_
    dsimp only at y0 y1 y2 y3
    clear hM4 hK4 R3 Y3 K3 O3 P3 CR p0 p1 HDC hdl
    go_wp2_with fail
    refine CC.out.mono ?_
    rintro e W5 ⟨rfl, hK5, hT5⟩
    have R5 := Lib.hid (R4.out.keep hT5 HA0.out.2)
    have Y5 := Lib.hid (Y4.out.keep hT5 HA8.out.2)
    have HLD := len_drop HS.out a
    rw [HG.out] at HLD
    dsimp only at HLD
    have HDY := dirty_drop HS.out HG.out
    have hm5 : (l.length : Int) + (-1) = ((dropT l a).length : Int) := by omega
    have hd5 : (dirtyT l : Int) + (if yd = true then (-1) else 0) = (dirtyT (dropT l a) : Int) := by
      dsimp only at HDY
      cases yd with
      | true => rw [if_pos rfl] at HDY ⊢; omega
      | false => rw [if_neg (by decide)] at HDY ⊢; omega
    have hdr : dropT l a = l.take k ++ l.drop (k + 1) := by rw [← HK.out]; exact drop_at HS.out HG.out
    rw [← hdr] at hK5
    obtain ⟨fp9, hF9, hM9⟩ := lead_fin HDD.out.lt S3.out HM4.out hT5 hK5 (Nat.le_of_eq HBW.out.symm) HBS.out HTW.out hm5 hd5 (.int .u64 ya) (.int .i64 yp) (.bool yd) (.int .i64 yq)
    have R9 := Lib.hid (R5.out.put ⟨ya, yp, yd, yq⟩)
    dsimp only at R9
    obtain ⟨W9, HW9⟩ : ∃ W9, Hid (W9 = ((((W5.setCell ⟨b0, 0, none⟩ (.int .u64 ya)).setCell ⟨b0, 1, none⟩ (.int .i64 yp)).setCell ⟨b0, 2, none⟩ (.bool yd)).setCell ⟨b0, 3, none⟩ (.int .i64 yq))) := ⟨_, rfl⟩
    rw [← HW9.out] at R9 hF9 hM9
    have HF9 := Lib.hid hF9
    have HM9 := Lib.hid hM9
    obtain ⟨z0, z1, z2, z3⟩ := Y5.out.at_
    obtain ⟨d0, d1, d2, d3⟩ := R5.out.at_
    have f0 := R5.out.free 0
    have f1 := R5.out.free 1
    have f2 := R5.out.free 2
    have f3 := R5.out.free 3
    unfold E.zero at d0 d1 d2 d3
    dsimp only at d0 d1 d2 d3 z0 z1 z2 z3
    clear hF9 hM9 hK5 hT5 HLD HDY hm5 hd5 hdr y0 y1 y2 y3 R4 Y4 CC HM4
    go_wp2_with fail
    rw [← HW9.out]
    obtain ⟨r0, r1, r2, r3⟩ := R9.out.at_
    dsimp only at r0 r1 r2 r3
    exact bodyPost_ret (v := pairO (some ⟨ya, yp, yd, yq⟩)) (by simp [results, Try.results14, go_sem, r0, r1, r2, r3]; rfl) rfl ⟨fp9, rfl, HF9.out, HM9.out⟩
end
end Go.Proofs.Ythamnmadgfmbkaa
