/- The landed table: Get. Conditions: the table's cells. -/
import Derived.Test.YthamnmadgfmbkaaTabGet
set_option linter.unusedVariables false
set_option linter.unusedSimpArgs false
namespace Go.Proofs.Ythamnmadgfmbkaa
open Go.RowKit

section
variable {w : World} {base g h cA r c k : Nat} {fp : Nat → Prop} {l : List E} {v : Value} {m d : Int}
/-- Where an entry stands, its cells. -/
structure AtR (w : World) (r k n : Nat) (y : E) : Prop where
  e0 : w.cell? ⟨r, k * 4, none⟩ = some (.int .u64 y.addr)
  e1 : w.cell? ⟨r, k * 4 + 1, none⟩ = some (.int .i64 y.page)
  e2 : w.cell? ⟨r, k * 4 + 2, none⟩ = some (.bool y.dirty)
  e3 : w.cell? ⟨r, k * 4 + 3, none⟩ = some (.int .i64 y.seq)
  i0 : (0 : Int) ≤ (k : Int)
  i1 : (k : Int) < (n : Int)
theorem TOne.at_ (o : TOne w base fp l h cA r c) (hk : k < l.length) : AtR w r k l.length (l.getD k E.zero) := by
  obtain ⟨ad, e1, e2, e3⟩ := ent_at o.row.lie hk
  obtain rfl := Option.some.inj e1
  rw [Kind.add_zero_k] at e3
  obtain ⟨c0, c1, c2, c3⟩ := e3
  exact ⟨c0, c1, c2, c3, by omega, by omega⟩
/-- If one stands there, there is a row. -/
theorem TIn.one {y : E} {a : Int} (K : TIn w base fp l v) (hs : Srt l) (hg : getT l a = some y) : ∃ h cA r c, v = .slice (some ⟨h, 0, none⟩) 1 cA ∧ TOne w base fp l h cA r c ∧ aheadT l a < l.length ∧ l.getD (aheadT l a) E.zero = y := by
  obtain ⟨h1, h2, _⟩ := ahead_some hs hg
  rcases K with ⟨rfl, A, cA, rfl, hr, hf⟩ | ⟨h0, h, cA, r, c, rfl, ho⟩
  · exact absurd h1 (Nat.not_lt_zero _)
  · exact ⟨h, cA, r, c, rfl, ho, h1, h2⟩
set_option maxHeartbeats 8000000 in
set_option maxRecDepth 20000 in
theorem tget_any (a : Int) (h0 : 0 ≤ a) (h1 : a ≤ 18446744073709551615) (hD : TabAt w base fp g l) : Calls Try.prog 12 #[.pointer (some ⟨g, 0, none⟩), .int .u64 a] w (TGets w (getT l a)) := by
  obtain ⟨v, K⟩ := hD.core
  have HS := Lib.hid hD.wf.srt
  obtain ⟨W0, HW0⟩ : ∃ W0, Hid (W0 = w.alloc (.cells #[.int .u64 0, .int .i64 0, .bool false, .int .i64 0] 32)) := ⟨_, rfl⟩
  have S0 : Hid (Below w.heap.size w W0) := by rw [HW0.out]; exact (Below.refl _ _).alloc (Nat.le_refl _) _
  have R0 : Hid (RowEn W0 w.heap.size E.zero) := by rw [HW0.out]; exact rowEn_new w E.zero
  have K0 := Lib.hid (K.since S0.out)
  have C := Lib.hid (tseek_any a hD.wf.srt hD.wf.few K0.out)
  obtain ⟨b0, HB0⟩ : ∃ b0, Hid (w.heap.size = b0) := ⟨_, rfl⟩
  rw [HB0.out] at R0
  have HBW : Hid (b0 = w.heap.size) := HB0.out.symm
  obtain ⟨k, HK⟩ : ∃ k, Hid (aheadT l a = k) := ⟨_, rfl⟩
  rw [HK.out] at C
  clear K hD h0 h1
  unfold seekV at C
  cases hg : getT l a with
  | none =>
    rw [hg] at C
    have HG := Lib.hid hg
    clear hg
    go_enter Try.func12, Try.ntmps12
    go_wp2_with fail
    rw [← HW0.out, HB0.out]
    clear HW0 HB0
    refine C.out.mono ?_
    rintro e W1 ⟨rfl, hb⟩
    have hb2 : Below W1.heap.size W1 (W1.alloc (.cells #[.int .i64 0, .int .i64 (k : Int)] 54)) := (Below.refl _ _).alloc (Nat.le_refl _) _
    have S2 := Lib.hid (below_chain (below_chain S0.out hb.out) hb2)
    have R2 := Lib.hid ((R0.out.since hb.out).since hb2)
    obtain ⟨d0, d1, d2, d3⟩ := R2.out.at_
    have f0 := R2.out.free 0
    have f1 := R2.out.free 1
    have f2 := R2.out.free 2
    have f3 := R2.out.free 3
    unfold E.zero at d0 d1 d2 d3
    dsimp only at d0 d1 d2 d3
    clear hb hb2 S0 R0 K0 C
    obtain ⟨W2, HW2⟩ : ∃ W2, Hid (W2 = W1.alloc (.cells #[.int .i64 0, .int .i64 (k : Int)] 54)) := ⟨_, rfl⟩
    go_wp2_with fail
    rw [← HW2.out]
    rw [← HW2.out] at S2 R2
    have S9 := Lib.hid (S2.out.grown (putEn_else W2 b0 (.int .u64 0) (.int .i64 0) (.bool false) (.int .i64 0)) S2.out.size (fun q hq => by rw [← Option.some.inj hq, HBW.out]; exact Nat.le_refl _))
    have R9 := Lib.hid (R2.out.put ⟨0, 0, false, 0⟩)
    dsimp only at R9
    obtain ⟨W9, HW9⟩ : ∃ W9, Hid (W9 = ((((W2.setCell ⟨b0, 0, none⟩ (.int .u64 0)).setCell ⟨b0, 1, none⟩ (.int .i64 0)).setCell ⟨b0, 2, none⟩ (.bool false)).setCell ⟨b0, 3, none⟩ (.int .i64 0))) := ⟨_, rfl⟩
    rw [← HW9.out] at S9 R9 ⊢
    obtain ⟨r0, r1, r2, r3⟩ := R9.out.at_
    dsimp only at r0 r1 r2 r3
    exact bodyPost_ret (v := pairO none) (by simp [results, Try.results12, go_sem, r0, r1, r2, r3]; rfl) rfl ⟨rfl, S9⟩
  | some y =>
    rw [hg] at C
    obtain ⟨h, cA, r, c, rfl, ho, hk, hy⟩ := K0.out.rows.one HS.out hg
    rw [HK.out] at hk hy
    have HO := Lib.hid ho
    have HY := Lib.hid hy
    have HKN := Lib.hid hk
    obtain ⟨n, HN⟩ : ∃ n, Hid (l.length = n) := ⟨_, rfl⟩
    obtain ⟨ya, yp, yd, yq⟩ := y
    clear ho hk hy hg
    go_enter Try.func12, Try.ntmps12
    go_wp2_with fail
    rw [← HW0.out, HB0.out]
    clear HW0 HB0
    refine C.out.mono ?_
    rintro e W1 ⟨rfl, hb⟩
    obtain ⟨W2, HW2⟩ : ∃ W2, Hid (W2 = W1.alloc (.cells #[.int .i64 0, .int .i64 (k : Int)] 54)) := ⟨_, rfl⟩
    have hb2 : Below W1.heap.size W1 W2 := by rw [HW2.out]; exact (Below.refl _ _).alloc (Nat.le_refl _) _
    have P2 : Hid (RowPl W2 W1.heap.size 0 k) := by rw [HW2.out]; exact rowPl_new W1 0 k
    have S2 := Lib.hid (below_chain (below_chain S0.out hb.out) hb2)
    have R2 := Lib.hid ((R0.out.since hb.out).since hb2)
    have K2 := Lib.hid ((K0.out.since hb.out).since hb2)
    have O2 := Lib.hid ((HO.out.since hb.out).since hb2)
    obtain ⟨b6, HB6⟩ : ∃ b, Hid (W1.heap.size = b) := ⟨_, rfl⟩
    rw [HB6.out] at P2
    clear hb hb2 S0 R0 K0 C HO
    go_wp2_with fail
    rw [← HW2.out, HB6.out]
    clear HW2 HB6
    have hbd : Below W2.heap.size W2 W2.drew := (Below.refl _ _).drew
    have S3 := Lib.hid (below_chain S2.out hbd)
    have R3 := Lib.hid (R2.out.since hbd)
    have K3 := Lib.hid (K2.out.since hbd)
    have O3 := Lib.hid (O2.out.since hbd)
    have P3 := Lib.hid (P2.out.since hbd)
    obtain ⟨WD, HWD⟩ : ∃ W, Hid (W = W2.drew) := ⟨_, rfl⟩
    have c0 := K3.out.c0
    have q0 := P3.out.c0
    have q1 := P3.out.c1
    have t0 := O3.out.c0
    obtain ⟨e0, e1, e2, e3, i0, i1⟩ := O3.out.at_ HKN.out
    rw [HY.out] at e0 e1 e2 e3
    rw [HN.out] at i1 t0
    obtain ⟨d0, d1, d2, d3⟩ := R3.out.at_
    have f0 := R3.out.free 0
    have f1 := R3.out.free 1
    have f2 := R3.out.free 2
    have f3 := R3.out.free 3
    unfold E.zero at d0 d1 d2 d3
    dsimp only at d0 d1 d2 d3 e0 e1 e2 e3
    have d0' : W2.cell? ⟨b0, 0, none⟩ = _ := d0
    have d1' : W2.cell? ⟨b0, 1, none⟩ = _ := d1
    have d2' : W2.cell? ⟨b0, 2, none⟩ = _ := d2
    have d3' : W2.cell? ⟨b0, 3, none⟩ = _ := d3
    have f0' : W2.frozen? ⟨b0, 0, none⟩ = _ := f0
    have f1' : W2.frozen? ⟨b0, 1, none⟩ = _ := f1
    have f2' : W2.frozen? ⟨b0, 2, none⟩ = _ := f2
    have f3' : W2.frozen? ⟨b0, 3, none⟩ = _ := f3
    have S9 := Lib.hid (S3.out.grown (putEn_else W2.drew b0 (.int .u64 ya) (.int .i64 yp) (.bool yd) (.int .i64 yq)) S3.out.size (fun q hq => by rw [← Option.some.inj hq, HBW.out]; exact Nat.le_refl _))
    have R9 := Lib.hid (R3.out.put ⟨ya, yp, yd, yq⟩)
    clear hbd S2 R2 K2 O2 P2 S3 R3 K3 O3 P3 HWD
    go_region
    go_wp2_with fail
    obtain ⟨W9, HW9⟩ : ∃ W9, Hid (W9 = (((((W2.setCell ⟨b0, 0, none⟩ (.int .u64 ya)).setCell ⟨b0, 1, none⟩ (.int .i64 yp)).setCell ⟨b0, 2, none⟩ (.bool yd)).setCell ⟨b0, 3, none⟩ (.int .i64 yq))).drew) := ⟨_, rfl⟩
    have SF : Hid (Below w.heap.size w W9) := by rw [HW9.out]; exact S9.out
    have RF : Hid (RowEn W9 b0 ⟨ya, yp, yd, yq⟩) := by rw [HW9.out]; exact R9.out
    rw [← HW9.out]
    obtain ⟨r0, r1, r2, r3⟩ := RF.out.at_
    dsimp only at r0 r1 r2 r3
    exact bodyPost_ret (v := pairO (some ⟨ya, yp, yd, yq⟩)) (by simp [results, Try.results12, go_sem, r0, r1, r2, r3]; rfl) rfl ⟨rfl, SF⟩
end
end Go.Proofs.Ythamnmadgfmbkaa
