/- The landed table: seek. Conditions: the table's cells. -/
import Derived.Test.YthamnmadgfmbkaaTabSeek
set_option linter.unusedVariables false
set_option linter.unusedSimpArgs false
namespace Go.Proofs.Ythamnmadgfmbkaa
open Go.RowKit

section
variable {w : World} {base g h cA r c n : Nat} {l : List E} {fp : Nat → Prop} {v : Value} {m d : Int}
theorem TOne.c0 (k : TOne w base fp l h cA r c) : w.cell? ⟨h, 0, none⟩ = some (.slice (some ⟨r, 0, none⟩) l.length c) := by
  obtain ⟨ad, e1, e2, e3⟩ := k.rows.lie.each 0 (by decide)
  obtain rfl := Option.some.inj e1
  have := esK_at e3
  rwa [Nat.zero_mul, add_none] at this
theorem TOne.since {w' : World} (k : TOne w base fp l h cA r c) (hb : Below w.heap.size w w') : TOne w' base fp l h cA r c := ⟨k.rows.since hb, k.row.since hb, k.fh, k.fr⟩
/-- A place, and whether an entry stands there. -/
def seekV (k : Nat) (b : Bool) : Value := .tuple #[.agg #[.int .i64 0, .int .i64 (k : Int)], .bool b]
set_option maxHeartbeats 4000000 in
theorem tseek_any (a : Int) (hs : Srt l) (hl : l.length ≤ 120) (k : TCore w base fp g l v m d) :
    Calls Try.prog 26 #[.pointer (some ⟨g, 0, none⟩), .int .u64 a] w fun e w' => e = .returned (seekV (aheadT l a) (getT l a).isSome) ∧ Hid (Below w.heap.size w w') := by
  obtain ⟨W0, HW0⟩ : ∃ W0, Hid (W0 = w.alloc (.cells #[.int .i64 0, .int .i64 0] 54)) := ⟨_, rfl⟩
  have S0 : Hid (Below w.heap.size w W0) := by rw [HW0.out]; exact (Below.refl _ _).alloc (Nat.le_refl _) _
  have P0 : Hid (RowPl W0 w.heap.size 0 0) := by rw [HW0.out]; exact rowPl_new w 0 0
  have K0 := Lib.hid (k.since S0.out)
  obtain ⟨b0, HB0⟩ : ∃ b0, Hid (w.heap.size = b0) := ⟨_, rfl⟩
  rw [HB0.out] at P0
  have HBW : Hid (b0 = w.heap.size) := HB0.out.symm
  have c0 := K0.out.c0
  have HK := Lib.hid k
  obtain ⟨q, HQ⟩ : ∃ q, Hid (aheadT l a = q) := ⟨_, rfl⟩
  obtain ⟨is, HI⟩ : ∃ is, Hid ((getT l a).isSome = is) := ⟨_, rfl⟩
  rcases K0.out.rows with ⟨rfl, A, cA, rfl, hr, hf⟩ | ⟨h0, h, cA, r, c, rfl, ho⟩
  · obtain rfl : q = 0 := HQ.out.symm
    obtain rfl : is = false := HI.out.symm
    clear k hr hf hs
    have f0 := P0.out.free 0
    have f1 := P0.out.free 1
    have d0 := P0.out.c0
    have d1 := P0.out.c1
    rw [HW0.out] at c0
    rw [HW0.out, ← HB0.out] at f0 f1 d0 d1
    go_enter Try.func26, Try.ntmps26
    go_wp2_with fail
    rw [← HW0.out, HB0.out]
    clear HW0 HB0 c0 f0 f1 d0 d1
    have r0 := P0.out.c0
    have r1 := P0.out.c1
    exact bodyPost_ret (v := seekV 0 false) (by simp [results, Try.results26, go_sem, r0, r1, seekV]) rfl (by rw [HQ.out, HI.out, HBW.out]; exact ⟨rfl, S0⟩)
  · have HO := Lib.hid ho
    have HS := Lib.hid hs
    have h00 := Lib.hid h0
    have C := Lib.hid (brows_any a h0 ho)
    rw [HQ.out, HI.out]
    clear k hs ho h0 HK
    obtain ⟨f, HF⟩ : ∃ f, Hid (firstA l = f) := ⟨_, rfl⟩
    rw [HF.out] at C
    obtain ⟨n, HN⟩ : ∃ n, Hid (l.length = n) := ⟨_, rfl⟩
    rw [HN.out] at hl
    rcases Int.lt_trichotomy f a with hv | hv | hv
    · have g1 : (if f < a then (1 : Int) else 0) = 1 := if_pos hv
      have g2 : (f == a) = false := beq_eq_false_iff_ne.2 (by omega)
      rw [g1, g2] at C
      clear g1 g2 hv
      rw [HW0.out] at c0
      go_enter Try.func26, Try.ntmps26
      go_wp2_with fail
      rw [← HW0.out, HB0.out]
      clear HW0 HB0
      refine C.out.mono ?_
      rintro e W1 ⟨rfl, hb⟩
      have S1 := Lib.hid (below_chain S0.out hb.out)
      have P1 := Lib.hid (P0.out.since hb.out)
      have K1 := Lib.hid (K0.out.since hb.out)
      have O1 := Lib.hid (HO.out.since hb.out)
      clear hb S0 P0 K0 HO C c0
      have c0 := K1.out.c0
      have c1 := O1.out.c0
      have B := Lib.hid (bsearch_any (some ⟨r, 0, none⟩) l.length c l a W1 HS.out (by rw [HN.out]; exact hl) O1.out.row.lie)
      unfold whereT at B
      rw [HQ.out, HI.out] at B
      rw [HN.out] at c1 B
      go_wp2_with fail
      refine B.out.mono ?_
      rintro e W2 ⟨rfl, hb⟩
      have S2 := Lib.hid (below_chain S1.out hb.out)
      have P2 := Lib.hid (P1.out.since hb.out)
      clear hb S1 P1 K1 O1 B c0 c1
      have f0 := P2.out.free 0
      have f1 := P2.out.free 1
      have d0 := P2.out.c0
      have d1 := P2.out.c1
      go_wp2_with fail
      obtain ⟨W9, HW9⟩ : ∃ W9, Hid (W9 = (W2.setCell ⟨b0, 0, none⟩ (.int .i64 0)).setCell ⟨b0, 1, none⟩ (.int .i64 ((q : Int)))) := ⟨_, rfl⟩
      have S9 := Lib.hid (S2.out.grown (putPl_else W2 b0 (.int .i64 0) (.int .i64 ((q : Int)))) S2.out.size (fun q hq => by rw [← Option.some.inj hq, HBW.out]; exact Nat.le_refl _))
      have R9 := Lib.hid (P2.out.put 0 ((q : Int)))
      rw [← HW9.out] at S9 R9 ⊢
      have r0 := R9.out.c0
      have r1 := R9.out.c1
      exact bodyPost_ret (v := seekV q is) (by simp [results, Try.results26, go_sem, r0, r1, seekV]) rfl ⟨rfl, S9⟩
    · have g1 : (if f < a then (1 : Int) else 0) = 0 := if_neg (by omega)
      have g2 : (f == a) = true := by rw [hv]; simp
      rw [g1, g2] at C
      clear g1 g2 hv
      rw [HW0.out] at c0
      go_enter Try.func26, Try.ntmps26
      go_wp2_with fail
      rw [← HW0.out, HB0.out]
      clear HW0 HB0
      refine C.out.mono ?_
      rintro e W1 ⟨rfl, hb⟩
      have S1 := Lib.hid (below_chain S0.out hb.out)
      have P1 := Lib.hid (P0.out.since hb.out)
      have K1 := Lib.hid (K0.out.since hb.out)
      have O1 := Lib.hid (HO.out.since hb.out)
      clear hb S0 P0 K0 HO C c0
      have c0 := K1.out.c0
      have c1 := O1.out.c0
      have B := Lib.hid (bsearch_any (some ⟨r, 0, none⟩) l.length c l a W1 HS.out (by rw [HN.out]; exact hl) O1.out.row.lie)
      unfold whereT at B
      rw [HQ.out, HI.out] at B
      rw [HN.out] at c1 B
      go_wp2_with fail
      refine B.out.mono ?_
      rintro e W2 ⟨rfl, hb⟩
      have S2 := Lib.hid (below_chain S1.out hb.out)
      have P2 := Lib.hid (P1.out.since hb.out)
      clear hb S1 P1 K1 O1 B c0 c1
      have f0 := P2.out.free 0
      have f1 := P2.out.free 1
      have d0 := P2.out.c0
      have d1 := P2.out.c1
      go_wp2_with fail
      obtain ⟨W9, HW9⟩ : ∃ W9, Hid (W9 = (W2.setCell ⟨b0, 0, none⟩ (.int .i64 0)).setCell ⟨b0, 1, none⟩ (.int .i64 ((q : Int)))) := ⟨_, rfl⟩
      have S9 := Lib.hid (S2.out.grown (putPl_else W2 b0 (.int .i64 0) (.int .i64 ((q : Int)))) S2.out.size (fun q hq => by rw [← Option.some.inj hq, HBW.out]; exact Nat.le_refl _))
      have R9 := Lib.hid (P2.out.put 0 ((q : Int)))
      rw [← HW9.out] at S9 R9 ⊢
      have r0 := R9.out.c0
      have r1 := R9.out.c1
      exact bodyPost_ret (v := seekV q is) (by simp [results, Try.results26, go_sem, r0, r1, seekV]) rfl ⟨rfl, S9⟩
    · have g1 : (if f < a then (1 : Int) else 0) = 0 := if_neg (by omega)
      have g2 : (f == a) = false := beq_eq_false_iff_ne.2 (by omega)
      rw [g1, g2] at C
      clear g1 g2 hv
      rw [HW0.out] at c0
      go_enter Try.func26, Try.ntmps26
      go_wp2_with fail
      rw [← HW0.out, HB0.out]
      clear HW0 HB0
      refine C.out.mono ?_
      rintro e W1 ⟨rfl, hb⟩
      have S1 := Lib.hid (below_chain S0.out hb.out)
      have P1 := Lib.hid (P0.out.since hb.out)
      have K1 := Lib.hid (K0.out.since hb.out)
      have O1 := Lib.hid (HO.out.since hb.out)
      clear hb S0 P0 K0 HO C c0
      have c0 := K1.out.c0
      have c1 := O1.out.c0
      have B := Lib.hid (bsearch_any (some ⟨r, 0, none⟩) l.length c l a W1 HS.out (by rw [HN.out]; exact hl) O1.out.row.lie)
      unfold whereT at B
      rw [HQ.out, HI.out] at B
      rw [HN.out] at c1 B
      go_wp2_with fail
      refine B.out.mono ?_
      rintro e W2 ⟨rfl, hb⟩
      have S2 := Lib.hid (below_chain S1.out hb.out)
      have P2 := Lib.hid (P1.out.since hb.out)
      clear hb S1 P1 K1 O1 B c0 c1
      have f0 := P2.out.free 0
      have f1 := P2.out.free 1
      have d0 := P2.out.c0
      have d1 := P2.out.c1
      go_wp2_with fail
      obtain ⟨W9, HW9⟩ : ∃ W9, Hid (W9 = (W2.setCell ⟨b0, 0, none⟩ (.int .i64 0)).setCell ⟨b0, 1, none⟩ (.int .i64 ((q : Int)))) := ⟨_, rfl⟩
      have S9 := Lib.hid (S2.out.grown (putPl_else W2 b0 (.int .i64 0) (.int .i64 ((q : Int)))) S2.out.size (fun q hq => by rw [← Option.some.inj hq, HBW.out]; exact Nat.le_refl _))
      have R9 := Lib.hid (P2.out.put 0 ((q : Int)))
      rw [← HW9.out] at S9 R9 ⊢
      have r0 := R9.out.c0
      have r1 := R9.out.c1
      exact bodyPost_ret (v := seekV q is) (by simp [results, Try.results26, go_sem, r0, r1, seekV]) rfl ⟨rfl, S9⟩
end
end Go.Proofs.Ythamnmadgfmbkaa
