/- The landed disk and the document's own beside it, both of one state; the statement's 'done' where it reads, flushes, or does nothing. Conditions: the disks; fewer than 1000 writes wait. -/
import Derived.Test.YtfhfjfgajbgdcaaDiskAwake
import Derived.Test.YtfhfjfgajbgdcaaIntsShared
import Derived.Test.YtfhfjfgajbgdcaaFlags
import Derived.Test.YtfhfjfgajbgdcaaActs9
import Derived.Test.YtfhfjfgajbgdcaaBits1
set_option linter.unusedVariables false
set_option linter.unusedSimpArgs false
namespace Go.Proofs.Ytfhfjfgajbgdcaa
open Go.RowKit

/-- Two disks of one state that share no block. -/
structure Both (w : World) (base : Nat) (fD fK : Nat → Prop) (gD gK : Nat) (s : RD) : Prop where
  d : DiskAt w base fD gD s
  r : RefAt w base fK gK s
  two : Two fD fK
section
variable {w w' : World} {base gD gK : Nat} {fD fK fD' fK' : Nat → Prop} {s s' : RD}
theorem Both.since (h : Both w base fD fK gD gK s) (hb : Below w.heap.size w w') : Both w' base fD fK gD gK s := ⟨h.d.since hb, h.r.since hb, h.two⟩
theorem Both.lt (h : Both w base fD fK gD gK s) : ∀ b, Or2 fD fK b → b < w.heap.size := fun b hb => hb.elim (h.d.lt b) (h.r.lt b)
theorem Both.ge (h : Both w base fD fK gD gK s) : ∀ b, Or2 fD fK b → base ≤ b := fun b hb => hb.elim (h.d.ge b) (h.r.ge b)
theorem Both.same (h : Both w base fD fK gD gK s) (e : s = s') : Both w base fD fK gD gK s' := e ▸ h
theorem RefAt.size_cell (h : RefAt w base fK gK s) : w.cell? ⟨gK, 3, none⟩ = some (.int .i64 (s.size : Int)) := by
  obtain ⟨L, h1, h2⟩ := h.ex
  exact h1.cells.c3
theorem RefAt.size_le (h : RefAt w base fK gK s) : s.size ≤ 256 := by
  obtain ⟨L, h1, h2⟩ := h.ex
  exact h1.size
theorem RefAt.few (h : RefAt w base fK gK s) : s.F.length ≤ 256 := by
  obtain ⟨L, h1, h2⟩ := h.ex
  exact h1.few
theorem lastW_short {x : Int} {W : List (Int × List Nat)} {b : List Nat} (h : lastW x W = some b) : ∃ k, k < W.length ∧ b = (waitAt W k).2 := by
  unfold lastW at h
  rcases hl : (W.filter fun p => decide (p.1 = x)).getLast? with _ | p
  · rw [hl] at h; cases h
  · rw [hl] at h
    have hm := List.mem_of_getLast? hl
    obtain ⟨hm1, _⟩ := List.mem_filter.1 hm
    obtain ⟨k, hk, e⟩ := List.mem_iff_getElem.1 hm1
    refine ⟨k, hk, ?_⟩
    rw [waitAt_at hk, e]
    have : p.2 = b := by simpa using h
    exact this.symm
theorem RefAt.read_len (h : RefAt w base fK gK s) (x : Int) : (readO s x).2.length ≤ 256 := by
  obtain ⟨L, h1, h2⟩ := h.ex
  unfold readO
  split
  · rcases hl : lastW x s.W with _ | b
    · exact h1.sizes _
    · obtain ⟨k, hk, e⟩ := lastW_short hl
      show b.length ≤ 256
      rw [e]; exact h1.sizew k
  · exact Nat.zero_le _
theorem RefAt.firm_len (h : RefAt w base fK gK s) (x : Int) : (firmO s x).2.length ≤ 256 := by
  obtain ⟨L, h1, h2⟩ := h.ex
  unfold firmO
  split
  · exact h1.sizes _
  · exact Nat.zero_le _
end
/-- What an act of both leaves. -/
def Done (w : World) (base : Nat) (fD fK : Nat → Prop) (gD gK : Nat) (s' : RD) (e : Ending) (w' : World) : Prop :=
  e = .returned (.bool true) ∧ ∃ fD' fK', Hid (Both w' base fD' fK' gD gK s') ∧ Hid (Moves w (Or2 fD fK) w' (Or2 fD' fK'))
/-- The act's own cells. -/
structure Box9 (fp : Nat → Prop) (w : World) (g : Nat) (m : A9) : Prop where
  row : RestC fp w g #[.int .i64 m.do_, .int .i64 m.at_, .int .i64 m.n, .bool m.short, .slice m.keep_a m.keep_n m.keep_c] 31
section
variable {w w' : World} {g : Nat} {fp fp' : Nat → Prop} {m : A9}
theorem Box9.c0 (h : Box9 fp w g m) : w.cell? ⟨g, 0, none⟩ = some (.int .i64 m.do_) := h.row.cell 0
theorem Box9.c1 (h : Box9 fp w g m) : w.cell? ⟨g, 1, none⟩ = some (.int .i64 m.at_) := h.row.cell 1
theorem Box9.c2 (h : Box9 fp w g m) : w.cell? ⟨g, 2, none⟩ = some (.int .i64 m.n) := h.row.cell 2
theorem Box9.c3 (h : Box9 fp w g m) : w.cell? ⟨g, 3, none⟩ = some (.bool m.short) := h.row.cell 3
theorem Box9.c4 (h : Box9 fp w g m) : w.cell? ⟨g, 4, none⟩ = some (.slice m.keep_a m.keep_n m.keep_c) := h.row.cell 4
theorem Box9.since (h : Box9 fp w g m) (hb : Below w.heap.size w w') : Box9 fp w' g m := ⟨h.row.since hb⟩
theorem Box9.step (h : Box9 fp w g m) (hs : Moves w fp w' fp') : Box9 fp' w' g m := ⟨h.row.step hs⟩
theorem Box9.new (w : World) (m : A9) (hf : ∀ b, fp b → b < w.heap.size) : Box9 fp (w.alloc (.cells #[.int .i64 m.do_, .int .i64 m.at_, .int .i64 m.n, .bool m.short, .slice m.keep_a m.keep_n m.keep_c] 31)) w.heap.size m := ⟨RestC.new w _ _ hf⟩
end
section
variable {w : World} {base gD gK : Nat} {fD fK : Nat → Prop} {s : RD}
set_option maxHeartbeats 4000000 in
theorem done_read (at_ nn : Int) (sh : Bool) (ka : Option Addr) (kn kc : Nat) (hB : Both w base fD fK gD gK s) :
    Calls Try.prog 10 #[.pointer (some ⟨gD, 0, none⟩), .pointer (some ⟨gK, 0, none⟩), .agg #[.int .i64 0, .int .i64 at_, .int .i64 nn, .bool sh, .slice ka kn kc]] w (Done w base fD fK gD gK s) := by
  obtain ⟨W0, HW0⟩ : ∃ W0, Hid (W0 = w.alloc (.cells #[.int .i64 0, .int .i64 at_, .int .i64 nn, .bool sh, .slice ka kn kc] 31)) := ⟨_, rfl⟩
  have P0 : Box9 (Or2 fD fK) W0 w.heap.size ⟨0, at_, nn, sh, ka, kn, kc⟩ := by rw [HW0.out]; exact Box9.new w ⟨0, at_, nn, sh, ka, kn, kc⟩ hB.lt
  have L0 : Below w.heap.size w W0 := by rw [HW0.out]; exact later_alloc _ _
  have B0 := Lib.hid (hB.since L0)
  have c0 := P0.c0
  have c1 := P0.c1
  obtain ⟨q, bs, HQ⟩ : ∃ q bs, Hid (readO s at_ = (q, bs)) := ⟨_, _, rfl⟩
  have HLEN : Hid (bs.length ≤ 256) := by have h := hB.r.read_len at_; rw [HQ.out] at h; exact h
  have HP0 := Lib.hid P0
  have HL0 := Lib.hid L0
  obtain ⟨gx, HGX⟩ : ∃ gx, Hid (w.heap.size = gx) := ⟨_, rfl⟩
  have HBB := Lib.hid hB
  clear P0 L0 hB
  dsimp only at c0 c1
  rw [HW0.out] at c0 c1
  go_enter Try.func10, Try.ntmps10
  go_wp2_with fail
  rw [← HW0.out, HGX.out]
  clear c0 c1
  refine (dread_any at_ B0.out.d).mono ?_
  rw [HQ.out]
  rintro e W1 ⟨v1, A1, n1, q1, rfl, he1, ho1, hb1⟩
  have P1 := HP0.out.since hb1
  rw [HGX.out] at P1
  have c0 := P1.c0
  have c1 := P1.c1
  dsimp only at c0 c1
  have HP1 := Lib.hid P1
  have B1 := Lib.hid (B0.out.since hb1)
  have S1 := Lib.hid (below_chain HL0.out hb1)
  have E1 := Lib.hid he1.at_
  have O1 := Lib.hid ho1
  have LN1 : Hid (W0.heap.size ≤ W1.heap.size) := hb1.size
  clear P1 he1 ho1 hb1
  go_wp2_with fail
  refine (rread_any at_ B1.out.r).mono ?_
  rw [HQ.out]
  rintro e W2 ⟨A2, n2, q2, rfl, ho2, hb2⟩
  have B2 := Lib.hid (B1.out.since hb2.out)
  have S2 := Lib.hid (below_chain S1.out hb2.out)
  have E2 := Lib.hid (E1.out.step (Moves.of_below (fp := fD) hb2.out))
  have O2 := Lib.hid (O1.out.since hb2.out)
  obtain rfl : n1 = n2 := by rw [← O1.out.len, ← ho2.out.len]
  have hn1 : n1 ≤ 256 := by rw [← O1.out.len]; exact HLEN.out
  have c0' : W2.cell? ⟨gx, 0, none⟩ = some (.int .i64 0) := (HP1.out.since hb2.out).c0
  have OV := Lib.hid (same_since A1 A2 n1 q1 q2 bs W2 (by omega) O2.out.bytes ho2.out.bytes)
  have LN2 : Hid (W0.heap.size ≤ W2.heap.size) := Nat.le_trans LN1.out hb2.out.size
  clear c0 c1 HP1 E1 O1 ho2 hb2 HP0
  go_wp2_with fail
  refine OV.out.mono ?_
  rintro e W3 ⟨rfl, hb3⟩
  have B3 := Lib.hid (B2.out.since hb3)
  have S3 := Lib.hid (below_chain S2.out hb3)
  have E3 := Lib.hid (E2.out.step (Moves.of_below (fp := fD) hb3))
  have O3 := Lib.hid (O2.out.since hb3)
  have LN3 : Hid (W0.heap.size ≤ W3.heap.size) := Nat.le_trans LN2.out hb3.size
  have hqq : (q == q) = true := by simp
  clear hb3 B2 S2 E2 O2
  go_wp2_with fail
  refine (err_num E3.out).mono ?_
  rintro e w' ⟨rfl, rfl⟩
  go_wp2_with fail
  refine (over_any A1 n1 q1 W0.heap.size bs _ (by omega) LN3.out O3.out).mono ?_
  rintro e W4 ⟨rfl, hg4⟩
  have hnew : ∀ b ∈ blk A1, W0.heap.size ≤ b := O3.out.blk_ge
  have T4 : Turn (fun b => b ∈ blk A1) W3 W4 := Turn.of_grown hg4 fun b hb => blk_own.1 hb
  have B4 := Lib.hid (⟨B3.out.d.keep T4 (fun b h1 h2 => by have h3 := hnew b h1; have h4 := B0.out.d.lt b h2; omega), B3.out.r.keep T4 (fun b h1 h2 => by have h3 := hnew b h1; have h4 := B0.out.r.lt b h2; omega), B3.out.two⟩ : Both W4 base fD fK gD gK s)
  have S4 := Lib.hid (S3.out.grown hg4 S3.out.size fun b hb => Nat.le_trans HL0.out.size (hnew b (blk_own.1 hb)))
  clear hnew T4 hg4 c0'
  go_wp2_with fail
  go_ret
  exact ⟨rfl, fD, fK, B4, Moves.of_below S4.out⟩
set_option maxHeartbeats 4000000 in
theorem done_none (d at_ nn : Int) (sh : Bool) (ka : Option Addr) (kn kc : Nat) (hB : Both w base fD fK gD gK s) (h0 : d ≠ 0) (h1 : d ≠ 1) (h2 : d ≠ 2) (h3 : d ≠ 3) :
    Calls Try.prog 10 #[.pointer (some ⟨gD, 0, none⟩), .pointer (some ⟨gK, 0, none⟩), .agg #[.int .i64 d, .int .i64 at_, .int .i64 nn, .bool sh, .slice ka kn kc]] w (Done w base fD fK gD gK s) := by
  obtain ⟨W0, HW0⟩ : ∃ W0, Hid (W0 = w.alloc (.cells #[.int .i64 d, .int .i64 at_, .int .i64 nn, .bool sh, .slice ka kn kc] 31)) := ⟨_, rfl⟩
  have P0 : Box9 (Or2 fD fK) W0 w.heap.size ⟨d, at_, nn, sh, ka, kn, kc⟩ := by rw [HW0.out]; exact Box9.new w ⟨d, at_, nn, sh, ka, kn, kc⟩ hB.lt
  have L0 : Below w.heap.size w W0 := by rw [HW0.out]; exact later_alloc _ _
  have B0 := Lib.hid (hB.since L0)
  have c0 := P0.c0
  have HL0 := Lib.hid L0
  clear P0 L0 hB
  dsimp only at c0
  rw [HW0.out] at c0
  have b0 : (d == 0) = false := by simpa using h0
  have b1 : (d == 1) = false := by simpa using h1
  have b2 : (d == 2) = false := by simpa using h2
  have b3 : (d == 3) = false := by simpa using h3
  clear h0 h1 h2 h3
  go_enter Try.func10, Try.ntmps10
  go_wp2_with fail
  go_ret
  rw [← HW0.out]
  exact ⟨rfl, fD, fK, B0, Moves.of_below HL0.out⟩
set_option maxHeartbeats 4000000 in
theorem done_flush (at_ nn : Int) (sh : Bool) (ka : Option Addr) (kn kc : Nat) (hB : Both w base fD fK gD gK s) (hm : s.W.length ≤ 1000) :
    Calls Try.prog 10 #[.pointer (some ⟨gD, 0, none⟩), .pointer (some ⟨gK, 0, none⟩), .agg #[.int .i64 2, .int .i64 at_, .int .i64 nn, .bool sh, .slice ka kn kc]] w (Done w base fD fK gD gK (afterCrash s [true])) := by
  obtain ⟨W0, HW0⟩ : ∃ W0, Hid (W0 = w.alloc (.cells #[.int .i64 2, .int .i64 at_, .int .i64 nn, .bool sh, .slice ka kn kc] 31)) := ⟨_, rfl⟩
  have P0 : Box9 (Or2 fD fK) W0 w.heap.size ⟨2, at_, nn, sh, ka, kn, kc⟩ := by rw [HW0.out]; exact Box9.new w ⟨2, at_, nn, sh, ka, kn, kc⟩ hB.lt
  have L0 : Below w.heap.size w W0 := by rw [HW0.out]; exact later_alloc _ _
  have B0 := Lib.hid (hB.since L0)
  have c0 := P0.c0
  have HL0 := Lib.hid L0
  have HM := Lib.hid hm
  have hsz0 : W0.heap.size = w.heap.size + 1 := by rw [HW0.out]; simp
  obtain ⟨W1, HW1⟩ : ∃ W1, Hid (W1 = W0.alloc (.cells #[.bool true] 4)) := ⟨_, rfl⟩
  have L1 : Below W0.heap.size W0 W1 := by rw [HW1.out]; exact later_alloc _ _
  have N1 : boolK.Lie W1 W1.heap.size (some ⟨W0.heap.size, 0, none⟩) 1 [true] := by rw [HW1.out]; exact lie_true W0
  have B1 := Lib.hid (B0.out.since L1)
  have S1 := Lib.hid (below_chain HL0.out L1)
  have hng : ¬ fK W0.heap.size := fun h => by have := B0.out.r.lt _ h; omega
  have CK := Lib.hid (rcrash_any (some ⟨W0.heap.size, 0, none⟩) 1 1 [true] B1.out.r (by omega) N1 fun _ b hb hf => hng (by
    have e : b = W0.heap.size := by simpa [blk] using hb
    rw [← e]; exact hf))
  rw [hsz0] at CK
  clear P0 L0 hB L1 N1 hng hm hsz0
  dsimp only at c0
  rw [HW0.out] at c0
  go_enter Try.func10, Try.ntmps10
  go_wp2_with fail
  rw [← HW0.out, ← HW1.out]
  refine CK.out.mono ?_
  rintro e W2 ⟨rfl, fK2, hr2, hs2⟩
  have D2 := Lib.hid (B1.out.d.keep hs2.turn B1.out.two.flip)
  have T2 := Lib.hid (B1.out.two.right hs2 B1.out.d.lt)
  have R2 := Lib.hid hr2
  have M2 := Lib.hid ((Moves.of_below (fp := Or2 fD fK) S1.out).trans (hs2.orR fD))
  clear hr2 hs2 c0
  go_wp2_with fail
  refine (dflush_any D2.out HM.out).mono ?_
  rintro e W3 ⟨v3, fD3, rfl, he3, hc3, hs3⟩
  obtain rfl := he3.nil
  have R3 := Lib.hid (R2.out.keep hs3.turn T2.out)
  have T3 := Lib.hid (T2.out.left hs3 R2.out.lt)
  have D3 := Lib.hid hc3
  have M3 := Lib.hid (M2.out.trans (hs3.orL fK2))
  clear he3 hc3 hs3
  go_wp2_with fail
  go_ret
  exact ⟨rfl, fD3, fK2, ⟨D3.out, R3.out, T3.out⟩, M3⟩
end
end Go.Proofs.Ytfhfjfgajbgdcaa
