/- Texts of one layer, laid together. Conditions: as each one says. -/
import Derived.Test.YthgkdnegnecnjaaGreatDoorSstore
/- The landed store: a block is taken as it stands on the chip. Conditions: the store's cells; what the listed variables hold. -/
set_option linter.unusedVariables false
set_option linter.unusedSimpArgs false
set_option maxRecDepth 20000
namespace Go.Proofs.YthgkdnegnecnjaaGreatDoor
open Go.RowKit

open Classical in
/-- What bytes are read as. -/
noncomputable def rdB (raw : List Nat) : Hd.Rd := if h : ∃ r, Hd.Reads raw r then Classical.choose h else .torn
theorem rdB_of {raw : List Nat} {r : Hd.Rd} (h : Hd.Reads raw r) : rdB raw = r := by
  have hx : ∃ r, Hd.Reads raw r := ⟨r, h⟩
  unfold rdB
  rw [dif_pos hx]
  exact (Classical.choose_spec hx).one h
def tookS (s : SS) (b k : Int) : Hd.Rd → SS
  | .valid _ h => keepS s b k h
  | _ => s
noncomputable def stepF (s : SS) (b : Int) : SS × Int :=
  if (s.c.read b (nextY s.y b).2.1).2.1 ≠ 0 then (⟨(s.c.read b (nextY s.y b).2.1).1, (nextY s.y b).1, s.hd⟩, (s.c.read b (nextY s.y b).2.1).2.1)
  else (tookS ⟨(s.c.read b (nextY s.y b).2.1).1, (nextY s.y b).1, s.hd⟩ b (nextY s.y b).2.1 (rdB (s.c.read b (nextY s.y b).2.1).2.2), 0)
noncomputable def findL : Nat → SS → Int → SS × Int
  | 0, s, _ => (s, 0)
  | f + 1, s, b => if (stepF s b).2 ≠ 0 then stepF s b else findL f (stepF s b).1 b
def endF (s : SS) (b : Int) : SS × Int :=
  if (shutS s b).c.marked b = true then ({ shutS s b with y := (retireY (shutS s b).y b).1 }, (retireY (shutS s b).y b).2) else (shutS s b, 0)
noncomputable def findS (s : SS) (b : Int) : SS × Int :=
  if (findL (s.c.next b) (openS s b).1 b).2 ≠ 0 then findL (s.c.next b) (openS s b).1 b else endF (findL (s.c.next b) (openS s b).1 b).1 b
section
variable {s s1 s2 : SS} {b k q e : Int} {y : Yd} {c : Chip} {raw ds : List Nat} {h : Hd.H} {f : Nat}
theorem stepF_no (h1 : nextY s.y b = (y, k, q)) (h2 : s.c.read b k = (c, e, raw)) (he : e ≠ 0) : stepF s b = (⟨c, y, s.hd⟩, e) := by unfold stepF; rw [h1]; simp only [h2]; exact if_pos he
theorem stepF_took (h1 : nextY s.y b = (y, k, q)) (h2 : s.c.read b k = (c, 0, raw)) : stepF s b = (tookS ⟨c, y, s.hd⟩ b k (rdB raw), 0) := by unfold stepF; rw [h1]; simp [h2]
theorem findL_no (h1 : stepF s b = (s1, e)) (he : e ≠ 0) : findL (f + 1) s b = (s1, e) := by unfold findL; rw [h1]; exact if_pos he
theorem findL_next (h1 : stepF s b = (s1, 0)) : findL (f + 1) s b = findL f s1 b := by rw [findL, h1]; rfl
theorem findS_no (h1 : findL (s.c.next b) (openS s b).1 b = (s1, e)) (he : e ≠ 0) : findS s b = (s1, e) := by unfold findS; rw [h1]; exact if_pos he
theorem findS_end (h1 : findL (s.c.next b) (openS s b).1 b = (s1, 0)) : findS s b = endF s1 b := by unfold findS; rw [h1]; rfl
theorem endF_no (h1 : (shutS s b).c.marked b = false) : endF s b = (shutS s b, 0) := by unfold endF; rw [h1]; rfl
theorem endF_bad (h1 : (shutS s b).c.marked b = true) (h2 : retireY (shutS s b).y b = (y, q)) : endF s b = ({ shutS s b with y := y }, q) := by unfold endF; rw [if_pos h1, h2]
theorem read_len (hw : s.c.Wf) (b k : Int) : (s.c.read b k).2.2.length ≤ 284 := by
  unfold Chip.read
  split
  · exact Nat.zero_le _
  · next h0 =>
    split
    · exact Nat.zero_le _
    · have hy : 0 ≤ b ∧ b < (s.c.nb : Int) ∧ 0 ≤ k ∧ k < (s.c.np : Int) := by
        have := Classical.not_not.1 h0
        unfold Chip.why at this
        split at this
        · exact absurd this (by decide)
        · split at this
          · next h => exact ⟨h.1, h.2.1, h.2.2.1, h.2.2.2.1⟩
          · exact absurd this (by decide)
      show ((s.c.bs.getD b.toNat Blk.zero).pg.getD k.toNat []).length ≤ 284
      rw [hw.bytes b.toNat k.toNat (by omega) (by omega)]
      have := hw.ns2
      unfold Chip.long
      omega
theorem took_ops (r : Hd.Rd) : (tookS s b k r).c = s.c := by cases r <;> rfl
theorem stepF_ops : s.c.ops ≤ (stepF s b).1.c.ops ∧ (stepF s b).1.c.ops ≤ s.c.ops + 1 ∧ ((stepF s b).2 = 0 → s.c.ops + 1 ≤ (stepF s b).1.c.ops) := by
  have h := read_ops (c := s.c) (b := b) (p := (nextY s.y b).2.1)
  unfold stepF
  split
  · next h0 => exact ⟨h.1, h.2.1, fun e => absurd e h0⟩
  · next h0 =>
    have e := h.2.2 (Classical.not_not.1 h0)
    show s.c.ops ≤ (tookS _ _ _ _).c.ops ∧ (tookS _ _ _ _).c.ops ≤ _ ∧ (_ → _ ≤ (tookS _ _ _ _).c.ops)
    rw [took_ops]
    exact ⟨h.1, h.2.1, fun _ => Nat.le_of_eq e.symm⟩
theorem findL_ops : ∀ f s, s.c.ops ≤ (findL f s b).1.c.ops ∧ (findL f s b).1.c.ops ≤ s.c.ops + f
  | 0, s => ⟨Nat.le_refl _, Nat.le_refl _⟩
  | f + 1, s => by
    have h := stepF_ops (s := s) (b := b)
    unfold findL
    split
    · exact ⟨h.1, by omega⟩
    · have k := findL_ops f (stepF s b).1
      exact ⟨by omega, by omega⟩
theorem findS_ops (hw : s.c.Wf) : s.c.ops ≤ (findS s b).1.c.ops ∧ (findS s b).1.c.ops ≤ s.c.ops + 8 := by
  have h := findL_ops (b := b) (s.c.next b) (openS s b).1
  have h1 := next_le hw b
  have h2 := hw.np2
  have h3 : (openS s b).1.c = s.c := rfl
  rw [h3] at h
  unfold findS
  split
  · exact ⟨h.1, by omega⟩
  · unfold endF
    split <;> exact ⟨h.1, by show (findL (s.c.next b) (openS s b).1 b).1.c.ops ≤ _; omega⟩
end
structure FindR (w : World) (base : Nat) (fp : Nat → Prop) (g gc : Nat) (b : Int) (RL : SS × Int) (N j : Nat) (W : World) (fp2 : Nat → Prop) (s : SS) (n : Nat) : Prop where
  st : StoreN W base fp2 g gc s n
  n_le : n ≤ s.c.ops
  ops : s.c.ops + (N - j) ≤ 999000
  is : findL (N - j) s b = RL
  mv : Moves w fp W fp2
section
variable {w w0 : World} {base g gc : Nat} {fp : Nat → Prop} {s : SS}
set_option maxHeartbeats 16000000 in
theorem find_any (b : Int) (hT : Tabs w0) (hW : Wid w0) (hB : Below w0.heap.size w0 w) (hbase : w0.heap.size ≤ base) (hops : s.c.ops < 990000) (hS : StoreAt w base fp g gc s) :
    Calls Tryz.prog 46 #[.pointer (some ⟨g, 0, none⟩), .int .i64 b] w (SLeadsA w base fp g gc (findS s b)) := by
  obtain ⟨n0, hn0, gy, gm, fy, fc, rfl, h⟩ := hS
  have HN0 := Lib.hid hn0
  have H0 := Lib.hid h
  have M0 := Lib.hid (Moves.refl (fpS g gm fy fc) w)
  have HLE := Lib.hid h.le
  have HBS : Hid (w0.heap.size ≤ w.heap.size) := hB.size
  have HBB := Lib.hid hB
  have HTW : Hid (∀ W fp2, Moves w (fpS g gm fy fc) W fp2 → Tabs W ∧ Wid W) := fun W fp2 hm => by
    have hb := hm.below hB (fun b hb => Nat.le_trans hbase (h.le b hb)) hB.size
    exact ⟨hT.since hb, hW.since hb⟩
  have hnx := next_le h.chip.wf b
  have hnp := h.chip.wf.np2
  have CO := Lib.hid (yopen_any b h.yard)
  have HOPS := Lib.hid hops
  obtain ⟨N, HN⟩ : ∃ N, Hid (s.c.next b = N) := ⟨_, rfl⟩
  rw [HN.out] at hnx
  have HNX : Hid (N ≤ 8) := by show _ ≤ _; omega
  clear h hn0 hnx hnp hT hW hB hbase hops
  obtain ⟨R, HR⟩ : ∃ R, Hid (findS s b = R) := ⟨_, rfl⟩
  rw [HR.out]
  have c0 := H0.out.c0
  go_enter Tryz.func46, Tryz.ntmps46
  go_wp2_with fail
  refine CO.out.mono ?_
  rintro e W1 ⟨v1, fy1, rfl, he1, hy1, hm1⟩
  obtain ⟨r1, m1⟩ := H0.out.withY hy1 hm1
  have E1 := Lib.hid (he1.yard H0.out M0.out.size)
  have H1 := Lib.hid r1
  have M1 := Lib.hid (M0.out.trans m1)
  clear H0 M0 CO he1 hy1 hm1 r1 m1 c0
  clear E1
  have c1 := H1.out.c1
  have CN := Lib.hid (next_any b H1.out.chip)
  rw [show ({ s with y := (openY s.y b).1 } : SS).c.next b = N from HN.out] at CN
  go_wp2_with fail
  refine CN.out.mono ?_
  rintro e W2 ⟨rfl, hb2⟩
  have hb2 := hb2.out
  have H3 := Lib.hid (H1.out.since hb2)
  have M3 := Lib.hid (M1.out.trans (Moves.of_below (fp := fpS g gm fy1 fc) hb2))
  clear H1 M1 hb2 CN c1
  have hN9 : (N : Int) ≤ 8 := by have := HNX.out; omega
  obtain ⟨RL, HRL⟩ : ∃ RL, Hid (findL N (openS s b).1 b = RL) := ⟨_, rfl⟩
  have HF0 : Hid (∃ fp2 s2 n2, FindR w base (fpS g gm fy fc) g gc b RL N 0 W2 fp2 s2 n2) := ⟨_, (openS s b).1, n0, ⟨_, _, _, _, rfl, H3.out⟩, HN0.out, by have := HOPS.out; have := HNX.out; show s.c.ops + (N - 0) ≤ _; omega, HRL.out, M3.out⟩
  clear H3 M3
  go_wp2_with fail
  go_loopw [24] (fun t24 wr => ∃ j : Nat, t24 = .int .i64 (j : Int) ∧ j ≤ N ∧ Hid (∃ fp2 s2 n2, FindR w base (fpS g gm fy fc) g gc b RL N j wr fp2 s2 n2)) (fun t24 _ => N - (intOf t24).toNat)
  case atStart => exact ⟨0, rfl, Nat.zero_le _, HF0⟩
  case round =>
    obtain ⟨j, rfl, hj, HF⟩ := hrel
    obtain ⟨fp2, s2, n2, Q⟩ := HF.out
    obtain ⟨gy2, gm2, fy2, fc2, rfl, r2⟩ := Q.st
    have H2 := Lib.hid r2
    have M2 := Lib.hid Q.mv
    have HIS := Lib.hid Q.is
    have HOP := Lib.hid Q.ops
    have HNL := Lib.hid Q.n_le
    clear Q r2 HF
    have i0 : (0 : Int) ≤ (j : Int) := by omega
    by_cases hlt : j < N
    · have i1 : (j : Int) < (N : Int) := by omega
      obtain ⟨f, HFJ⟩ : ∃ f, Hid (N - j = f + 1) := ⟨N - j - 1, by show _ = _; omega⟩
      rw [HFJ.out] at HIS HOP
      have hfj : N - (j + 1) = f := by have := HFJ.out; omega
      have HFJ2 := Lib.hid hfj
      clear hfj
      have c0 := H2.out.c0
      have CX := Lib.hid (ynext_any b H2.out.yard)
      obtain ⟨y3, k3, q3, HX3⟩ : ∃ y3 k3 q3, Hid (nextY s2.y b = (y3, k3, q3)) := ⟨_, _, _, rfl⟩
      rw [HX3.out] at CX
      go_wp2_with fail
      refine CX.out.mono ?_
      rintro e W4 ⟨v4, fy4, rfl, he4, hy4, hm4⟩
      obtain ⟨r4, m4⟩ := H2.out.withY hy4 hm4
      have E4 := Lib.hid (he4.yard H2.out M2.out.size)
      have H4 := Lib.hid r4
      have M4 := Lib.hid (M2.out.trans m4)
      clear H2 M2 CX he4 hy4 hm4 r4 m4 c0
      clear E4
      have c1 := H4.out.c1
      have CR := Lib.hid (nread_any b k3 H4.out.chip (by show s2.c.ops < _; have := HOP.out; omega))
      obtain ⟨c4, e4, raw, HR4⟩ : ∃ c4 e4 raw, Hid (s2.c.read b k3 = (c4, e4, raw)) := ⟨_, _, _, rfl⟩
      rw [show ({ s2 with y := y3 } : SS).c.read b k3 = (c4, e4, raw) from HR4.out] at CR
      have HRL4 : Hid (raw.length ≤ 284) := by have := read_len (s := s2) H4.out.chip.wf b k3; rw [HR4.out] at this; exact this
      go_wp2_with fail
      refine CR.out.mono ?_
      rintro e W5 ⟨v5, A5, m5, l5, fc5, rfl, he5, hr5, hc5, hm5⟩
      obtain ⟨r5, m5_⟩ := H4.out.withC hc5 hm5
      have E5 := Lib.hid (he5.chip H4.out M4.out.size)
      have RW5 := Lib.hid hr5.own
      have H5 := Lib.hid r5
      have M5 := Lib.hid (M4.out.trans m5_)
      clear H4 M4 CR he5 hr5 hc5 hm5 r5 m5_ c1
      by_cases he4 : e4 = 0
      · subst he4
        obtain rfl := E5.out.nil
        clear E5
        have CH := Lib.hid (read_any A5 m5 l5 raw W5 (HTW.out _ _ M5.out).1 (HTW.out _ _ M5.out).2 (by have h1 : raw.length = m5 := RW5.out.bytes.len; have h2 : raw.length ≤ 284 := HRL4.out; omega) RW5.out.cap RW5.out.bytes)
        go_wp2_with fail
        refine CH.out.mono ?_
        rintro e W80 ⟨rd, hrd, hro⟩
        have HRD : Hid (rdB raw = rd) := rdB_of hrd
        clear hrd CH
        cases rd with
        | torn =>
          obtain ⟨rfl, hb⟩ := hro
          have hb := hb.out
          have H6 := Lib.hid (H5.out.since hb)
          have M6 := Lib.hid (M5.out.trans (Moves.of_below (fp := fpS g gm2 fy4 fc5) hb))
          clear H5 M5 RW5
          clear hb
          have hb81 : Below W80.heap.size W80 (W80.alloc (.cells #[.int .i64 0, .int .u64 0, .int .i64 0, .int .i64 0] 42)) := (Below.refl _ _).alloc (Nat.le_refl _) _
          have HF9 : Hid (∃ fp2 s2 n2, FindR w base (fpS g gm fy fc) g gc b RL N (j + 1) (W80.alloc (.cells #[.int .i64 0, .int .u64 0, .int .i64 0, .int .i64 0] 42)) fp2 s2 n2) := ⟨_, ⟨c4, y3, s2.hd⟩, n2, ⟨_, _, _, _, rfl, H6.out.since hb81⟩, by have := HNL.out; have := (read_ops (c := s2.c) (b := b) (p := k3)).1; rw [HR4.out] at this; exact Nat.le_trans HNL.out this, by have := HOP.out; have := (read_ops (c := s2.c) (b := b) (p := k3)).2.1; rw [HR4.out] at this; have this : c4.ops ≤ s2.c.ops + 1 := this; have := HFJ2.out; show c4.ops + (N - (j + 1)) ≤ _; omega, by rw [HFJ2.out, ← HIS.out, findL_next (stepF_took HX3.out HR4.out), HRD.out]; rfl, M6.out.trans (Moves.of_below hb81)⟩
          clear hb81 H6 M6 HIS HOP HNL HX3 HR4 HRL4 HRD HFJ HFJ2
          go_wp2_with fail
          go_roundw
          case rel => exact ⟨j + 1, by go_num, by omega, HF9⟩
          case measure => simp [intOf]; omega
        | erased =>
          obtain ⟨rfl, hb⟩ := hro
          have hb := hb.out
          have H6 := Lib.hid (H5.out.since hb)
          have M6 := Lib.hid (M5.out.trans (Moves.of_below (fp := fpS g gm2 fy4 fc5) hb))
          clear H5 M5 RW5
          clear hb
          have hb81 : Below W80.heap.size W80 (W80.alloc (.cells #[.int .i64 0, .int .u64 0, .int .i64 0, .int .i64 0] 42)) := (Below.refl _ _).alloc (Nat.le_refl _) _
          have HF9 : Hid (∃ fp2 s2 n2, FindR w base (fpS g gm fy fc) g gc b RL N (j + 1) (W80.alloc (.cells #[.int .i64 0, .int .u64 0, .int .i64 0, .int .i64 0] 42)) fp2 s2 n2) := ⟨_, ⟨c4, y3, s2.hd⟩, n2, ⟨_, _, _, _, rfl, H6.out.since hb81⟩, by have := HNL.out; have := (read_ops (c := s2.c) (b := b) (p := k3)).1; rw [HR4.out] at this; exact Nat.le_trans HNL.out this, by have := HOP.out; have := (read_ops (c := s2.c) (b := b) (p := k3)).2.1; rw [HR4.out] at this; have this : c4.ops ≤ s2.c.ops + 1 := this; have := HFJ2.out; show c4.ops + (N - (j + 1)) ≤ _; omega, by rw [HFJ2.out, ← HIS.out, findL_next (stepF_took HX3.out HR4.out), HRD.out]; rfl, M6.out.trans (Moves.of_below hb81)⟩
          clear hb81 H6 M6 HIS HOP HNL HX3 HR4 HRL4 HRD HFJ HFJ2
          go_wp2_with fail
          go_roundw
          case rel => exact ⟨j + 1, by go_num, by omega, HF9⟩
          case measure => simp [intOf]; omega
        | valid ds x =>
          obtain ⟨A5, m5, l5, K5, A6, S5, G5, rfl, ho5, hh5, hb⟩ := hro
          obtain ⟨rfl, rfl, rfl, rfl⟩ := hh5.out
          have hb := hb.out
          have H6 := Lib.hid (H5.out.since hb)
          have M6 := Lib.hid (M5.out.trans (Moves.of_below (fp := fpS g gm2 fy4 fc5) hb))
          clear H5 M5 RW5
          clear hb ho5 hh5
          obtain ⟨W81, HW81⟩ : ∃ W81, Hid (W81 = W80.alloc (.cells #[.int .i64 (x.k : Int), .int .u64 (x.a : Int), .int .i64 (x.s : Int), .int .i64 (x.g : Int)] 42)) := ⟨_, rfl⟩
          have hb81 : Below W80.heap.size W80 W81 := by rw [HW81.out]; exact (Below.refl _ _).alloc (Nat.le_refl _) _
          have X81 : Hid (RowC W81 W80.heap.size #[.int .i64 (x.k : Int), .int .u64 (x.a : Int), .int .i64 (x.s : Int), .int .i64 (x.g : Int)] 42) := by rw [HW81.out]; exact RowC.new W80 _ _
          have H7 := Lib.hid (H6.out.since hb81)
          have M7 := Lib.hid (M6.out.trans (Moves.of_below (fp := fpS g gm2 fy4 fc5) hb81))
          clear H6 M6 hb81
          have x0 : (W80.alloc (.cells #[.int .i64 (x.k : Int), .int .u64 (x.a : Int), .int .i64 (x.s : Int), .int .i64 (x.g : Int)] 42)).cell? ⟨W80.heap.size, 0, none⟩ = some (.int .i64 (x.k : Int)) := by rw [← HW81.out]; exact X81.out.cell 0
          have x1 : (W80.alloc (.cells #[.int .i64 (x.k : Int), .int .u64 (x.a : Int), .int .i64 (x.s : Int), .int .i64 (x.g : Int)] 42)).cell? ⟨W80.heap.size, 1, none⟩ = some (.int .u64 (x.a : Int)) := by rw [← HW81.out]; exact X81.out.cell 1
          have x2 : (W80.alloc (.cells #[.int .i64 (x.k : Int), .int .u64 (x.a : Int), .int .i64 (x.s : Int), .int .i64 (x.g : Int)] 42)).cell? ⟨W80.heap.size, 2, none⟩ = some (.int .i64 (x.s : Int)) := by rw [← HW81.out]; exact X81.out.cell 2
          have x3 : (W80.alloc (.cells #[.int .i64 (x.k : Int), .int .u64 (x.a : Int), .int .i64 (x.s : Int), .int .i64 (x.g : Int)] 42)).cell? ⟨W80.heap.size, 3, none⟩ = some (.int .i64 (x.g : Int)) := by rw [← HW81.out]; exact X81.out.cell 3
          have CK := Lib.hid (keep_any b k3 x (by have := HNL.out; have := HOP.out; omega) (⟨_, gm2, fy4, fc5, rfl, H7.out⟩ : StoreN W81 base (fpS g gm2 fy4 fc5) g gc _ n2))
          rw [show hdV x = .agg #[.int .i64 (x.k : Int), .int .u64 (x.a : Int), .int .i64 (x.s : Int), .int .i64 (x.g : Int)] from rfl] at CK
          go_wp2_with fail
          rw [← HW81.out]
          clear x0 x1 x2 x3 HW81 X81
          refine CK.out.mono ?_
          rintro e W8 ⟨fp8, rfl, hs8, hm8⟩
          obtain ⟨gy8, gm8, fy8, fc8, rfl, r8⟩ := hs8
          have H8 := Lib.hid r8
          have M8 := Lib.hid (M7.out.trans hm8)
          clear H7 M7 CK hm8 r8
          have HF9 : Hid (∃ fp2 s2 n2, FindR w base (fpS g gm fy fc) g gc b RL N (j + 1) W8 fp2 s2 n2) := ⟨_, keepS ⟨c4, y3, s2.hd⟩ b k3 x, n2 + 1, ⟨_, _, _, _, rfl, H8.out⟩, by have h1 := HNL.out; have := (read_ops (c := s2.c) (b := b) (p := k3)).2.2; rw [HR4.out] at this; have := this rfl; have this : c4.ops = s2.c.ops + 1 := this; show n2 + 1 ≤ c4.ops; omega, by have := HOP.out; have := (read_ops (c := s2.c) (b := b) (p := k3)).2.1; rw [HR4.out] at this; have this : c4.ops ≤ s2.c.ops + 1 := this; have := HFJ2.out; show c4.ops + (N - (j + 1)) ≤ _; omega, by rw [HFJ2.out, ← HIS.out, findL_next (stepF_took HX3.out HR4.out), HRD.out]; rfl, M8.out⟩
          clear H8 M8 HIS HOP HNL HX3 HR4 HRL4 HRD HFJ HFJ2
          go_wp2_with fail
          go_roundw
          case rel => exact ⟨j + 1, by go_num, by omega, HF9⟩
          case measure => simp [intOf]; omega
      · have HE4 := Lib.hid he4
        obtain ⟨xv, HXV⟩ := (E5.out.wrong he4).ne
        subst HXV
        clear he4
        have HRN : Hid (R = (⟨c4, y3, s2.hd⟩, e4)) := by
          have h1 := HIS.out
          rw [findL_no (stepF_no HX3.out HR4.out HE4.out) HE4.out] at h1
          have h2 := HRL.out
          rw [← h1, ← HN.out] at h2
          show _ = _
          rw [← HR.out, findS_no h2 HE4.out]
        go_wp2_with fail
        go_ret
        rw [HRN.out]
        exact ⟨_, _, rfl, E5.out, ⟨n2, by have := (read_ops (c := s2.c) (b := b) (p := k3)).1; rw [HR4.out] at this; exact Nat.le_trans HNL.out this, _, _, _, _, rfl, H5.out⟩, M5.out⟩
    · obtain rfl : j = N := by omega
      have HE : Hid (RL = (s2, 0)) := by
        have h1 := HIS.out
        rw [Nat.sub_self] at h1
        exact h1.symm
      have HFE : Hid (R = endF s2 b) := by
        show _ = _
        rw [← HR.out]
        refine findS_end ?_
        rw [HN.out, HRL.out, HE.out]
      clear HE HRL HR HIS HOP
      have CS := Lib.hid (shut_any b (⟨_, gm2, fy2, fc2, rfl, H2.out⟩ : StoreN wr base (fpS g gm2 fy2 fc2) g gc _ n2))
      go_wp2_with fail
      refine CS.out.mono ?_
      rintro e W4 ⟨fp4, rfl, hs4, hm4⟩
      obtain ⟨gy4, gm4, fy4, fc4, rfl, r4⟩ := hs4
      have H4 := Lib.hid r4
      have M4 := Lib.hid (M2.out.trans hm4)
      clear H2 M2 CS hm4 r4
      have c1 := H4.out.c1
      have CM := Lib.hid (marked_any b H4.out.chip)
      obtain ⟨mk, HMK⟩ : ∃ mk, Hid ((shutS s2 b).c.marked b = mk) := ⟨_, rfl⟩
      rw [HMK.out] at CM
      go_wp2_with fail
      refine CM.out.mono ?_
      rintro e W5 ⟨rfl, hb5⟩
      have hb5 := hb5.out
      have H6 := Lib.hid (H4.out.since hb5)
      have M6 := Lib.hid (M4.out.trans (Moves.of_below (fp := fpS g gm4 fy4 fc4) hb5))
      clear H4 M4 hb5 CM c1
      cases mk with
      | false =>
        go_wp2_with fail
        go_ret
        rw [HFE.out, endF_no HMK.out]
        exact ⟨_, _, rfl, ErrNew.none_, ⟨n2, HNL.out, _, _, _, _, rfl, H6.out⟩, M6.out⟩
      | true =>
        have c0 := H6.out.c0
        have CY := Lib.hid (yretire_any b H6.out.yard)
        obtain ⟨y9, e9, HY9⟩ : ∃ y9 e9, Hid (retireY (shutS s2 b).y b = (y9, e9)) := ⟨_, _, rfl⟩
        rw [HY9.out] at CY
        go_wp2_with fail
        refine CY.out.mono ?_
        rintro e W7 ⟨v7, fy7, rfl, he7, hy7, hm7⟩
        obtain ⟨r7, m7⟩ := H6.out.withY hy7 hm7
        have E7 := Lib.hid (he7.yard H6.out M6.out.size)
        have H7 := Lib.hid r7
        have M7 := Lib.hid (M6.out.trans m7)
        clear H6 M6 CY he7 hy7 hm7 r7 m7 c0
        go_wp2_with fail
        go_ret
        rw [HFE.out, endF_bad HMK.out HY9.out]
        exact ⟨_, _, rfl, E7.out, ⟨n2, HNL.out, _, _, _, _, rfl, H7.out⟩, M7.out⟩
end
end Go.Proofs.YthgkdnegnecnjaaGreatDoor

/- The landed store: New. Conditions: the chip's cells; what the listed variables hold. -/
set_option linter.unusedVariables false
set_option linter.unusedSimpArgs false
set_option maxRecDepth 20000
namespace Go.Proofs.YthgkdnegnecnjaaGreatDoor
open Go.RowKit

noncomputable def newL : Nat → SS → Nat → SS × Int
  | 0, s, _ => (s, 0)
  | f + 1, s, i => if (findS s (i : Int)).2 ≠ 0 then findS s (i : Int) else newL f (findS s (i : Int)).1 (i + 1)
def startS (c : Chip) : SS := ⟨c, freshY c.nb c.np, fun _ => none⟩
noncomputable def newS (c : Chip) : SS × Int := newL c.nb (startS c) 0
theorem newL_no {f i : Nat} {s s1 : SS} {e : Int} (h : findS s (i : Int) = (s1, e)) (he : e ≠ 0) : newL (f + 1) s i = (s1, e) := by unfold newL; rw [h]; exact if_pos he
theorem newL_next {f i : Nat} {s s1 : SS} (h : findS s (i : Int) = (s1, 0)) : newL (f + 1) s i = newL f s1 (i + 1) := by rw [newL, h]; rfl
/-- What New leaves, once it looks at the chip. -/
def SNew (w : World) (base : Nat) (fc : Nat → Prop) (gc : Nat) (r : SS × Int) (e : Ending) (w' : World) : Prop :=
  (r.2 = 0 ∧ ∃ g fp, e = .returned (.tuple #[.pointer (some ⟨g, 0, none⟩), .nilIface]) ∧ w.heap.size ≤ g ∧ StoreAt w' base fp g gc r.1 ∧ Moves w fc w' fp)
  ∨ (r.2 ≠ 0 ∧ ∃ v fc', e = .returned (.tuple #[.pointer none, v]) ∧ ErrNew w fc' w' r.2 v ∧ ChipAt w' base fc' gc r.1.c ∧ Moves w fc w' fc')
structure NewR (w : World) (base : Nat) (fc : Nat → Prop) (g gc : Nat) (R : SS × Int) (o N j : Nat) (W : World) (fp2 : Nat → Prop) (s : SS) : Prop where
  st : StoreAt W base fp2 g gc s
  ops : s.c.ops ≤ o + 8 * j
  is : newL (N - j) s j = R
  mv : Moves w fc W fp2
theorem Moves.sub {w w' : World} {fp fq fr : Nat → Prop} (h : Moves w fp w' fq) (hs : ∀ b, fr b → fq b) : Moves w fp w' fr := ⟨h.turn, fun b hb => h.grows b (hs b hb)⟩
theorem stepF_wf {s : SS} {b : Int} : True := trivial
section
variable {w w0 : World} {base gc : Nat} {fc : Nat → Prop} {c : Chip}
theorem snew_nil (w : World) : Calls Tryz.prog 15 #[.pointer none] w fun e w' => ∃ v, e = .returned (.tuple #[.pointer none, v]) ∧ ErrNew w (fun b => b < w.heap.size) w' 1 v ∧ Below w.heap.size w w' := by
  have CG := Lib.hid (geo_nil (w := w))
  rw [show geoV ⟨0, 0, 0⟩ = .agg #[.int .i64 0, .int .i64 0, .int .i64 0] from rfl] at CG
  have CW := fun st W (hb : w.heap.size ≤ W.heap.size) => Lib.hid (swrong_new st 1 (by omega) W (fun b => b < w.heap.size) (fun b h => Nat.lt_of_lt_of_le h hb))
  go_enter Tryz.func15, Tryz.ntmps15
  go_wp2_with fail
  refine CG.out.mono ?_
  rintro e W1 ⟨rfl, hb1⟩
  have hb2 : Below w.heap.size w (W1.alloc (.cells #[.int .i64 0, .int .i64 0, .int .i64 0] 30)) := below_chain hb1.out ((Below.refl _ _).alloc (Nat.le_refl _) _)
  have HB2 := Lib.hid hb2
  clear CG hb1
  go_wp2_with fail
  refine (CW _ _ hb2.size).out.mono ?_
  rintro e W3 ⟨v, rfl, he, hb⟩
  have HE := Lib.hid (he.wide (w := w) (fp' := fun b => b < w.heap.size) HB2.out.size fun b h => Or.inl h)
  have HB := Lib.hid (below_chain HB2.out hb)
  clear he hb CW hb2
  go_wp2_with fail
  go_ret2
  exact ⟨v, rfl, HE.out, HB.out⟩
set_option maxHeartbeats 4000000 in
theorem snew_bad (k : Int) (h : (k = 2 ∧ mayG (geoOf c) = false) ∨ (k = 4 ∧ mayG (geoOf c) = true ∧ c.on = false)) (hC : ChipAt w base fc gc c) :
    Calls Tryz.prog 15 #[.pointer (some ⟨gc, 0, none⟩)] w fun e w' => ∃ v, e = .returned (.tuple #[.pointer none, v]) ∧ ErrNew w fc w' k v ∧ Below w.heap.size w w' := by
  have HLT := Lib.hid hC.lt
  have CG := Lib.hid (geo_any hC)
  rw [show geoV (geoOf c) = .agg #[.int .i64 (c.nb : Int), .int .i64 (c.np : Int), .int .i64 (c.ns : Int)] from rfl] at CG
  have HC := Lib.hid hC
  clear hC
  go_enter Tryz.func15, Tryz.ntmps15
  go_wp2_with fail
  refine CG.out.mono ?_
  rintro e W1 ⟨rfl, hb1⟩
  obtain ⟨W0, HW0⟩ : ∃ W0, Hid (W0 = W1.alloc (.cells #[.int .i64 (c.nb : Int), .int .i64 (c.np : Int), .int .i64 (c.ns : Int)] 30)) := ⟨_, rfl⟩
  have hb0 : Below W1.heap.size W1 W0 := by rw [HW0.out]; exact (Below.refl _ _).alloc (Nat.le_refl _) _
  have X0 : Hid (RowC W0 W1.heap.size #[.int .i64 (c.nb : Int), .int .i64 (c.np : Int), .int .i64 (c.ns : Int)] 30) := by rw [HW0.out]; exact RowC.new W1 _ _
  have B0 := Lib.hid (below_chain hb1.out hb0)
  have x0 : (W1.alloc (.cells #[.int .i64 (c.nb : Int), .int .i64 (c.np : Int), .int .i64 (c.ns : Int)] 30)).cell? ⟨W1.heap.size, 0, none⟩ = some (.int .i64 (c.nb : Int)) := by rw [← HW0.out]; exact X0.out.cell 0
  have x1 : (W1.alloc (.cells #[.int .i64 (c.nb : Int), .int .i64 (c.np : Int), .int .i64 (c.ns : Int)] 30)).cell? ⟨W1.heap.size, 1, none⟩ = some (.int .i64 (c.np : Int)) := by rw [← HW0.out]; exact X0.out.cell 1
  have x2 : (W1.alloc (.cells #[.int .i64 (c.nb : Int), .int .i64 (c.np : Int), .int .i64 (c.ns : Int)] 30)).cell? ⟨W1.heap.size, 2, none⟩ = some (.int .i64 (c.ns : Int)) := by rw [← HW0.out]; exact X0.out.cell 2
  have CM := Lib.hid (planmay_any (geoOf c) W0)
  obtain ⟨my, HMY⟩ : ∃ my, Hid (mayG (geoOf c) = my) := ⟨_, rfl⟩
  rw [HMY.out, show geoV (geoOf c) = .agg #[.int .i64 (c.nb : Int), .int .i64 (c.np : Int), .int .i64 (c.ns : Int)] from rfl] at CM
  have CW := fun st W (hb : w.heap.size ≤ W.heap.size) => Lib.hid (swrong_new st k (by rcases h with h | h <;> omega) W fc (fun b h => Nat.lt_of_lt_of_le (HLT.out b h) hb))
  have hmy : (k = 2 ∧ my = false) ∨ (k = 4 ∧ my = true ∧ c.on = false) := by rw [← HMY.out]; exact h
  clear hb0 hb1 h HMY CG
  go_wp2_with fail
  rw [← HW0.out]
  refine CM.out.mono ?_
  rintro e W2 ⟨rfl, hb2⟩
  have B2 := Lib.hid (below_chain B0.out hb2.out)
  clear CM hb2 x0 x1 x2 HW0
  rcases hmy with ⟨rfl, rfl⟩ | ⟨rfl, rfl, hon⟩
  · go_wp2_with fail
    refine (CW _ _ B2.out.size).out.mono ?_
    rintro e W3 ⟨v, rfl, he, hb⟩
    have HE := Lib.hid (he.wide (w := w) (fp' := fc) B2.out.size fun b h => Or.inl h)
    have HB := Lib.hid (below_chain B2.out hb)
    clear he hb CW
    go_wp2_with fail
    go_ret2
    exact ⟨v, rfl, HE.out, HB.out⟩
  · have CO := Lib.hid (on_any (HC.out.since B2.out))
    rw [hon] at CO
    clear hon
    go_wp2_with fail
    refine CO.out.mono ?_
    rintro e W3 ⟨rfl, hb3⟩
    have B3 := Lib.hid (below_chain B2.out hb3.out)
    clear hb3 CO
    go_wp2_with fail
    refine (CW _ _ B3.out.size).out.mono ?_
    rintro e W4 ⟨v, rfl, he, hb⟩
    have HE := Lib.hid (he.wide (w := w) (fp' := fc) B3.out.size fun b h => Or.inl h)
    have HB := Lib.hid (below_chain B3.out hb)
    clear he hb CW
    go_wp2_with fail
    go_ret2
    exact ⟨v, rfl, HE.out, HB.out⟩
set_option maxHeartbeats 16000000 in
theorem snew_any (hmay : mayG (geoOf c) = true) (hon : c.on = true) (hT : Tabs w0) (hW : Wid w0) (hB : Below w0.heap.size w0 w) (hbase : w0.heap.size ≤ base) (hops : c.ops < 980000) (hC : ChipAt w base fc gc c) :
    Calls Tryz.prog 15 #[.pointer (some ⟨gc, 0, none⟩)] w (SNew w base fc gc (newS c)) := by
  have HLT := Lib.hid hC.lt
  have HGE := Lib.hid hC.ge
  have HWF := Lib.hid hC.wf
  have HON := Lib.hid hon
  have HOPS := Lib.hid hops
  have HT := Lib.hid hT
  have HW := Lib.hid hW
  have HB0 := Lib.hid hB
  have HBS := Lib.hid hbase
  have hbw : base ≤ w.heap.size := by
    obtain ⟨L, h⟩ := hC
    have h1 := h.glt
    have h2 := h.ge gc h.fg
    omega
  have HBW := Lib.hid hbw
  obtain ⟨R, HR⟩ : ∃ R, Hid (newS c = R) := ⟨_, rfl⟩
  rw [HR.out]
  have hy : mayY (c.nb : Int) (c.np : Int) = true := by
    have h1 := hC.wf.nb1
    have h2 := hC.wf.nb2
    have h3 := hC.wf.np1
    have h4 := hC.wf.np2
    unfold mayY
    rw [decide_eq_true (by omega), decide_eq_true (by omega), decide_eq_true (by omega), decide_eq_true (by omega)]; rfl
  have HY := Lib.hid hy
  clear hT hW hB hbase hops hbw hy
  have CG := Lib.hid (geo_any hC)
  rw [show geoV (geoOf c) = .agg #[.int .i64 (c.nb : Int), .int .i64 (c.np : Int), .int .i64 (c.ns : Int)] from rfl] at CG
  have HC := Lib.hid hC
  clear hC
  go_enter Tryz.func15, Tryz.ntmps15
  go_wp2_with fail
  refine CG.out.mono ?_
  rintro e W1 ⟨rfl, hb1⟩
  obtain ⟨W0, HW0⟩ : ∃ W0, Hid (W0 = W1.alloc (.cells #[.int .i64 (c.nb : Int), .int .i64 (c.np : Int), .int .i64 (c.ns : Int)] 30)) := ⟨_, rfl⟩
  have hb0 : Below W1.heap.size W1 W0 := by rw [HW0.out]; exact (Below.refl _ _).alloc (Nat.le_refl _) _
  have X0 : Hid (RowC W0 W1.heap.size #[.int .i64 (c.nb : Int), .int .i64 (c.np : Int), .int .i64 (c.ns : Int)] 30) := by rw [HW0.out]; exact RowC.new W1 _ _
  have B0 := Lib.hid (below_chain hb1.out hb0)
  have x0 : (W1.alloc (.cells #[.int .i64 (c.nb : Int), .int .i64 (c.np : Int), .int .i64 (c.ns : Int)] 30)).cell? ⟨W1.heap.size, 0, none⟩ = some (.int .i64 (c.nb : Int)) := by rw [← HW0.out]; exact X0.out.cell 0
  have x1 : (W1.alloc (.cells #[.int .i64 (c.nb : Int), .int .i64 (c.np : Int), .int .i64 (c.ns : Int)] 30)).cell? ⟨W1.heap.size, 1, none⟩ = some (.int .i64 (c.np : Int)) := by rw [← HW0.out]; exact X0.out.cell 1
  have x2 : (W1.alloc (.cells #[.int .i64 (c.nb : Int), .int .i64 (c.np : Int), .int .i64 (c.ns : Int)] 30)).cell? ⟨W1.heap.size, 2, none⟩ = some (.int .i64 (c.ns : Int)) := by rw [← HW0.out]; exact X0.out.cell 2
  have CM := Lib.hid (planmay_any (geoOf c) W0)
  obtain ⟨my, HMY⟩ : ∃ my, Hid (mayG (geoOf c) = my) := ⟨_, rfl⟩
  rw [HMY.out, show geoV (geoOf c) = .agg #[.int .i64 (c.nb : Int), .int .i64 (c.np : Int), .int .i64 (c.ns : Int)] from rfl] at CM
  obtain rfl : true = my := by rw [← HMY.out]; exact hmay.symm
  clear hb0 hb1 HMY CG hmay
  go_wp2_with fail
  rw [← HW0.out]
  refine CM.out.mono ?_
  rintro e W2 ⟨rfl, hb2⟩
  have B2 := Lib.hid (below_chain B0.out hb2.out)
  have X2 := Lib.hid (X0.out.since hb2.out)
  have CO := Lib.hid (on_any (HC.out.since B2.out))
  rw [hon] at CO
  clear CM hb2 x0 x1 x2 HW0 hon X0 B0
  go_wp2_with fail
  refine CO.out.mono ?_
  rintro e W3 ⟨rfl, hb3⟩
  have B3 := Lib.hid (below_chain B2.out hb3.out)
  have X3 := Lib.hid (X2.out.since hb3.out)
  have x0 : W3.cell? ⟨W1.heap.size, 0, none⟩ = some (.int .i64 (c.nb : Int)) := X3.out.cell 0
  have x1 : W3.cell? ⟨W1.heap.size, 1, none⟩ = some (.int .i64 (c.np : Int)) := X3.out.cell 1
  have CY := Lib.hid (ynew_any (c.nb : Int) (c.np : Int) W3)
  rw [if_pos HY.out, Int.toNat_natCast, Int.toNat_natCast] at CY
  clear hb3 CO B2 X2
  go_wp2_with fail
  refine CY.out.mono ?_
  rintro e W4 ⟨gy, fy, rfl, hy4, hb4⟩
  have hmk := run_makeMap (P := Tryz.prog) 91 W4
  have B4 := Lib.hid (below_chain B3.out hb4)
  have X4 := Lib.hid (X3.out.since hb4)
  have HY4 := Lib.hid hy4
  have HS4 := Lib.hid (Nat.le_trans B3.out.size hb4.size)
  clear hb4 CY x0 x1 X3 hy4
  obtain ⟨W5, HW5⟩ : ∃ W5, Hid (W5 = (W4.alloc (.map #[] 0)).alloc (.cells #[.pointer (some ⟨gy, 0, none⟩), .pointer (some ⟨gc, 0, none⟩), .map (some W4.heap.size)] 93)) := ⟨_, rfl⟩
  obtain ⟨g, HG⟩ : ∃ g, Hid (g = W4.heap.size + 1) := ⟨_, rfl⟩
  have hM : Below W4.heap.size W4 (W4.alloc (.map #[] 0)) := (Below.refl _ _).alloc (Nat.le_refl _) _
  have hM5 : Below (W4.alloc (.map #[] 0)).heap.size (W4.alloc (.map #[] 0)) W5 := by rw [HW5.out]; exact (Below.refl _ _).alloc (Nat.le_refl _) _
  have h45 := below_chain hM hM5
  have e1 : (W4.alloc (.map #[] 0)).heap.size = W4.heap.size + 1 := by simp
  have hlt4 : ∀ b, fy b → b < W4.heap.size := HY4.out.lt
  have hge4 : ∀ b, fy b → W3.heap.size ≤ b := HY4.out.ge
  have hs3 := B3.out.size
  have S0 : Hid (SRep W5 base g gc gy W4.heap.size fy fc 0 (startS c)) := by
    refine ⟨?_, (HY4.out.since h45).elder (Nat.le_trans HBW.out hs3), (HC.out.since (below_chain B4.out h45)), (MapAt.made W4).at_block (hM5.block _ (by rw [e1]; omega)), fun b hb => ?_, fun b hb => ?_, ?_⟩
    · rw [HW5.out, HG.out, ← e1]; exact heap_alloc_new _ _
    · have h1 := hlt4 b hb
      have h2 := hge4 b hb
      have h3 := HG.out
      exact ⟨by omega, by omega, fun hc => by have := HLT.out b hc; omega⟩
    · have h1 := HLT.out b hb
      have h3 := HG.out
      have h4 := HS4.out
      exact ⟨by omega, by omega⟩
    · have h3 := HG.out
      have h4 := HS4.out
      have h5 := HBW.out
      exact ⟨by omega, by omega⟩
  have M5 : Hid (Moves w fc W5 (fpS g W4.heap.size fy fc)) := by
    refine ⟨Turn.of_below (below_chain B4.out h45), fun b hb => ?_⟩
    have h3 := HG.out
    have h4 := HS4.out
    rcases hb with rfl | rfl | hb | hb
    · exact Or.inr (by omega)
    · exact Or.inr (by omega)
    · have h2 := hge4 b hb
      exact Or.inr (by omega)
    · exact Or.inl hb
  have X5 := X4.out.since h45
  have HGS : Hid (w.heap.size ≤ g) := by have h3 := HG.out; have h4 := HS4.out; show _ ≤ _; omega
  obtain ⟨N, HN⟩ : ∃ N, Hid (c.nb = N) := ⟨_, rfl⟩
  have y0 : W4.cell? ⟨W1.heap.size, 0, none⟩ = some (.int .i64 (c.nb : Int)) := X4.out.cell 0
  have z0 : W5.cell? ⟨W1.heap.size, 0, none⟩ = some (.int .i64 (c.nb : Int)) := X5.cell 0
  have HN32 : Hid (N ≤ 32) := by show _ ≤ _; rw [← HN.out]; exact HWF.out.nb2
  have HF0 : Hid (∃ fp2 s2, NewR w base fc g gc R c.ops N 0 W5 fp2 s2) := ⟨_, startS c, ⟨0, Nat.zero_le _, gy, _, fy, fc, rfl, S0.out⟩, Nat.le_refl _, by rw [Nat.sub_zero, ← HN.out]; exact HR.out, M5.out⟩
  rw [HW5.out] at z0
  rw [HN.out] at z0
  clear hM hM5 h45 e1 hlt4 hge4 hs3 S0 M5 X5 X4 y0 HY4 HS4 HR
  go_wp2_with (simp only [hmk])
  rw [← HW5.out, ← HG.out]
  clear z0 hmk HW5 HG
  have hn9 : (N : Int) ≤ 32 := by have := HN32.out; omega
  go_wp2_with fail
  go_loopw [35] (fun t35 wr => ∃ j : Nat, t35 = .int .i64 (j : Int) ∧ j ≤ N ∧ Hid (∃ fp2 s2, NewR w base fc g gc R c.ops N j wr fp2 s2)) (fun t35 _ => N - (intOf t35).toNat)
  case atStart => exact ⟨0, rfl, Nat.zero_le _, HF0⟩
  case round =>
    obtain ⟨j, rfl, hj, HF⟩ := hrel
    obtain ⟨fp2, s2, Q⟩ := HF.out
    have HS2 := Lib.hid Q.st
    have HOP := Lib.hid Q.ops
    have HIS := Lib.hid Q.is
    have HMV := Lib.hid Q.mv
    clear Q HF
    have i0 : (0 : Int) ≤ (j : Int) := by omega
    by_cases hlt : j < N
    · have i1 : (j : Int) < (N : Int) := by omega
      obtain ⟨f, HFJ⟩ : ∃ f, Hid (N - j = f + 1) := ⟨N - j - 1, by show _ = _; omega⟩
      rw [HFJ.out] at HIS
      have HFJ2 : Hid (N - (j + 1) = f) := by have := HFJ.out; show _ = _; omega
      have CF := Lib.hid (find_any (j : Int) HT.out HW.out (HMV.out.below HB0.out (fun b hb => Nat.le_trans HBS.out (HGE.out b hb)) HB0.out.size) HBS.out (by have := HOP.out; have := HOPS.out; have := HN32.out; omega) HS2.out)
      have HWF2 : Hid s2.c.Wf := by obtain ⟨fc2, hc2, _⟩ := HS2.out.chip; exact hc2.wf
      obtain ⟨s3, e3, HF3⟩ : ∃ s3 e3, Hid (findS s2 (j : Int) = (s3, e3)) := ⟨_, _, rfl⟩
      rw [HF3.out] at CF
      go_wp2_with fail
      refine CF.out.mono ?_
      rintro e W6 ⟨v6, fp6, rfl, he6, hs6, hm6⟩
      have M6 := Lib.hid (HMV.out.trans hm6)
      have S6 := Lib.hid hs6
      have E6 := Lib.hid (he6.wide HMV.out.size fun b hb => Or.inl hb)
      clear HS2 HMV CF he6 hs6 hm6
      by_cases he3 : e3 = 0
      · subst he3
        obtain rfl := E6.out.nil
        have HF9 : Hid (∃ fp2 s2, NewR w base fc g gc R c.ops N (j + 1) W6 fp2 s2) := ⟨fp6, s3, S6.out, by
          have h1 := (findS_ops (b := (j : Int)) HWF2.out).2
          rw [HF3.out] at h1
          have h1 : s3.c.ops ≤ s2.c.ops + 8 := h1
          have := HOP.out
          omega, by rw [HFJ2.out, ← HIS.out, newL_next HF3.out], M6.out⟩
        clear S6 M6 E6 HOP HIS HF3 HFJ HFJ2 HWF2
        go_wp2_with fail
        go_roundw
        case rel => exact ⟨j + 1, by go_num, by omega, HF9⟩
        case measure => simp [intOf]; omega
      · have HE3 := Lib.hid he3
        have HPE := Lib.hid (E6.out.pos he3)
        have CC := Lib.hid (code_wrong e3 _ W6 (E6.out.wrong he3))
        obtain ⟨xv, HXV⟩ := (E6.out.wrong he3).ne
        subst HXV
        have HRN : Hid (R = (s3, e3)) := by show _ = _; rw [← HIS.out, newL_no HF3.out HE3.out]
        clear E6 he3 HIS HF3 HFJ HFJ2 HOP HWF2
        go_wp2_with fail
        refine CC.out.mono ?_
        rintro e w9 ⟨rfl, rfl⟩
        have CW := fun st => Lib.hid (swrong_new st e3 HPE.out W6 fp6 S6.out.lt)
        clear CC
        go_wp2_with fail
        refine (CW _).out.mono ?_
        rintro e W7 ⟨v7, rfl, he7, hb7⟩
        obtain ⟨fc7, hc7, hf7⟩ := S6.out.chip
        have E7 := Lib.hid (he7.wide (fp' := fc7) M6.out.size fun b hb => Or.inl (hf7 b hb))
        have C7 := Lib.hid (hc7.since hb7)
        have M7 := Lib.hid ((M6.out.trans (Moves.of_below hb7)).sub hf7)
        clear he7 hb7 hc7 hf7 CW S6 M6
        go_wp2_with fail
        go_ret2
        rw [HRN.out]
        exact Or.inr ⟨HE3.out, _, fc7, rfl, E7.out, C7.out, M7.out⟩
    · obtain rfl : j = N := by omega
      have HRN : Hid (R = (s2, 0)) := by
        have := HIS.out
        rw [Nat.sub_self] at this
        exact this.symm
      go_wp2_with fail
      go_ret2
      rw [HRN.out]
      exact Or.inl ⟨rfl, g, fp2, rfl, HGS.out, HS2.out, HMV.out⟩
end
end Go.Proofs.YthgkdnegnecnjaaGreatDoor

/- The landed store: Get; Put and Get of none. Conditions: the store's cells; what the listed variables hold. -/
set_option linter.unusedVariables false
set_option linter.unusedSimpArgs false
set_option maxRecDepth 20000
namespace Go.Proofs.YthgkdnegnecnjaaGreatDoor
open Go.RowKit

/-- What Get answers: the state behind it, an error's number, what the page is read as. -/
noncomputable def getS (s : SS) (p : Int) : SS × Int × Hd.Rd :=
  if (placeS s p).1 < 0 then (s, 2, .torn)
  else match s.hd p with
    | none => (s, 8, .torn)
    | some _ =>
      if (s.c.read (placeS s p).1 (placeS s p).2).2.1 ≠ 0 then ({ s with c := (s.c.read (placeS s p).1 (placeS s p).2).1 }, (s.c.read (placeS s p).1 (placeS s p).2).2.1, .torn)
      else ({ s with c := (s.c.read (placeS s p).1 (placeS s p).2).1 }, 0, rdB (s.c.read (placeS s p).1 (placeS s p).2).2.2)
section
variable {s : SS} {p b k e : Int} {c : Chip} {raw : List Nat} {h : Hd.H}
theorem getS_bad (h1 : placeS s p = (b, k)) (hb : b < 0) : getS s p = (s, 2, .torn) := by unfold getS; rw [h1]; exact if_pos hb
theorem getS_none (h1 : placeS s p = (b, k)) (hb : ¬ b < 0) (h2 : s.hd p = none) : getS s p = (s, 8, .torn) := by unfold getS; rw [h1, h2]; exact if_neg hb
theorem getS_no (h1 : placeS s p = (b, k)) (hb : ¬ b < 0) (h2 : s.hd p = some h) (h3 : s.c.read b k = (c, e, raw)) (he : e ≠ 0) : getS s p = ({ s with c := c }, e, .torn) := by
  unfold getS; rw [h1, h2]; show (if b < 0 then _ else _) = _; rw [if_neg hb]; simp only [h3]; exact if_pos he
theorem getS_ok (h1 : placeS s p = (b, k)) (hb : ¬ b < 0) (h2 : s.hd p = some h) (h3 : s.c.read b k = (c, 0, raw)) : getS s p = ({ s with c := c }, 0, rdB raw) := by
  unfold getS; rw [h1, h2]; show (if b < 0 then _ else _) = _; rw [if_neg hb]; simp only [h3]; rfl
theorem place_key (h1 : placeS s p = (b, k)) (hb : ¬ b < 0) : KeyOk p := by
  unfold placeS placeG at h1
  split at h1
  · next h3 =>
    unfold placeIn at h3
    obtain ⟨h4, h5⟩ := Bool.and_eq_true_iff.1 h3
    have h5 := of_decide_eq_true h5
    have := area_bd (mayG_in h4)
    exact keyOk (by omega) (by omega)
  · have := (Prod.mk.inj h1).1
    omega
end
/-- Data and a head, as they are answered. -/
def RdV (w' : World) (base : Nat) (fp : Nat → Prop) (r : Hd.Rd) (x y : Value) : Prop := match r with
  | .valid ds h => ∃ A n c, x = .slice A n c ∧ Rest fp w' base A n c ds ∧ y = hdV h
  | _ => x = .slice none 0 0 ∧ y = .agg #[.int .i64 0, .int .u64 0, .int .i64 0, .int .i64 0]
def SGet (w : World) (base : Nat) (fp : Nat → Prop) (g gc : Nat) (r : SS × Int × Hd.Rd) (e : Ending) (w' : World) : Prop :=
  ∃ x y v fp', e = .returned (.tuple #[x, y, v]) ∧ ErrNew w fp' w' r.2.1 v ∧ RdV w' w.heap.size fp' r.2.2 x y ∧ StoreAt w' base fp' g gc r.1 ∧ Moves w fp w' fp'
theorem run_get {a : Act} {W : World} {Q : Ending → World → Prop} {b : Nat} {x v : Value} {K A S G : Int} (hr : RowC W b #[.int .i64 K, .int .u64 A, .int .i64 S, .int .i64 G] 42)
    (h4 : a.tmps.getD 4 undef = x) (h5 : a.tmps.getD 5 undef = .pointer (some ⟨b, 0, none⟩)) (h6 : a.tmps.getD 6 undef = v) (hd : a.defers = []) (hQ : Q (.returned (.tuple #[x, .agg #[.int .i64 K, .int .u64 A, .int .i64 S, .int .i64 G], v])) W) :
    bodyPost Tryz.prog Tryz.f29 Q .ret a W := by
  have r0 : W.cell? ⟨b, 0, none⟩ = some (.int .i64 K) := hr.cell 0
  have r1 : W.cell? ⟨b, 1, none⟩ = some (.int .u64 A) := hr.cell 1
  have r2 : W.cell? ⟨b, 2, none⟩ = some (.int .i64 S) := hr.cell 2
  have r3 : W.cell? ⟨b, 3, none⟩ = some (.int .i64 G) := hr.cell 3
  rw [Array.getD_eq_getD_getElem?] at h4 h5 h6
  exact bodyPost_ret (v := .tuple #[x, .agg #[.int .i64 K, .int .u64 A, .int .i64 S, .int .i64 G], v]) (by simp [results, Tryz.results29, go_sem, h4, h5, h6, r0, r1, r2, r3]) hd hQ
/-- Four stores into a variable that lies apart from the store. -/
def set4 (W : World) (b : Nat) (K A S G : Int) : World := (((W.setCell ⟨b, 0, none⟩ (.int .i64 K)).setCell ⟨b, 1, none⟩ (.int .u64 A)).setCell ⟨b, 2, none⟩ (.int .i64 S)).setCell ⟨b, 3, none⟩ (.int .i64 G)
theorem set4_row {W : World} {b : Nat} (h : RowC W b #[.int .i64 0, .int .u64 0, .int .i64 0, .int .i64 0] 42) (K A S G : Int) : RowC (set4 W b K A S G) b #[.int .i64 K, .int .u64 A, .int .i64 S, .int .i64 G] 42 :=
  (((h.put 0 (.int .i64 K)).put 1 (.int .u64 A)).put 2 (.int .i64 S)).put 3 (.int .i64 G)
theorem set4_turn (W : World) (b : Nat) (K A S G : Int) : Turn (fun x => x = b) W (set4 W b K A S G) :=
  (((Turn.of_setCell (fp := fun x => x = b) ⟨b, 0, none⟩ _ rfl).trans (Turn.of_setCell (fp := fun x => x = b) ⟨b, 1, none⟩ _ rfl) (fun _ h => Or.inl h)).trans (Turn.of_setCell (fp := fun x => x = b) ⟨b, 2, none⟩ _ rfl) (fun _ h => Or.inl h)).trans (Turn.of_setCell (fp := fun x => x = b) ⟨b, 3, none⟩ _ rfl) (fun _ h => Or.inl h)
def withB (fp : Nat → Prop) (b : Nat) : Nat → Prop := fun x => fp x ∨ x = b
theorem ErrNew.set4 {w W : World} {fp : Nat → Prop} {b : Nat} {k : Int} {v : Value} (h : ErrNew w (withB fp b) W k v) (K A S G : Int) : ErrNew w fp (set4 W b K A S G) k v := by
  have hm : Moves W (withB fp b) (Go.Proofs.YthgkdnegnecnjaaGreatDoor.set4 W b K A S G) (withB fp b) := ⟨(set4_turn W b K A S G).mono fun x hx => Or.inl (Or.inr hx), fun x hx => Or.inl hx⟩
  have := h.step1 hm
  rcases this with h | ⟨h0, g, s, e, h1, h2, h3, h4⟩
  · exact Or.inl h
  · exact Or.inr ⟨h0, g, s, e, h1, h2, h3, fun hx => h4 (Or.inl hx)⟩
theorem Rest.set4 {W : World} {fp : Nat → Prop} {b B n c : Nat} {A : Option Addr} {ds : List Nat} (h : Rest (withB fp b) W B A n c ds) (K A' S G : Int) : Rest fp (set4 W b K A' S G) B A n c ds := by
  have hm : Moves W (withB fp b) (Go.Proofs.YthgkdnegnecnjaaGreatDoor.set4 W b K A' S G) (withB fp b) := ⟨(set4_turn W b K A' S G).mono fun x hx => Or.inl (Or.inr hx), fun x hx => Or.inl hx⟩
  have := h.step hm
  exact ⟨this.own, fun x hx hf => this.safe x hx (Or.inl hf)⟩
theorem StoreAt.set4 {W : World} {base : Nat} {fp : Nat → Prop} {g gc b : Nat} {s : SS} (h : StoreAt W base fp g gc s) (hb : ¬ fp b) (K A S G : Int) : StoreAt (set4 W b K A S G) base fp g gc s :=
  h.keep (set4_turn W b K A S G) fun x hx hf => by rw [show x = b from hx] at hf; exact hb hf
theorem Moves.set4 {w W : World} {fp fp' : Nat → Prop} {b : Nat} (h : Moves w fp W fp') (hb : w.heap.size ≤ b) (K A S G : Int) : Moves w fp (set4 W b K A S G) fp' :=
  ⟨h.turn.trans (set4_turn W b K A S G) fun x hx => Or.inr (by rw [show x = b from hx]; exact hb), h.grows⟩
theorem sput_nil (v x : Value) (K A S G : Int) (w : World) : Calls Tryz.prog 23 #[.pointer none, .agg #[.int .i64 K, .int .u64 A, .int .i64 S, .int .i64 G], v] w fun e w' => ∃ v, e = .returned (.tuple #[.int .i64 0, v]) ∧ ErrNew w (fun b => b < w.heap.size) w' 1 v ∧ Below w.heap.size w w' := by
  have hb : Below w.heap.size w (w.alloc (.cells #[.int .i64 K, .int .u64 A, .int .i64 S, .int .i64 G] 42)) := (Below.refl _ _).alloc (Nat.le_refl _) _
  have HB := Lib.hid hb
  have CW := fun st W (hb : w.heap.size ≤ W.heap.size) => Lib.hid (swrong_new st 1 (by omega) W (fun b => b < w.heap.size) (fun b h => Nat.lt_of_lt_of_le h hb))
  go_enter Tryz.func23, Tryz.ntmps23
  go_wp2_with fail
  refine (CW _ _ hb.size).out.mono ?_
  rintro e W3 ⟨v, rfl, he, hb3⟩
  have HE := Lib.hid (he.wide (w := w) (fp' := fun b => b < w.heap.size) HB.out.size fun b h => Or.inl h)
  have HB3 := Lib.hid (below_chain HB.out hb3)
  clear he hb3 CW hb
  go_wp2_with fail
  go_ret2
  exact ⟨v, rfl, HE.out, HB3.out⟩
section
variable {w w0 : World} {base g gc : Nat} {fp : Nat → Prop} {s : SS}
theorem sget_nil (p : Int) (w : World) : Calls Tryz.prog 29 #[.pointer none, .int .i64 p] w fun e w' => ∃ v, e = .returned (.tuple #[.slice none 0 0, .agg #[.int .i64 0, .int .u64 0, .int .i64 0, .int .i64 0], v]) ∧ ErrNew w (fun b => b < w.heap.size) w' 1 v ∧ Below w.heap.size w w' := by
  obtain ⟨W0, HW0⟩ : ∃ W0, Hid (W0 = w.alloc (.cells #[.int .i64 0, .int .u64 0, .int .i64 0, .int .i64 0] 42)) := ⟨_, rfl⟩
  have hb : Below w.heap.size w W0 := by rw [HW0.out]; exact (Below.refl _ _).alloc (Nat.le_refl _) _
  have X0 : Hid (RowC W0 w.heap.size #[.int .i64 0, .int .u64 0, .int .i64 0, .int .i64 0] 42) := by rw [HW0.out]; exact RowC.new w _ _
  have HB := Lib.hid hb
  have HL0 : Hid (w.heap.size < W0.heap.size) := X0.out.lt
  have CW := fun st => Lib.hid (swrong_new st 1 (by omega) W0 (withB (fun b => b < w.heap.size) w.heap.size) (fun b h => by have := HL0.out; rcases h with h | h <;> omega))
  go_enter Tryz.func29, Tryz.ntmps29
  go_wp2_with fail
  rw [← HW0.out]
  refine (CW _).out.mono ?_
  rintro e W3 ⟨v, rfl, he, hb3⟩
  have HE := Lib.hid ((he.wide (w := w) HB.out.size fun b h => Or.inl h).set4 0 0 0 0)
  have HB3 : Hid (Below w.heap.size w (set4 W3 w.heap.size 0 0 0 0)) := (set4_turn W3 w.heap.size 0 0 0 0).chain (below_chain HB.out hb3) (fun x hx => by rw [show x = w.heap.size from hx]; exact Nat.le_refl _) (below_chain HB.out hb3).size
  have X3 := Lib.hid (X0.out.since hb3)
  have X4 := Lib.hid (set4_row X3.out 0 0 0 0)
  clear he hb3 CW hb X0 HW0
  have e0 : W3.cell? ⟨w.heap.size, 0, none⟩ = some (.int .i64 0) := X3.out.cell 0
  have f0 : W3.frozen? ⟨w.heap.size, 0, none⟩ = false := X3.out.free 0
  have e1 : W3.cell? ⟨w.heap.size, 1, none⟩ = some (.int .u64 0) := X3.out.cell 1
  have f1 : W3.frozen? ⟨w.heap.size, 1, none⟩ = false := X3.out.free 1
  have e2 : W3.cell? ⟨w.heap.size, 2, none⟩ = some (.int .i64 0) := X3.out.cell 2
  have f2 : W3.frozen? ⟨w.heap.size, 2, none⟩ = false := X3.out.free 2
  have e3 : W3.cell? ⟨w.heap.size, 3, none⟩ = some (.int .i64 0) := X3.out.cell 3
  have f3 : W3.frozen? ⟨w.heap.size, 3, none⟩ = false := X3.out.free 3
  go_wp2_with fail
  clear e0 e1 e2 e3 f0 f1 f2 f3
  exact run_get X4.out rfl rfl rfl rfl ⟨v, rfl, HE.out, HB3.out⟩
set_option maxHeartbeats 16000000 in
theorem sget_any (p : Int) (hT : Tabs w0) (hW : Wid w0) (hB : Below w0.heap.size w0 w) (hbase : w0.heap.size ≤ base) (hops : s.c.ops < 990000) (hS : StoreAt w base fp g gc s) :
    Calls Tryz.prog 29 #[.pointer (some ⟨g, 0, none⟩), .int .i64 p] w (SGet w base fp g gc (getS s p)) := by
  obtain ⟨n0, hn0, gy, gm, fy, fc, rfl, h⟩ := hS
  have HN0 := Lib.hid hn0
  have HOPS := Lib.hid hops
  have HTW : Hid (∀ W fp2, Moves w (fpS g gm fy fc) W fp2 → Tabs W ∧ Wid W) := fun W fp2 hm => by
    have hb := hm.below hB (fun b hb => Nat.le_trans hbase (h.le b hb)) hB.size
    exact ⟨hT.since hb, hW.since hb⟩
  obtain ⟨W0, HW0⟩ : ∃ W0, Hid (W0 = w.alloc (.cells #[.int .i64 0, .int .u64 0, .int .i64 0, .int .i64 0] 42)) := ⟨_, rfl⟩
  have hb0 : Below w.heap.size w W0 := by rw [HW0.out]; exact (Below.refl _ _).alloc (Nat.le_refl _) _
  have X0 : Hid (RestC (fpS g gm fy fc) W0 w.heap.size #[.int .i64 0, .int .u64 0, .int .i64 0, .int .i64 0] 42) := by rw [HW0.out]; exact RestC.new w _ _ h.lt
  have M0 := Lib.hid (Moves.of_below (fp := fpS g gm fy fc) hb0)
  have H0 := Lib.hid (h.since hb0)
  have CP := Lib.hid (splace_any p (⟨gy, gm, fy, fc, rfl, H0.out⟩ : StoreN W0 base _ g gc _ n0))
  obtain ⟨b, k, HP⟩ : ∃ b k, Hid (placeS s p = (b, k)) := ⟨_, _, rfl⟩
  rw [HP.out] at CP
  clear h hn0 hT hW hB hbase hops hb0
  obtain ⟨R, HR⟩ : ∃ R, Hid (getS s p = R) := ⟨_, rfl⟩
  rw [HR.out]
  go_enter Tryz.func29, Tryz.ntmps29
  go_wp2_with fail
  rw [← HW0.out]
  clear HW0
  refine CP.out.mono ?_
  rintro e W1 ⟨rfl, hb1⟩
  have hb1 := hb1.out
  have H2 := Lib.hid (H0.out.since hb1)
  have X2 := Lib.hid (X0.out.step (Moves.of_below (fp := fpS g gm fy fc) hb1))
  have M2 := Lib.hid (M0.out.trans (Moves.of_below (fp := fpS g gm fy fc) hb1))
  clear H0 X0 M0 hb1 CP
  by_cases hb : b < 0
  · have HBN := Lib.hid hb
    have CW := fun st => Lib.hid (swrong_new st 2 (by omega) W1 (withB (fpS g gm fy fc) w.heap.size) (fun b h => by rcases h with h | h; exact H2.out.lt b h; rw [h]; exact X2.out.lt))
    go_wp2_with fail
    refine (CW _).out.mono ?_
    rintro e W3 ⟨v3, rfl, he3, hb3⟩
    have E3 := Lib.hid ((he3.wide (w := w) M2.out.size fun b h => Or.inl h).set4 0 0 0 0)
    have S3 : Hid (StoreAt (set4 W3 w.heap.size 0 0 0 0) base (fpS g gm fy fc) g gc _) := StoreAt.set4 ⟨n0, HN0.out, _, _, _, _, rfl, H2.out.since hb3⟩ X2.out.safe 0 0 0 0
    have M3 := Lib.hid ((M2.out.trans (Moves.of_below hb3)).set4 (b := w.heap.size) (Nat.le_refl _) 0 0 0 0)
    have X3 := Lib.hid (X2.out.since hb3)
    have Y3 := Lib.hid (set4_row (⟨X3.out.row⟩ : RowC W3 w.heap.size _ _) 0 0 0 0)
    clear CW H2 M2 he3 hb3 X2 
    have e0 : W3.cell? ⟨w.heap.size, 0, none⟩ = some (.int .i64 0) := (⟨X3.out.row⟩ : RowC W3 w.heap.size #[.int .i64 0, .int .u64 0, .int .i64 0, .int .i64 0] 42).cell 0
    have f0 : W3.frozen? ⟨w.heap.size, 0, none⟩ = false := (⟨X3.out.row⟩ : RowC W3 w.heap.size #[.int .i64 0, .int .u64 0, .int .i64 0, .int .i64 0] 42).free 0
    have e1 : W3.cell? ⟨w.heap.size, 1, none⟩ = some (.int .u64 0) := (⟨X3.out.row⟩ : RowC W3 w.heap.size #[.int .i64 0, .int .u64 0, .int .i64 0, .int .i64 0] 42).cell 1
    have f1 : W3.frozen? ⟨w.heap.size, 1, none⟩ = false := (⟨X3.out.row⟩ : RowC W3 w.heap.size #[.int .i64 0, .int .u64 0, .int .i64 0, .int .i64 0] 42).free 1
    have e2 : W3.cell? ⟨w.heap.size, 2, none⟩ = some (.int .i64 0) := (⟨X3.out.row⟩ : RowC W3 w.heap.size #[.int .i64 0, .int .u64 0, .int .i64 0, .int .i64 0] 42).cell 2
    have f2 : W3.frozen? ⟨w.heap.size, 2, none⟩ = false := (⟨X3.out.row⟩ : RowC W3 w.heap.size #[.int .i64 0, .int .u64 0, .int .i64 0, .int .i64 0] 42).free 2
    have e3 : W3.cell? ⟨w.heap.size, 3, none⟩ = some (.int .i64 0) := (⟨X3.out.row⟩ : RowC W3 w.heap.size #[.int .i64 0, .int .u64 0, .int .i64 0, .int .i64 0] 42).cell 3
    have f3 : W3.frozen? ⟨w.heap.size, 3, none⟩ = false := (⟨X3.out.row⟩ : RowC W3 w.heap.size #[.int .i64 0, .int .u64 0, .int .i64 0, .int .i64 0] 42).free 3
    go_wp2_with fail
    clear e0 e1 e2 e3 f0 f1 f2 f3
    refine run_get Y3.out rfl rfl rfl rfl ?_
    rw [← HR.out, getS_bad HP.out HBN.out]
    exact ⟨_, _, _, _, rfl, E3.out, ⟨rfl, rfl⟩, S3.out, M3.out⟩
  · have HBN := Lib.hid hb
    have hkey := place_key HP.out hb
    have c2 := H2.out.c2
    have hl := H2.out.map.look2 hkey
    obtain ⟨o, HO⟩ : ∃ o, Hid (s.hd p = o) := ⟨_, rfl⟩
    rw [HO.out] at hl
    obtain ⟨K, A, S, G, hv⟩ := hdO_cells o
    rw [hv] at hl
    clear hv hkey
    obtain ⟨W7, HW7⟩ : ∃ W7, Hid (W7 = W1.alloc (.cells #[.int .i64 K, .int .u64 A, .int .i64 S, .int .i64 G] 42)) := ⟨_, rfl⟩
    have hb7 : Below W1.heap.size W1 W7 := by rw [HW7.out]; exact (Below.refl _ _).alloc (Nat.le_refl _) _
    have H3 := Lib.hid (H2.out.since hb7)
    have X3 := Lib.hid (X2.out.step (Moves.of_below (fp := fpS g gm fy fc) hb7))
    have M3 := Lib.hid (M2.out.trans (Moves.of_below (fp := fpS g gm fy fc) hb7))
    clear H2 X2 M2 hb7
    cases o with
    | none =>
      have CW := fun st => Lib.hid (swrong_new st 8 (by omega) W7 (withB (fpS g gm fy fc) w.heap.size) (fun b h => by rcases h with h | h; exact H3.out.lt b h; rw [h]; exact X3.out.lt))
      go_wp2_with (simp only [hl])
      rw [← HW7.out]
      clear hl c2 HW7
      refine (CW _).out.mono ?_
      rintro e W4 ⟨v4, rfl, he4, hb4⟩
      have E4 := Lib.hid ((he4.wide (w := w) M3.out.size fun b h => Or.inl h).set4 0 0 0 0)
      have S4 : Hid (StoreAt (set4 W4 w.heap.size 0 0 0 0) base (fpS g gm fy fc) g gc _) := StoreAt.set4 ⟨n0, HN0.out, _, _, _, _, rfl, H3.out.since hb4⟩ X3.out.safe 0 0 0 0
      have M4 := Lib.hid ((M3.out.trans (Moves.of_below hb4)).set4 (b := w.heap.size) (Nat.le_refl _) 0 0 0 0)
      have X4 := Lib.hid (X3.out.since hb4)
      have Y4 := Lib.hid (set4_row (⟨X4.out.row⟩ : RowC W4 w.heap.size _ _) 0 0 0 0)
      clear CW H3 M3 he4 hb4 X3
      have e0 : W4.cell? ⟨w.heap.size, 0, none⟩ = some (.int .i64 0) := (⟨X4.out.row⟩ : RowC W4 w.heap.size #[.int .i64 0, .int .u64 0, .int .i64 0, .int .i64 0] 42).cell 0
      have f0 : W4.frozen? ⟨w.heap.size, 0, none⟩ = false := (⟨X4.out.row⟩ : RowC W4 w.heap.size #[.int .i64 0, .int .u64 0, .int .i64 0, .int .i64 0] 42).free 0
      have e1 : W4.cell? ⟨w.heap.size, 1, none⟩ = some (.int .u64 0) := (⟨X4.out.row⟩ : RowC W4 w.heap.size #[.int .i64 0, .int .u64 0, .int .i64 0, .int .i64 0] 42).cell 1
      have f1 : W4.frozen? ⟨w.heap.size, 1, none⟩ = false := (⟨X4.out.row⟩ : RowC W4 w.heap.size #[.int .i64 0, .int .u64 0, .int .i64 0, .int .i64 0] 42).free 1
      have e2 : W4.cell? ⟨w.heap.size, 2, none⟩ = some (.int .i64 0) := (⟨X4.out.row⟩ : RowC W4 w.heap.size #[.int .i64 0, .int .u64 0, .int .i64 0, .int .i64 0] 42).cell 2
      have f2 : W4.frozen? ⟨w.heap.size, 2, none⟩ = false := (⟨X4.out.row⟩ : RowC W4 w.heap.size #[.int .i64 0, .int .u64 0, .int .i64 0, .int .i64 0] 42).free 2
      have e3 : W4.cell? ⟨w.heap.size, 3, none⟩ = some (.int .i64 0) := (⟨X4.out.row⟩ : RowC W4 w.heap.size #[.int .i64 0, .int .u64 0, .int .i64 0, .int .i64 0] 42).cell 3
      have f3 : W4.frozen? ⟨w.heap.size, 3, none⟩ = false := (⟨X4.out.row⟩ : RowC W4 w.heap.size #[.int .i64 0, .int .u64 0, .int .i64 0, .int .i64 0] 42).free 3
      go_wp2_with fail
      clear e0 e1 e2 e3 f0 f1 f2 f3
      refine run_get Y4.out rfl rfl rfl rfl ?_
      rw [← HR.out, getS_none HP.out (Int.not_lt.2 HBN.out) HO.out]
      exact ⟨_, _, _, _, rfl, E4.out, ⟨rfl, rfl⟩, S4.out, M4.out⟩
    | some xh =>
      have CR := Lib.hid (nread_any b k H3.out.chip (by have := HOPS.out; omega))
      obtain ⟨c4, e4, raw, HR4⟩ : ∃ c4 e4 raw, Hid (s.c.read b k = (c4, e4, raw)) := ⟨_, _, _, rfl⟩
      rw [HR4.out] at CR
      have HRL4 : Hid (raw.length ≤ 284) := by have := read_len (s := s) H3.out.chip.wf b k; rw [HR4.out] at this; exact this
      have HO4 : Hid (n0 ≤ c4.ops) := by
        have h1 := HN0.out
        have h2 := (read_ops (c := s.c) (b := b) (p := k)).1
        rw [HR4.out] at h2
        exact Nat.le_trans h1 h2
      have c1 := H3.out.c1
      rw [HW7.out] at c1
      go_wp2_with (simp only [hl])
      rw [← HW7.out]
      clear hl c2 c1 HW7
      refine CR.out.mono ?_
      rintro e W4 ⟨v4, A4, m4, l4, fc4, rfl, he4, hr4, hc4, hm4⟩
      obtain ⟨r4, m4_⟩ := H3.out.withC hc4 hm4
      have E4 := Lib.hid (he4.chip H3.out M3.out.size)
      have RW4 := Lib.hid hr4.own
      have X4 := Lib.hid (X3.out.step m4_)
      have H4 := Lib.hid r4
      have M4 := Lib.hid (M3.out.trans m4_)
      clear H3 M3 X3 CR he4 hr4 hc4 hm4 r4 m4_
      by_cases he4 : e4 = 0
      · subst he4
        obtain rfl := E4.out.nil
        clear E4
        have CH := Lib.hid (read_any A4 m4 l4 raw W4 (HTW.out _ _ M4.out).1 (HTW.out _ _ M4.out).2 (by have h1 : raw.length = m4 := RW4.out.bytes.len; have h2 : raw.length ≤ 284 := HRL4.out; omega) RW4.out.cap RW4.out.bytes)
        go_wp2_with fail
        refine CH.out.mono ?_
        rintro e W80 ⟨rd, hrd, hro⟩
        have HRD : Hid (rdB raw = rd) := rdB_of hrd
        clear hrd CH
        have HWS := Lib.hid X4.out.lt
        have HMS := Lib.hid M4.out.size
        cases rd with
        | torn =>
          obtain ⟨rfl, hb⟩ := hro
          have hb := hb.out
          have H5 := Lib.hid (H4.out.since hb)
          have X5 := Lib.hid (X4.out.step (Moves.of_below (fp := fpS g gm fy fc4) hb))
          have M5 := Lib.hid (M4.out.trans (Moves.of_below (fp := fpS g gm fy fc4) hb))
          clear H4 X4 M4 RW4
          clear hb
          have hb81 : Below W80.heap.size W80 (W80.alloc (.cells #[.int .i64 0, .int .u64 0, .int .i64 0, .int .i64 0] 42)) := (Below.refl _ _).alloc (Nat.le_refl _) _
          obtain ⟨W81, HW81⟩ : ∃ W81, Hid (W81 = W80.alloc (.cells #[.int .i64 0, .int .u64 0, .int .i64 0, .int .i64 0] 42)) := ⟨_, rfl⟩
          have hb82 : Below W80.heap.size W80 W81 := by rw [HW81.out]; exact hb81
          have Z81 : RowC W81 W80.heap.size #[.int .i64 0, .int .u64 0, .int .i64 0, .int .i64 0] 42 := by rw [HW81.out]; exact RowC.new W80 #[.int .i64 0, .int .u64 0, .int .i64 0, .int .i64 0] 42
          have X81 := X5.out.since hb82
          have S82 : Hid (StoreAt (set4 W81 w.heap.size 0 0 0 0) base (fpS g gm fy fc4) g gc _) := StoreAt.set4 ⟨n0, HO4.out, _, _, _, _, rfl, H5.out.since hb82⟩ X5.out.safe _ _ _ _
          have M82 := Lib.hid ((M5.out.trans (Moves.of_below hb82)).set4 (b := w.heap.size) (Nat.le_refl _) 0 0 0 0)
          have Y82 := Lib.hid (set4_row (⟨X81.row⟩ : RowC W81 w.heap.size #[.int .i64 0, .int .u64 0, .int .i64 0, .int .i64 0] 42) 0 0 0 0)
          have z0 : (W80.alloc (.cells #[.int .i64 0, .int .u64 0, .int .i64 0, .int .i64 0] 42)).cell? ⟨W80.heap.size, 0, none⟩ = some (.int .i64 0) := (RowC.new W80 #[.int .i64 0, .int .u64 0, .int .i64 0, .int .i64 0] 42).cell 0
          have z1 : (W80.alloc (.cells #[.int .i64 0, .int .u64 0, .int .i64 0, .int .i64 0] 42)).cell? ⟨W80.heap.size, 1, none⟩ = some (.int .u64 0) := (RowC.new W80 #[.int .i64 0, .int .u64 0, .int .i64 0, .int .i64 0] 42).cell 1
          have z2 : (W80.alloc (.cells #[.int .i64 0, .int .u64 0, .int .i64 0, .int .i64 0] 42)).cell? ⟨W80.heap.size, 2, none⟩ = some (.int .i64 0) := (RowC.new W80 #[.int .i64 0, .int .u64 0, .int .i64 0, .int .i64 0] 42).cell 2
          have z3 : (W80.alloc (.cells #[.int .i64 0, .int .u64 0, .int .i64 0, .int .i64 0] 42)).cell? ⟨W80.heap.size, 3, none⟩ = some (.int .i64 0) := (RowC.new W80 #[.int .i64 0, .int .u64 0, .int .i64 0, .int .i64 0] 42).cell 3
          have e0 : (W80.alloc (.cells #[.int .i64 0, .int .u64 0, .int .i64 0, .int .i64 0] 42)).cell? ⟨w.heap.size, 0, none⟩ = some (.int .i64 0) := (⟨(X5.out.since hb81).row⟩ : RowC _ w.heap.size #[.int .i64 0, .int .u64 0, .int .i64 0, .int .i64 0] 42).cell 0
          have f0 : (W80.alloc (.cells #[.int .i64 0, .int .u64 0, .int .i64 0, .int .i64 0] 42)).frozen? ⟨w.heap.size, 0, none⟩ = false := (⟨(X5.out.since hb81).row⟩ : RowC _ w.heap.size #[.int .i64 0, .int .u64 0, .int .i64 0, .int .i64 0] 42).free 0
          have e1 : (W80.alloc (.cells #[.int .i64 0, .int .u64 0, .int .i64 0, .int .i64 0] 42)).cell? ⟨w.heap.size, 1, none⟩ = some (.int .u64 0) := (⟨(X5.out.since hb81).row⟩ : RowC _ w.heap.size #[.int .i64 0, .int .u64 0, .int .i64 0, .int .i64 0] 42).cell 1
          have f1 : (W80.alloc (.cells #[.int .i64 0, .int .u64 0, .int .i64 0, .int .i64 0] 42)).frozen? ⟨w.heap.size, 1, none⟩ = false := (⟨(X5.out.since hb81).row⟩ : RowC _ w.heap.size #[.int .i64 0, .int .u64 0, .int .i64 0, .int .i64 0] 42).free 1
          have e2 : (W80.alloc (.cells #[.int .i64 0, .int .u64 0, .int .i64 0, .int .i64 0] 42)).cell? ⟨w.heap.size, 2, none⟩ = some (.int .i64 0) := (⟨(X5.out.since hb81).row⟩ : RowC _ w.heap.size #[.int .i64 0, .int .u64 0, .int .i64 0, .int .i64 0] 42).cell 2
          have f2 : (W80.alloc (.cells #[.int .i64 0, .int .u64 0, .int .i64 0, .int .i64 0] 42)).frozen? ⟨w.heap.size, 2, none⟩ = false := (⟨(X5.out.since hb81).row⟩ : RowC _ w.heap.size #[.int .i64 0, .int .u64 0, .int .i64 0, .int .i64 0] 42).free 2
          have e3 : (W80.alloc (.cells #[.int .i64 0, .int .u64 0, .int .i64 0, .int .i64 0] 42)).cell? ⟨w.heap.size, 3, none⟩ = some (.int .i64 0) := (⟨(X5.out.since hb81).row⟩ : RowC _ w.heap.size #[.int .i64 0, .int .u64 0, .int .i64 0, .int .i64 0] 42).cell 3
          have f3 : (W80.alloc (.cells #[.int .i64 0, .int .u64 0, .int .i64 0, .int .i64 0] 42)).frozen? ⟨w.heap.size, 3, none⟩ = false := (⟨(X5.out.since hb81).row⟩ : RowC _ w.heap.size #[.int .i64 0, .int .u64 0, .int .i64 0, .int .i64 0] 42).free 3
          clear X81 Z81 hb82 hb81 X5 H5 M5 HRL4 HO4
          go_wp2_with fail
          go_region
          go_wp2_with fail
          obtain ⟨W83, HW83⟩ : ∃ W83, Hid (W83 = set4 W81 w.heap.size 0 0 0 0) := ⟨_, rfl⟩
          rw [← HW83.out] at S82 M82 Y82
          rw [HW81.out] at HW83
          rw [show (((((W80.alloc (.cells #[.int .i64 0, .int .u64 0, .int .i64 0, .int .i64 0] 42)).setCell ⟨w.heap.size, 0, none⟩ (.int .i64 0)).setCell ⟨w.heap.size, 1, none⟩ (.int .u64 0)).setCell ⟨w.heap.size, 2, none⟩ (.int .i64 0)).setCell ⟨w.heap.size, 3, none⟩ (.int .i64 0)) = W83 from HW83.out.symm]
          have hd : Below W83.heap.size W83 W83.drew := (Below.refl _ _).drew
          refine run_get (⟨Y82.out.row⟩ : RowC W83.drew w.heap.size _ _) rfl rfl rfl rfl ?_
          rw [← HR.out, getS_ok HP.out (Int.not_lt.2 HBN.out) HO.out HR4.out, HRD.out]
          exact ⟨_, _, _, _, rfl, ErrNew.none_, ⟨rfl, rfl⟩, S82.out.since hd, M82.out.trans (Moves.of_below hd)⟩
        | erased =>
          obtain ⟨rfl, hb⟩ := hro
          have hb := hb.out
          have H5 := Lib.hid (H4.out.since hb)
          have X5 := Lib.hid (X4.out.step (Moves.of_below (fp := fpS g gm fy fc4) hb))
          have M5 := Lib.hid (M4.out.trans (Moves.of_below (fp := fpS g gm fy fc4) hb))
          clear H4 X4 M4 RW4
          clear hb
          have hb81 : Below W80.heap.size W80 (W80.alloc (.cells #[.int .i64 0, .int .u64 0, .int .i64 0, .int .i64 0] 42)) := (Below.refl _ _).alloc (Nat.le_refl _) _
          obtain ⟨W81, HW81⟩ : ∃ W81, Hid (W81 = W80.alloc (.cells #[.int .i64 0, .int .u64 0, .int .i64 0, .int .i64 0] 42)) := ⟨_, rfl⟩
          have hb82 : Below W80.heap.size W80 W81 := by rw [HW81.out]; exact hb81
          have Z81 : RowC W81 W80.heap.size #[.int .i64 0, .int .u64 0, .int .i64 0, .int .i64 0] 42 := by rw [HW81.out]; exact RowC.new W80 #[.int .i64 0, .int .u64 0, .int .i64 0, .int .i64 0] 42
          have X81 := X5.out.since hb82
          have S82 : Hid (StoreAt (set4 W81 w.heap.size 0 0 0 0) base (fpS g gm fy fc4) g gc _) := StoreAt.set4 ⟨n0, HO4.out, _, _, _, _, rfl, H5.out.since hb82⟩ X5.out.safe _ _ _ _
          have M82 := Lib.hid ((M5.out.trans (Moves.of_below hb82)).set4 (b := w.heap.size) (Nat.le_refl _) 0 0 0 0)
          have Y82 := Lib.hid (set4_row (⟨X81.row⟩ : RowC W81 w.heap.size #[.int .i64 0, .int .u64 0, .int .i64 0, .int .i64 0] 42) 0 0 0 0)
          have z0 : (W80.alloc (.cells #[.int .i64 0, .int .u64 0, .int .i64 0, .int .i64 0] 42)).cell? ⟨W80.heap.size, 0, none⟩ = some (.int .i64 0) := (RowC.new W80 #[.int .i64 0, .int .u64 0, .int .i64 0, .int .i64 0] 42).cell 0
          have z1 : (W80.alloc (.cells #[.int .i64 0, .int .u64 0, .int .i64 0, .int .i64 0] 42)).cell? ⟨W80.heap.size, 1, none⟩ = some (.int .u64 0) := (RowC.new W80 #[.int .i64 0, .int .u64 0, .int .i64 0, .int .i64 0] 42).cell 1
          have z2 : (W80.alloc (.cells #[.int .i64 0, .int .u64 0, .int .i64 0, .int .i64 0] 42)).cell? ⟨W80.heap.size, 2, none⟩ = some (.int .i64 0) := (RowC.new W80 #[.int .i64 0, .int .u64 0, .int .i64 0, .int .i64 0] 42).cell 2
          have z3 : (W80.alloc (.cells #[.int .i64 0, .int .u64 0, .int .i64 0, .int .i64 0] 42)).cell? ⟨W80.heap.size, 3, none⟩ = some (.int .i64 0) := (RowC.new W80 #[.int .i64 0, .int .u64 0, .int .i64 0, .int .i64 0] 42).cell 3
          have e0 : (W80.alloc (.cells #[.int .i64 0, .int .u64 0, .int .i64 0, .int .i64 0] 42)).cell? ⟨w.heap.size, 0, none⟩ = some (.int .i64 0) := (⟨(X5.out.since hb81).row⟩ : RowC _ w.heap.size #[.int .i64 0, .int .u64 0, .int .i64 0, .int .i64 0] 42).cell 0
          have f0 : (W80.alloc (.cells #[.int .i64 0, .int .u64 0, .int .i64 0, .int .i64 0] 42)).frozen? ⟨w.heap.size, 0, none⟩ = false := (⟨(X5.out.since hb81).row⟩ : RowC _ w.heap.size #[.int .i64 0, .int .u64 0, .int .i64 0, .int .i64 0] 42).free 0
          have e1 : (W80.alloc (.cells #[.int .i64 0, .int .u64 0, .int .i64 0, .int .i64 0] 42)).cell? ⟨w.heap.size, 1, none⟩ = some (.int .u64 0) := (⟨(X5.out.since hb81).row⟩ : RowC _ w.heap.size #[.int .i64 0, .int .u64 0, .int .i64 0, .int .i64 0] 42).cell 1
          have f1 : (W80.alloc (.cells #[.int .i64 0, .int .u64 0, .int .i64 0, .int .i64 0] 42)).frozen? ⟨w.heap.size, 1, none⟩ = false := (⟨(X5.out.since hb81).row⟩ : RowC _ w.heap.size #[.int .i64 0, .int .u64 0, .int .i64 0, .int .i64 0] 42).free 1
          have e2 : (W80.alloc (.cells #[.int .i64 0, .int .u64 0, .int .i64 0, .int .i64 0] 42)).cell? ⟨w.heap.size, 2, none⟩ = some (.int .i64 0) := (⟨(X5.out.since hb81).row⟩ : RowC _ w.heap.size #[.int .i64 0, .int .u64 0, .int .i64 0, .int .i64 0] 42).cell 2
          have f2 : (W80.alloc (.cells #[.int .i64 0, .int .u64 0, .int .i64 0, .int .i64 0] 42)).frozen? ⟨w.heap.size, 2, none⟩ = false := (⟨(X5.out.since hb81).row⟩ : RowC _ w.heap.size #[.int .i64 0, .int .u64 0, .int .i64 0, .int .i64 0] 42).free 2
          have e3 : (W80.alloc (.cells #[.int .i64 0, .int .u64 0, .int .i64 0, .int .i64 0] 42)).cell? ⟨w.heap.size, 3, none⟩ = some (.int .i64 0) := (⟨(X5.out.since hb81).row⟩ : RowC _ w.heap.size #[.int .i64 0, .int .u64 0, .int .i64 0, .int .i64 0] 42).cell 3
          have f3 : (W80.alloc (.cells #[.int .i64 0, .int .u64 0, .int .i64 0, .int .i64 0] 42)).frozen? ⟨w.heap.size, 3, none⟩ = false := (⟨(X5.out.since hb81).row⟩ : RowC _ w.heap.size #[.int .i64 0, .int .u64 0, .int .i64 0, .int .i64 0] 42).free 3
          clear X81 Z81 hb82 hb81 X5 H5 M5 HRL4 HO4
          go_wp2_with fail
          go_region
          go_wp2_with fail
          obtain ⟨W83, HW83⟩ : ∃ W83, Hid (W83 = set4 W81 w.heap.size 0 0 0 0) := ⟨_, rfl⟩
          rw [← HW83.out] at S82 M82 Y82
          rw [HW81.out] at HW83
          rw [show (((((W80.alloc (.cells #[.int .i64 0, .int .u64 0, .int .i64 0, .int .i64 0] 42)).setCell ⟨w.heap.size, 0, none⟩ (.int .i64 0)).setCell ⟨w.heap.size, 1, none⟩ (.int .u64 0)).setCell ⟨w.heap.size, 2, none⟩ (.int .i64 0)).setCell ⟨w.heap.size, 3, none⟩ (.int .i64 0)) = W83 from HW83.out.symm]
          have hd : Below W83.heap.size W83 W83.drew := (Below.refl _ _).drew
          refine run_get (⟨Y82.out.row⟩ : RowC W83.drew w.heap.size _ _) rfl rfl rfl rfl ?_
          rw [← HR.out, getS_ok HP.out (Int.not_lt.2 HBN.out) HO.out HR4.out, HRD.out]
          exact ⟨_, _, _, _, rfl, ErrNew.none_, ⟨rfl, rfl⟩, S82.out.since hd, M82.out.trans (Moves.of_below hd)⟩
        | valid ds x =>
          obtain ⟨A5, m5, l5, K5, A6, S5, G5, rfl, ho5, hh5, hb⟩ := hro
          obtain ⟨rfl, rfl, rfl, rfl⟩ := hh5.out
          have hb := hb.out
          have RD := Rest.new (fp := withB (fpS g gm fy fc4) w.heap.size) ho5.out (fun b h => by rcases h with h | h; exact H4.out.lt b h; rw [h]; exact HWS.out)
          have H5 := Lib.hid (H4.out.since hb)
          have X5 := Lib.hid (X4.out.step (Moves.of_below (fp := fpS g gm fy fc4) hb))
          have M5 := Lib.hid (M4.out.trans (Moves.of_below (fp := fpS g gm fy fc4) hb))
          clear H4 X4 M4 RW4
          clear ho5 hh5 hb
          have hb81 : Below W80.heap.size W80 (W80.alloc (.cells #[.int .i64 (x.k : Int), .int .u64 (x.a : Int), .int .i64 (x.s : Int), .int .i64 (x.g : Int)] 42)) := (Below.refl _ _).alloc (Nat.le_refl _) _
          obtain ⟨W81, HW81⟩ : ∃ W81, Hid (W81 = W80.alloc (.cells #[.int .i64 (x.k : Int), .int .u64 (x.a : Int), .int .i64 (x.s : Int), .int .i64 (x.g : Int)] 42)) := ⟨_, rfl⟩
          have hb82 : Below W80.heap.size W80 W81 := by rw [HW81.out]; exact hb81
          have Z81 : RowC W81 W80.heap.size #[.int .i64 (x.k : Int), .int .u64 (x.a : Int), .int .i64 (x.s : Int), .int .i64 (x.g : Int)] 42 := by rw [HW81.out]; exact RowC.new W80 #[.int .i64 (x.k : Int), .int .u64 (x.a : Int), .int .i64 (x.s : Int), .int .i64 (x.g : Int)] 42
          have X81 := X5.out.since hb82
          have S82 : Hid (StoreAt (set4 W81 w.heap.size ((x.k : Int)) ((x.a : Int)) ((x.s : Int)) ((x.g : Int))) base (fpS g gm fy fc4) g gc _) := StoreAt.set4 ⟨n0, HO4.out, _, _, _, _, rfl, H5.out.since hb82⟩ X5.out.safe _ _ _ _
          have M82 := Lib.hid ((M5.out.trans (Moves.of_below hb82)).set4 (b := w.heap.size) (Nat.le_refl _) ((x.k : Int)) ((x.a : Int)) ((x.s : Int)) ((x.g : Int)))
          have Y82 := Lib.hid (set4_row (⟨X81.row⟩ : RowC W81 w.heap.size #[.int .i64 0, .int .u64 0, .int .i64 0, .int .i64 0] 42) ((x.k : Int)) ((x.a : Int)) ((x.s : Int)) ((x.g : Int)))
          have RD9 := Lib.hid (((RD.since hb82).elder HMS.out).set4 (x.k : Int) (x.a : Int) (x.s : Int) (x.g : Int))
          clear RD
          have z0 : (W80.alloc (.cells #[.int .i64 (x.k : Int), .int .u64 (x.a : Int), .int .i64 (x.s : Int), .int .i64 (x.g : Int)] 42)).cell? ⟨W80.heap.size, 0, none⟩ = some (.int .i64 (x.k : Int)) := (RowC.new W80 #[.int .i64 (x.k : Int), .int .u64 (x.a : Int), .int .i64 (x.s : Int), .int .i64 (x.g : Int)] 42).cell 0
          have z1 : (W80.alloc (.cells #[.int .i64 (x.k : Int), .int .u64 (x.a : Int), .int .i64 (x.s : Int), .int .i64 (x.g : Int)] 42)).cell? ⟨W80.heap.size, 1, none⟩ = some (.int .u64 (x.a : Int)) := (RowC.new W80 #[.int .i64 (x.k : Int), .int .u64 (x.a : Int), .int .i64 (x.s : Int), .int .i64 (x.g : Int)] 42).cell 1
          have z2 : (W80.alloc (.cells #[.int .i64 (x.k : Int), .int .u64 (x.a : Int), .int .i64 (x.s : Int), .int .i64 (x.g : Int)] 42)).cell? ⟨W80.heap.size, 2, none⟩ = some (.int .i64 (x.s : Int)) := (RowC.new W80 #[.int .i64 (x.k : Int), .int .u64 (x.a : Int), .int .i64 (x.s : Int), .int .i64 (x.g : Int)] 42).cell 2
          have z3 : (W80.alloc (.cells #[.int .i64 (x.k : Int), .int .u64 (x.a : Int), .int .i64 (x.s : Int), .int .i64 (x.g : Int)] 42)).cell? ⟨W80.heap.size, 3, none⟩ = some (.int .i64 (x.g : Int)) := (RowC.new W80 #[.int .i64 (x.k : Int), .int .u64 (x.a : Int), .int .i64 (x.s : Int), .int .i64 (x.g : Int)] 42).cell 3
          have e0 : (W80.alloc (.cells #[.int .i64 (x.k : Int), .int .u64 (x.a : Int), .int .i64 (x.s : Int), .int .i64 (x.g : Int)] 42)).cell? ⟨w.heap.size, 0, none⟩ = some (.int .i64 0) := (⟨(X5.out.since hb81).row⟩ : RowC _ w.heap.size #[.int .i64 0, .int .u64 0, .int .i64 0, .int .i64 0] 42).cell 0
          have f0 : (W80.alloc (.cells #[.int .i64 (x.k : Int), .int .u64 (x.a : Int), .int .i64 (x.s : Int), .int .i64 (x.g : Int)] 42)).frozen? ⟨w.heap.size, 0, none⟩ = false := (⟨(X5.out.since hb81).row⟩ : RowC _ w.heap.size #[.int .i64 0, .int .u64 0, .int .i64 0, .int .i64 0] 42).free 0
          have e1 : (W80.alloc (.cells #[.int .i64 (x.k : Int), .int .u64 (x.a : Int), .int .i64 (x.s : Int), .int .i64 (x.g : Int)] 42)).cell? ⟨w.heap.size, 1, none⟩ = some (.int .u64 0) := (⟨(X5.out.since hb81).row⟩ : RowC _ w.heap.size #[.int .i64 0, .int .u64 0, .int .i64 0, .int .i64 0] 42).cell 1
          have f1 : (W80.alloc (.cells #[.int .i64 (x.k : Int), .int .u64 (x.a : Int), .int .i64 (x.s : Int), .int .i64 (x.g : Int)] 42)).frozen? ⟨w.heap.size, 1, none⟩ = false := (⟨(X5.out.since hb81).row⟩ : RowC _ w.heap.size #[.int .i64 0, .int .u64 0, .int .i64 0, .int .i64 0] 42).free 1
          have e2 : (W80.alloc (.cells #[.int .i64 (x.k : Int), .int .u64 (x.a : Int), .int .i64 (x.s : Int), .int .i64 (x.g : Int)] 42)).cell? ⟨w.heap.size, 2, none⟩ = some (.int .i64 0) := (⟨(X5.out.since hb81).row⟩ : RowC _ w.heap.size #[.int .i64 0, .int .u64 0, .int .i64 0, .int .i64 0] 42).cell 2
          have f2 : (W80.alloc (.cells #[.int .i64 (x.k : Int), .int .u64 (x.a : Int), .int .i64 (x.s : Int), .int .i64 (x.g : Int)] 42)).frozen? ⟨w.heap.size, 2, none⟩ = false := (⟨(X5.out.since hb81).row⟩ : RowC _ w.heap.size #[.int .i64 0, .int .u64 0, .int .i64 0, .int .i64 0] 42).free 2
          have e3 : (W80.alloc (.cells #[.int .i64 (x.k : Int), .int .u64 (x.a : Int), .int .i64 (x.s : Int), .int .i64 (x.g : Int)] 42)).cell? ⟨w.heap.size, 3, none⟩ = some (.int .i64 0) := (⟨(X5.out.since hb81).row⟩ : RowC _ w.heap.size #[.int .i64 0, .int .u64 0, .int .i64 0, .int .i64 0] 42).cell 3
          have f3 : (W80.alloc (.cells #[.int .i64 (x.k : Int), .int .u64 (x.a : Int), .int .i64 (x.s : Int), .int .i64 (x.g : Int)] 42)).frozen? ⟨w.heap.size, 3, none⟩ = false := (⟨(X5.out.since hb81).row⟩ : RowC _ w.heap.size #[.int .i64 0, .int .u64 0, .int .i64 0, .int .i64 0] 42).free 3
          clear X81 Z81 hb82 hb81 X5 H5 M5 HRL4 HO4
          go_wp2_with fail
          go_region
          go_wp2_with fail
          obtain ⟨W83, HW83⟩ : ∃ W83, Hid (W83 = set4 W81 w.heap.size ((x.k : Int)) ((x.a : Int)) ((x.s : Int)) ((x.g : Int))) := ⟨_, rfl⟩
          rw [← HW83.out] at S82 M82 Y82
          rw [HW81.out] at HW83
          rw [← HW81.out] at HW83
          rw [← HW83.out] at RD9
          rw [HW81.out] at HW83
          rw [show (((((W80.alloc (.cells #[.int .i64 (x.k : Int), .int .u64 (x.a : Int), .int .i64 (x.s : Int), .int .i64 (x.g : Int)] 42)).setCell ⟨w.heap.size, 0, none⟩ (.int .i64 (x.k : Int))).setCell ⟨w.heap.size, 1, none⟩ (.int .u64 (x.a : Int))).setCell ⟨w.heap.size, 2, none⟩ (.int .i64 (x.s : Int))).setCell ⟨w.heap.size, 3, none⟩ (.int .i64 (x.g : Int))) = W83 from HW83.out.symm]
          have hd : Below W83.heap.size W83 W83.drew := (Below.refl _ _).drew
          refine run_get (⟨Y82.out.row⟩ : RowC W83.drew w.heap.size _ _) rfl rfl rfl rfl ?_
          rw [← HR.out, getS_ok HP.out (Int.not_lt.2 HBN.out) HO.out HR4.out, HRD.out]
          exact ⟨_, _, _, _, rfl, ErrNew.none_, ⟨_, _, _, rfl, RD9.out.since hd, rfl⟩, S82.out.since hd, M82.out.trans (Moves.of_below hd)⟩
      · have HE4 := Lib.hid he4
        have HPE := Lib.hid (E4.out.pos he4)
        have CC := Lib.hid (code_wrong e4 _ W4 (E4.out.wrong he4))
        obtain ⟨xv, HXV⟩ := (E4.out.wrong he4).ne
        subst HXV
        clear E4 he4 RW4
        go_wp2_with fail
        refine CC.out.mono ?_
        rintro e w9 ⟨rfl, rfl⟩
        clear CC
        have CW := fun st => Lib.hid (swrong_new st e4 HPE.out W4 (withB (fpS g gm fy fc4) w.heap.size) (fun b h => by rcases h with h | h; exact H4.out.lt b h; rw [h]; exact X4.out.lt))
        go_wp2_with fail
        refine (CW _).out.mono ?_
        rintro e W5 ⟨v5, rfl, he5, hb5⟩
        have E5 := Lib.hid ((he5.wide (w := w) M4.out.size fun b h => Or.inl h).set4 0 0 0 0)
        have S5 : Hid (StoreAt (set4 W5 w.heap.size 0 0 0 0) base (fpS g gm fy fc4) g gc _) := StoreAt.set4 ⟨n0, HO4.out, _, _, _, _, rfl, H4.out.since hb5⟩ X4.out.safe 0 0 0 0
        have M5 := Lib.hid ((M4.out.trans (Moves.of_below hb5)).set4 (b := w.heap.size) (Nat.le_refl _) 0 0 0 0)
        have X5 := Lib.hid (X4.out.since hb5)
        have Y5 := Lib.hid (set4_row (⟨X5.out.row⟩ : RowC W5 w.heap.size _ _) 0 0 0 0)
        clear CW H4 M4 he5 hb5 X4 
        have e0 : W5.cell? ⟨w.heap.size, 0, none⟩ = some (.int .i64 0) := (⟨X5.out.row⟩ : RowC W5 w.heap.size #[.int .i64 0, .int .u64 0, .int .i64 0, .int .i64 0] 42).cell 0
        have f0 : W5.frozen? ⟨w.heap.size, 0, none⟩ = false := (⟨X5.out.row⟩ : RowC W5 w.heap.size #[.int .i64 0, .int .u64 0, .int .i64 0, .int .i64 0] 42).free 0
        have e1 : W5.cell? ⟨w.heap.size, 1, none⟩ = some (.int .u64 0) := (⟨X5.out.row⟩ : RowC W5 w.heap.size #[.int .i64 0, .int .u64 0, .int .i64 0, .int .i64 0] 42).cell 1
        have f1 : W5.frozen? ⟨w.heap.size, 1, none⟩ = false := (⟨X5.out.row⟩ : RowC W5 w.heap.size #[.int .i64 0, .int .u64 0, .int .i64 0, .int .i64 0] 42).free 1
        have e2 : W5.cell? ⟨w.heap.size, 2, none⟩ = some (.int .i64 0) := (⟨X5.out.row⟩ : RowC W5 w.heap.size #[.int .i64 0, .int .u64 0, .int .i64 0, .int .i64 0] 42).cell 2
        have f2 : W5.frozen? ⟨w.heap.size, 2, none⟩ = false := (⟨X5.out.row⟩ : RowC W5 w.heap.size #[.int .i64 0, .int .u64 0, .int .i64 0, .int .i64 0] 42).free 2
        have e3 : W5.cell? ⟨w.heap.size, 3, none⟩ = some (.int .i64 0) := (⟨X5.out.row⟩ : RowC W5 w.heap.size #[.int .i64 0, .int .u64 0, .int .i64 0, .int .i64 0] 42).cell 3
        have f3 : W5.frozen? ⟨w.heap.size, 3, none⟩ = false := (⟨X5.out.row⟩ : RowC W5 w.heap.size #[.int .i64 0, .int .u64 0, .int .i64 0, .int .i64 0] 42).free 3
        go_wp2_with fail
        clear e0 e1 e2 e3 f0 f1 f2 f3
        refine run_get Y5.out rfl rfl rfl rfl ?_
        rw [← HR.out, getS_no HP.out (Int.not_lt.2 HBN.out) HO.out HR4.out HE4.out]
        exact ⟨_, _, _, _, rfl, E5.out, ⟨rfl, rfl⟩, S5.out, M5.out⟩
end
end Go.Proofs.YthgkdnegnecnjaaGreatDoor

/- What every program of these answers that is one, as mathematics. No conditions. -/
set_option linter.unusedVariables false
set_option linter.unusedSimpArgs false
set_option maxRecDepth 20000
namespace Go.Proofs.YthgkdnegnecnjaaGreatDoor
open Go.RowKit

def c16 (marks : List Int) (ms : List M) : Chip := Chip.fresh 16 4 128 marks ms
theorem new16 : newS (c16 [] []) = (startS (c16 [] []), 0) := by kernel_rfl
def wroteC (raw : List Nat) : Chip := { (c16 [] []).tick.setB 0 (Chip.wrote ((c16 [] []).blk 0) 0 raw) with programs := 1 }
theorem prog16 {raw : List Nat} (hr : raw.length = 156) : (c16 [] []).program 0 0 raw = (wroteC raw, 0) := by
  refine (Chip.program_ok (by unfold Chip.why; rw [hr]; rfl) (by kernel_rfl) (by kernel_rfl) (by kernel_rfl) (Chip.dark_none rfl) (Chip.fails_none rfl)).trans ?_
  rfl
def y16 : Yd := ((((startS (c16 [] [])).y.setS 0 2).setT 0 1).setN 0 0 true).setD 0 0 false
def s16 (raw : List Nat) (x : Hd.H) : SS := ⟨wroteC raw, y16, updH (fun _ => none) 0 (some x)⟩
theorem put16 {raw ds : List Nat} {x : Hd.H} (hl : ds.length = 128) (hr : raw.length = 156) (hlay : layO ds 1 7 1 0 = some raw) (hx : hN 1 7 1 0 = x) : putS (startS (c16 [] [])) 1 7 1 0 ds = (s16 raw x, 0, 0) := by
  rw [putS_on hlay (by rw [hl]; rfl) rfl, hx]
  refine putL_ok (f := 39) (b := 0) (by kernel_rfl) (by decide) ?_
  refine (prog_free (s1 := ⟨c16 [] [], (openY (startS (c16 [] [])).y 0).1, fun _ => none⟩) (by kernel_rfl) (by kernel_rfl)).trans ?_
  refine (tail_ok1 (y := (nextY (openY (startS (c16 [] [])).y 0).1 0).1) (k := 0) (c := wroteC raw) (by kernel_rfl) (prog16 hr) ?_).trans ?_
  · show ((4 : Nat) : Int) - ((wroteC raw).next 0 : Int) ≠ 0
    rw [show (wroteC raw).next 0 = 1 from by kernel_rfl]
    decide
  · refine Prod.ext ?_ (by kernel_rfl)
    show keepS _ _ _ _ = _
    unfold keepS s16
    congr 1
    · kernel_rfl
theorem get16 {raw : List Nat} {x : Hd.H} (hr : raw.length = 156) : getS (s16 raw x) 0 = ({ s16 raw x with c := (wroteC raw).tick }, 0, rdB raw) := by
  refine getS_ok (b := 0) (k := 0) (h := x) (raw := raw) (by kernel_rfl) (by decide) (by show updH (fun _ => none) 0 (some x) 0 = some x; exact updH_same _ _ _) ?_
  rw [Chip.read_ok (by kernel_rfl) (Chip.dark_none rfl)]
  refine Prod.ext rfl (Prod.ext rfl ?_)
  show (wroteC raw).page 0 0 = raw
  rfl
theorem none16 {raw : List Nat} {x : Hd.H} : getS ({ s16 raw x with c := (wroteC raw).tick }) 63 = ({ s16 raw x with c := (wroteC raw).tick }, 8, .torn) :=
  getS_none (b := 15) (k := 3) (by kernel_rfl) (by decide) (by show updH (fun _ => none) 0 (some x) 63 = none; exact updH_other _ _ (by decide))
theorem room16 {raw : List Nat} {x : Hd.H} : roomS ({ s16 raw x with c := (wroteC raw).tick }) = 63 := by kernel_rfl
end Go.Proofs.YthgkdnegnecnjaaGreatDoor

/- What the statements' walks share: their geometry; a Put over a Fill in one region that draws. Conditions: the store's cells. -/
set_option linter.unusedVariables false
set_option linter.unusedSimpArgs false
set_option maxRecDepth 20000
namespace Go.Proofs.YthgkdnegnecnjaaGreatDoor
open Go.RowKit

theorem geo16_any (w : World) : Calls Tryz.prog 14 #[] w (SaysV w (.agg #[.int .i64 16, .int .i64 4, .int .i64 128])) := by
  have r := RowC.new w #[.int .i64 0, .int .i64 0, .int .i64 0] 30
  have f0 := r.free 0
  have f1 := r.free 1
  have f2 := r.free 2
  have r0 : (w.alloc (.cells #[.int .i64 0, .int .i64 0, .int .i64 0] 30)).cell? ⟨w.heap.size, 0, none⟩ = some (.int .i64 0) := r.cell 0
  have r1 : (w.alloc (.cells #[.int .i64 0, .int .i64 0, .int .i64 0] 30)).cell? ⟨w.heap.size, 1, none⟩ = some (.int .i64 0) := r.cell 1
  have r2 : (w.alloc (.cells #[.int .i64 0, .int .i64 0, .int .i64 0] 30)).cell? ⟨w.heap.size, 2, none⟩ = some (.int .i64 0) := r.cell 2
  have R9 := Lib.hid (RowC.new w #[.int .i64 16, .int .i64 4, .int .i64 128] 30)
  have S9 : Hid (Below w.heap.size w (w.alloc (.cells #[.int .i64 16, .int .i64 4, .int .i64 128] 30))) := (Below.refl _ _).alloc (Nat.le_refl _) _
  clear r
  go_enter Tryz.func14, Tryz.ntmps14
  go_wp2_with fail
  obtain ⟨W9, HW9⟩ : ∃ W9, Hid (W9 = w.alloc (.cells #[.int .i64 16, .int .i64 4, .int .i64 128] 30)) := ⟨_, rfl⟩
  rw [← HW9.out] at R9 S9 ⊢
  clear r0 r1 r2 f0 f1 f2
  have r0 : W9.cell? ⟨w.heap.size, 0, none⟩ = some (.int .i64 16) := R9.out.cell 0
  have r1 : W9.cell? ⟨w.heap.size, 1, none⟩ = some (.int .i64 4) := R9.out.cell 1
  have r2 : W9.cell? ⟨w.heap.size, 2, none⟩ = some (.int .i64 128) := R9.out.cell 2
  exact bodyPost_ret (v := .agg #[.int .i64 16, .int .i64 4, .int .i64 128]) (by simp [results, Tryz.results14, go_sem, r0, r1, r2]) rfl ⟨rfl, S9⟩
theorem infoChip : (Tryz.prog.info? 83).map (fun i => i.size) = some 9 := by kernel_rfl
theorem run_eql_chip (g : Nat) (W : World) : (binOp .eql 27 (.pointer (some ⟨g, 0, none⟩)) (.pointer (some ⟨g, 0, none⟩))).run Tryz.prog W = .ok (.bool true) W := by
  obtain ⟨i, hi, hs⟩ : ∃ i, Tryz.prog.info? 83 = some i ∧ i.size = 9 := by
    have := infoChip
    cases h : Tryz.prog.info? 83 with
    | none => rw [h] at this; cases this
    | some i => rw [h] at this; exact ⟨i, rfl, by simpa using this⟩
  have he : (Op.equal 27 (.pointer (some ⟨g, 0, none⟩)) (.pointer (some ⟨g, 0, none⟩))).run Tryz.prog W = .ok true W := by
    show (Op.equalIn (9999 + 1) 27 _ _).run _ _ = _
    rw [Op.equalIn]
    simp [run_underlying Tryz.underlying27, sizeOf, typeInfo, hi, hs, sameAddr]
  simp [binOp, he]
theorem StoreAt.ge {w : World} {base g gc : Nat} {fp : Nat → Prop} {s : SS} (h : StoreAt w base fp g gc s) : ∀ b, fp b → base ≤ b := h.le
/-- A page's bytes are made, and put, in a region that draws its order; it goes well. -/
structure PutJ (WD : World) (base g gc : Nat) (fp : Nat → Prop) (s1 : SS) (ds : List Nat) (n : Nat) (fs : List Bool) (vs : List Value) (W : World) : Prop where
  pre : fs.getD 1 false = false → Below WD.heap.size WD W ∧ (fs.getD 0 false = true → ∃ A c, vs.getD 0 undef = .slice A n c ∧ Own W WD.heap.size A n c ds)
  post : fs.getD 1 false = true → ∃ fp', StoreAt W base fp' g gc s1 ∧ Moves WD fp W fp'
section
variable {WD W W' : World} {base g gc n : Nat} {fp fp' : Nat → Prop} {s1 : SS} {ds : List Nat} {fs : List Bool} {vs : List Value}
theorem PutJ.later (h : PutJ WD base g gc fp s1 ds n fs vs W) (hl : Later W W') : PutJ WD base g gc fp s1 ds n fs vs W' := by
  refine ⟨fun e => ?_, fun e => ?_⟩
  · obtain ⟨h1, h2⟩ := h.pre e
    exact ⟨below_chain h1 hl, fun e2 => by obtain ⟨A, c, e3, h3⟩ := h2 e2; exact ⟨A, c, e3, h3.since hl⟩⟩
  · obtain ⟨fp', h1, h2⟩ := h.post e
    exact ⟨fp', h1.since hl, h2.trans (Moves.of_below hl)⟩
theorem PutJ.start (hv : vs.length = 1) : PutJ WD base g gc fp s1 ds n [false, false] vs WD.drew :=
  ⟨fun _ => ⟨(Below.refl _ _).drew, fun e => by cases e⟩, fun e => by cases e⟩
theorem PutJ.fill (h : PutJ WD base g gc fp s1 ds n fs vs W) (h1 : fs.getD 1 false = false) (hv : 0 < vs.length) {A : Option Addr} {c : Nat} (hb : Below W.heap.size W W') (ho : Own W' W.heap.size A n c ds) : PutJ WD base g gc fp s1 ds n (fs.set 0 true) (vs.set 0 (.slice A n c)) W' := by
  obtain ⟨k1, k2⟩ := h.pre h1
  have e1 : (fs.set 0 true).getD 1 false = fs.getD 1 false := by rw [List.getD_eq_getElem?_getD, List.getD_eq_getElem?_getD, List.getElem?_set_ne (by decide)]
  refine ⟨fun _ => ⟨below_chain k1 hb, fun _ => ⟨A, c, by rw [List.getD_eq_getElem?_getD, List.getElem?_set_self hv]; rfl, ho.elder k1.size⟩⟩, fun e => ?_⟩
  rw [e1, h1] at e
  cases e
theorem PutJ.put (h : PutJ WD base g gc fp s1 ds n fs vs W) (h1 : fs.getD 1 false = false) (hl : 1 < fs.length) (hs : StoreAt W' base fp' g gc s1) (hm : Moves W fp W' fp') : PutJ WD base g gc fp s1 ds n (fs.set 1 true) vs W' := by
  have e1 : (fs.set 1 true).getD 1 false = true := by rw [List.getD_eq_getElem?_getD, List.getElem?_set_self hl]; rfl
  refine ⟨fun e => ?_, fun _ => ⟨fp', hs, (Moves.of_below (h.pre h1).1).trans hm⟩⟩
  rw [e1] at e
  cases e
end
end Go.Proofs.YthgkdnegnecnjaaGreatDoor

/- What every program of these answers that is one: true. Conditions: what the listed variables hold. -/
set_option linter.unusedVariables false
set_option linter.unusedSimpArgs false
set_option maxRecDepth 20000
namespace Go.Proofs.YthgkdnegnecnjaaGreatDoor
open Go.RowKit

theorem sawake_with (ds raw : List Nat) (x : Hd.H) (w : World) (hT : Tabs w) (hW : Wid w) (HDS : Hid (ds = fillL 3 128)) (HLAY : Hid (layO ds 1 7 1 0 = some raw)) (HX : Hid (hN 1 7 1 0 = x)) (HRD : Hid (Hd.Reads raw (.valid ds x))) (HLEN : Hid (raw.length = 156)) (HV : Hid (hdV x = .agg #[.int .i64 1, .int .u64 7, .int .i64 1, .int .i64 0])) :
    Calls Tryz.prog 12 #[] w (SaysB w true) := by
  have HT := Lib.hid hT
  have HW := Lib.hid hW
  have hdl : ds.length = 128 := by rw [HDS.out, fillL_len]
  have HPUT := Lib.hid (put16 hdl HLEN.out HLAY.out HX.out)
  have HGET := Lib.hid (get16 (x := x) HLEN.out)
  have HNO := Lib.hid (none16 (raw := raw) (x := x))
  have HRM := Lib.hid (room16 (raw := raw) (x := x))
  rw [rdB_of HRD.out] at HGET
  have HNEW := Lib.hid new16
  obtain ⟨c0, HC0⟩ : ∃ c0, Hid (c16 [] [] = c0) := ⟨_, rfl⟩
  have HMAY : Hid (mayG (geoOf c0) = true) := by show _ = _; rw [← HC0.out]; kernel_rfl
  have HON : Hid (c0.on = true) := by show _ = _; rw [← HC0.out]; rfl
  have HOP0 : Hid (c0.ops = 0) := by show _ = _; rw [← HC0.out]; rfl
  have HSW : Hid (SW (startS c0)) := by show SW _; rw [← HC0.out]; exact ⟨by kernel_rfl, by kernel_rfl, by kernel_rfl⟩
  have HOS0 : Hid ((startS c0).c.ops = 0) := HOP0
  rw [HC0.out] at HNEW HPUT
  obtain ⟨s0, HS0⟩ : ∃ s0, Hid (startS c0 = s0) := ⟨_, rfl⟩
  have HOP1 : Hid ((s16 raw x).c.ops = 1) := rfl
  obtain ⟨s1, HS1⟩ : ∃ s1, Hid (s16 raw x = s1) := ⟨_, rfl⟩
  have HOP2 : Hid (({ s16 raw x with c := (wroteC raw).tick } : SS).c.ops = 2) := rfl
  obtain ⟨s2, HS2⟩ : ∃ s2, Hid (({ s16 raw x with c := (wroteC raw).tick } : SS) = s2) := ⟨_, rfl⟩
  rw [HS0.out] at HNEW HPUT HSW HOS0
  rw [HS1.out] at HPUT HGET HOP1
  rw [HS2.out] at HNO HRM HOP2
  have HGET : Hid (getS s1 0 = (s2, 0, .valid ds x)) := by rw [← HS2.out, ← HS1.out]; rw [← HS1.out] at HGET; exact HGET
  clear HS0 HS1 HS2 HLAY HX HRD HLEN hT hW
  go_enter Tryz.func12, Tryz.ntmps12
  go_wp2_with fail
  refine (geo16_any w).mono ?_
  rintro e W0 ⟨rfl, hb0⟩
  have S0 := Lib.hid hb0.out
  clear hb0
  go_wp2_with fail
  refine (new_yes 16 4 128 none 0 0 [] none 0 0 [] W0 (by kernel_rfl) Kind.Lie.none_ Kind.Lie.none_ (by decide) (by decide)).mono ?_
  rintro e W1 ⟨gc, fc, rfl, hc1, hb1⟩
  rw [show Chip.fresh 16 4 128 [] [] = c0 from HC0.out] at hc1
  have S1 := Lib.hid (below_chain S0.out hb1)
  have C1 := Lib.hid (hc1.elder S0.out.size)
  clear hc1 hb1 S0 HC0
  go_wp2_with fail
  refine (snew_any HMAY.out HON.out HT.out HW.out S1.out (Nat.le_refl _) (by rw [HOP0.out]; decide) C1.out).mono ?_
  rw [HNEW.out]
  rintro e W2 hn2
  obtain ⟨g, fp, rfl, hg2, hs2, hm2⟩ : ∃ g fp, e = .returned (.tuple #[.pointer (some ⟨g, 0, none⟩), .nilIface]) ∧ W1.heap.size ≤ g ∧ StoreAt W2 w.heap.size fp g gc s0 ∧ Moves W1 fc W2 fp := by
    rcases hn2 with h | h
    · exact h.2
    · exact absurd rfl h.1
  have S2 := Lib.hid (hm2.below S1.out C1.out.ge S1.out.size)
  have C2 := Lib.hid hs2
  clear hn2 hg2 hs2 hm2 S1 C1 HNEW HMAY HON HOP0
  go_wp2_with fail
  refine (snew_nil W2).mono ?_
  rintro e W3 ⟨v3, rfl, he3, hb3⟩
  have S3 := Lib.hid (below_chain S2.out hb3)
  have C3 := Lib.hid (C2.out.since hb3)
  have E3 := Lib.hid ((he3.wide (fp' := fp) (Nat.le_refl _) fun b hb => Or.inr (C2.out.lt b hb)).at_)
  clear he3 hb3 S2 C2
  obtain ⟨W4, HW4⟩ : ∃ W4, Hid (W4 = W3.alloc (.cells #[.int .i64 1, .int .u64 7, .int .i64 1, .int .i64 0] 42)) := ⟨_, rfl⟩
  have hb4 : Below W3.heap.size W3 W4 := by rw [HW4.out]; exact (Below.refl _ _).alloc (Nat.le_refl _) _
  have B4 := Lib.hid (RestC.new W3 #[.int .i64 1, .int .u64 7, .int .i64 1, .int .i64 0] 42 C3.out.lt)
  rw [← HW4.out] at B4
  have S4 := Lib.hid (below_chain S3.out hb4)
  have C4 := Lib.hid (C3.out.since hb4)
  have E4 := Lib.hid (E3.out.step (Moves.of_below hb4))
  have HB3 : Hid (w.heap.size ≤ W3.heap.size) := S3.out.size
  clear hb4 S3 C3 E3
  have k0 : (W3.alloc (.cells #[.int .i64 1, .int .u64 7, .int .i64 1, .int .i64 0] 42)).cell? ⟨W3.heap.size, 0, none⟩ = some (.int .i64 1) := by rw [← HW4.out]; exact B4.out.cell 0
  go_wp2_with fail
  rw [← HW4.out]
  clear HW4 k0
  have HDL := Lib.hid hdl
  clear hdl
  refine region_of_steps7 (by kernel_rfl) [some (.pointer (some ⟨g, 0, none⟩)), some (Value.agg #[Value.int .i64 1, Value.int .u64 7, Value.int .i64 1, Value.int .i64 0]), none, some (Value.tuple #[Value.int .i64 0, Value.nilIface]), some (Value.tuple #[Value.int .i64 0, Value.nilIface]), some (.int .i64 0), some (.nilIface), some (.int .i64 0), some (.nilIface)] [2, 3] [40] (PutJ W4 w.heap.size g gc fp s1 ds 128) (by kernel_rfl) (by kernel_rfl) (PutJ.start rfl) ?_ ?_
  · refine Steps7.cons ?_ (Steps7.cons ?_ (Steps7.cons ?_ (Steps7.cons ?_ (Steps7.cons ?_ (Steps7.cons ?_ (Steps7.cons ?_ (Steps7.cons ?_ (Steps7.cons ?_ (Steps7.nil)))))))))
    · intro listed a W H hj hl hd
      have t2 : a.tmps.getD 2 undef = .pointer (some ⟨g, 0, none⟩) := (H.old 2 (by kernel_rfl)).trans rfl
      exact step7_value (i := 0) rfl rfl (run_op_move rfl t2) (calm7 (fun fs vs x y h hl => PutJ.later h hl) (by kernel_rfl) (by kernel_rfl) hj (later_refl _)) rfl
    · intro listed a W H hj hl hd
      have t6 : a.tmps.getD 6 undef = .pointer (some ⟨W3.heap.size, 0, none⟩) := (H.old 6 (by kernel_rfl)).trans rfl
      exact step7_value (i := 1) rfl rfl (run_op_load rfl t6 (run_load_head (⟨(B4.out.since (hj.pre (H.notyets 4 hl (by kernel_rfl))).1).cell 0, (B4.out.since (hj.pre (H.notyets 4 hl (by kernel_rfl))).1).cell 1, (B4.out.since (hj.pre (H.notyets 4 hl (by kernel_rfl))).1).cell 2, (B4.out.since (hj.pre (H.notyets 4 hl (by kernel_rfl))).1).cell 3⟩ : HeadAt W W3.heap.size 1 7 1 0))) (calm7 (fun fs vs x y h hl => PutJ.later h hl) (by kernel_rfl) (by kernel_rfl) hj (later_refl _)) rfl
    · intro listed a W H hj hl hd
      refine step7_call (i := 2) rfl rfl (run_op_call (vs := #[.int .i64 3, .int .i64 128]) Tryz.func24 (by kernel_rfl) (by kernel_rfl) rfl (by simp only [List.map_toArray, List.map_cons, List.map_nil]; show (#[.int .i64 3, .int .i64 128] : Array Value) = _; rfl)) ?_
      have f1 : (flags [2, 3] listed).getD 1 false = false := H.notyets 4 hl (by kernel_rfl)
      refine (fill_any 3 128 128 W rfl (by decide) (by decide) (by decide)).mono ?_
      rintro e w' ⟨A9, n9, c9, rfl, ho9, hb9⟩
      rw [← HDS.out] at ho9
      obtain rfl : 128 = n9 := by rw [← ho9.len]; exact HDL.out.symm
      have hk9 := hj.fill f1 (by rw [slots_len]; decide) (c := c9) hb9 ho9
      rw [← flags_put (m := 2) 0 rfl (by decide), ← slots_at (a := a) (d := 40) 0 rfl (by decide) (by rw [H.size]; exact of_decide_eq_true (by kernel_rfl))] at hk9
      exact ⟨_, rfl, hk9, trivial⟩
    · intro listed a W H hj hl hd
      have t38 : a.tmps.getD 38 undef = .pointer (some ⟨g, 0, none⟩) := H.get 0 38 (by kernel_rfl) (dep_of hd 0 (by kernel_rfl)) (fun _ h => by cases h)
      have t39 : a.tmps.getD 39 undef = Value.agg #[Value.int .i64 1, Value.int .u64 7, Value.int .i64 1, Value.int .i64 0] := H.get 1 39 (by kernel_rfl) (dep_of hd 1 (by kernel_rfl)) (fun _ h => by cases h)
      have d40 : listed.getD 2 false = true := dep_of hd 2 (by kernel_rfl)
      refine step7_call (i := 3) rfl rfl (run_op_call (vs := #[.pointer (some ⟨g, 0, none⟩), Value.agg #[Value.int .i64 1, Value.int .u64 7, Value.int .i64 1, Value.int .i64 0], a.tmps.getD 40 undef]) Tryz.func23 (by kernel_rfl) (by kernel_rfl) rfl (by simp only [List.map_toArray, List.map_cons, List.map_nil]; show (#[a.tmps.getD 38 undef, a.tmps.getD 39 undef, a.tmps.getD 40 undef] : Array Value) = _; rw [t38, t39])) ?_
      have f1 : (flags [2, 3] listed).getD 1 false = false := hl
      have d40 : listed.getD 2 false = true := dep_of hd 2 (by kernel_rfl)
      have f0 : (flags [2, 3] listed).getD 0 false = true := done_true d40
      obtain ⟨hb9, h9⟩ := hj.pre f1
      obtain ⟨A9, c9, e9, o9⟩ := h9 f0
      have e9a : a.tmps.getD 40 undef = .slice A9 128 c9 := e9
      rw [e9a]
      have S9 := below_chain S4.out hb9
      refine (put_any 1 7 1 0 A9 128 c9 ds (HT.out.since S9) (HW.out.since S9) o9.bytes (by decide) (by decide) (by decide) HSW.out (by rw [HOS0.out]; decide) (C4.out.since hb9)).mono ?_
      rw [HPUT.out]
      rintro e w' ⟨v9, fp9, rfl, he9, hs9, hm9⟩
      obtain rfl := he9.nil
      have hk9 := hj.put f1 (by simp [flags]) hs9 hm9
      rw [← flags_put (m := 3) 1 rfl (by decide)] at hk9
      refine ⟨_, rfl, ?_, rfl⟩
      rw [slots_put (by intro k hk; cases hk; rfl)]
      exact hk9
    · intro listed a W H hj hl hd
      have t41 : a.tmps.getD 41 undef = Value.tuple #[Value.int .i64 0, Value.nilIface] := H.get 3 41 (by kernel_rfl) (dep_of hd 3 (by kernel_rfl)) (fun _ h => by cases h)
      exact step7_value (i := 4) rfl rfl (run_op_move rfl t41) (calm7 (fun fs vs x y h hl => PutJ.later h hl) (by kernel_rfl) (by kernel_rfl) hj (later_refl _)) rfl
    · intro listed a W H hj hl hd
      have t37 : a.tmps.getD 37 undef = Value.tuple #[Value.int .i64 0, Value.nilIface] := H.get 4 37 (by kernel_rfl) (dep_of hd 4 (by kernel_rfl)) (fun _ h => by cases h)
      exact step7_value (i := 5) rfl rfl (run_op_extract rfl t37 rfl) (calm7 (fun fs vs x y h hl => PutJ.later h hl) (by kernel_rfl) (by kernel_rfl) hj (later_refl _)) rfl
    · intro listed a W H hj hl hd
      have t37 : a.tmps.getD 37 undef = Value.tuple #[Value.int .i64 0, Value.nilIface] := H.get 4 37 (by kernel_rfl) (dep_of hd 4 (by kernel_rfl)) (fun _ h => by cases h)
      exact step7_value (i := 6) rfl rfl (run_op_extract rfl t37 rfl) (calm7 (fun fs vs x y h hl => PutJ.later h hl) (by kernel_rfl) (by kernel_rfl) hj (later_refl _)) rfl
    · intro listed a W H hj hl hd
      have t42 : a.tmps.getD 42 undef = .int .i64 0 := H.get 5 42 (by kernel_rfl) (dep_of hd 5 (by kernel_rfl)) (fun _ h => by cases h)
      exact step7_value (i := 7) rfl rfl (run_op_assign rfl t42) (calm7 (fun fs vs x y h hl => PutJ.later h hl) (by kernel_rfl) (by kernel_rfl) hj (later_refl _)) rfl
    · intro listed a W H hj hl hd
      have t43 : a.tmps.getD 43 undef = .nilIface := H.get 6 43 (by kernel_rfl) (dep_of hd 6 (by kernel_rfl)) (fun _ h => by cases h)
      exact step7_value (i := 8) rfl rfl (run_op_assign rfl t43) (calm7 (fun fs vs x y h hl => PutJ.later h hl) (by kernel_rfl) (by kernel_rfl) hj (later_refl _)) rfl
  · intro a WC hdef hsz hw hall hact
    obtain ⟨u, hu⟩ : ∃ u : Nat → Value, ∀ k, a.tmps.getD k undef = u k := ⟨_, fun _ => rfl⟩
    have h7 : u 7 = .int .i64 0 := by rw [← hu]; exact hall 7 _ rfl
    have h8 : u 8 = .nilIface := by rw [← hu]; exact hall 8 _ rfl
    simp only [hu] at hact
    have hact' : a = ([38, 39, 40, 41, 37, 42, 43, 7, 8] : List Nat).foldl (fun b k => b.put (some k) (u k)) _ := hact
    simp only [List.foldl] at hact'
    simp only [Act.put, List.setIfInBounds_toArray, List.set_cons_succ, List.set_cons_zero] at hact'
    have HAC := Lib.hid hact'
    have HX := Lib.hid hw
    clear hact hact' hall hdef hsz hw
    rw [h7, h8] at HAC
    rw [HAC.out]
    obtain ⟨fp5, hs5, hm5⟩ := HX.out.post rfl
    obtain ⟨W5, HW5⟩ : ∃ W5, Hid (W5 = WC) := ⟨_, rfl⟩
    rw [← HW5.out]
    rw [← HW5.out] at hs5 hm5
    have S5 := Lib.hid (hm5.below S4.out C4.out.ge S4.out.size)
    have C5 := Lib.hid hs5
    have E5 := Lib.hid (E4.out.step hm5)
    have B5 := Lib.hid (B4.out.step hm5)
    clear HX HW5 HAC hu hs5 hm5 S4 C4 E4 B4 HPUT HSW HOS0
    go_wp2_with fail
    refine (sget_any 0 HT.out HW.out S5.out (Nat.le_refl _) (by rw [HOP1.out]; decide) C5.out).mono ?_
    rw [HGET.out]
    rintro e W6 ⟨x6, y6, v6, fp6, rfl, he6, ⟨A6, n6, c6, rfl, hr6, rfl⟩, hs6, hm6⟩
    obtain rfl := he6.nil
    rw [HV.out]
    have S6 := Lib.hid (hm6.below S5.out C5.out.ge S5.out.size)
    have C6 := Lib.hid hs6
    have E6 := Lib.hid (E5.out.step hm6)
    have B6 := Lib.hid (B5.out.step hm6)
    have R6 := Lib.hid hr6
    clear he6 hr6 hs6 hm6 S5 C5 E5 B5 HGET
    obtain ⟨W7, HW7⟩ : ∃ W7, Hid (W7 = W6.alloc (.cells #[.int .i64 1, .int .u64 7, .int .i64 1, .int .i64 0] 42)) := ⟨_, rfl⟩
    have hb7 : Below W6.heap.size W6 W7 := by rw [HW7.out]; exact (Below.refl _ _).alloc (Nat.le_refl _) _
    have D7 := Lib.hid (RestC.new W6 #[.int .i64 1, .int .u64 7, .int .i64 1, .int .i64 0] 42 C6.out.lt)
    rw [← HW7.out] at D7
    have S7 := Lib.hid (below_chain S6.out hb7)
    have C7 := Lib.hid (C6.out.since hb7)
    have E7 := Lib.hid (E6.out.step (Moves.of_below hb7))
    have B7 := Lib.hid (B6.out.since hb7)
    have R7 := Lib.hid (R6.out.since hb7)
    have HH6 : Hid (w.heap.size ≤ W6.heap.size) := S6.out.size
    clear hb7 S6 C6 E6 B6 R6
    go_wp2_with fail
    rw [← HW7.out]
    clear HW7
    refine (sget_any 63 HT.out HW.out S7.out (Nat.le_refl _) (by rw [HOP2.out]; decide) C7.out).mono ?_
    rw [HNO.out]
    rintro e W8 ⟨x8, y8, v8, fp8, rfl, he8, ⟨rfl, rfl⟩, hs8, hm8⟩
    have S8 := Lib.hid (hm8.below S7.out C7.out.ge S7.out.size)
    have C8 := Lib.hid hs8
    have E8 := Lib.hid (E7.out.step hm8)
    have B8 := Lib.hid (B7.out.step hm8)
    have D8 := Lib.hid (D7.out.step hm8)
    have R8 := Lib.hid (R7.out.step hm8)
    have G8 := Lib.hid he8.at_
    clear he8 hs8 hm8 S7 C7 E7 B7 D7 R7 HNO
    obtain ⟨W9, HW9⟩ : ∃ W9, Hid (W9 = W8.alloc (.cells #[.int .i64 0, .int .u64 0, .int .i64 0, .int .i64 0] 42)) := ⟨_, rfl⟩
    have hb9 : Below W8.heap.size W8 W9 := by rw [HW9.out]; exact (Below.refl _ _).alloc (Nat.le_refl _) _
    have S9 := Lib.hid (below_chain S8.out hb9)
    have C9 := Lib.hid (C8.out.since hb9)
    have E9 := Lib.hid (E8.out.step (Moves.of_below hb9))
    have G9 := Lib.hid (G8.out.step (Moves.of_below hb9))
    have B9 := Lib.hid (B8.out.since hb9)
    have D9 := Lib.hid (D8.out.since hb9)
    have R9 := Lib.hid (R8.out.since hb9)
    clear hb9 S8 C8 E8 G8 B8 D8 R8
    go_wp2_with fail
    rw [← HW9.out]
    clear HW9
    refine (err_num E9.out).mono ?_
    rintro e w9 ⟨rfl, rfl⟩
    go_wp2_with fail
    refine (fill_any 3 128 128 _ rfl (by decide) (by decide) (by decide)).mono ?_
    rintro e Wa ⟨Aa, na, ca, rfl, hoa, hba⟩
    rw [← HDS.out] at hoa
    have Sa := Lib.hid (below_chain S9.out hba)
    have Ca := Lib.hid (C9.out.since hba)
    have Ga := Lib.hid (G9.out.step (Moves.of_below hba))
    have Ba := Lib.hid (B9.out.since hba)
    have Da := Lib.hid (D9.out.since hba)
    have Ra := Lib.hid (R9.out.since hba)
    have Oa := Lib.hid hoa
    clear hba hoa S9 C9 G9 B9 D9 R9 E9
    obtain rfl : 128 = n6 := by rw [← Ra.out.own.bytes.len]; exact HDL.out.symm
    obtain rfl : 128 = na := by rw [← Oa.out.bytes.len]; exact HDL.out.symm
    go_wp2_with fail
    refine (same_any _ _ _ _ _ _ _ _ Wa (by decide) (by decide) Ra.out.own.bytes Oa.out.bytes).mono ?_
    rw [show sameB ds ds = true from decide_eq_true rfl]
    rintro e Wb ⟨rfl, hbb⟩
    have Sb := Lib.hid (below_chain Sa.out hbb)
    have Cb := Lib.hid (Ca.out.since hbb)
    have Gb := Lib.hid (Ga.out.step (Moves.of_below hbb))
    have Bb := Lib.hid (Ba.out.since hbb)
    have Db := Lib.hid (Da.out.since hbb)
    clear hbb Sa Ca Ga Ba Da Ra Oa
    have p0 : Wb.cell? ⟨W6.heap.size, 0, none⟩ = some (.int .i64 1) := Db.out.cell 0
    have p1 : Wb.cell? ⟨W6.heap.size, 1, none⟩ = some (.int .u64 7) := Db.out.cell 1
    have p2 : Wb.cell? ⟨W6.heap.size, 2, none⟩ = some (.int .i64 1) := Db.out.cell 2
    have p3 : Wb.cell? ⟨W6.heap.size, 3, none⟩ = some (.int .i64 0) := Db.out.cell 3
    have q0 : Wb.cell? ⟨W3.heap.size, 0, none⟩ = some (.int .i64 1) := Bb.out.cell 0
    have q1 : Wb.cell? ⟨W3.heap.size, 1, none⟩ = some (.int .u64 7) := Bb.out.cell 1
    have q2 : Wb.cell? ⟨W3.heap.size, 2, none⟩ = some (.int .i64 1) := Bb.out.cell 2
    have q3 : Wb.cell? ⟨W3.heap.size, 3, none⟩ = some (.int .i64 0) := Bb.out.cell 3
    have heq := run_eql_head 1 7 1 0 1 7 1 0 Wb
    rw [headB_self] at heq
    go_wp2_with (simp only [heq])
    clear p0 p1 p2 p3 q0 q1 q2 q3 heq
    refine (err_num Gb.out).mono ?_
    rintro e w9 ⟨rfl, rfl⟩
    go_wp2_with fail
    obtain ⟨nn, _, hsn⟩ := Cb.out
    have HSN := Lib.hid hsn
    clear hsn
    refine (sroom_any HSN.out).mono ?_
    rw [HRM.out]
    rintro e Wc ⟨rfl, hbc⟩
    have Sc := Lib.hid (below_chain Sb.out hbc.out)
    have Cc := Lib.hid (HSN.out.since hbc.out)
    clear hbc Sb Cb HSN
    go_wp2_with fail
    refine (chip_any Cc.out).mono ?_
    rintro e Wd ⟨rfl, hbd⟩
    have Sd := Lib.hid (below_chain Sc.out hbd.out)
    clear hbd Sc Cc
    have heq := run_eql_chip gc Wd
    go_wp2_with (simp only [heq])
    go_ret
    exact ⟨rfl, Sd.out⟩
theorem sawake_any (w : World) (hT : Tabs w) (hW : Wid w) : Calls Tryz.prog 12 #[] w (SaysB w true) := by
  have h1 : dataB (((fillL 3 128).length : Nat) : Int) = true := by rw [fillL_len]; decide
  have hlay := layO_yes (bs := fillL 3 128) (K := 1) (A := 7) (S := 1) (G := 0) h1 (by decide)
  have hok : Hd.Ok (hN 1 7 1 0) := hN_ok (by decide) (by decide) (by decide)
  exact sawake_with (fillL 3 128) _ _ w hT hW rfl hlay rfl (Hd.Reads.page hok (by rw [fillL_len]; exact ⟨by decide, by decide⟩)) (by show _ = _; rw [Hd.page_len, fillL_len]) rfl
end Go.Proofs.YthgkdnegnecnjaaGreatDoor
