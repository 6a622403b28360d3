/- What is left of an Erase under a mishap. Conditions: the chip's cells; fewer than a million operations. -/
import Derived.Test.YtgamjffedlkbeaaNandDo
set_option linter.unusedVariables false
set_option linter.unusedSimpArgs false
namespace Go.Proofs.Ytgamjffedlkbeaa
open Go.RowKit

section
variable {w w' : World} {base g : Nat} {fp : Nat → Prop} {s s' : Chip} {L : CL}
theorem Rep.befw (h : Rep w base fp g s L) : MWf s.bef := by
  unfold Chip.bef
  cases e : atM ((s.ops + 1 : Nat) : Int) s.ms with
  | none => exact mishK.ok
  | some m => exact atM_wf h.ms.wf e
/-- All bytes of a block are one: then its erases, its next page. -/
theorem Rep.filled (h : Rep w base fp g s L) {k x r c : Nat} (hk : k < s.nb) (hr : (L.at_ k).a = some ⟨r, 0, none⟩) (hc : (L.at_ k).c = c) (ho : Own w' base (some ⟨r, 0, none⟩) (s.np * (s.ns + 28)) c (List.replicate (s.np * (s.ns + 28)) x)) (ht : Turn (fun b => b = r) w w') :
    Rep w' base fp g (s.setB (k : Int) { s.nth k with pg := s.filled x }) L := by
  obtain ⟨r', c', e1, e2, e3, e4, e5, e6, e7⟩ := h.rawrow hk
  obtain ⟨p1, p2, p3, p4⟩ := Wf.nthpg h.wf hk
  refine h.bytes hk _ ?_ rfl rfl rfl rfl (fun b hb hn => ht.block b hb fun e => hn (by rw [hr, e]; simp [Go.Proofs.Ytgamjffedlkbeaa.blk])) ht.size (h.wf.setB hk _ (Chip.filled_len s x) (fun p hp => Chip.filled_each s x p hp) p3 p4)
  show Own w' base (L.at_ k).a (L.at_ k).n (L.at_ k).c (s.filled x).flatten
  rw [hr, hc, e2, Chip.filled_flat]; exact ho
/-- The stores behind a fill: b.wear++; b.next = 0; b.next = c.g.Pages. -/
theorem erase_stores {W2 : World} {F : List (List Nat)} {k e nx np : Nat} {P1 P2 : Addr} (h2 : Rep W2 base fp g (s.setB (k : Int) { s.nth k with pg := F }) L) (hk : k < s.nb) (hbs : s.bs.length = s.nb) (hw : (s.nth k).wear < s.ops)
    (he : (s.nth k).wear = e) (hx : (s.nth k).next = nx) (hnp : s.np = np) (hP1 : P1 = ⟨(L.ab.add (k * 5)).block, (L.ab.add (k * 5)).off + 1, none⟩) (hP2 : P2 = ⟨(L.ab.add (k * 5)).block, (L.ab.add (k * 5)).off + 2, none⟩) :
    (W2.cell? P2 = some (.int .i64 (e : Int)) ∧ W2.frozen? P2 = false) ∧
    ((W2.setCell P2 (.int .i64 ((e : Int) + 1))).cell? P1 = some (.int .i64 (nx : Int)) ∧ (W2.setCell P2 (.int .i64 ((e : Int) + 1))).frozen? P1 = false) ∧
    ((∃ L4, Rep ((W2.setCell P2 (.int .i64 ((e : Int) + 1))).setCell P1 (.int .i64 0)) base fp g (s.setB (k : Int) { s.nth k with pg := F, next := 0, wear := (s.nth k).wear + 1 }) L4) ∧ Moves W2 fp ((W2.setCell P2 (.int .i64 ((e : Int) + 1))).setCell P1 (.int .i64 0)) fp) ∧
    (((W2.setCell P2 (.int .i64 ((e : Int) + 1))).setCell P1 (.int .i64 0)).cell? ⟨g, 1, none⟩ = some (.int .i64 (np : Int)) ∧ ((W2.setCell P2 (.int .i64 ((e : Int) + 1))).setCell P1 (.int .i64 0)).cell? P1 = some (.int .i64 0) ∧ ((W2.setCell P2 (.int .i64 ((e : Int) + 1))).setCell P1 (.int .i64 0)).frozen? P1 = false) ∧
    ((∃ L5, Rep (((W2.setCell P2 (.int .i64 ((e : Int) + 1))).setCell P1 (.int .i64 0)).setCell P1 (.int .i64 (np : Int))) base fp g (s.setB (k : Int) { s.nth k with pg := F, next := s.np, wear := (s.nth k).wear + 1 }) L5) ∧ Moves W2 fp (((W2.setCell P2 (.int .i64 ((e : Int) + 1))).setCell P1 (.int .i64 0)).setCell P1 (.int .i64 (np : Int))) fp) := by
  subst hP1 hP2
  have hb : k < s.bs.length := by omega
  have hk2 : k < (s.setB (k : Int) { s.nth k with pg := F }).nb := hk
  have K2 := h2.cellsK hk2
  rw [nth_self hb] at K2
  have m2 := h2.mark_moves k 2 (.int .i64 ((e : Int) + 1))
  obtain ⟨L3, h3, a3, _, _⟩ := h2.setWear hk2 ((s.nth k).wear + 1) hw
  rw [nth_self hb, setB_twice, show (((s.nth k).wear + 1 : Nat) : Int) = (e : Int) + 1 by omega] at h3
  have K3 := h3.cellsK (k := k) hk
  rw [nth_self hb, a3] at K3
  have f3 := h3.free5 k 1
  rw [a3] at f3
  have m3 := h3.mark_moves k 1 (.int .i64 0)
  rw [a3] at m3
  obtain ⟨L4, h4, a4, _, _⟩ := h3.setNext (k := k) hk 0 (Nat.zero_le _)
  rw [nth_self hb, setB_twice, a3] at h4
  have K4 := h4.cellsK (k := k) hk
  rw [nth_self hb, a4, a3] at K4
  have f4 := h4.free5 k 1
  rw [a4, a3] at f4
  have m4 := h4.mark_moves k 1 (.int .i64 (np : Int))
  rw [a4, a3] at m4
  obtain ⟨L5, h5, a5, _, _⟩ := h4.setNext (k := k) hk s.np (Nat.le_refl _)
  rw [nth_self hb, setB_twice, a4, a3, hnp] at h5
  refine ⟨⟨?_, h2.free5 k 2⟩, ⟨?_, f3⟩, ⟨⟨L4, h4⟩, m2.trans m3⟩, ⟨?_, K4.c1, f4⟩, ⟨⟨L5, ?_⟩, (m2.trans m3).trans m4⟩⟩
  · have := K2.c2
    rw [he] at this; exact this
  · have := K3.c1
    rw [← hx]; exact this
  · have := h4.cells.c1
    rw [← hnp]; exact this
  · rw [← hnp] at h5 ⊢; exact h5
set_option maxHeartbeats 16000000 in
set_option maxRecDepth 20000 in
theorem erasein_any (m : M) (hmw : MWf m) (hm2 : m.kind = 0 ∨ m.kind = 1 ∨ m.kind = 2) (k : Nat) (h : Rep w base fp g s L) (hT : s.Tk) (hops : s.ops ≤ 1000000) (hk : k < s.nb) :
    Calls Try.prog 36 #[.pointer (some ⟨g, 0, none⟩), mishV m, .int .i64 (k : Int)] w (fun e w' => e = .returned (.int .i64 (s.eraseIn m (k : Int)).2) ∧ (∃ L', Rep w' base fp g (s.eraseIn m (k : Int)).1 L') ∧ Moves w fp w' fp) := by
  have L1 := later_alloc w (.cells #[.int .i64 m.at_, .int .i64 m.kind, .int .i64 m.bytes, .int .u8 m.fill] 45)
  have R1 := rowM_new w m
  have h1 := h.since L1
  obtain ⟨r, cc, q1, q2, q3, q4, q5, q6, q7⟩ := h1.rawrow hk
  obtain ⟨c0, c1, c2, c3, c4, c5, c6, c7, c8⟩ := h1.cells
  obtain ⟨d1, d2, d3, d4⟩ := h1.cellsK hk
  have hns := h.wf.ns2
  have hnb := h.wf.nb2
  have hnp := h.wf.np2
  have hms := hT.misuse
  have hwr : (s.nth k).wear < s.ops := hT.wear k hk
  have f7 := h1.free 7
  have f4 := h1.free5 k 4
  have HMB := Lib.hid (show s.blk (k : Int) = s.nth k from blk_nth s k)
  obtain ⟨nb, HNB⟩ : ∃ n : Nat, Hid (s.nb = n) := ⟨_, rfl⟩
  have i0 : (0 : Int) ≤ (k : Int) := by omega
  have i1 : (k : Int) < (nb : Int) := by rw [← HNB.out]; omega
  rw [HNB.out] at c4
  rw [HNB.out] at hnb
  obtain ⟨W1, HW1⟩ : ∃ W, Hid (W = w.alloc (.cells #[.int .i64 m.at_, .int .i64 m.kind, .int .i64 m.bytes, .int .u8 m.fill] 45)) := ⟨_, rfl⟩
  have H1 := Lib.hid h1
  have HR1 := Lib.hid R1
  have HM1 : Hid (Moves w fp W1 fp) := by rw [HW1.out]; exact Moves.of_below L1
  rw [← HW1.out] at H1 HR1
  by_cases hmk : (s.nth k).marked = true
  · have HV : Hid (s.eraseIn m (k : Int) = ({ s with misuse := s.misuse + 1 }, 6)) := by
      show _ = _
      unfold Chip.eraseIn
      rw [HMB.out, if_pos hmk]
    rw [HV.out]
    rw [hmk] at d3
    obtain ⟨o, HO⟩ : ∃ o : Nat, Hid (s.misuse = o) := ⟨_, rfl⟩
    have HF : Hid (Rep (W1.setCell ⟨g, 7, none⟩ (.int .i64 ((o : Int) + 1))) base fp g { s with misuse := s.misuse + 1 } L ∧ Moves w fp (W1.setCell ⟨g, 7, none⟩ (.int .i64 ((o : Int) + 1))) fp) := by
      rw [← HO.out]
      exact ⟨H1.out.misuse hT, HM1.out.trans (H1.out.head_moves 7 _)⟩
    rw [HO.out] at c7 hms
    have hoo : o ≤ 1000000 := by omega
    clear h h1 L1 R1 c0 c1 c2 c3 c5 c6 c8 d1 d2 d4 hmk hT hops hms hwr HO HV hmw hm2 q1 q2 q3 q4 q5 q6 q7 f4 H1 HR1 HM1
    unfold mishV
    go_enter Try.func36, Try.ntmps36
    go_wp2_with fail
    rw [← HW1.out]
    go_ret
    exact ⟨rfl, ⟨L, HF.out.1⟩, HF.out.2⟩
  have hmk' : (s.nth k).marked = false := by simpa using hmk
  rw [hmk'] at d3
  have HFL : Hid (∃ L', Rep (W1.setCell ⟨(L.ab.add (k * 5)).block, (L.ab.add (k * 5)).off + 4, none⟩ (.bool true)) base fp g (s.setB (k : Int) { s.nth k with failed := true }) L') := by
    obtain ⟨L2, h2, _⟩ := H1.out.setFailed hk
    exact ⟨L2, h2⟩
  have HFM : Hid (Moves w fp (W1.setCell ⟨(L.ab.add (k * 5)).block, (L.ab.add (k * 5)).off + 4, none⟩ (.bool true)) fp) := HM1.out.trans (H1.out.mark_moves k 4 _)
  have HVF : Hid ((s.nth k).failed = true ∨ m.kind = 1 → s.eraseIn m (k : Int) = (s.setB (k : Int) { s.nth k with failed := true }, 5)) := fun e => by
    unfold Chip.eraseIn
    rw [HMB.out, if_neg hmk, if_pos e]
  obtain ⟨u0, u1, u2, u3⟩ := R1.at_
  by_cases hfl : (s.nth k).failed = true
  · rw [HVF.out (Or.inl hfl)]
    rw [hfl] at d4
    clear h h1 L1 R1 c0 c1 c2 c3 c5 c6 c7 c8 d1 d2 hmk hmk' hfl hT hops hms hwr HVF hmw hm2 q1 q2 q3 q4 q5 q6 q7 f7 H1 HR1 HM1 u0 u1 u2 u3
    unfold mishV
    go_enter Try.func36, Try.ntmps36
    go_wp2_with fail
    rw [← HW1.out]
    go_ret
    exact ⟨rfl, HFL.out, HFM.out⟩
  have hfl' : (s.nth k).failed = false := by simpa using hfl
  rw [hfl'] at d4
  by_cases hk1 : m.kind = 1
  · rw [HVF.out (Or.inr hk1)]
    have b1 : (m.kind == 1) = true := by simpa using hk1
    clear h h1 L1 R1 c0 c1 c2 c3 c5 c6 c7 c8 d1 d2 hmk hmk' hfl hfl' hT hops hms hwr HVF hmw hm2 q1 q2 q3 q4 q5 q6 q7 f7 H1 HR1 HM1 u0 u2 u3 hk1
    unfold mishV
    go_enter Try.func36, Try.ntmps36
    go_wp2_with fail
    rw [← HW1.out]
    go_ret
    exact ⟨rfl, HFL.out, HFM.out⟩
  clear HVF HFL HFM
  have b1 : (m.kind == 1) = false := by simpa using hk1
  -- which byte
  obtain ⟨x, b2, hb2, hx, HX⟩ : ∃ (x : Nat) (b2 : Bool), (m.kind == 2) = b2 ∧ x < 256 ∧ Hid ((if b2 = true then m.fill else 255) = (x : Int)) := by
    have h0 := hmw.f0
    have h2 := hmw.f1
    cases e : (m.kind == 2) with
    | true => exact ⟨m.fill.toNat, true, rfl, by omega, by show _ = _; rw [if_pos rfl]; omega⟩
    | false => exact ⟨255, false, rfl, by omega, by show _ = _; rw [if_neg (by decide)]; rfl⟩
  have HV : Hid (s.eraseIn m (k : Int) = (s.setB (k : Int) { s.nth k with pg := s.filled x, next := if x = 255 then 0 else s.np, wear := (s.nth k).wear + 1 }, 0)) := by
    show _ = _
    have hx' := HX.out
    unfold Chip.eraseIn
    rw [HMB.out, if_neg hmk, if_neg (by rw [hfl']; simp [hk1])]
    cases b2 with
    | true =>
      rw [if_pos rfl] at hx'
      have hk2 : m.kind = 2 := by simpa using hb2
      rw [if_pos hk2, show m.fill.toNat = x by omega]
      by_cases hq : x = 255
      · rw [if_pos hq, if_pos (by omega)]
      · rw [if_neg hq, if_neg (by omega)]
    | false =>
      rw [if_neg (by decide)] at hx'
      have hk2 : ¬ m.kind = 2 := by simpa using hb2
      rw [if_neg hk2]
      obtain rfl : x = 255 := by omega
      rw [if_pos rfl]
  rw [HV.out]
  obtain ⟨sF, HSF⟩ : ∃ sF : Chip, Hid (s.setB (k : Int) { s.nth k with pg := s.filled x, next := if x = 255 then 0 else s.np, wear := (s.nth k).wear + 1 } = sF) := ⟨_, rfl⟩
  rw [HSF.out]
  have hN : s.np * (s.ns + 28) ≤ 8000 := by
    have : s.np * (s.ns + 28) ≤ 8 * 284 := Nat.mul_le_mul hnp (by omega)
    omega
  have d0 : W1.cell? (L.ab.add (k * 5)) = some (.slice (some ⟨r, 0, none⟩) (s.np * (s.ns + 28)) cc) := by
    obtain ⟨g0, _⟩ := H1.out.block hk
    rw [g0, q1, q2, q3]
  have CF : Hid (Calls Try.prog 29 #[.pointer (some (L.ab.add (k * 5))), .int .u8 (x : Int)] W1 (fun e w' => e = .returned (.tuple #[]) ∧ Own w' base (some ⟨r, 0, none⟩) (s.np * (s.ns + 28)) cc (List.replicate (s.np * (s.ns + 28)) x) ∧ Turn (fun b => b = r) W1 w')) :=
    cfill_any _ r _ cc x base _ W1 hx d0 (by have := q7; rw [← HW1.out] at this; exact this) (fun e => by rw [H1.out.pblock] at e; exact H1.out.raw_not_bl hk r (by rw [q1]; simp [Go.Proofs.Ytgamjffedlkbeaa.blk]) e) hN
  have HQ : Hid ((L.at_ k).a = some ⟨r, 0, none⟩ ∧ (L.at_ k).c = cc ∧ fp r) := ⟨q1, q3, q6⟩
  have HGM : Hid (w.heap.size ≠ r) := fun e => by have := h.lt r q6; omega
  have HKB : Hid (k < s.nb ∧ s.bs.length = s.nb ∧ (s.nth k).wear < s.ops) := ⟨hk, h.wf.len, hwr⟩
  have hnb2 := hwr
  have HNP := Lib.hid hnp
  obtain ⟨e, HE⟩ : ∃ e : Nat, Hid ((s.nth k).wear = e) := ⟨_, rfl⟩
  obtain ⟨nx, HNX⟩ : ∃ e : Nat, Hid ((s.nth k).next = e) := ⟨_, rfl⟩
  obtain ⟨np, HNPP⟩ : ∃ e : Nat, Hid (s.np = e) := ⟨_, rfl⟩
  have he : e ≤ 1000000 := by rw [← HE.out]; omega
  have hnp8 : np ≤ 8 := by rw [← HNPP.out]; exact hnp
  -- behind the fill: erases, next page
  have HGO : Hid (∀ W2, Own W2 base (some ⟨r, 0, none⟩) (s.np * (s.ns + 28)) cc (List.replicate (s.np * (s.ns + 28)) x) → Turn (fun b => b = r) W1 W2 → Rep W2 base fp g (s.setB (k : Int) { s.nth k with pg := s.filled x }) L ∧ Moves w fp W2 fp) := fun W2 ho ht =>
    ⟨H1.out.filled hk HQ.out.1 HQ.out.2.1 ho ht, HM1.out.trans ⟨ht.mono fun b hb => Or.inl (by rw [hb]; exact HQ.out.2.2), fun b hb => Or.inl hb⟩⟩
  have HXF : Hid ((if b2 = true then m.fill else 255) = (x : Int)) := HX
  have hx255 : x ≤ 255 := by omega
  clear h h1 L1 R1 c0 c1 c2 c3 c5 c6 c7 c8 d0 d1 d2 hmk hmk' hfl hfl' hT hms hwr hmw hm2 q1 q2 q3 q4 q5 q6 q7 f7 f4 HM1 u0 u2 hk1 HV HMB HX hN hops hnb2 HNP HGM
  cases b2 with
  | true =>
    have hfill : m.fill = (x : Int) := by have := HXF.out; rwa [if_pos rfl] at this
    have HFI := Lib.hid hfill
    clear hfill
    unfold mishV
    go_enter Try.func36, Try.ntmps36
    go_wp2_with fail
    rw [← HW1.out]
    have CF9 := CF.out
    rw [← HFI.out] at CF9
    refine CF9.mono ?_
    rintro e' W2 ⟨rfl, ho, ht⟩
    obtain ⟨h2, m2⟩ := HGO.out W2 ho ht
    obtain ⟨P1, hP1⟩ : ∃ P : Addr, P = ⟨(L.ab.add (k * 5)).block, (L.ab.add (k * 5)).off + 1, none⟩ := ⟨_, rfl⟩
    obtain ⟨P2, hP2⟩ : ∃ P : Addr, P = ⟨(L.ab.add (k * 5)).block, (L.ab.add (k * 5)).off + 2, none⟩ := ⟨_, rfl⟩
    obtain ⟨⟨x1, x2⟩, ⟨x3, x4⟩, h4, ⟨x5, x6, x7⟩, h5⟩ := erase_stores h2 HKB.out.1 HKB.out.2.1 HKB.out.2.2 HE.out HNX.out HNPP.out hP1 hP2
    have H4 := Lib.hid h4
    have H5 := Lib.hid h5
    have M2 := Lib.hid m2
    subst hP1 hP2
    clear h2 h4 h5 m2 ho ht CF HGO H1 HR1 HW1 c4
    clear CF9
    by_cases hq : x = 255
    · have hb3 : (m.fill != 255) = false := by have := HFI.out; simp; omega
      have HQ9 := Lib.hid hq
      clear hq
      clear x5 x6 x7 H5
      go_wp2_with fail
      go_ret
      refine ⟨rfl, ?_, M2.out.trans H4.out.2⟩
      rw [← HSF.out, if_pos HQ9.out]
      exact H4.out.1
    · have hb3 : (m.fill != 255) = true := by have := HFI.out; simp; omega
      have HQ9 := Lib.hid hq
      clear hq
      clear H4
      go_wp2_with fail
      go_ret
      refine ⟨rfl, ?_, M2.out.trans H5.out.2⟩
      rw [← HSF.out, if_neg HQ9.out]
      exact H5.out.1
  | false =>
    have hx2 : x = 255 := by have := HXF.out; rw [if_neg (by decide)] at this; omega
    have HX2 := Lib.hid hx2
    clear hx2
    unfold mishV
    go_enter Try.func36, Try.ntmps36
    go_wp2_with fail
    rw [← HW1.out]
    have CF9 := CF.out
    rw [show ((x : Nat) : Int) = 255 by have := HX2.out; omega] at CF9
    refine CF9.mono ?_
    rintro e' W2 ⟨rfl, ho, ht⟩
    obtain ⟨h2, m2⟩ := HGO.out W2 ho ht
    obtain ⟨P1, hP1⟩ : ∃ P : Addr, P = ⟨(L.ab.add (k * 5)).block, (L.ab.add (k * 5)).off + 1, none⟩ := ⟨_, rfl⟩
    obtain ⟨P2, hP2⟩ : ∃ P : Addr, P = ⟨(L.ab.add (k * 5)).block, (L.ab.add (k * 5)).off + 2, none⟩ := ⟨_, rfl⟩
    obtain ⟨⟨x1, x2⟩, ⟨x3, x4⟩, h4, ⟨x5, x6, x7⟩, h5⟩ := erase_stores h2 HKB.out.1 HKB.out.2.1 HKB.out.2.2 HE.out HNX.out HNPP.out hP1 hP2
    have H4 := Lib.hid h4
    have H5 := Lib.hid h5
    have M2 := Lib.hid m2
    subst hP1 hP2
    clear h2 h4 h5 m2 ho ht CF HGO H1 HR1 HW1 c4
    clear CF9
    by_cases hq : x = 255
    · have hb3 : ((x : Int) != 255) = false := by simp; omega
      have HQ9 := Lib.hid hq
      clear hq
      clear x5 x6 x7 H5
      go_wp2_with fail
      go_ret
      refine ⟨rfl, ?_, M2.out.trans H4.out.2⟩
      rw [← HSF.out, if_pos HQ9.out]
      exact H4.out.1
    · exact absurd HX2.out hq
end
end Go.Proofs.Ytgamjffedlkbeaa
