/- The document's own yard: what its calls answer, and leave. Conditions: the yard's blocks. -/
import Derived.Test.YtmfpelgkjgpfmaaRefYard
import Derived.BigRegion
set_option linter.unusedVariables false
set_option linter.unusedSimpArgs false
namespace Go.Proofs.Ytmfpelgkjgpfmaa
open Go.RowKit

section
variable {w : World} {base g : Nat} {s : Yd} {L : YL} {fp : Nat → Prop}
set_option maxHeartbeats 2000000 in
theorem rstate_rep (x : Int) (hD : RYard w base g s L) :
    Calls Try.prog 47 #[.pointer (some ⟨g, 0, none⟩), .int .i64 x] w fun e w' => e = .returned (.int .i64 (stY s x)) ∧ w = w' := by
  have HD := Lib.hid hD
  obtain ⟨c0, _, _, _, _⟩ := hD.cells
  have hfew := hD.sz
  obtain ⟨n, HN⟩ : ∃ n, Hid (n = s.S.length) := ⟨_, rfl⟩
  rw [← HN.out] at c0 hfew
  by_cases h0 : x < 0
  · rw [show stY s x = 0 from if_pos (Or.inl h0)]
    clear hD
    go_enter Try.func47, Try.ntmps47
    go_wp2_with fail
    go_ret
    exact ⟨rfl, rfl⟩
  by_cases h1 : (n : Int) ≤ x
  · rw [show stY s x = 0 from if_pos (Or.inr (by rw [← HN.out]; exact h1))]
    clear hD
    go_enter Try.func47, Try.ntmps47
    go_wp2_with fail
    go_ret
    exact ⟨rfl, rfl⟩
  obtain ⟨k, rfl⟩ : ∃ k : Nat, x = (k : Int) := ⟨x.toNat, by omega⟩
  have hk : k < n := by omega
  have i0 : (0 : Int) ≤ (k : Int) := by omega
  have i1 : (k : Int) < (n : Int) := by omega
  obtain ⟨b, e1, _, e2, _⟩ := hD.sAt (k := k) (by rw [← HN.out]; exact hk)
  rw [e1] at c0
  have HW : Hid (stY s (k : Int) = s.S.getD k 0) := stY_at (by rw [← HN.out]; exact hk)
  rw [HW.out]
  obtain ⟨y, HY⟩ : ∃ y, Hid (s.S.getD k 0 = y) := ⟨_, rfl⟩
  rw [HY.out] at e2 ⊢
  clear hD e1 HW HY
  go_enter Try.func47, Try.ntmps47
  go_wp2_with fail
  go_ret
  exact ⟨rfl, rfl⟩
theorem rstate_any (x : Int) (h : RefY w base fp g s) : Calls Try.prog 47 #[.pointer (some ⟨g, 0, none⟩), .int .i64 x] w fun e w' => e = .returned (.int .i64 (stY s x)) ∧ w = w' := by
  obtain ⟨L, h1, _⟩ := h.ex
  exact rstate_rep x h1
theorem leads_no {s' : Yd × Int} {q : Int} (h : RefY w base fp g s) (he : s' = (s, q)) {e : Ending} (h2 : e = .returned (.int .i64 q)) : RLeads w base fp g s' e w := by
  subst he
  exact ⟨h2, h, Moves.refl _ _⟩
set_option maxHeartbeats 8000000 in
theorem ropen_any (x : Int) (h : RefY w base fp g s) : Calls Try.prog 37 #[.pointer (some ⟨g, 0, none⟩), .int .i64 x] w (RLeads w base fp g (openY s x)) := by
  have H := Lib.hid h
  have C1 := Lib.hid (rstate_any x h)
  by_cases h0 : stY s x = 0
  · rw [show openY s x = (s, 2) from if_pos h0]
    rw [h0] at C1
    clear h h0
    go_enter Try.func37, Try.ntmps37
    go_wp2_with fail
    refine C1.out.mono ?_
    rintro e w' ⟨rfl, rfl⟩
    go_wp2_with fail
    go_ret
    exact leads_no H.out rfl rfl
  by_cases h1 : stY s x = 1
  · have HE : Hid (openY s x = ((s.setS x.toNat 2).setT x.toNat 0, 0)) := by show _ = _; unfold openY; rw [if_neg h0, if_pos h1]
    have hyw : YW (openY s x).1 := yw_open h.wf
    rw [HE.out] at hyw ⊢
    obtain ⟨k, rfl, hk⟩ := (stY_ne h.wf).1 h0
    rw [Int.toNat_natCast] at hyw ⊢
    rw [h1] at C1
    have HYW := Lib.hid hyw
    obtain ⟨L, hR, hI⟩ := h.ex
    obtain ⟨c0, c1, _, _, _⟩ := hR.cells
    obtain ⟨bS, e1, m1, s1, f1⟩ := hR.sAt hk
    obtain ⟨bT, e2, m2, s2, f2⟩ := hR.tAt hk
    have hne : bS ≠ bT := fun e => hR.st bS m1 (e ▸ m2)
    have hfew := hR.sz
    have r1 := hR.putS e1 hk (x := 2) ⟨by decide, by decide⟩
    have r2 := r1.putT e2 (by simpa [Yd.setS] using hk) (x := 0) ⟨by decide, by decide⟩
    have ht : Turn fp w ((w.setCell ⟨bS, k, none⟩ (.int .i64 2)).setCell ⟨bT, k, none⟩ (.int .i64 0)) := (Turn.of_setCell ⟨bS, k, none⟩ _ (hI.s bS m1)).trans (Turn.of_setCell (fp := fp) ⟨bT, k, none⟩ _ (hI.t bT m2)) fun b hb => Or.inl hb
    have HF := Lib.hid (h.turned r2 (by simp [Yd.setS, Yd.setT]) hI ht HYW.out)
    have HM : Hid (Moves w fp ((w.setCell ⟨bS, k, none⟩ (.int .i64 2)).setCell ⟨bT, k, none⟩ (.int .i64 0)) fp) := ⟨ht, fun b hb => Or.inl hb⟩
    obtain ⟨n, HN⟩ : ∃ n, Hid (n = s.S.length) := ⟨_, rfl⟩
    rw [← HN.out] at c0 c1 hk hfew
    rw [e1] at c0
    rw [e2] at c1
    obtain ⟨y, HY⟩ : ∃ y, Hid (s.S.getD k 0 = y) := ⟨_, rfl⟩
    obtain ⟨z, HZ⟩ : ∃ z, Hid (s.T.getD k 0 = z) := ⟨_, rfl⟩
    rw [HY.out] at s1
    rw [HZ.out] at s2
    have i0 : (0 : Int) ≤ (k : Int) := by omega
    have i1 : (k : Int) < (n : Int) := by omega
    clear h h0 h1 hyw hR hI e1 e2 m1 m2 r1 r2 ht HN HY HZ HE
    go_enter Try.func37, Try.ntmps37
    go_wp2_with fail
    refine C1.out.mono ?_
    rintro e w' ⟨rfl, rfl⟩
    go_wp2_with fail
    go_region
    go_wp2_with fail
    go_ret
    exact ⟨rfl, HF.out.since ((Below.refl _ _).drew), HM.out.trans (Moves.of_below ((Below.refl _ _).drew))⟩
  · have HE : Hid (openY s x = (s, 9)) := by show _ = _; unfold openY; rw [if_neg h0, if_neg h1]
    rw [HE.out]
    obtain ⟨q, HQ⟩ : ∃ q, Hid (stY s x = q) := ⟨_, rfl⟩
    rw [HQ.out] at C1 h0 h1
    have b0 : (q == 0) = false := by simpa using h0
    have b1 : (q == 1) = false := by simpa using h1
    clear h h0 h1 HE HQ
    go_enter Try.func37, Try.ntmps37
    go_wp2_with fail
    refine C1.out.mono ?_
    rintro e w' ⟨rfl, rfl⟩
    go_wp2_with fail
    go_ret
    exact leads_no H.out rfl rfl
set_option maxHeartbeats 8000000 in
theorem rseal_any (x : Int) (h : RefY w base fp g s) : Calls Try.prog 39 #[.pointer (some ⟨g, 0, none⟩), .int .i64 x] w (RLeads w base fp g (sealY s x)) := by
  have H := Lib.hid h
  have C1 := Lib.hid (rstate_any x h)
  by_cases h0 : stY s x = 0
  · rw [show sealY s x = (s, 2) from if_pos h0]
    rw [h0] at C1
    clear h h0
    go_enter Try.func39, Try.ntmps39
    go_wp2_with fail
    refine C1.out.mono ?_
    rintro e w' ⟨rfl, rfl⟩
    go_wp2_with fail
    go_ret
    exact leads_no H.out rfl rfl
  have hyw : YW (sealY s x).1 := yw_seal h.wf
  obtain ⟨k, rfl, hk⟩ := (stY_ne h.wf).1 h0
  obtain ⟨L, hR, hI⟩ := h.ex
  obtain ⟨c0, c1, c2, c3, c4⟩ := hR.cells
  have hfew := hR.sz
  have hst := stY_at hk
  obtain ⟨bS, e1, m1, s1, f1⟩ := hR.sAt hk
  rw [← hst] at s1
  rw [e1] at c0
  obtain ⟨q, HQ⟩ : ∃ q, Hid (stY s (k : Int) = q) := ⟨_, rfl⟩
  have q0 : (q == 0) = false := by rw [← HQ.out]; simpa using h0
  obtain ⟨n, HN⟩ : ∃ n, Hid (n = s.S.length) := ⟨_, rfl⟩
  have hkn := hk
  rw [← HN.out] at c0 hkn hfew
  have i0 : (0 : Int) ≤ (k : Int) := by omega
  have i1 : (k : Int) < (n : Int) := by omega
  by_cases h1 : stY s (k : Int) ≠ 2
  · have HE : Hid (sealY s (k : Int) = (s, 9)) := by show _ = _; unfold sealY; rw [if_neg h0, if_pos h1]
    rw [HE.out]
    rw [HQ.out] at C1 h1 s1
    have q1 : (q != 2) = true := by simpa using h1
    clear h h0 h1 hyw hR hI e1 m1 HQ HN HE hst
    go_enter Try.func39, Try.ntmps39
    go_wp2_with fail
    refine C1.out.mono ?_
    rintro e w' ⟨rfl, rfl⟩
    go_wp2_with fail
    go_ret
    exact leads_no H.out rfl rfl
  · have HE : Hid (sealY s (k : Int) = (s.setS k 3, 0)) := by show _ = _; unfold sealY; rw [if_neg h0, if_neg h1, Int.toNat_natCast]
    rw [HE.out] at hyw ⊢
    have HYW := Lib.hid hyw
    have r1 := hR.putS e1 hk (x := 3) ⟨by decide, by decide⟩
    have ht : Turn fp w (w.setCell ⟨bS, k, none⟩ (.int .i64 3)) := Turn.of_setCell ⟨bS, k, none⟩ _ (hI.s bS m1)
    have HF := Lib.hid (h.turned r1 (by simp [Yd.setS]) hI ht HYW.out)
    have HM : Hid (Moves w fp (w.setCell ⟨bS, k, none⟩ (.int .i64 3)) fp) := ⟨ht, fun b hb => Or.inl hb⟩
    rw [HQ.out] at C1 h1 s1
    have q1 : (q != 2) = false := by simpa using h1
    clear h h0 h1 hyw hR hI e1 m1 r1 ht HQ HN HE hst
    go_enter Try.func39, Try.ntmps39
    go_wp2_with fail
    refine C1.out.mono ?_
    rintro e w' ⟨rfl, rfl⟩
    go_wp2_with fail
    go_ret
    exact ⟨rfl, HF.out, HM.out⟩
set_option maxHeartbeats 8000000 in
theorem rretire_any (x : Int) (h : RefY w base fp g s) : Calls Try.prog 41 #[.pointer (some ⟨g, 0, none⟩), .int .i64 x] w (RLeads w base fp g (retireY s x)) := by
  have H := Lib.hid h
  have C1 := Lib.hid (rstate_any x h)
  by_cases h0 : stY s x = 0
  · rw [show retireY s x = (s, 2) from if_pos h0]
    rw [h0] at C1
    clear h h0
    go_enter Try.func41, Try.ntmps41
    go_wp2_with fail
    refine C1.out.mono ?_
    rintro e w' ⟨rfl, rfl⟩
    go_wp2_with fail
    go_ret
    exact leads_no H.out rfl rfl
  have hyw : YW (retireY s x).1 := yw_retire h.wf
  obtain ⟨k, rfl, hk⟩ := (stY_ne h.wf).1 h0
  obtain ⟨L, hR, hI⟩ := h.ex
  obtain ⟨c0, c1, c2, c3, c4⟩ := hR.cells
  have hfew := hR.sz
  have hst := stY_at hk
  obtain ⟨bS, e1, m1, s1, f1⟩ := hR.sAt hk
  rw [← hst] at s1
  rw [e1] at c0
  obtain ⟨q, HQ⟩ : ∃ q, Hid (stY s (k : Int) = q) := ⟨_, rfl⟩
  have q0 : (q == 0) = false := by rw [← HQ.out]; simpa using h0
  obtain ⟨n, HN⟩ : ∃ n, Hid (n = s.S.length) := ⟨_, rfl⟩
  have hkn := hk
  rw [← HN.out] at c0 hkn hfew
  have i0 : (0 : Int) ≤ (k : Int) := by omega
  have i1 : (k : Int) < (n : Int) := by omega
  by_cases h1 : stY s (k : Int) = 4
  · have HE : Hid (retireY s (k : Int) = (s, 9)) := by show _ = _; unfold retireY; rw [if_neg h0, if_pos h1]
    rw [HE.out]
    rw [HQ.out] at C1 h1 s1
    have q1 : (q == 4) = true := by simpa using h1
    clear h h0 h1 hyw hR hI e1 m1 HQ HN HE hst
    go_enter Try.func41, Try.ntmps41
    go_wp2_with fail
    refine C1.out.mono ?_
    rintro e w' ⟨rfl, rfl⟩
    go_wp2_with fail
    go_ret
    exact leads_no H.out rfl rfl
  · have HE : Hid (retireY s (k : Int) = (s.setS k 4, 0)) := by show _ = _; unfold retireY; rw [if_neg h0, if_neg h1, Int.toNat_natCast]
    rw [HE.out] at hyw ⊢
    have HYW := Lib.hid hyw
    have r1 := hR.putS e1 hk (x := 4) ⟨by decide, by decide⟩
    have ht : Turn fp w (w.setCell ⟨bS, k, none⟩ (.int .i64 4)) := Turn.of_setCell ⟨bS, k, none⟩ _ (hI.s bS m1)
    have HF := Lib.hid (h.turned r1 (by simp [Yd.setS]) hI ht HYW.out)
    have HM : Hid (Moves w fp (w.setCell ⟨bS, k, none⟩ (.int .i64 4)) fp) := ⟨ht, fun b hb => Or.inl hb⟩
    rw [HQ.out] at C1 h1 s1
    have q1 : (q == 4) = false := by simpa using h1
    clear h h0 h1 hyw hR hI e1 m1 r1 ht HQ HN HE hst
    go_enter Try.func41, Try.ntmps41
    go_wp2_with fail
    refine C1.out.mono ?_
    rintro e w' ⟨rfl, rfl⟩
    go_wp2_with fail
    go_ret
    exact ⟨rfl, HF.out, HM.out⟩
/-- The same, with a number ahead. -/
def RNext (w : World) (base : Nat) (fp : Nat → Prop) (g : Nat) (r : Yd × Int × Int) (e : Ending) (w' : World) : Prop :=
  e = .returned (.tuple #[.int .i64 r.2.1, .int .i64 r.2.2]) ∧ RefY w' base fp g r.1 ∧ Moves w fp w' fp
theorem leads_no2 {s' : Yd × Int × Int} {a q : Int} (h : RefY w base fp g s) (he : s' = (s, a, q)) {e : Ending} (h2 : e = .returned (.tuple #[.int .i64 a, .int .i64 q])) : RNext w base fp g s' e w := by
  subst he
  exact ⟨h2, h, Moves.refl _ _⟩
set_option maxHeartbeats 8000000 in
theorem rnext_any (x : Int) (h : RefY w base fp g s) : Calls Try.prog 38 #[.pointer (some ⟨g, 0, none⟩), .int .i64 x] w (RNext w base fp g (nextY s x)) := by
  have H := Lib.hid h
  have C1 := Lib.hid (rstate_any x h)
  by_cases h0 : stY s x = 0
  · rw [show nextY s x = (s, 0, 2) from if_pos h0]
    rw [h0] at C1
    clear h h0
    go_enter Try.func38, Try.ntmps38
    go_wp2_with fail
    refine C1.out.mono ?_
    rintro e w' ⟨rfl, rfl⟩
    go_wp2_with fail
    go_ret2
    exact leads_no2 H.out rfl rfl
  have hyw : YW (nextY s x).1 := yw_next h.wf
  obtain ⟨k, rfl, hk⟩ := (stY_ne h.wf).1 h0
  obtain ⟨L, hR, hI⟩ := h.ex
  obtain ⟨c0, c1, c2, c3, c4⟩ := hR.cells
  have hfew := hR.sz
  have hst := stY_at hk
  have htk := h.wf.tk k hk
  obtain ⟨bS, e1, m1, s1, f1⟩ := hR.sAt hk
  obtain ⟨bT, e2, m2, s2, f2⟩ := hR.tAt hk
  rw [← hst] at s1
  rw [e1] at c0
  rw [e2] at c1
  obtain ⟨q, HQ⟩ : ∃ q, Hid (stY s (k : Int) = q) := ⟨_, rfl⟩
  obtain ⟨z, HZ⟩ : ∃ z, Hid (s.T.getD k 0 = z) := ⟨_, rfl⟩
  have hpz := hR.pz
  obtain ⟨P, HP⟩ : ∃ P, Hid (s.P = P) := ⟨_, rfl⟩
  have q0 : (q == 0) = false := by rw [← HQ.out]; simpa using h0
  obtain ⟨n, HN⟩ : ∃ n, Hid (n = s.S.length) := ⟨_, rfl⟩
  have hkn := hk
  rw [← HN.out] at c0 c1 hkn hfew
  rw [HZ.out] at s2 htk
  rw [HP.out] at c4 htk hpz
  have i0 : (0 : Int) ≤ (k : Int) := by omega
  have i1 : (k : Int) < (n : Int) := by omega
  by_cases h1 : stY s (k : Int) = 2
  · by_cases h2 : (P : Int) ≤ z
    · have HE : Hid (nextY s (k : Int) = (s, 0, 7)) := by show _ = _; unfold nextY; rw [if_neg h0, if_neg (fun hh => hh h1), Int.toNat_natCast, HZ.out, HP.out, if_pos h2]
      rw [HE.out]
      rw [HQ.out] at C1 h1 s1
      have q1 : (q != 2) = false := by simpa using h1
      have d1 : decide ((P : Int) ≤ z) = true := decide_eq_true h2
      clear h h0 h1 hyw hR hI e1 e2 m1 m2 HQ HN HE hst HP
      go_enter Try.func38, Try.ntmps38
      go_wp2_with fail
      refine C1.out.mono ?_
      rintro e w' ⟨rfl, rfl⟩
      go_wp2_with fail
      go_quiet (fail)
      go_wp2_with fail
      go_ret2
      exact ⟨rfl, H.out.since (below_drewN (Below.refl _ _) _), Moves.of_below (below_drewN (Below.refl _ _) _)⟩
    · have HE : Hid (nextY s (k : Int) = (s.setT k (z + 1), z, 0)) := by show _ = _; unfold nextY; rw [if_neg h0, if_neg (fun hh => hh h1), Int.toNat_natCast, HZ.out, HP.out, if_neg h2]
      rw [HE.out] at hyw ⊢
      have HYW := Lib.hid hyw
      have hw : intK.wf (z + 1) := ⟨by omega, by omega⟩
      rw [HQ.out] at C1 h1 s1
      have q1 : (q != 2) = false := by simpa using h1
      have d1 : decide ((P : Int) ≤ z) = false := decide_eq_false h2
      clear h h0 h1 hyw hR hI e1 e2 m1 m2 HQ HE hst HP
      go_enter Try.func38, Try.ntmps38
      go_wp2_with fail
      refine C1.out.mono ?_
      rintro e w' ⟨rfl, rfl⟩
      go_wp2_with fail
      go_quiet (fail)
      obtain ⟨Wq, HWQ⟩ : ∃ Wq, Wq = w.drewN nq := ⟨_, rfl⟩
      rw [← HWQ]
      have HB : Below w.heap.size w Wq := by rw [HWQ]; exact below_drewN (Below.refl _ _) _
      clear HWQ c0 c1 c2 c3 c4 s1 s2 f1 f2
      have h := H.out.since HB
      obtain ⟨L', hR, hI⟩ := h.ex
      obtain ⟨_, c1, _, _, _⟩ := hR.cells
      obtain ⟨bT', e2, m2, s2, f2⟩ := hR.tAt hk
      have r1 := hR.putT e2 hk (x := (z + 1)) hw
      have ht : Turn fp Wq (Wq.setCell ⟨bT', k, none⟩ (.int .i64 (z + 1))) := Turn.of_setCell ⟨bT', k, none⟩ _ (hI.t bT' m2)
      have HF := Lib.hid (h.turned r1 rfl hI ht HYW.out)
      have HM : Hid (Moves w fp (Wq.setCell ⟨bT', k, none⟩ (.int .i64 (z + 1))) fp) := (Moves.of_below HB).trans ⟨ht, fun b hb => Or.inl hb⟩
      have c1b : (Wq.setCell ⟨bT', k, none⟩ (.int .i64 (z + 1))).cell? ⟨g, 1, none⟩ = some (.slice L'.AT s.S.length L'.cT) := r1.cells.c1
      rw [e2, ← HN.out] at c1b c1
      have s2b : (Wq.setCell ⟨bT', k, none⟩ (.int .i64 (z + 1))).cell? ⟨bT', k, none⟩ = some (.int .i64 (z + 1)) := by
        obtain ⟨b', e', _, s', _⟩ := r1.tAt hk
        have : b' = bT' := by have := e2.symm.trans e'; injection this with this; injection this with this; exact this.symm
        subst this
        rw [s']
        show some (Value.int .i64 ((s.T.set k (z + 1)).getD k 0)) = _
        rw [getD_setY, if_pos ⟨rfl, by rw [h.wf.lt]; exact hk⟩]
      rw [HZ.out] at s2
      clear h hR hI e2 m2 r1 ht HB HN
      go_wp2_with fail
      go_ret2
      exact ⟨by simp, HF.out, HM.out⟩
  · have HE : Hid (nextY s (k : Int) = (s, 0, 9)) := by show _ = _; unfold nextY; rw [if_neg h0, if_pos h1]
    rw [HE.out]
    rw [HQ.out] at C1 h1 s1
    have q1 : (q != 2) = true := by simpa using h1
    clear h h0 h1 hyw hR hI e1 e2 m1 m2 HQ HN HE hst HP
    go_enter Try.func38, Try.ntmps38
    go_wp2_with fail
    refine C1.out.mono ?_
    rintro e w' ⟨rfl, rfl⟩
    go_wp2_with fail
    go_ret2
    exact leads_no2 H.out rfl rfl
/-- Those of the first p that are true. -/
def nP (l : List Bool) (p : Nat) : List Int := ((List.range p).filter fun k => l.getD k false).map fun (k : Nat) => (k : Int)
theorem nP_up {l : List Bool} {p : Nat} : nP l (p + 1) = nP l p ++ if l.getD p false = true then [(p : Int)] else [] := by
  unfold nP
  rw [List.range_succ, List.filter_append, List.map_append]
  by_cases h : l.getD p false = true
  · rw [if_pos h, List.filter_cons_of_pos (by exact h)]; rfl
  · rw [if_neg h, List.filter_cons_of_neg (by exact h)]; rfl
theorem nP_len {l : List Bool} {p : Nat} : (nP l p).length ≤ p := by
  unfold nP
  rw [List.length_map]
  exact Nat.le_trans (List.length_filter_le _ _) (by simp)
set_option maxHeartbeats 8000000 in
theorem rneeded_any (x : Int) (h : RefY w base fp g s) : Calls Try.prog 48 #[.pointer (some ⟨g, 0, none⟩), .int .i64 x] w (GivesI w (neededY s x)) := by
  have H := Lib.hid h
  by_cases h0 : stY s x = 0
  · rw [show neededY s x = [] from if_pos h0]
    have C1 := Lib.hid (rstate_any x h)
    rw [h0] at C1
    clear h h0
    go_enter Try.func48, Try.ntmps48
    go_wp2_with fail
    go_loopw [5, 6] (fun t5 t6 wr => t5 = .slice none 0 0 ∧ t6 = .int .i64 0 ∧ wr = w) (fun _ _ _ => 0)
    case atStart => exact ⟨rfl, rfl, rfl⟩
    case round =>
      obtain ⟨rfl, rfl, rfl⟩ := hrel
      go_wp2_with fail
      refine C1.out.mono ?_
      rintro e w' ⟨rfl, rfl⟩
      go_wp2_with fail
      go_ret
      exact ⟨none, 0, 0, rfl, Kind.Row.none_, Below.refl _ _⟩
  obtain ⟨k, rfl, hk⟩ := (stY_ne h.wf).1 h0
  have hpz := h.wf.p8
  obtain ⟨P, HP⟩ : ∃ P, Hid (s.P = P) := ⟨_, rfl⟩
  have HNE : Hid (neededY s (k : Int) = nP (s.N.getD k []) P) := by
    show _ = _
    unfold neededY nP
    rw [if_neg h0, Int.toNat_natCast]
    unfold idxB
    rw [h.wf.nl k hk, HP.out]
  rw [HNE.out]
  rw [HP.out] at hpz
  obtain ⟨q, HQ⟩ : ∃ q, Hid (stY s (k : Int) = q) := ⟨_, rfl⟩
  have q0 : (q != 0) = true := by rw [← HQ.out]; simpa using h0
  have hfew := h.wf.n32
  have HK := Lib.hid hk
  have k0 : (0 : Int) ≤ (k : Int) := by omega
  obtain ⟨n, HN⟩ : ∃ n, Hid (n = s.S.length) := ⟨_, rfl⟩
  rw [← HN.out] at hk hfew
  have k1 : (k : Int) < (n : Int) := by omega
  clear h h0 HNE
  go_enter Try.func48, Try.ntmps48
  go_wp2_with fail
  go_loopw [5, 6] (fun t5 t6 wr => ∃ (p m : Nat) (A : Option Addr) (c : Nat), t5 = .slice A m c ∧ t6 = .int .i64 p ∧ p ≤ P ∧ m ≤ p ∧ Hid (intK.Row wr w.heap.size A m c (nP (s.N.getD k []) p)) ∧ Hid (Below w.heap.size w wr)) (fun _ t6 _ => P - (intOf t6).toNat)
  case atStart => exact ⟨0, 0, none, 0, rfl, rfl, Nat.zero_le _, Nat.le_refl _, Kind.Row.none_, Below.refl _ _⟩
  case round =>
    obtain ⟨p, m, A, c, rfl, rfl, hp, hm, HR, HB⟩ := hrel
    have C1 := Lib.hid (rstate_any (k : Int) (H.out.since HB.out))
    rw [HQ.out] at C1
    have p0 : (0 : Int) ≤ (p : Int) := by omega
    obtain ⟨L, hR, _⟩ := (H.out.since HB.out).ex
    obtain ⟨_, _, c2, _, c4⟩ := hR.cells
    rw [HP.out] at c4
    rw [← HN.out] at c2
    by_cases hlt : p < P
    · have p1 : (p : Int) < (P : Int) := by omega
      obtain ⟨ad, e1, s1⟩ := hR.nAt HK.out
      rw [e1] at c2
      rw [HP.out] at s1
      have s2 := (hR.nBit HK.out (q := p) (by rw [HP.out]; exact hlt)).1
      obtain ⟨v, HV⟩ : ∃ v, Hid ((s.N.getD k []).getD p false = v) := ⟨_, rfl⟩
      rw [HV.out] at s2
      have HU := Lib.hid (nP_up (l := s.N.getD k []) (p := p))
      rw [HV.out] at HU
      clear hR e1
      cases v with
      | false =>
        go_wp2_with fail
        refine C1.out.mono ?_
        rintro e w' ⟨rfl, rfl⟩
        go_wp2_with fail
        go_roundw
        case rel => exact ⟨p + 1, m, A, c, rfl, by go_num, by omega, by omega, by rw [HU.out, if_neg (by decide), List.append_nil]; exact HR, HB⟩
        case measure => simp [intOf]; omega
      | true =>
        obtain ⟨A9, c9, W9, hr9, ho9, hg9⟩ := Kind.append_one_b (K := intK) HB.out.size HR.out (p : Int) ⟨by omega, by omega⟩ #[.int .i64 (p : Int)] rfl (by omega)
        have R9 := Lib.hid hr9
        have B9 := Lib.hid (HB.out.grown hg9 HB.out.size (fun b hb => (HR.out.row.lt b hb).1))
        have O9 := Lib.hid ho9
        clear hr9 ho9 hg9
        go_wp2_with fail
        refine C1.out.mono ?_
        rintro e w' ⟨rfl, rfl⟩
        go_wp2_with (at_builtin; refine wpList_append_run rfl (.tmp 31) (.tmp 33) 36 rfl rfl rfl R9.out ?_)
        go_roundw
        case rel => exact ⟨p + 1, m + 1, A9, c9, rfl, by go_num, by omega, by omega, by rw [HU.out, if_pos (by trivial)]; exact O9, B9⟩
        case measure => simp [intOf]; omega
    · obtain rfl : p = P := by omega
      clear hR
      go_wp2_with fail
      refine C1.out.mono ?_
      rintro e w' ⟨rfl, rfl⟩
      go_wp2_with fail
      go_ret
      exact ⟨_, _, _, rfl, HR, HB⟩
set_option maxHeartbeats 8000000 in
theorem rpage_any (x y : Int) (h : RefY w base fp g s) : Calls Try.prog 49 #[.pointer (some ⟨g, 0, none⟩), .int .i64 x, .int .i64 y] w fun e w' => e = .returned (.int .i64 (if pageY s x y then 0 else 2)) ∧ w = w' := by
  have C1 := Lib.hid (rstate_any x h)
  by_cases h0 : stY s x = 0
  · rw [if_neg (show ¬ pageY s x y from fun hh => hh.1 h0)]
    rw [h0] at C1
    clear h h0
    go_enter Try.func49, Try.ntmps49
    go_wp2_with fail
    refine C1.out.mono ?_
    rintro e w' ⟨rfl, rfl⟩
    go_wp2_with fail
    go_ret
    exact ⟨rfl, rfl⟩
  obtain ⟨q, HQ⟩ : ∃ q, Hid (stY s x = q) := ⟨_, rfl⟩
  have q0 : (q == 0) = false := by rw [← HQ.out]; simpa using h0
  rw [HQ.out] at C1
  obtain ⟨L, hR, _⟩ := h.ex
  have c4 := hR.cells.c4
  have hpz := hR.pz
  obtain ⟨P, HP⟩ : ∃ P, Hid (s.P = P) := ⟨_, rfl⟩
  rw [HP.out] at c4 hpz
  have HPG : Hid (pageY s x y ↔ (0 ≤ y ∧ y < (P : Int))) := by rw [← HP.out]; exact ⟨fun hh => hh.2, fun hh => ⟨h0, hh⟩⟩
  clear hR h h0 HP
  by_cases h1 : y < 0
  · rw [if_neg (fun hh => by have := HPG.out.1 hh; omega)]
    go_enter Try.func49, Try.ntmps49
    go_wp2_with fail
    refine C1.out.mono ?_
    rintro e w' ⟨rfl, rfl⟩
    go_wp2_with fail
    go_ret
    exact ⟨rfl, rfl⟩
  by_cases h2 : (P : Int) ≤ y
  · rw [if_neg (fun hh => by have := HPG.out.1 hh; omega)]
    go_enter Try.func49, Try.ntmps49
    go_wp2_with fail
    refine C1.out.mono ?_
    rintro e w' ⟨rfl, rfl⟩
    go_wp2_with fail
    go_ret
    exact ⟨rfl, rfl⟩
  · rw [if_pos (HPG.out.2 ⟨by omega, by omega⟩)]
    go_enter Try.func49, Try.ntmps49
    go_wp2_with fail
    refine C1.out.mono ?_
    rintro e w' ⟨rfl, rfl⟩
    go_wp2_with fail
    go_ret
    exact ⟨rfl, rfl⟩
set_option maxHeartbeats 8000000 in
theorem rfree_any (x : Int) (h : RefY w base fp g s) : Calls Try.prog 40 #[.pointer (some ⟨g, 0, none⟩), .int .i64 x] w (RLeads w base fp g (freeY s x)) := by
  have H := Lib.hid h
  have C1 := Lib.hid (rstate_any x h)
  by_cases h0 : stY s x = 0
  · rw [show freeY s x = (s, 2) from if_pos h0]
    rw [h0] at C1
    clear h h0
    go_enter Try.func40, Try.ntmps40
    go_wp2_with fail
    refine C1.out.mono ?_
    rintro e w' ⟨rfl, rfl⟩
    go_wp2_with fail
    go_ret
    exact leads_no H.out rfl rfl
  have hyw : YW (freeY s x).1 := yw_free h.wf
  have C2 := Lib.hid (rneeded_any x h)
  obtain ⟨k, rfl, hk⟩ := (stY_ne h.wf).1 h0
  obtain ⟨L, hR, hI⟩ := h.ex
  obtain ⟨c0, c1, c2, c3, c4⟩ := hR.cells
  have hfew := hR.sz
  have hst := stY_at hk
  obtain ⟨bS, e1, m1, s1, f1⟩ := hR.sAt hk
  rw [← hst] at s1
  rw [e1] at c0
  obtain ⟨q, HQ⟩ : ∃ q, Hid (stY s (k : Int) = q) := ⟨_, rfl⟩
  have q0 : (q == 0) = false := by rw [← HQ.out]; simpa using h0
  obtain ⟨n, HN⟩ : ∃ n, Hid (n = s.S.length) := ⟨_, rfl⟩
  have hkn := hk
  rw [← HN.out] at c0 hkn hfew
  rw [HQ.out] at C1 s1
  have i0 : (0 : Int) ≤ (k : Int) := by omega
  have i1 : (k : Int) < (n : Int) := by omega
  by_cases h1 : q = 2 ∨ q = 3
  · obtain ⟨xs, HXS⟩ : ∃ xs, Hid (neededY s (k : Int) = xs) := ⟨_, rfl⟩
    rw [HXS.out] at C2
    have HE1 : Hid (xs ≠ [] → freeY s (k : Int) = (s, 9)) := fun hx => by unfold freeY; rw [if_neg h0, if_pos (Or.inr (by rw [HXS.out]; exact hx))]
    have HE2 : Hid (xs = [] → freeY s (k : Int) = ((s.setS k 1).setT k 0, 0)) := fun hx => by unfold freeY; rw [if_neg h0, if_neg (by rw [HXS.out, HQ.out]; intro hh; rcases hh with hh | hh; omega; exact hh hx), Int.toNat_natCast]
    have q1 : (q != 2) = true ∧ (q != 3) = false ∨ (q != 2) = false := by
      rcases h1 with h1 | h1
      · right; simp [h1]
      · left; simp [h1]
    clear h h0 hR hI e1 m1 HXS hst h1
    rcases q1 with ⟨q1, q2⟩ | q1
    all_goals
      go_enter Try.func40, Try.ntmps40
      go_wp2_with fail
      refine C1.out.mono ?_
      rintro e w' ⟨rfl, rfl⟩
      go_wp2_with fail
      refine C2.out.mono ?_
      rintro e W2 ⟨A2, n2, c2_, rfl, HI, HB⟩
      have hlen := HI.out.len
      by_cases hz : n2 = 0
      · have hx : xs = [] := List.eq_nil_of_length_eq_zero (hlen.trans hz)
        have HE := Lib.hid (HE2.out hx)
        rw [HE.out] at hyw
        have HYW := Lib.hid hyw
        have hn2 : ¬ (0 : Int) < (n2 : Int) := by omega
        have h := H.out.since HB.out
        obtain ⟨L', hR, hI⟩ := h.ex
        clear c0 c1 c2 c3 c4 s1 f1
        obtain ⟨c0, c1, _, _, _⟩ := hR.cells
        obtain ⟨bS', e1, m1, s1, f1⟩ := hR.sAt hk
        obtain ⟨bT', e2, m2, s2, f2⟩ := hR.tAt hk
        have hne : bS' ≠ bT' := fun e => hR.st bS' m1 (e ▸ m2)
        have r1 := hR.putS e1 hk (x := 1) ⟨by decide, by decide⟩
        have r2 := r1.putT e2 (by simpa [Yd.setS] using hk) (x := 0) ⟨by decide, by decide⟩
        have ht : Turn fp W2 ((W2.setCell ⟨bS', k, none⟩ (.int .i64 1)).setCell ⟨bT', k, none⟩ (.int .i64 0)) := (Turn.of_setCell ⟨bS', k, none⟩ _ (hI.s bS' m1)).trans (Turn.of_setCell (fp := fp) ⟨bT', k, none⟩ _ (hI.t bT' m2)) fun b hb => Or.inl hb
        have HF := Lib.hid (h.turned r2 (by simp [Yd.setS, Yd.setT]) hI ht HYW.out)
        have HM : Hid (Moves w fp ((W2.setCell ⟨bS', k, none⟩ (.int .i64 1)).setCell ⟨bT', k, none⟩ (.int .i64 0)) fp) := (Moves.of_below HB.out).trans ⟨ht, fun b hb => Or.inl hb⟩
        rw [← HN.out] at c0 c1
        rw [e1] at c0
        rw [e2] at c1
        obtain ⟨y, HY⟩ : ∃ y, Hid (s.S.getD k 0 = y) := ⟨_, rfl⟩
        obtain ⟨z, HZ⟩ : ∃ z, Hid (s.T.getD k 0 = z) := ⟨_, rfl⟩
        rw [HY.out] at s1
        rw [HZ.out] at s2
        clear h hyw hR hI e1 e2 m1 m2 r1 r2 ht HN HY HZ hx HI hz hlen
        go_wp2_with fail
        go_region
        go_wp2_with fail
        go_ret
        rw [HE.out]
        exact ⟨rfl, HF.out.since ((Below.refl _ _).drew), HM.out.trans (Moves.of_below ((Below.refl _ _).drew))⟩
      · have hx : xs ≠ [] := fun e => hz (by rw [← hlen, e]; rfl)
        have HE := Lib.hid (HE1.out hx)
        have hn2 : (0 : Int) < (n2 : Int) := by omega
        clear hx hlen hyw
        go_wp2_with fail
        go_ret
        rw [HE.out]
        exact ⟨rfl, H.out.since HB.out, Moves.of_below HB.out⟩
  · have HE : Hid (freeY s (k : Int) = (s, 9)) := by show _ = _; unfold freeY; rw [if_neg h0, if_pos (Or.inl (by rw [HQ.out]; omega))]
    rw [HE.out]
    have q1 : (q != 2) = true := by simp; omega
    have q2 : (q != 3) = true := by simp; omega
    clear h h0 h1 hyw hR hI e1 m1 HQ HN HE hst C2
    go_enter Try.func40, Try.ntmps40
    go_wp2_with fail
    refine C1.out.mono ?_
    rintro e w' ⟨rfl, rfl⟩
    go_wp2_with fail
    go_ret
    exact leads_no H.out rfl rfl
set_option maxHeartbeats 8000000 in
theorem rdrop_any (x y : Int) (h : RefY w base fp g s) : Calls Try.prog 43 #[.pointer (some ⟨g, 0, none⟩), .int .i64 x, .int .i64 y] w (RLeads w base fp g (dropY s x y)) := by
  have H := Lib.hid h
  have C1 := Lib.hid (rpage_any x y h)
  by_cases hp : pageY s x y
  · rw [if_pos hp] at C1
    have hyw : YW (dropY s x y).1 := yw_drop h.wf
    obtain ⟨k, r, rfl, hk, rfl, hr⟩ := page_at h.wf hp
    obtain ⟨L, hR, hI⟩ := h.ex
    obtain ⟨c0, c1, c2, c3, c4⟩ := hR.cells
    have hfew := hR.sz
    have hpz := hR.pz
    obtain ⟨aN, e3, s3⟩ := hR.nAt hk
    obtain ⟨aD, e4, s4⟩ := hR.dAt hk
    obtain ⟨s5, f5⟩ := hR.nBit hk hr
    obtain ⟨s6, f6⟩ := hR.dBit hk hr
    have hxx := hR.xx k k hk hk
    obtain ⟨bN, HBN⟩ : ∃ b, Hid (L.bN k = b) := ⟨_, rfl⟩
    obtain ⟨bD, HBD⟩ : ∃ b, Hid (L.bD k = b) := ⟨_, rfl⟩
    obtain ⟨v, HV⟩ : ∃ v, Hid ((s.N.getD k []).getD r false = v) := ⟨_, rfl⟩
    obtain ⟨v2, HV2⟩ : ∃ v, Hid ((s.D.getD k []).getD r false = v) := ⟨_, rfl⟩
    have HIN : Hid (isN s (k : Int) (r : Int) = v) := by rw [← HV.out]; show isN s (k : Int) (r : Int) = _; unfold isN; rw [Int.toNat_natCast, Int.toNat_natCast]
    obtain ⟨P, HP⟩ : ∃ P, Hid (s.P = P) := ⟨_, rfl⟩
    obtain ⟨n, HN⟩ : ∃ n, Hid (n = s.S.length) := ⟨_, rfl⟩
    have hkn := hk
    have hrP := hr
    rw [← HN.out] at c1 c2 c3 hkn hfew
    rw [HP.out] at s3 s4 hrP hpz
    rw [HBN.out] at s3 s5 f5 hxx
    rw [HBD.out] at s4 s6 f6 hxx
    rw [HV.out] at s5
    rw [HV2.out] at s6
    rw [e3] at c2
    rw [e4] at c3
    have i0 : (0 : Int) ≤ (k : Int) := by omega
    have i1 : (k : Int) < (n : Int) := by omega
    have j0 : (0 : Int) ≤ (r : Int) := by omega
    have j1 : (r : Int) < (P : Int) := by omega
    cases v with
    | false =>
      have HE : Hid (dropY s (k : Int) (r : Int) = (s, 8)) := by show _ = _; unfold dropY; rw [if_neg (fun hh => hh hp), if_pos HIN.out]
      rw [HE.out]
      clear h hp hyw hR hI e3 e4 HBN HBD HV HV2 HIN HP HN HE
      go_enter Try.func43, Try.ntmps43
      go_wp2_with fail
      refine C1.out.mono ?_
      rintro e w' ⟨rfl, rfl⟩
      go_wp2_with fail
      go_ret
      exact leads_no H.out rfl rfl
    | true =>
      have HE : Hid (dropY s (k : Int) (r : Int) = ((s.setN k r false).setD k r false, 0)) := by show _ = _; unfold dropY; rw [if_neg (fun hh => hh hp), if_neg (by rw [HIN.out]; decide), Int.toNat_natCast, Int.toNat_natCast]
      rw [HE.out] at hyw ⊢
      have HYW := Lib.hid hyw
      have r1 := hR.putN (q := r) hk false
      have r2 := r1.putD (q := r) hk false
      have ht : Turn fp w ((w.setCell ⟨L.bN k, r, none⟩ (.bool false)).setCell ⟨L.bD k, r, none⟩ (.bool false)) := (Turn.of_setCell ⟨L.bN k, r, none⟩ _ (hI.bn k hk)).trans (Turn.of_setCell (fp := fp) ⟨L.bD k, r, none⟩ _ (hI.bd k hk)) fun b hb => Or.inl hb
      have HF := Lib.hid (h.turned r2 rfl hI ht HYW.out)
      have HM : Hid (Moves w fp ((w.setCell ⟨L.bN k, r, none⟩ (.bool false)).setCell ⟨L.bD k, r, none⟩ (.bool false)) fp) := ⟨ht, fun b hb => Or.inl hb⟩
      rw [HBN.out, HBD.out] at HF HM
      clear h hp hyw hR hI e3 e4 HBN HBD HV HV2 HIN HP HN HE r1 r2 ht
      go_enter Try.func43, Try.ntmps43
      go_wp2_with fail
      refine C1.out.mono ?_
      rintro e w' ⟨rfl, rfl⟩
      go_wp2_with fail
      go_region
      go_wp2_with fail
      go_ret
      exact ⟨rfl, HF.out.since ((Below.refl _ _).drew), HM.out.trans (Moves.of_below ((Below.refl _ _).drew))⟩
  · rw [show dropY s x y = (s, 2) from if_pos hp]
    rw [if_neg hp] at C1
    clear h hp
    go_enter Try.func43, Try.ntmps43
    go_wp2_with fail
    refine C1.out.mono ?_
    rintro e w' ⟨rfl, rfl⟩
    go_wp2_with fail
    go_ret
    exact leads_no H.out rfl rfl
set_option maxHeartbeats 8000000 in
theorem rwash_any (x y : Int) (h : RefY w base fp g s) : Calls Try.prog 44 #[.pointer (some ⟨g, 0, none⟩), .int .i64 x, .int .i64 y] w (RLeads w base fp g (washY s x y)) := by
  have H := Lib.hid h
  have C1 := Lib.hid (rpage_any x y h)
  by_cases hp : pageY s x y
  · rw [if_pos hp] at C1
    have hyw : YW (washY s x y).1 := yw_wash h.wf
    obtain ⟨k, r, rfl, hk, rfl, hr⟩ := page_at h.wf hp
    obtain ⟨L, hR, hI⟩ := h.ex
    obtain ⟨c0, c1, c2, c3, c4⟩ := hR.cells
    have hfew := hR.sz
    have hpz := hR.pz
    obtain ⟨aN, e3, s3⟩ := hR.nAt hk
    obtain ⟨aD, e4, s4⟩ := hR.dAt hk
    obtain ⟨s5, f5⟩ := hR.nBit hk hr
    obtain ⟨s6, f6⟩ := hR.dBit hk hr
    have hxx := hR.xx k k hk hk
    obtain ⟨bN, HBN⟩ : ∃ b, Hid (L.bN k = b) := ⟨_, rfl⟩
    obtain ⟨bD, HBD⟩ : ∃ b, Hid (L.bD k = b) := ⟨_, rfl⟩
    obtain ⟨v, HV⟩ : ∃ v, Hid ((s.N.getD k []).getD r false = v) := ⟨_, rfl⟩
    obtain ⟨v2, HV2⟩ : ∃ v, Hid ((s.D.getD k []).getD r false = v) := ⟨_, rfl⟩
    have HIN : Hid (isN s (k : Int) (r : Int) = v) := by rw [← HV.out]; show isN s (k : Int) (r : Int) = _; unfold isN; rw [Int.toNat_natCast, Int.toNat_natCast]
    obtain ⟨P, HP⟩ : ∃ P, Hid (s.P = P) := ⟨_, rfl⟩
    obtain ⟨n, HN⟩ : ∃ n, Hid (n = s.S.length) := ⟨_, rfl⟩
    have hkn := hk
    have hrP := hr
    rw [← HN.out] at c1 c2 c3 hkn hfew
    rw [HP.out] at s3 s4 hrP hpz
    rw [HBN.out] at s3 s5 f5 hxx
    rw [HBD.out] at s4 s6 f6 hxx
    rw [HV.out] at s5
    rw [HV2.out] at s6
    rw [e3] at c2
    rw [e4] at c3
    have i0 : (0 : Int) ≤ (k : Int) := by omega
    have i1 : (k : Int) < (n : Int) := by omega
    have j0 : (0 : Int) ≤ (r : Int) := by omega
    have j1 : (r : Int) < (P : Int) := by omega
    cases v with
    | false =>
      have HE : Hid (washY s (k : Int) (r : Int) = (s, 8)) := by show _ = _; unfold washY; rw [if_neg (fun hh => hh hp), if_pos HIN.out]
      rw [HE.out]
      clear h hp hyw hR hI e3 e4 HBN HBD HV HV2 HIN HP HN HE
      go_enter Try.func44, Try.ntmps44
      go_wp2_with fail
      refine C1.out.mono ?_
      rintro e w' ⟨rfl, rfl⟩
      go_wp2_with fail
      go_ret
      exact leads_no H.out rfl rfl
    | true =>
      have HE : Hid (washY s (k : Int) (r : Int) = (s.setD k r false, 0)) := by show _ = _; unfold washY; rw [if_neg (fun hh => hh hp), if_neg (by rw [HIN.out]; decide), Int.toNat_natCast, Int.toNat_natCast]
      rw [HE.out] at hyw ⊢
      have HYW := Lib.hid hyw
      have r2 := hR.putD (q := r) hk false
      have ht : Turn fp w (w.setCell ⟨L.bD k, r, none⟩ (.bool false)) := Turn.of_setCell ⟨L.bD k, r, none⟩ _ (hI.bd k hk)
      have HF := Lib.hid (h.turned r2 rfl hI ht HYW.out)
      have HM : Hid (Moves w fp (w.setCell ⟨L.bD k, r, none⟩ (.bool false)) fp) := ⟨ht, fun b hb => Or.inl hb⟩
      rw [HBD.out] at HF HM
      clear h hp hyw hR hI e3 e4 HBN HBD HV HV2 HIN HP HN HE r2 ht
      go_enter Try.func44, Try.ntmps44
      go_wp2_with fail
      refine C1.out.mono ?_
      rintro e w' ⟨rfl, rfl⟩
      go_wp2_with fail
      go_ret
      exact ⟨rfl, HF.out, HM.out⟩
  · rw [show washY s x y = (s, 2) from if_pos hp]
    rw [if_neg hp] at C1
    clear h hp
    go_enter Try.func44, Try.ntmps44
    go_wp2_with fail
    refine C1.out.mono ?_
    rintro e w' ⟨rfl, rfl⟩
    go_wp2_with fail
    go_ret
    exact leads_no H.out rfl rfl
set_option maxHeartbeats 8000000 in
theorem rwant_any (x y : Int) (d : Bool) (h : RefY w base fp g s) : Calls Try.prog 42 #[.pointer (some ⟨g, 0, none⟩), .int .i64 x, .int .i64 y, .bool d] w (RLeads w base fp g (wantY s x y d)) := by
  have H := Lib.hid h
  have C1 := Lib.hid (rpage_any x y h)
  by_cases hp : pageY s x y
  · rw [if_pos hp] at C1
    have hyw : YW (wantY s x y d).1 := yw_want h.wf d
    obtain ⟨k, r, rfl, hk, rfl, hr⟩ := page_at h.wf hp
    obtain ⟨L, hR, hI⟩ := h.ex
    obtain ⟨c0, c1, c2, c3, c4⟩ := hR.cells
    have hfew := hR.sz
    have hpz := hR.pz
    obtain ⟨aN, e3, s3⟩ := hR.nAt hk
    obtain ⟨aD, e4, s4⟩ := hR.dAt hk
    obtain ⟨s5, f5⟩ := hR.nBit hk hr
    obtain ⟨s6, f6⟩ := hR.dBit hk hr
    have hxx := hR.xx k k hk hk
    obtain ⟨bN, HBN⟩ : ∃ b, Hid (L.bN k = b) := ⟨_, rfl⟩
    obtain ⟨bD, HBD⟩ : ∃ b, Hid (L.bD k = b) := ⟨_, rfl⟩
    obtain ⟨v, HV⟩ : ∃ v, Hid ((s.N.getD k []).getD r false = v) := ⟨_, rfl⟩
    obtain ⟨v2, HV2⟩ : ∃ v, Hid ((s.D.getD k []).getD r false = v) := ⟨_, rfl⟩
    have HIN : Hid (isN s (k : Int) (r : Int) = v) := by rw [← HV.out]; show isN s (k : Int) (r : Int) = _; unfold isN; rw [Int.toNat_natCast, Int.toNat_natCast]
    obtain ⟨P, HP⟩ : ∃ P, Hid (s.P = P) := ⟨_, rfl⟩
    obtain ⟨n, HN⟩ : ∃ n, Hid (n = s.S.length) := ⟨_, rfl⟩
    have hkn := hk
    have hrP := hr
    rw [← HN.out] at c1 c2 c3 hkn hfew
    rw [HP.out] at s3 s4 hrP hpz
    rw [HBN.out] at s3 s5 f5 hxx
    rw [HBD.out] at s4 s6 f6 hxx
    rw [HV.out] at s5
    rw [HV2.out] at s6
    rw [e3] at c2
    rw [e4] at c3
    have i0 : (0 : Int) ≤ (k : Int) := by omega
    have i1 : (k : Int) < (n : Int) := by omega
    have j0 : (0 : Int) ≤ (r : Int) := by omega
    have j1 : (r : Int) < (P : Int) := by omega
    obtain ⟨bT, e2, m2, s2, f2⟩ := hR.tAt hk
    obtain ⟨z, HZ⟩ : ∃ z, Hid (s.T.getD k 0 = z) := ⟨_, rfl⟩
    rw [HZ.out] at s2
    rw [e2] at c1
    by_cases hz : z ≤ (r : Int)
    · have HE : Hid (wantY s (k : Int) (r : Int) d = (s, 9)) := by show _ = _; unfold wantY; rw [if_neg (fun hh => hh hp), Int.toNat_natCast, HZ.out, if_pos (Or.inl hz)]
      rw [HE.out]
      clear h hp hyw hR hI e3 e4 HBN HBD HV HV2 HIN HP HN HE e2 m2 HZ
      go_enter Try.func42, Try.ntmps42
      go_wp2_with fail
      refine C1.out.mono ?_
      rintro e w' ⟨rfl, rfl⟩
      go_wp2_with fail
      go_ret
      exact leads_no H.out rfl rfl
    cases v with
    | true =>
      have HE : Hid (wantY s (k : Int) (r : Int) d = (s, 9)) := by show _ = _; unfold wantY; rw [if_neg (fun hh => hh hp), if_pos (Or.inr HIN.out)]
      rw [HE.out]
      clear h hp hyw hR hI e3 e4 HBN HBD HV HV2 HIN HP HN HE e2 m2 HZ
      go_enter Try.func42, Try.ntmps42
      go_wp2_with fail
      refine C1.out.mono ?_
      rintro e w' ⟨rfl, rfl⟩
      go_wp2_with fail
      go_ret
      exact leads_no H.out rfl rfl
    | false =>
      have HE : Hid (wantY s (k : Int) (r : Int) d = ((s.setN k r true).setD k r d, 0)) := by show _ = _; unfold wantY; rw [if_neg (fun hh => hh hp), if_neg (by rw [HIN.out, Int.toNat_natCast, HZ.out]; intro hh; rcases hh with hh | hh; exact hz hh; cases hh), Int.toNat_natCast, Int.toNat_natCast]
      rw [HE.out] at hyw ⊢
      have HYW := Lib.hid hyw
      have r1 := hR.putN (q := r) hk true
      have r2 := r1.putD (q := r) hk d
      have ht : Turn fp w ((w.setCell ⟨L.bN k, r, none⟩ (.bool true)).setCell ⟨L.bD k, r, none⟩ (.bool d)) := (Turn.of_setCell ⟨L.bN k, r, none⟩ _ (hI.bn k hk)).trans (Turn.of_setCell (fp := fp) ⟨L.bD k, r, none⟩ _ (hI.bd k hk)) fun b hb => Or.inl hb
      have HF := Lib.hid (h.turned r2 rfl hI ht HYW.out)
      have HM : Hid (Moves w fp ((w.setCell ⟨L.bN k, r, none⟩ (.bool true)).setCell ⟨L.bD k, r, none⟩ (.bool d)) fp) := ⟨ht, fun b hb => Or.inl hb⟩
      rw [HBN.out, HBD.out] at HF HM
      clear h hp hyw hR hI e3 e4 HBN HBD HV HV2 HIN HP HN HE r1 r2 ht e2 m2 HZ
      go_enter Try.func42, Try.ntmps42
      go_wp2_with fail
      refine C1.out.mono ?_
      rintro e w' ⟨rfl, rfl⟩
      go_wp2_with fail
      go_region
      go_wp2_with fail
      go_ret
      exact ⟨rfl, HF.out.since ((Below.refl _ _).drew), HM.out.trans (Moves.of_below ((Below.refl _ _).drew))⟩
  · rw [show wantY s x y d = (s, 2) from if_pos hp]
    rw [if_neg hp] at C1
    clear h hp
    go_enter Try.func42, Try.ntmps42
    go_wp2_with fail
    refine C1.out.mono ?_
    rintro e w' ⟨rfl, rfl⟩
    go_wp2_with fail
    go_ret
    exact leads_no H.out rfl rfl
end
end Go.Proofs.Ytmfpelgkjgpfmaa
