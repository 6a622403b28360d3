/- The landed disk: settle. Conditions: the disk's cells; what is kept lies elsewhere. -/
import Derived.Test.YtfhfjfgajbgdcaaDiskTell
set_option linter.unusedVariables false
set_option linter.unusedSimpArgs false
namespace Go.Proofs.Ytfhfjfgajbgdcaa
open Go.RowKit

/-- What was written last to each sector, so many of the writes looked at. -/
def lastK (keep : List Bool) (W : List (Int × List Nat)) (F La : List (List Nat)) : Nat → List (List Nat)
  | 0 => La
  | k + 1 => (lastK keep W F La k).set (waitAt W k).1.toNat ((crashS keep W F (k + 1)).1.getD (waitAt W k).1.toNat [])
theorem lastK_len (keep : List Bool) (W : List (Int × List Nat)) (F La : List (List Nat)) : ∀ k, (lastK keep W F La k).length = La.length
  | 0 => rfl
  | k + 1 => by unfold lastK; rw [List.length_set]; exact lastK_len keep W F La k
theorem crashS_step (keep : List Bool) (W : List (Int × List Nat)) (F : List (List Nat)) (k j : Nat) (h : (waitAt W k).1.toNat ≠ j) : (crashS keep W F (k + 1)).1.getD j [] = (crashS keep W F k).1.getD j [] := by
  rw [crashS]
  split
  · rw [List.getD_eq_getElem?_getD, List.getD_eq_getElem?_getD, List.getElem?_set_ne h]
  · rfl
theorem getD_setN' {α : Type} (l : List α) (k i : Nat) (x : α) {d : α} : (l.set k x).getD i d = if i = k ∧ i < l.length then x else l.getD i d := by
  rw [List.getD_eq_getElem?_getD, List.getD_eq_getElem?_getD, List.getElem?_set]
  by_cases e : i = k
  · subst e
    by_cases h : i < l.length
    · simp [h]
    · simp [h, List.getElem?_eq_none (Nat.le_of_not_lt h)]
  · simp [e, Ne.symm e]
theorem lastK_is {keep : List Bool} {W : List (Int × List Nat)} {F La : List (List Nat)} (hl : La.length = F.length) {j : Nat} (hj : j < F.length) : ∀ k, (lastK keep W F La k).getD j [] = if ∃ i, i < k ∧ (waitAt W i).1.toNat = j then (crashS keep W F k).1.getD j [] else La.getD j []
  | 0 => by rw [if_neg (fun ⟨i, h, _⟩ => absurd h (Nat.not_lt_zero i))]; rfl
  | k + 1 => by
    unfold lastK
    rw [getD_setN' _ _ _ _]
    by_cases e : j = (waitAt W k).1.toNat
    · rw [if_pos ⟨e, by rw [lastK_len, hl]; exact hj⟩, if_pos ⟨k, Nat.lt_succ_self k, e.symm⟩, e]
    · rw [if_neg (fun h => e h.1), lastK_is hl hj k]
      by_cases h : ∃ i, i < k ∧ (waitAt W i).1.toNat = j
      · obtain ⟨i, h1, h2⟩ := h
        rw [if_pos ⟨i, h1, h2⟩, if_pos ⟨i, by omega, h2⟩, crashS_step _ _ _ _ _ (fun h => e h.symm)]
      · rw [if_neg h, if_neg (fun ⟨i, h1, h2⟩ => by
          rcases Nat.lt_or_ge i k with h3 | h3
          · exact h ⟨i, h3, h2⟩
          · obtain rfl : i = k := by omega
            exact e h2.symm)]
theorem crashS_other {keep : List Bool} {W : List (Int × List Nat)} {F : List (List Nat)} {j : Nat} : ∀ k, (∀ i, i < k → (waitAt W i).1.toNat ≠ j) → (crashS keep W F k).1.getD j [] = F.getD j []
  | 0, _ => rfl
  | k + 1, h => by rw [crashS_step _ _ _ _ _ (h k (Nat.lt_succ_self k))]; exact crashS_other k fun i hi => h i (by omega)
theorem lastW_nil (x : Int) : lastW x [] = none := rfl
theorem lastK_end {keep : List Bool} {s : RD} {La : List (List Nat)} (hl : La.length = s.F.length) (hla : ∀ k, k < s.F.length → La.getD k [] = lastOf s k) (hin : ∀ k, k < s.W.length → 0 ≤ (waitAt s.W k).1) {j : Nat} (hj : j < s.F.length) :
    (lastK keep s.W s.F La s.W.length).getD j [] = lastOf (afterCrash s keep) j := by
  have h2 : lastOf (afterCrash s keep) j = (crashS keep s.W s.F s.W.length).1.getD j [] := rfl
  rw [h2, lastK_is hl hj]
  by_cases h : ∃ i, i < s.W.length ∧ (waitAt s.W i).1.toNat = j
  · rw [if_pos h]
  · rw [if_neg h, crashS_other _ fun i hi e => h ⟨i, hi, e⟩, hla j hj]
    unfold lastOf
    rw [lastW_miss fun i hi e => h ⟨i, hi, by rw [e]; exact Int.toNat_natCast j⟩]
/-- What settle leaves. -/
def Settled (w : World) (base g : Nat) (s : RD) (L : DL) (keep : List Bool) (e : Ending) (w' : World) : Prop := e = .returned (.int .i64 (crashN s keep)) ∧ (∃ L' La', Hid (DRep w' base g (afterCrash s keep) L' La') ∧ Hid (∀ fp : Nat → Prop, L.In fp → L'.In fp)) ∧ Hid (Turn (fun b => b = g ∨ b = L.ab.block) w w')
section
variable {w : World} {base g : Nat} {fp : Nat → Prop} {s : RD} {L : DL} {La : List (List Nat)}
set_option maxHeartbeats 16000000 in
set_option maxRecDepth 20000 in
theorem dsettle_any (AK : Option Addr) (nk ck : Nat) (keep : List Bool) (hD : DRep w base g s L La) (hnk : nk ≤ 9223372036854775807) (hK : boolK.Lie w w.heap.size AK nk keep) (hKf : 0 < nk → ∀ b ∈ blk AK, b ≠ g ∧ b ≠ L.ab.block) :
    Calls Try.prog 38 #[.pointer (some ⟨g, 0, none⟩), .slice AK nk ck] w (Settled w base g s L keep) := by
  have HD := Lib.hid hD
  have HK := Lib.hid hK
  have HKF := Lib.hid hKf
  have hmany := hD.wait.many
  have hfew := hD.core.few
  have c2 := hD.core.c2
  obtain ⟨n, HN⟩ : ∃ n, Hid (n = s.W.length) := ⟨_, rfl⟩
  obtain ⟨nF, HNF⟩ : ∃ nF, Hid (nF = s.F.length) := ⟨_, rfl⟩
  rw [← HN.out] at hmany c2
  rw [← HNF.out] at hfew
  have D0 : Hid (DCore w base g s.size (crashS keep s.W s.F 0).1 (lastK keep s.W s.F La 0) s.B { L with vS := L.vS } s.W.length) := hD.core
  clear hD hK hKf
  go_enter Try.func38, Try.ntmps38
  go_wp2_with fail
  clear c2
  go_loopw [5, 14] (fun t5 t14 wr => ∃ (k m : Nat) (vS : List TV), t14 = .int .i64 k ∧ k ≤ n ∧ t5 = .int .i64 m ∧ m ≤ k ∧ Hid (m = (crashS keep s.W s.F k).2) ∧ Hid (DCore wr base g s.size (crashS keep s.W s.F k).1 (lastK keep s.W s.F La k) s.B { L with vS := vS } s.W.length) ∧ Hid (DWait wr base s.F.length s.W L.AW L.cW L.vW) ∧ Hid (∀ fp : Nat → Prop, L.In fp → DL.In fp { L with vS := vS }) ∧ Hid (Turn (fun b => b = g ∨ b = L.ab.block) w wr)) (fun _ t14 _ => n - (intOf t14).toNat)
  case atStart => exact ⟨0, 0, L.vS, rfl, Nat.zero_le _, rfl, Nat.le_refl _, rfl, D0, HD.out.wait, fun fp h => h, Turn.refl _ _⟩
  case round =>
    obtain ⟨k, m, vS, rfl, hk, rfl, hm, HM, HR, HWT, HI, HT⟩ := hrel
    by_cases hlt : k < n
    · have i0 : (0 : Int) ≤ (k : Int) := by omega
      have i1 : (k : Int) < (n : Int) := by omega
      obtain ⟨ad, A1, n1, q1, e1, e2, e3, e4, e5, e6⟩ := HWT.out.wait (k := k) (by rw [← HN.out]; exact hlt)
      obtain ⟨p0, p1⟩ := HWT.out.ins k (by rw [← HN.out]; exact hlt)
      have hz := HWT.out.sizew k
      obtain ⟨q, HQ⟩ : ∃ q : Nat, (waitAt s.W k).1 = (q : Int) := ⟨(waitAt s.W k).1.toNat, by omega⟩
      have hqF : q < nF := by rw [HNF.out]; omega
      have HFL : Hid ((crashS keep s.W s.F k).1.length = nF) := by show _ = _; rw [crashS_len, HNF.out]
      rw [HQ] at e3
      -- the copy of the write
      obtain ⟨W1, HW1⟩ : ∃ W1, Hid (W1 = wr.alloc (.cells #[.int .i64 (q : Int), .slice A1 n1 q1] 74)) := ⟨_, rfl⟩
      have L1 : Hid (Later wr W1) := by rw [HW1.out]; exact later_alloc _ _
      have C1 := Lib.hid (HR.out.since L1.out)
      have T1 := Lib.hid (HWT.out.since L1.out)
      have U1 : Hid (Turn (fun b => b = g ∨ b = L.ab.block) w W1) := HT.out.trans (Turn.of_below (fp := fun _ => False) L1.out) fun b hb => hb.elim
      have x1 := C1.out.c1
      dsimp only at x1
      rw [HFL.out] at x1
      have y0 : W1.cell? ⟨wr.heap.size, 0, none⟩ = some (.int .i64 (q : Int)) := by rw [HW1.out, cell_new]; rfl
      have y1 : W1.cell? ⟨wr.heap.size, 1, none⟩ = some (.slice A1 n1 q1) := by rw [HW1.out, cell_new]; rfl
      have hmw : wr.heap.size < W1.heap.size := by rw [HW1.out]; simp
      obtain ⟨LW, HLW⟩ : ∃ LW, Hid (L.AW = LW) := ⟨_, rfl⟩
      rw [HLW.out] at e1
      subst e1
      have HSL : Hid (L.AW = some ad) := HLW.out
      -- behind the draw
      obtain ⟨W2, HW2⟩ : ∃ W2, Hid (W2 = W1.drew) := ⟨_, rfl⟩
      have L2 : Hid (Later W1 W2) := by rw [HW2.out]; exact (Below.refl _ _).drew
      have C2 := Lib.hid (C1.out.since L2.out)
      have T2 := Lib.hid (T1.out.since L2.out)
      have U2 : Hid (Turn (fun b => b = g ∨ b = L.ab.block) w W2) := U1.out.trans (Turn.of_below (fp := fun _ => False) L2.out) fun b hb => hb.elim
      have hqL : q < (crashS keep s.W s.F k).1.length := by rw [HFL.out]; exact hqF
      have O2 := Lib.hid ((e5.since L1.out).since L2.out)
      obtain ⟨v0, v1, v2⟩ := C2.out.sector hqL
      dsimp only at v0 v1 v2
      have z0 := C2.out.free0 q
      have z1 := C2.out.free3 q 1
      dsimp only at z0 z1
      have y2 : W2.cell? ⟨wr.heap.size, 1, none⟩ = some (.slice A1 n1 q1) := (L2.out.cell hmw).trans y1
      obtain ⟨Vq, HVQ⟩ : ∃ Vq, Hid (Vq = DL.sec { L with vS := vS } q) := ⟨_, rfl⟩
      rw [← HVQ.out] at v0 v1 v2
      -- s.last = s.firm
      have HEND : ∀ (W3 : World) (F3 : List (List Nat)) (vS3 : List TV), F3 = (crashS keep s.W s.F (k + 1)).1 → DCore W3 base g s.size F3 (lastK keep s.W s.F La k) s.B { L with vS := vS3 } s.W.length → DWait W3 base s.F.length s.W L.AW L.cW L.vW → (∀ fp : Nat → Prop, L.In fp → DL.In fp { L with vS := vS3 }) → Turn (fun b => b = g ∨ b = L.ab.block) w W3 → q < F3.length →
          ∃ vS4, DCore (W3.setCell ⟨(L.ab.add (q * 3)).block, (L.ab.add (q * 3)).off + 1, none⟩ (.slice (DL.sec { L with vS := vS3 } q).f.a (DL.sec { L with vS := vS3 } q).f.n (DL.sec { L with vS := vS3 } q).f.c)) base g s.size (crashS keep s.W s.F (k + 1)).1 (lastK keep s.W s.F La (k + 1)) s.B { L with vS := vS4 } s.W.length ∧
            DWait (W3.setCell ⟨(L.ab.add (q * 3)).block, (L.ab.add (q * 3)).off + 1, none⟩ (.slice (DL.sec { L with vS := vS3 } q).f.a (DL.sec { L with vS := vS3 } q).f.n (DL.sec { L with vS := vS3 } q).f.c)) base s.F.length s.W L.AW L.cW L.vW ∧ (∀ fp : Nat → Prop, L.In fp → DL.In fp { L with vS := vS4 }) ∧
            Turn (fun b => b = g ∨ b = L.ab.block) w (W3.setCell ⟨(L.ab.add (q * 3)).block, (L.ab.add (q * 3)).off + 1, none⟩ (.slice (DL.sec { L with vS := vS3 } q).f.a (DL.sec { L with vS := vS3 } q).f.n (DL.sec { L with vS := vS3 } q).f.c)) := by
        intro W3 F3 vS3 hF3 c3 t3 i3 u3 hq3
        subst hF3
        have hp := c3.putL hq3 (c3.fb q hq3) (c3.sizes q)
        obtain ⟨cur, hcur⟩ := c3.typedS
        have hpl := c3.place q
        dsimp only at hpl hcur
        have hbl : (L.ab.add (q * 3)).block = L.ab.block := by rw [hpl]
        refine ⟨vS3.set q { DL.sec { L with vS := vS3 } q with l := (DL.sec { L with vS := vS3 } q).f }, ?_, ?_, ?_, ?_⟩
        · show DCore _ base g s.size _ ((lastK keep s.W s.F La k).set (waitAt s.W k).1.toNat ((crashS keep s.W s.F (k + 1)).1.getD (waitAt s.W k).1.toNat [])) s.B _ _
          rw [HQ, Int.toNat_natCast]
          exact hp
        · exact t3.keepN (T0 := 63) (keepN_setCell (by rw [hbl]; exact hcur)) (by decide) (by decide)
        · intro fp h
          have h3 := i3 fp h
          have hl3 : q < vS3.length := by have := c3.vlen; dsimp only at this; rw [this]; exact hq3
          refine ⟨h3.s, fun v hv b hb => ?_, fun v hv b hb => ?_, h3.w, h3.vw⟩
          · rcases List.mem_or_eq_of_mem_set hv with h4 | h4
            · exact h3.f v h4 b hb
            · rw [h4] at hb
              exact h3.secf hl3 b hb
          · rcases List.mem_or_eq_of_mem_set hv with h4 | h4
            · exact h3.l v h4 b hb
            · rw [h4] at hb
              exact h3.secf hl3 b hb
        · exact u3.trans (Turn.of_setCell (fp := fun b => b = g ∨ b = L.ab.block) _ _ (Or.inr hbl)) fun b hb => Or.inl hb
      have HE := Lib.hid HEND
      have HCR : Hid (keepB keep k = true → (crashS keep s.W s.F (k + 1)).1 = (crashS keep s.W s.F k).1.set q (waitAt s.W k).2 ∧ (crashS keep s.W s.F (k + 1)).2 = (crashS keep s.W s.F k).2 + 1) := fun h => by
        rw [crashS, if_pos h]
        dsimp only
        rw [HQ, Int.toNat_natCast]
        exact ⟨rfl, rfl⟩
      have HCN : Hid (keepB keep k = false → crashS keep s.W s.F (k + 1) = crashS keep s.W s.F k) := fun h => by
        rw [crashS, h]; rfl
      have HKL : Hid (keep.length = nk) := HK.out.len
      -- nothing lasts
      have HNO : Hid (keepB keep k = false → ∃ vS4, DCore (W2.setCell ⟨(L.ab.add (q * 3)).block, (L.ab.add (q * 3)).off + 1, none⟩ (.slice Vq.f.a Vq.f.n Vq.f.c)) base g s.size (crashS keep s.W s.F (k + 1)).1 (lastK keep s.W s.F La (k + 1)) s.B { L with vS := vS4 } s.W.length ∧
          DWait (W2.setCell ⟨(L.ab.add (q * 3)).block, (L.ab.add (q * 3)).off + 1, none⟩ (.slice Vq.f.a Vq.f.n Vq.f.c)) base s.F.length s.W L.AW L.cW L.vW ∧ (∀ fp : Nat → Prop, L.In fp → DL.In fp { L with vS := vS4 }) ∧
          Turn (fun b => b = g ∨ b = L.ab.block) w (W2.setCell ⟨(L.ab.add (q * 3)).block, (L.ab.add (q * 3)).off + 1, none⟩ (.slice Vq.f.a Vq.f.n Vq.f.c))) := fun h => by
        have e := HCN.out h
        rw [HVQ.out]
        exact HE.out W2 _ vS (by rw [e]) C2.out T2.out HI.out U2.out hqL
      -- it lasts
      obtain ⟨W3, HW3⟩ : ∃ W3, Hid (W3 = W2.setCell (L.ab.add (q * 3)) (.slice A1 n1 q1)) := ⟨_, rfl⟩
      have P3 := C2.out.putF hqL (v := ⟨A1, n1, q1⟩) O2.out hz
      dsimp only at P3
      rw [← HW3.out] at P3
      have hq3 : q < ((crashS keep s.W s.F k).1.set q (waitAt s.W k).2).length := by rw [List.length_set]; exact hqL
      obtain ⟨b0, b1, b2⟩ := P3.sector hq3
      have hsec3 : DL.sec { L with vS := vS.set q { DL.sec { L with vS := vS } q with f := ⟨A1, n1, q1⟩ } } q = { DL.sec { L with vS := vS } q with f := ⟨A1, n1, q1⟩ } := by
        have hl3 : q < vS.length := by have := C2.out.vlen; dsimp only at this; rw [this]; exact hqL
        unfold DL.sec
        rw [getD_setN _ _ _ _ _ hl3, if_pos rfl]
      rw [hsec3] at b0 b1 b2
      dsimp only at b0 b1 b2
      rw [← HVQ.out] at b1 b2
      have m1 := P3.free3 q 1
      dsimp only at m1
      have T3 : DWait W3 base s.F.length s.W L.AW L.cW L.vW := by
        rw [HW3.out]
        obtain ⟨cur, hcur⟩ := C2.out.typedS
        have hpl := C2.out.place q
        dsimp only at hpl hcur
        rw [hpl]
        exact T2.out.keepN (T0 := 63) (keepN_setCell hcur) (by decide) (by decide)
      have U3 : Turn (fun b => b = g ∨ b = L.ab.block) w W3 := by
        rw [HW3.out]
        have hpl := C2.out.place q
        dsimp only at hpl
        exact U2.out.trans (Turn.of_setCell (fp := fun b => b = g ∨ b = L.ab.block) _ _ (Or.inr (by rw [hpl]))) fun b hb => Or.inl hb
      have I3 : ∀ fp : Nat → Prop, L.In fp → DL.In fp { L with vS := vS.set q { DL.sec { L with vS := vS } q with f := ⟨A1, n1, q1⟩ } } := fun fp h => by
        have h3 := HI.out fp h
        have hl3 : q < vS.length := by have := C2.out.vlen; dsimp only at this; rw [this]; exact hqL
        refine ⟨h3.s, fun v hv b hb => ?_, fun v hv b hb => ?_, h3.w, h3.vw⟩
        · rcases List.mem_or_eq_of_mem_set hv with h4 | h4
          · exact h3.f v h4 b hb
          · rw [h4] at hb
            have hb' : b ∈ blk A1 := hb
            rw [show A1 = ((L.vW.getD k ⟨0, SV.zero⟩).s).a by rw [← e6]] at hb'
            exact h3.vw _ (getD_mem_lt (by rw [HWT.out.wr.len, ← HN.out]; exact hlt) _) b hb'
        · rcases List.mem_or_eq_of_mem_set hv with h4 | h4
          · exact h3.l v h4 b hb
          · rw [h4] at hb
            exact h3.secl hl3 b hb
      have HYES : Hid (keepB keep k = true → ∃ vS4, DCore (W3.setCell ⟨(L.ab.add (q * 3)).block, (L.ab.add (q * 3)).off + 1, none⟩ (.slice A1 n1 q1)) base g s.size (crashS keep s.W s.F (k + 1)).1 (lastK keep s.W s.F La (k + 1)) s.B { L with vS := vS4 } s.W.length ∧
          DWait (W3.setCell ⟨(L.ab.add (q * 3)).block, (L.ab.add (q * 3)).off + 1, none⟩ (.slice A1 n1 q1)) base s.F.length s.W L.AW L.cW L.vW ∧ (∀ fp : Nat → Prop, L.In fp → DL.In fp { L with vS := vS4 }) ∧
          Turn (fun b => b = g ∨ b = L.ab.block) w (W3.setCell ⟨(L.ab.add (q * 3)).block, (L.ab.add (q * 3)).off + 1, none⟩ (.slice A1 n1 q1))) := fun h => by
        have h4 := HE.out W3 _ _ (HCR.out h).1.symm P3 T3 I3 U3 hq3
        rw [hsec3] at h4
        exact h4
      have HKK : Hid (boolK.Lie W2 W2.heap.size AK nk keep) := Lie.at_block HK.out U2.out.size fun h0 b hb hlt => U2.out.block b hlt fun h => by
        rcases h with h | h
        · exact (HKF.out h0 b hb).1 h
        · exact (HKF.out h0 b hb).2 h
      obtain ⟨aS, HAS⟩ : ∃ aS, Hid (L.ab = aS) := ⟨_, rfl⟩
      rw [HAS.out] at x1 v0 v1 v2 z0 z1 b0 b1 b2 m1 HW3 HNO HYES HE ⊢
      have j0 : (0 : Int) ≤ (q : Int) := by omega
      have j1 : (q : Int) < (nF : Int) := by omega
      obtain ⟨VF, HVF⟩ : ∃ VF, Hid (VF = Vq.f) := ⟨_, rfl⟩
      obtain ⟨VL, HVL⟩ : ∃ VL, Hid (VL = Vq.l) := ⟨_, rfl⟩
      rw [← HVF.out] at v0 HNO
      rw [← HVL.out] at v1 b1
      obtain ⟨fa, fn, fc⟩ := VF
      obtain ⟨la, ln, lc⟩ := VL
      dsimp only at v0 v1 b1 HNO
      rw [HW3.out] at b0 b1 m1
      clear P3 T3 U3 I3 hsec3 v2 b2 HEND e5 e6 hz p0 p1 hq3
      rw [HSL.out] at HNO HYES ⊢
      have HNE : Hid (keepB keep k = false → m = (crashS keep s.W s.F (k + 1)).2) := fun h => by rw [HCN.out h]; exact HM.out
      by_cases hk0 : 0 < nk
      · obtain ⟨r, hr, HRM⟩ : ∃ r : Nat, r < nk ∧ Hid ((k : Int) % (nk : Int) = (r : Int)) := ⟨k % nk, Nat.mod_lt _ hk0, (Int.natCast_emod k nk).symm⟩
        obtain ⟨adK, o1, o2, o3⟩ := HKK.out.each r hr
        have o4 := boolK_at (b := keep.getD r false) o3
        rw [show r * boolK.k = r from Nat.mul_one r] at o4
        subst o1
        have HKB : Hid (keepB keep k = keep.getD r false) := by
          show _ = _
          unfold keepB
          have e : r = k % nk := by have := HRM.out; omega
          rw [HKL.out, ← e, decide_eq_true hk0, Bool.true_and]
        have r0 : (0 : Int) ≤ (r : Int) := by omega
        have r1 : (r : Int) < (nk : Int) := by omega
        have nk0 : (0 : Int) < (nk : Int) := by omega
        have nkz : ((nk : Int) == 0) = false := by simp; omega
        clear o3
        rcases hb : keep.getD r false with _ | _
        · rw [hb] at o4 HKB
          have HM2 := Lib.hid (HNE.out HKB.out)
          obtain ⟨vS4, g1, g2, g3, g4⟩ := HNO.out HKB.out
          have G1 := Lib.hid g1
          have G2 := Lib.hid g2
          have G3 := Lib.hid g3
          have G4 := Lib.hid g4
          clear hb g1 g2 g3 g4
          go_wp2_with fail
          rw [← HW1.out]
          go_region
          rw [← HW2.out]
          go_wp2_with (simp only [HRM.out])
          go_roundw
          case rel => exact ⟨k + 1, m, vS4, by go_num, by omega, rfl, by omega, HM2, G1, G2, G3, G4⟩
          case measure => simp [intOf]; omega
        · rw [hb] at o4 HKB
          have HM2 : Hid (m + 1 = (crashS keep s.W s.F (k + 1)).2) := by show _ = _; rw [(HCR.out HKB.out).2, HM.out]
          obtain ⟨vS4, g1, g2, g3, g4⟩ := HYES.out HKB.out
          rw [HW3.out] at g1 g2 g4
          have G1 := Lib.hid g1
          have G2 := Lib.hid g2
          have G3 := Lib.hid g3
          have G4 := Lib.hid g4
          clear hb g1 g2 g3 g4
          go_wp2_with fail
          rw [← HW1.out]
          go_region
          rw [← HW2.out]
          go_wp2_with (simp only [HRM.out])
          go_roundw
          case rel => exact ⟨k + 1, m + 1, vS4, by go_num, by omega, by go_num, by omega, HM2, G1, G2, G3, G4⟩
          case measure => simp [intOf]; omega
      · have hkz : nk = 0 := by omega
        have HKB : Hid (keepB keep k = false) := by
          show _ = _
          unfold keepB
          rw [HKL.out, hkz]; rfl
        have HM2 := Lib.hid (HNE.out HKB.out)
        obtain ⟨vS4, g1, g2, g3, g4⟩ := HNO.out HKB.out
        have G1 := Lib.hid g1
        have G2 := Lib.hid g2
        have G3 := Lib.hid g3
        have G4 := Lib.hid g4
        have hnk0 : ¬ (0 : Int) < (nk : Int) := by omega
        clear g1 g2 g3 g4 hkz
        go_wp2_with fail
        rw [← HW1.out]
        go_region
        rw [← HW2.out]
        go_wp2_with fail
        go_roundw
        case rel => exact ⟨k + 1, m, vS4, by go_num, by omega, rfl, by omega, HM2, G1, G2, G3, G4⟩
        case measure => simp [intOf]; omega
    · have hkn : k = n := by omega
      subst hkn
      have f2 := HR.out.free 2
      have d2 := HR.out.c2
      dsimp only at d2
      have hend := HR.out.putW none 0 0 []
      have HFL : (crashS keep s.W s.F s.W.length).1.length = s.F.length := crashS_len _ _ _ _
      have hp : DRep (wr.setCell ⟨g, 2, none⟩ (.slice none 0 0)) base g (afterCrash s keep) { L with vS := vS, AW := none, cW := 0, vW := [] } (lastK keep s.W s.F La k) := by
        refine ⟨?_, ?_, fun j hj => ?_, HD.out.size⟩
        · show DCore _ base g s.size (crashS keep s.W s.F s.W.length).1 _ s.B _ 0
          rw [← HN.out]; exact hend
        · exact DWait.none_
        · have hj' : j < s.F.length := by have h1 : j < (crashS keep s.W s.F s.W.length).1.length := hj; rwa [HFL] at h1
          rw [HN.out]
          exact lastK_end HD.out.core.lenL HD.out.last (fun i hi => (HD.out.wait.ins i hi).1) hj'
      have HEND := Lib.hid hp
      have TEND : Hid (Turn (fun b => b = g ∨ b = L.ab.block) w (wr.setCell ⟨g, 2, none⟩ (.slice none 0 0))) := HT.out.trans (Turn.of_setCell (fp := fun b => b = g ∨ b = L.ab.block) ⟨g, 2, none⟩ _ (Or.inl rfl)) fun b hb => Or.inl hb
      have HCNT : Hid (crashN s keep = m) := by show _ = _; unfold crashN; rw [← HN.out]; exact HM.out.symm
      obtain ⟨LW, HLW⟩ : ∃ LW, Hid (L.AW = LW) := ⟨_, rfl⟩
      rw [HLW.out] at d2
      clear hend hp HFL
      go_wp2_with fail
      go_ret
      exact ⟨by rw [HCNT.out]; rfl, ⟨_, _, HEND, fun fp h => by
        have h3 := HI.out fp h
        exact ⟨h3.s, h3.f, h3.l, fun b hb => (by cases hb), fun v hv => (by cases hv)⟩⟩, TEND⟩
end
end Go.Proofs.Ytfhfjfgajbgdcaa
