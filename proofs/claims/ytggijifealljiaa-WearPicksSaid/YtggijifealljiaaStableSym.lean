/- slices.SortStableFunc: two halves merged in their place. Conditions: the row's cells; at most 8000 elements; the comparison's contract. -/
import Derived.Test.YtggijifealljiaaStableHalf
set_option linter.unusedVariables false
set_option linter.unusedSimpArgs false
namespace Go.Proofs.Ytggijifealljiaa
open Go.RowKit

section
variable {h : Nat} {p : Addr} {cf : Int → Int → Int} {tg : Int → Int} {ll : Int → Int → Prop} {ok : Int → Prop} {g n c : Nat} {W0 : World}
/-- What a merge of less than so many elements does. -/
def SymTo (h : Nat) (p : Addr) (tg : Int → Int) (ll : Int → Int → Prop) (ok : Int → Prop) (g n c : Nat) (W0 : World) (N : Nat) : Prop :=
  ∀ (V X L R Y : List Int) (a m b : Nat) (w : World), b - a < N → SRow g n c W0 V w → Halves tg ll V X L R Y a m b → AllOk ok V → a < m → m < b →
    Calls Try.prog 34 #[.slice (some ⟨g, 0, none⟩) n c, .int .i64 a, .int .i64 m, .int .i64 b, .func (.func h) #[] #[.pointer (some p)]] w (Merges ll g n c W0 X L R Y)
set_option maxRecDepth 100000 in
set_option maxHeartbeats 16000000 in
theorem sym_hi {V X L R Y : List Int} {a m b md s0 pp N : Nat} (C : Cmp3 h p cf tg ll ok g W0) (w : World) (hn : n ≤ 8000) (IH : Hid (SymTo h p tg ll ok g n c W0 N)) (hN : b - a < N + 1) (S0 : SRow g n c W0 V w) (H : Halves tg ll V X L R Y a m b) (hok : AllOk ok V) (B : Bis a m b md s0 md pp) (hw : md < m) (e0 : s0 + b = md + m) :
    Calls Try.prog 34 #[.slice (some ⟨g, 0, none⟩) n c, .int .i64 a, .int .i64 m, .int .i64 b, .func (.func h) #[] #[.pointer (some p)]] w (Merges ll g n c W0 X L R Y) := by
  have hbn : b ≤ n := by rw [← S0.len, H.eq]; have := H.la; have := H.lm; have := H.lb; simp; omega
  have HS := Lib.hid S0
  have HH := Lib.hid H
  have HOK := Lib.hid hok
  have eg := C.ent
  have HC := Lib.hid C
  have HB := Lib.hid B
  have HN := Lib.hid hN
  obtain ⟨nn, hnn⟩ : ∃ nn, nn = md + m := ⟨_, rfl⟩
  have HNN := Lib.hid hnn
  have z0 : ¬ (m : Int) - (a : Int) = 1 := by have := B.am; omega
  have z1 : ¬ (b : Int) - (m : Int) = 1 := by have := B.mb; omega
  have z2 : ((a : Int) + (b : Int)) / 2 = (md : Int) := by have := B.lo; have := B.hi; omega
  have z3 : (md : Int) + (m : Int) = (nn : Int) := by omega
  have z4 : (nn : Int) - 1 = (pp : Int) := by have := B.pe; omega
  have hppn : pp < 16000 := by have := B.pe; have := B.ends; omega
  have hsr : s0 ≤ md := B.ends.2.1
  have hr0m : md ≤ m := B.ends.2.2.1
  have hmb : m < b := by have := B.mb; omega
  have hwz : (md : Int) < (m : Int) := by omega
  have z5 : (nn : Int) - (b : Int) = (s0 : Int) := by omega
  clear e0
  clear S0 H hok C B hN hnn
  go_enter Try.func34, Try.ntmps34
  go_wp2_with fail
  clear z0 z1 z2 z3 z4
  go_loopw [20, 21] (fun t20 t21 wr => ∃ i j : Nat, t20 = .int .i64 i ∧ t21 = .int .i64 j ∧ s0 ≤ i ∧ i ≤ j ∧ j ≤ md ∧ Hid (SRow g n c W0 V wr) ∧ Hid (SymPre cf V pp s0 i) ∧ Hid (SymPost cf V pp j md)) (fun t20 t21 _ => (intOf t21).toNat - (intOf t20).toNat)
  case atStart => exact ⟨s0, md, rfl, rfl, Nat.le_refl _, hsr, Nat.le_refl _, HS, fun k h1 h2 => by omega, fun k h1 h2 => by omega⟩
  case round =>
    clear HS
    obtain ⟨i, j, rfl, rfl, hs0, hij, hsr0, HS, HPRE, HPOST⟩ := hrel
    by_cases hlt : i < j
    · have hltz : (i : Int) < (j : Int) := by omega
      obtain ⟨q, hq⟩ : ∃ q, q = (i + j) / 2 := ⟨_, rfl⟩
      have hqz : ((i : Int) + (j : Int)) / 2 = (q : Int) := by omega
      have hq1 : i ≤ q := by omega
      have hq2 : q < j := by omega
      obtain ⟨z, hz⟩ : ∃ z, z = pp - q := ⟨_, rfl⟩
      have hin := HB.out.in_ (c := q) (by omega) (by omega)
      have hzz : (pp : Int) - (q : Int) = (z : Int) := by omega
      have hzn : z < n := by omega
      have hqn : q < n := by omega
      obtain ⟨x, HX⟩ : ∃ x, Hid (V.getD z 0 = x) := ⟨_, rfl⟩
      obtain ⟨y, HY⟩ : ∃ y, Hid (V.getD q 0 = y) := ⟨_, rfl⟩
      have HZ : Hid (z = pp - q) := hz
      clear hq hin hz
      go_wp2_with fail
      clear hqz
      have c1 := HS.out.cell (i := z) hzn
      have c2 := HS.out.cell (i := q) hqn
      have hc := HS.out.cmp3 HC.out HOK.out (i := z) (j := q) hzn hqn
      rw [HX.out] at c1
      rw [HY.out] at c2
      rw [HX.out, HY.out] at hc
      have i0 : (0 : Int) ≤ (q : Int) := by omega
      have i1 : (q : Int) < (n : Int) := by omega
      have i2 : (0 : Int) ≤ (z : Int) := by omega
      have i3 : (z : Int) < (n : Int) := by omega
      by_cases hv : cf x y < 0
      · have HPOST2 : Hid (SymPost cf V pp q md) := HB.out.less HH.out HC.out.ord (by omega) (by omega) (by rw [← HZ.out, HX.out, HY.out]; exact hv)
        have hd : decide (cf x y < 0) = true := decide_eq_true hv
        go_quiet (refine Calls.quiet_of (hc _))
        have S2 := Lib.hid (HS.out.drewN nq)
        clear hc c1 c2 HS HX HY HZ HPOST hzz
        generalize wr.drewN nq = w2 at S2 ⊢
        clear nq
        go_wp2_with fail
        go_roundw
        case rel => exact ⟨i, q, rfl, rfl, by omega, by omega, by omega, S2, HPRE, HPOST2⟩
        case measure => simp [intOf]; omega
      · have HPRE2 : Hid (SymPre cf V pp s0 (q + 1)) := HB.out.not_less HH.out HC.out.ord (by omega) (by omega) (by rw [← HZ.out, HX.out, HY.out]; exact hv)
        have hd : decide (cf x y < 0) = false := decide_eq_false hv
        go_quiet (refine Calls.quiet_of (hc _))
        have S2 := Lib.hid (HS.out.drewN nq)
        clear hc c1 c2 HS HX HY HZ HPRE hzz
        generalize wr.drewN nq = w2 at S2 ⊢
        clear nq
        go_wp2_with fail
        go_roundw
        case rel => exact ⟨q + 1, j, by go_num, rfl, by omega, by omega, by omega, S2, HPRE2, HPOST⟩
        case measure => simp [intOf]; omega
    · obtain ⟨s, HSI⟩ : ∃ s, Hid (s = i) := ⟨_, rfl⟩
      obtain rfl : j = i := by omega
      obtain rfl : s = j := HSI.out
      clear HSI
      obtain ⟨en, hen⟩ : ∃ en, en = md + m - s := ⟨_, rfl⟩
      have hsen : s + en = md + m := by have := HB.out.ends; omega
      have henb : en < 16000 := by have := HB.out.ends; have := HB.out.mb; have := HB.out.lo; omega
      have henz : (nn : Int) - (s : Int) = (en : Int) := by have := HNN.out; omega
      clear hen
      have HO : Hid (∃ L1 L2 R1 R2, L = L1 ++ L2 ∧ R = R1 ++ R2 ∧ Quar tg ll X L1 L2 R1 R2 Y a s m en b md) := HB.out.parts HH.out HC.out.ord hs0 hsr0 hsen HPRE.out HPOST.out
      obtain ⟨L1, L2, R1, R2, hL, hR, hQ⟩ := HO.out
      have HL := Lib.hid hL
      have HR := Lib.hid hR
      have HQ := Lib.hid hQ
      have HV : Hid (V = X ++ (L1 ++ (L2 ++ (R1 ++ (R2 ++ Y))))) := by
        show _ = _
        rw [HH.out.eq, hL, hR]; simp
      have HOK1 : Hid (AllOk ok (X ++ (L1 ++ (R1 ++ (L2 ++ (R2 ++ Y)))))) := HOK.out.perm fun x hx => by
        rw [HV.out]
        simp only [List.mem_append] at hx ⊢
        rcases hx with h1 | h1 | h1 | h1 | h1 | h1
        · exact Or.inl h1
        · exact Or.inr (Or.inl h1)
        · exact Or.inr (Or.inr (Or.inr (Or.inl h1)))
        · exact Or.inr (Or.inr (Or.inl h1))
        · exact Or.inr (Or.inr (Or.inr (Or.inr (Or.inl h1))))
        · exact Or.inr (Or.inr (Or.inr (Or.inr (Or.inr h1))))
      have HS0 := Lib.hid (HS.out.same HV.out)
      clear HO hL hR hQ HS HV HPRE HPOST HOK hsen
      by_cases hr1 : s < m
      · by_cases hr2 : m < en
        · have hx1 : (s : Int) < (m : Int) := by omega
          have hx2 : (m : Int) < (en : Int) := by omega
          have CR := Lib.hid (rotate_any (.func (.func h) #[] #[.pointer (some p)]) s m en (X ++ L1) L2 R1 (R2 ++ Y) wr hn (HS0.out.same (by simp)) (by rw [List.length_append, HQ.out.la]; exact HQ.out.l1) HQ.out.l2 HQ.out.l3 (by have := HQ.out.l2; omega) (by have := HQ.out.l3; omega))
          clear HS0
          go_wp2_with fail
          refine CR.out.mono ?_
          rintro e wr2 ⟨rfl, HSR⟩
          have HS3 : Hid (SRow g n c W0 (X ++ (L1 ++ (R1 ++ (L2 ++ (R2 ++ Y))))) wr2) := HSR.out.same (by simp)
          clear HSR
          by_cases hd1 : a < s
          · by_cases hd2 : s < md
            · have hy1 : (a : Int) < (s : Int) := by omega
              have hy2 : (s : Int) < (md : Int) := by omega
              have C1 := Lib.hid (IH.out _ _ _ _ _ a s md _ (by have := HN.out; have := HB.out.ends; omega) HS3.out HQ.out.half1 HOK1.out hd1 hd2)
              clear HS3
              go_wp2_with fail
              refine C1.out.mono ?_
              rintro e wr3 ⟨rfl, HM⟩
              obtain ⟨M1, k1, k2, k3⟩ := HM.out
              have HS1 : Hid (SRow g n c W0 (X ++ (M1 ++ (L2 ++ (R2 ++ Y)))) wr3) := k1
              have HP1 := Lib.hid k2
              have HW1 := Lib.hid k3
              clear HM k1 k2 k3
              have HOK2 : Hid (AllOk ok (X ++ (M1 ++ (L2 ++ (R2 ++ Y))))) := HOK1.out.perm fun x hx => by
                have := HP1.out.mem_iff (a := x)
                simp only [List.mem_append] at hx this ⊢
                rcases hx with h1 | h1 | h1 | h1 | h1
                · exact Or.inl h1
                · rcases this.1 h1 with h2 | h2
                  · exact Or.inr (Or.inl h2)
                  · exact Or.inr (Or.inr (Or.inl h2))
                · exact Or.inr (Or.inr (Or.inr (Or.inl h1)))
                · exact Or.inr (Or.inr (Or.inr (Or.inr (Or.inl h1))))
                · exact Or.inr (Or.inr (Or.inr (Or.inr (Or.inr h1))))
              by_cases hc1 : md < en
              · by_cases hc2 : en < b
                · have hz1 : (md : Int) < (en : Int) := by omega
                  have hz2 : (en : Int) < (b : Int) := by omega
                  have C2 := Lib.hid (IH.out _ _ _ _ _ md en b _ (by have := HN.out; have := HB.out.ends; omega) HS1.out (HQ.out.half2 HP1.out) HOK2.out hc1 hc2)
                  clear HS1
                  go_wp2_with fail
                  refine C2.out.mono ?_
                  rintro e w9 ⟨rfl, HM⟩
                  have HF : Hid (∃ M : List Int, SRow g n c W0 (X ++ (M ++ Y)) w9 ∧ M.Perm (L ++ R) ∧ M.Pairwise ll) := by
                    obtain ⟨M2, k1, k2, k3⟩ := HM.out
                    obtain ⟨k4, k5⟩ := HQ.out.done HP1.out k2 HW1.out k3
                    exact ⟨M1 ++ M2, k1.same (by simp), by rw [HL.out, HR.out]; exact k4, k5⟩
                  go_wp2_with fail
                  go_end0
                  exact ⟨rfl, HF⟩
                · have hz1 : (md : Int) < (en : Int) := by omega
                  have hz2 : decide ((en : Int) < (b : Int)) = false := decide_eq_false (by omega)
                  have hz3 : ¬ (en : Int) < (b : Int) := by omega
                  have HF : Hid (∃ M : List Int, SRow g n c W0 (X ++ (M ++ Y)) wr3 ∧ M.Perm (L ++ R) ∧ M.Pairwise ll) := by
                    have q := HQ.out
                    obtain ⟨k4, k5⟩ := q.done HP1.out (List.Perm.refl (L2 ++ R2)) HW1.out (q.same2 (by
                      have := q.l2; have := q.l3; have := q.l4; have := q.lm; have := q.l1; have := HB.out.ends
                      exact Or.inr (List.eq_nil_of_length_eq_zero (by omega))))
                    exact ⟨M1 ++ (L2 ++ R2), HS1.out.same (by simp), by rw [HL.out, HR.out]; exact k4, k5⟩
                  go_wp2_with fail
                  go_end0
                  exact ⟨rfl, HF⟩
              · have hz1 : decide ((md : Int) < (en : Int)) = false := decide_eq_false (by omega)
                have hz2 : ¬ (md : Int) < (en : Int) := by omega
                have HF : Hid (∃ M : List Int, SRow g n c W0 (X ++ (M ++ Y)) wr3 ∧ M.Perm (L ++ R) ∧ M.Pairwise ll) := by
                  have q := HQ.out
                  obtain ⟨k4, k5⟩ := q.done HP1.out (List.Perm.refl (L2 ++ R2)) HW1.out (q.same2 (by
                    have := q.l2; have := q.l3; have := q.l4; have := q.lm; have := q.l1; have := HB.out.ends
                    exact Or.inl (List.eq_nil_of_length_eq_zero (by omega))))
                  exact ⟨M1 ++ (L2 ++ R2), HS1.out.same (by simp), by rw [HL.out, HR.out]; exact k4, k5⟩
                go_wp2_with fail
                go_end0
                exact ⟨rfl, HF⟩
            · have hy1 : (a : Int) < (s : Int) := by omega
              have hy2 : decide ((s : Int) < (md : Int)) = false := decide_eq_false (by omega)
              have hy3 : ¬ (s : Int) < (md : Int) := by omega
              obtain ⟨M1, HM1⟩ : ∃ M1, Hid (M1 = L1 ++ R1) := ⟨_, rfl⟩
              have HS1 : Hid (SRow g n c W0 (X ++ (M1 ++ (L2 ++ (R2 ++ Y)))) wr2) := HS3.out.same (by rw [HM1.out]; simp)
              have HP1 : Hid (M1.Perm (L1 ++ R1)) := by rw [HM1.out]; exact List.Perm.refl _
              have HW1 : Hid (M1.Pairwise ll) := by
                have q := HQ.out
                rw [HM1.out]
                exact q.same1 (by
                  have := q.l1; have := q.lm
                  exact Or.inr (List.eq_nil_of_length_eq_zero (by omega)))
              obtain ⟨wr3, HWE⟩ : ∃ w, Hid (w = wr2) := ⟨_, rfl⟩
              rw [← HWE.out] at HS1 ⊢
              clear HWE HS3 HM1
              have HOK2 : Hid (AllOk ok (X ++ (M1 ++ (L2 ++ (R2 ++ Y))))) := HOK1.out.perm fun x hx => by
                have := HP1.out.mem_iff (a := x)
                simp only [List.mem_append] at hx this ⊢
                rcases hx with h1 | h1 | h1 | h1 | h1
                · exact Or.inl h1
                · rcases this.1 h1 with h2 | h2
                  · exact Or.inr (Or.inl h2)
                  · exact Or.inr (Or.inr (Or.inl h2))
                · exact Or.inr (Or.inr (Or.inr (Or.inl h1)))
                · exact Or.inr (Or.inr (Or.inr (Or.inr (Or.inl h1))))
                · exact Or.inr (Or.inr (Or.inr (Or.inr (Or.inr h1))))
              by_cases hc1 : md < en
              · by_cases hc2 : en < b
                · have hz1 : (md : Int) < (en : Int) := by omega
                  have hz2 : (en : Int) < (b : Int) := by omega
                  have C2 := Lib.hid (IH.out _ _ _ _ _ md en b _ (by have := HN.out; have := HB.out.ends; omega) HS1.out (HQ.out.half2 HP1.out) HOK2.out hc1 hc2)
                  clear HS1
                  go_wp2_with fail
                  refine C2.out.mono ?_
                  rintro e w9 ⟨rfl, HM⟩
                  have HF : Hid (∃ M : List Int, SRow g n c W0 (X ++ (M ++ Y)) w9 ∧ M.Perm (L ++ R) ∧ M.Pairwise ll) := by
                    obtain ⟨M2, k1, k2, k3⟩ := HM.out
                    obtain ⟨k4, k5⟩ := HQ.out.done HP1.out k2 HW1.out k3
                    exact ⟨M1 ++ M2, k1.same (by simp), by rw [HL.out, HR.out]; exact k4, k5⟩
                  go_wp2_with fail
                  go_end0
                  exact ⟨rfl, HF⟩
                · have hz1 : (md : Int) < (en : Int) := by omega
                  have hz2 : decide ((en : Int) < (b : Int)) = false := decide_eq_false (by omega)
                  have hz3 : ¬ (en : Int) < (b : Int) := by omega
                  have HF : Hid (∃ M : List Int, SRow g n c W0 (X ++ (M ++ Y)) wr3 ∧ M.Perm (L ++ R) ∧ M.Pairwise ll) := by
                    have q := HQ.out
                    obtain ⟨k4, k5⟩ := q.done HP1.out (List.Perm.refl (L2 ++ R2)) HW1.out (q.same2 (by
                      have := q.l2; have := q.l3; have := q.l4; have := q.lm; have := q.l1; have := HB.out.ends
                      exact Or.inr (List.eq_nil_of_length_eq_zero (by omega))))
                    exact ⟨M1 ++ (L2 ++ R2), HS1.out.same (by simp), by rw [HL.out, HR.out]; exact k4, k5⟩
                  go_wp2_with fail
                  go_end0
                  exact ⟨rfl, HF⟩
              · have hz1 : decide ((md : Int) < (en : Int)) = false := decide_eq_false (by omega)
                have hz2 : ¬ (md : Int) < (en : Int) := by omega
                have HF : Hid (∃ M : List Int, SRow g n c W0 (X ++ (M ++ Y)) wr3 ∧ M.Perm (L ++ R) ∧ M.Pairwise ll) := by
                  have q := HQ.out
                  obtain ⟨k4, k5⟩ := q.done HP1.out (List.Perm.refl (L2 ++ R2)) HW1.out (q.same2 (by
                    have := q.l2; have := q.l3; have := q.l4; have := q.lm; have := q.l1; have := HB.out.ends
                    exact Or.inl (List.eq_nil_of_length_eq_zero (by omega))))
                  exact ⟨M1 ++ (L2 ++ R2), HS1.out.same (by simp), by rw [HL.out, HR.out]; exact k4, k5⟩
                go_wp2_with fail
                go_end0
                exact ⟨rfl, HF⟩
          · have hy1 : decide ((a : Int) < (s : Int)) = false := decide_eq_false (by omega)
            have hy2 : ¬ (a : Int) < (s : Int) := by omega
            obtain ⟨M1, HM1⟩ : ∃ M1, Hid (M1 = L1 ++ R1) := ⟨_, rfl⟩
            have HS1 : Hid (SRow g n c W0 (X ++ (M1 ++ (L2 ++ (R2 ++ Y)))) wr2) := HS3.out.same (by rw [HM1.out]; simp)
            have HP1 : Hid (M1.Perm (L1 ++ R1)) := by rw [HM1.out]; exact List.Perm.refl _
            have HW1 : Hid (M1.Pairwise ll) := by
              have q := HQ.out
              rw [HM1.out]
              exact q.same1 (by
                have := q.l1; have := q.lm
                exact Or.inl (List.eq_nil_of_length_eq_zero (by omega)))
            obtain ⟨wr3, HWE⟩ : ∃ w, Hid (w = wr2) := ⟨_, rfl⟩
            rw [← HWE.out] at HS1 ⊢
            clear HWE HS3 HM1
            have HOK2 : Hid (AllOk ok (X ++ (M1 ++ (L2 ++ (R2 ++ Y))))) := HOK1.out.perm fun x hx => by
              have := HP1.out.mem_iff (a := x)
              simp only [List.mem_append] at hx this ⊢
              rcases hx with h1 | h1 | h1 | h1 | h1
              · exact Or.inl h1
              · rcases this.1 h1 with h2 | h2
                · exact Or.inr (Or.inl h2)
                · exact Or.inr (Or.inr (Or.inl h2))
              · exact Or.inr (Or.inr (Or.inr (Or.inl h1)))
              · exact Or.inr (Or.inr (Or.inr (Or.inr (Or.inl h1))))
              · exact Or.inr (Or.inr (Or.inr (Or.inr (Or.inr h1))))
            by_cases hc1 : md < en
            · by_cases hc2 : en < b
              · have hz1 : (md : Int) < (en : Int) := by omega
                have hz2 : (en : Int) < (b : Int) := by omega
                have C2 := Lib.hid (IH.out _ _ _ _ _ md en b _ (by have := HN.out; have := HB.out.ends; omega) HS1.out (HQ.out.half2 HP1.out) HOK2.out hc1 hc2)
                clear HS1
                go_wp2_with fail
                refine C2.out.mono ?_
                rintro e w9 ⟨rfl, HM⟩
                have HF : Hid (∃ M : List Int, SRow g n c W0 (X ++ (M ++ Y)) w9 ∧ M.Perm (L ++ R) ∧ M.Pairwise ll) := by
                  obtain ⟨M2, k1, k2, k3⟩ := HM.out
                  obtain ⟨k4, k5⟩ := HQ.out.done HP1.out k2 HW1.out k3
                  exact ⟨M1 ++ M2, k1.same (by simp), by rw [HL.out, HR.out]; exact k4, k5⟩
                go_wp2_with fail
                go_end0
                exact ⟨rfl, HF⟩
              · have hz1 : (md : Int) < (en : Int) := by omega
                have hz2 : decide ((en : Int) < (b : Int)) = false := decide_eq_false (by omega)
                have hz3 : ¬ (en : Int) < (b : Int) := by omega
                have HF : Hid (∃ M : List Int, SRow g n c W0 (X ++ (M ++ Y)) wr3 ∧ M.Perm (L ++ R) ∧ M.Pairwise ll) := by
                  have q := HQ.out
                  obtain ⟨k4, k5⟩ := q.done HP1.out (List.Perm.refl (L2 ++ R2)) HW1.out (q.same2 (by
                    have := q.l2; have := q.l3; have := q.l4; have := q.lm; have := q.l1; have := HB.out.ends
                    exact Or.inr (List.eq_nil_of_length_eq_zero (by omega))))
                  exact ⟨M1 ++ (L2 ++ R2), HS1.out.same (by simp), by rw [HL.out, HR.out]; exact k4, k5⟩
                go_wp2_with fail
                go_end0
                exact ⟨rfl, HF⟩
            · have hz1 : decide ((md : Int) < (en : Int)) = false := decide_eq_false (by omega)
              have hz2 : ¬ (md : Int) < (en : Int) := by omega
              have HF : Hid (∃ M : List Int, SRow g n c W0 (X ++ (M ++ Y)) wr3 ∧ M.Perm (L ++ R) ∧ M.Pairwise ll) := by
                have q := HQ.out
                obtain ⟨k4, k5⟩ := q.done HP1.out (List.Perm.refl (L2 ++ R2)) HW1.out (q.same2 (by
                  have := q.l2; have := q.l3; have := q.l4; have := q.lm; have := q.l1; have := HB.out.ends
                  exact Or.inl (List.eq_nil_of_length_eq_zero (by omega))))
                exact ⟨M1 ++ (L2 ++ R2), HS1.out.same (by simp), by rw [HL.out, HR.out]; exact k4, k5⟩
              go_wp2_with fail
              go_end0
              exact ⟨rfl, HF⟩
        · have hx1 : (s : Int) < (m : Int) := by omega
          have hx2 : decide ((m : Int) < (en : Int)) = false := decide_eq_false (by omega)
          have hx3 : ¬ (m : Int) < (en : Int) := by omega
          obtain ⟨wr2, HWE⟩ : ∃ w, Hid (w = wr) := ⟨_, rfl⟩
          have HS3 : Hid (SRow g n c W0 (X ++ (L1 ++ (R1 ++ (L2 ++ (R2 ++ Y))))) wr2) := by
            rw [HWE.out]
            refine HS0.out.same ?_
            have q := HQ.out
            have := q.l2; have := q.l3
            rw [List.eq_nil_of_length_eq_zero (l := R1) (by omega)]; simp
          rw [← HWE.out]
          clear HWE HS0
          by_cases hd1 : a < s
          · by_cases hd2 : s < md
            · have hy1 : (a : Int) < (s : Int) := by omega
              have hy2 : (s : Int) < (md : Int) := by omega
              have C1 := Lib.hid (IH.out _ _ _ _ _ a s md _ (by have := HN.out; have := HB.out.ends; omega) HS3.out HQ.out.half1 HOK1.out hd1 hd2)
              clear HS3
              go_wp2_with fail
              refine C1.out.mono ?_
              rintro e wr3 ⟨rfl, HM⟩
              obtain ⟨M1, k1, k2, k3⟩ := HM.out
              have HS1 : Hid (SRow g n c W0 (X ++ (M1 ++ (L2 ++ (R2 ++ Y)))) wr3) := k1
              have HP1 := Lib.hid k2
              have HW1 := Lib.hid k3
              clear HM k1 k2 k3
              have HOK2 : Hid (AllOk ok (X ++ (M1 ++ (L2 ++ (R2 ++ Y))))) := HOK1.out.perm fun x hx => by
                have := HP1.out.mem_iff (a := x)
                simp only [List.mem_append] at hx this ⊢
                rcases hx with h1 | h1 | h1 | h1 | h1
                · exact Or.inl h1
                · rcases this.1 h1 with h2 | h2
                  · exact Or.inr (Or.inl h2)
                  · exact Or.inr (Or.inr (Or.inl h2))
                · exact Or.inr (Or.inr (Or.inr (Or.inl h1)))
                · exact Or.inr (Or.inr (Or.inr (Or.inr (Or.inl h1))))
                · exact Or.inr (Or.inr (Or.inr (Or.inr (Or.inr h1))))
              by_cases hc1 : md < en
              · by_cases hc2 : en < b
                · have hz1 : (md : Int) < (en : Int) := by omega
                  have hz2 : (en : Int) < (b : Int) := by omega
                  have C2 := Lib.hid (IH.out _ _ _ _ _ md en b _ (by have := HN.out; have := HB.out.ends; omega) HS1.out (HQ.out.half2 HP1.out) HOK2.out hc1 hc2)
                  clear HS1
                  go_wp2_with fail
                  refine C2.out.mono ?_
                  rintro e w9 ⟨rfl, HM⟩
                  have HF : Hid (∃ M : List Int, SRow g n c W0 (X ++ (M ++ Y)) w9 ∧ M.Perm (L ++ R) ∧ M.Pairwise ll) := by
                    obtain ⟨M2, k1, k2, k3⟩ := HM.out
                    obtain ⟨k4, k5⟩ := HQ.out.done HP1.out k2 HW1.out k3
                    exact ⟨M1 ++ M2, k1.same (by simp), by rw [HL.out, HR.out]; exact k4, k5⟩
                  go_wp2_with fail
                  go_end0
                  exact ⟨rfl, HF⟩
                · have hz1 : (md : Int) < (en : Int) := by omega
                  have hz2 : decide ((en : Int) < (b : Int)) = false := decide_eq_false (by omega)
                  have hz3 : ¬ (en : Int) < (b : Int) := by omega
                  have HF : Hid (∃ M : List Int, SRow g n c W0 (X ++ (M ++ Y)) wr3 ∧ M.Perm (L ++ R) ∧ M.Pairwise ll) := by
                    have q := HQ.out
                    obtain ⟨k4, k5⟩ := q.done HP1.out (List.Perm.refl (L2 ++ R2)) HW1.out (q.same2 (by
                      have := q.l2; have := q.l3; have := q.l4; have := q.lm; have := q.l1; have := HB.out.ends
                      exact Or.inr (List.eq_nil_of_length_eq_zero (by omega))))
                    exact ⟨M1 ++ (L2 ++ R2), HS1.out.same (by simp), by rw [HL.out, HR.out]; exact k4, k5⟩
                  go_wp2_with fail
                  go_end0
                  exact ⟨rfl, HF⟩
              · have hz1 : decide ((md : Int) < (en : Int)) = false := decide_eq_false (by omega)
                have hz2 : ¬ (md : Int) < (en : Int) := by omega
                have HF : Hid (∃ M : List Int, SRow g n c W0 (X ++ (M ++ Y)) wr3 ∧ M.Perm (L ++ R) ∧ M.Pairwise ll) := by
                  have q := HQ.out
                  obtain ⟨k4, k5⟩ := q.done HP1.out (List.Perm.refl (L2 ++ R2)) HW1.out (q.same2 (by
                    have := q.l2; have := q.l3; have := q.l4; have := q.lm; have := q.l1; have := HB.out.ends
                    exact Or.inl (List.eq_nil_of_length_eq_zero (by omega))))
                  exact ⟨M1 ++ (L2 ++ R2), HS1.out.same (by simp), by rw [HL.out, HR.out]; exact k4, k5⟩
                go_wp2_with fail
                go_end0
                exact ⟨rfl, HF⟩
            · have hy1 : (a : Int) < (s : Int) := by omega
              have hy2 : decide ((s : Int) < (md : Int)) = false := decide_eq_false (by omega)
              have hy3 : ¬ (s : Int) < (md : Int) := by omega
              obtain ⟨M1, HM1⟩ : ∃ M1, Hid (M1 = L1 ++ R1) := ⟨_, rfl⟩
              have HS1 : Hid (SRow g n c W0 (X ++ (M1 ++ (L2 ++ (R2 ++ Y)))) wr2) := HS3.out.same (by rw [HM1.out]; simp)
              have HP1 : Hid (M1.Perm (L1 ++ R1)) := by rw [HM1.out]; exact List.Perm.refl _
              have HW1 : Hid (M1.Pairwise ll) := by
                have q := HQ.out
                rw [HM1.out]
                exact q.same1 (by
                  have := q.l1; have := q.lm
                  exact Or.inr (List.eq_nil_of_length_eq_zero (by omega)))
              obtain ⟨wr3, HWE⟩ : ∃ w, Hid (w = wr2) := ⟨_, rfl⟩
              rw [← HWE.out] at HS1 ⊢
              clear HWE HS3 HM1
              have HOK2 : Hid (AllOk ok (X ++ (M1 ++ (L2 ++ (R2 ++ Y))))) := HOK1.out.perm fun x hx => by
                have := HP1.out.mem_iff (a := x)
                simp only [List.mem_append] at hx this ⊢
                rcases hx with h1 | h1 | h1 | h1 | h1
                · exact Or.inl h1
                · rcases this.1 h1 with h2 | h2
                  · exact Or.inr (Or.inl h2)
                  · exact Or.inr (Or.inr (Or.inl h2))
                · exact Or.inr (Or.inr (Or.inr (Or.inl h1)))
                · exact Or.inr (Or.inr (Or.inr (Or.inr (Or.inl h1))))
                · exact Or.inr (Or.inr (Or.inr (Or.inr (Or.inr h1))))
              by_cases hc1 : md < en
              · by_cases hc2 : en < b
                · have hz1 : (md : Int) < (en : Int) := by omega
                  have hz2 : (en : Int) < (b : Int) := by omega
                  have C2 := Lib.hid (IH.out _ _ _ _ _ md en b _ (by have := HN.out; have := HB.out.ends; omega) HS1.out (HQ.out.half2 HP1.out) HOK2.out hc1 hc2)
                  clear HS1
                  go_wp2_with fail
                  refine C2.out.mono ?_
                  rintro e w9 ⟨rfl, HM⟩
                  have HF : Hid (∃ M : List Int, SRow g n c W0 (X ++ (M ++ Y)) w9 ∧ M.Perm (L ++ R) ∧ M.Pairwise ll) := by
                    obtain ⟨M2, k1, k2, k3⟩ := HM.out
                    obtain ⟨k4, k5⟩ := HQ.out.done HP1.out k2 HW1.out k3
                    exact ⟨M1 ++ M2, k1.same (by simp), by rw [HL.out, HR.out]; exact k4, k5⟩
                  go_wp2_with fail
                  go_end0
                  exact ⟨rfl, HF⟩
                · have hz1 : (md : Int) < (en : Int) := by omega
                  have hz2 : decide ((en : Int) < (b : Int)) = false := decide_eq_false (by omega)
                  have hz3 : ¬ (en : Int) < (b : Int) := by omega
                  have HF : Hid (∃ M : List Int, SRow g n c W0 (X ++ (M ++ Y)) wr3 ∧ M.Perm (L ++ R) ∧ M.Pairwise ll) := by
                    have q := HQ.out
                    obtain ⟨k4, k5⟩ := q.done HP1.out (List.Perm.refl (L2 ++ R2)) HW1.out (q.same2 (by
                      have := q.l2; have := q.l3; have := q.l4; have := q.lm; have := q.l1; have := HB.out.ends
                      exact Or.inr (List.eq_nil_of_length_eq_zero (by omega))))
                    exact ⟨M1 ++ (L2 ++ R2), HS1.out.same (by simp), by rw [HL.out, HR.out]; exact k4, k5⟩
                  go_wp2_with fail
                  go_end0
                  exact ⟨rfl, HF⟩
              · have hz1 : decide ((md : Int) < (en : Int)) = false := decide_eq_false (by omega)
                have hz2 : ¬ (md : Int) < (en : Int) := by omega
                have HF : Hid (∃ M : List Int, SRow g n c W0 (X ++ (M ++ Y)) wr3 ∧ M.Perm (L ++ R) ∧ M.Pairwise ll) := by
                  have q := HQ.out
                  obtain ⟨k4, k5⟩ := q.done HP1.out (List.Perm.refl (L2 ++ R2)) HW1.out (q.same2 (by
                    have := q.l2; have := q.l3; have := q.l4; have := q.lm; have := q.l1; have := HB.out.ends
                    exact Or.inl (List.eq_nil_of_length_eq_zero (by omega))))
                  exact ⟨M1 ++ (L2 ++ R2), HS1.out.same (by simp), by rw [HL.out, HR.out]; exact k4, k5⟩
                go_wp2_with fail
                go_end0
                exact ⟨rfl, HF⟩
          · have hy1 : decide ((a : Int) < (s : Int)) = false := decide_eq_false (by omega)
            have hy2 : ¬ (a : Int) < (s : Int) := by omega
            obtain ⟨M1, HM1⟩ : ∃ M1, Hid (M1 = L1 ++ R1) := ⟨_, rfl⟩
            have HS1 : Hid (SRow g n c W0 (X ++ (M1 ++ (L2 ++ (R2 ++ Y)))) wr2) := HS3.out.same (by rw [HM1.out]; simp)
            have HP1 : Hid (M1.Perm (L1 ++ R1)) := by rw [HM1.out]; exact List.Perm.refl _
            have HW1 : Hid (M1.Pairwise ll) := by
              have q := HQ.out
              rw [HM1.out]
              exact q.same1 (by
                have := q.l1; have := q.lm
                exact Or.inl (List.eq_nil_of_length_eq_zero (by omega)))
            obtain ⟨wr3, HWE⟩ : ∃ w, Hid (w = wr2) := ⟨_, rfl⟩
            rw [← HWE.out] at HS1 ⊢
            clear HWE HS3 HM1
            have HOK2 : Hid (AllOk ok (X ++ (M1 ++ (L2 ++ (R2 ++ Y))))) := HOK1.out.perm fun x hx => by
              have := HP1.out.mem_iff (a := x)
              simp only [List.mem_append] at hx this ⊢
              rcases hx with h1 | h1 | h1 | h1 | h1
              · exact Or.inl h1
              · rcases this.1 h1 with h2 | h2
                · exact Or.inr (Or.inl h2)
                · exact Or.inr (Or.inr (Or.inl h2))
              · exact Or.inr (Or.inr (Or.inr (Or.inl h1)))
              · exact Or.inr (Or.inr (Or.inr (Or.inr (Or.inl h1))))
              · exact Or.inr (Or.inr (Or.inr (Or.inr (Or.inr h1))))
            by_cases hc1 : md < en
            · by_cases hc2 : en < b
              · have hz1 : (md : Int) < (en : Int) := by omega
                have hz2 : (en : Int) < (b : Int) := by omega
                have C2 := Lib.hid (IH.out _ _ _ _ _ md en b _ (by have := HN.out; have := HB.out.ends; omega) HS1.out (HQ.out.half2 HP1.out) HOK2.out hc1 hc2)
                clear HS1
                go_wp2_with fail
                refine C2.out.mono ?_
                rintro e w9 ⟨rfl, HM⟩
                have HF : Hid (∃ M : List Int, SRow g n c W0 (X ++ (M ++ Y)) w9 ∧ M.Perm (L ++ R) ∧ M.Pairwise ll) := by
                  obtain ⟨M2, k1, k2, k3⟩ := HM.out
                  obtain ⟨k4, k5⟩ := HQ.out.done HP1.out k2 HW1.out k3
                  exact ⟨M1 ++ M2, k1.same (by simp), by rw [HL.out, HR.out]; exact k4, k5⟩
                go_wp2_with fail
                go_end0
                exact ⟨rfl, HF⟩
              · have hz1 : (md : Int) < (en : Int) := by omega
                have hz2 : decide ((en : Int) < (b : Int)) = false := decide_eq_false (by omega)
                have hz3 : ¬ (en : Int) < (b : Int) := by omega
                have HF : Hid (∃ M : List Int, SRow g n c W0 (X ++ (M ++ Y)) wr3 ∧ M.Perm (L ++ R) ∧ M.Pairwise ll) := by
                  have q := HQ.out
                  obtain ⟨k4, k5⟩ := q.done HP1.out (List.Perm.refl (L2 ++ R2)) HW1.out (q.same2 (by
                    have := q.l2; have := q.l3; have := q.l4; have := q.lm; have := q.l1; have := HB.out.ends
                    exact Or.inr (List.eq_nil_of_length_eq_zero (by omega))))
                  exact ⟨M1 ++ (L2 ++ R2), HS1.out.same (by simp), by rw [HL.out, HR.out]; exact k4, k5⟩
                go_wp2_with fail
                go_end0
                exact ⟨rfl, HF⟩
            · have hz1 : decide ((md : Int) < (en : Int)) = false := decide_eq_false (by omega)
              have hz2 : ¬ (md : Int) < (en : Int) := by omega
              have HF : Hid (∃ M : List Int, SRow g n c W0 (X ++ (M ++ Y)) wr3 ∧ M.Perm (L ++ R) ∧ M.Pairwise ll) := by
                have q := HQ.out
                obtain ⟨k4, k5⟩ := q.done HP1.out (List.Perm.refl (L2 ++ R2)) HW1.out (q.same2 (by
                  have := q.l2; have := q.l3; have := q.l4; have := q.lm; have := q.l1; have := HB.out.ends
                  exact Or.inl (List.eq_nil_of_length_eq_zero (by omega))))
                exact ⟨M1 ++ (L2 ++ R2), HS1.out.same (by simp), by rw [HL.out, HR.out]; exact k4, k5⟩
              go_wp2_with fail
              go_end0
              exact ⟨rfl, HF⟩
      · have hx1 : decide ((s : Int) < (m : Int)) = false := decide_eq_false (by omega)
        have hx2 : ¬ (s : Int) < (m : Int) := by omega
        obtain ⟨wr2, HWE⟩ : ∃ w, Hid (w = wr) := ⟨_, rfl⟩
        have HS3 : Hid (SRow g n c W0 (X ++ (L1 ++ (R1 ++ (L2 ++ (R2 ++ Y))))) wr2) := by
          rw [HWE.out]
          refine HS0.out.same ?_
          have q := HQ.out
          have := q.l2; have := q.l3
          rw [List.eq_nil_of_length_eq_zero (l := L2) (by omega)]; simp
        rw [← HWE.out]
        clear HWE HS0
        by_cases hd1 : a < s
        · by_cases hd2 : s < md
          · have hy1 : (a : Int) < (s : Int) := by omega
            have hy2 : (s : Int) < (md : Int) := by omega
            have C1 := Lib.hid (IH.out _ _ _ _ _ a s md _ (by have := HN.out; have := HB.out.ends; omega) HS3.out HQ.out.half1 HOK1.out hd1 hd2)
            clear HS3
            go_wp2_with fail
            refine C1.out.mono ?_
            rintro e wr3 ⟨rfl, HM⟩
            obtain ⟨M1, k1, k2, k3⟩ := HM.out
            have HS1 : Hid (SRow g n c W0 (X ++ (M1 ++ (L2 ++ (R2 ++ Y)))) wr3) := k1
            have HP1 := Lib.hid k2
            have HW1 := Lib.hid k3
            clear HM k1 k2 k3
            have HOK2 : Hid (AllOk ok (X ++ (M1 ++ (L2 ++ (R2 ++ Y))))) := HOK1.out.perm fun x hx => by
              have := HP1.out.mem_iff (a := x)
              simp only [List.mem_append] at hx this ⊢
              rcases hx with h1 | h1 | h1 | h1 | h1
              · exact Or.inl h1
              · rcases this.1 h1 with h2 | h2
                · exact Or.inr (Or.inl h2)
                · exact Or.inr (Or.inr (Or.inl h2))
              · exact Or.inr (Or.inr (Or.inr (Or.inl h1)))
              · exact Or.inr (Or.inr (Or.inr (Or.inr (Or.inl h1))))
              · exact Or.inr (Or.inr (Or.inr (Or.inr (Or.inr h1))))
            by_cases hc1 : md < en
            · by_cases hc2 : en < b
              · have hz1 : (md : Int) < (en : Int) := by omega
                have hz2 : (en : Int) < (b : Int) := by omega
                have C2 := Lib.hid (IH.out _ _ _ _ _ md en b _ (by have := HN.out; have := HB.out.ends; omega) HS1.out (HQ.out.half2 HP1.out) HOK2.out hc1 hc2)
                clear HS1
                go_wp2_with fail
                refine C2.out.mono ?_
                rintro e w9 ⟨rfl, HM⟩
                have HF : Hid (∃ M : List Int, SRow g n c W0 (X ++ (M ++ Y)) w9 ∧ M.Perm (L ++ R) ∧ M.Pairwise ll) := by
                  obtain ⟨M2, k1, k2, k3⟩ := HM.out
                  obtain ⟨k4, k5⟩ := HQ.out.done HP1.out k2 HW1.out k3
                  exact ⟨M1 ++ M2, k1.same (by simp), by rw [HL.out, HR.out]; exact k4, k5⟩
                go_wp2_with fail
                go_end0
                exact ⟨rfl, HF⟩
              · have hz1 : (md : Int) < (en : Int) := by omega
                have hz2 : decide ((en : Int) < (b : Int)) = false := decide_eq_false (by omega)
                have hz3 : ¬ (en : Int) < (b : Int) := by omega
                have HF : Hid (∃ M : List Int, SRow g n c W0 (X ++ (M ++ Y)) wr3 ∧ M.Perm (L ++ R) ∧ M.Pairwise ll) := by
                  have q := HQ.out
                  obtain ⟨k4, k5⟩ := q.done HP1.out (List.Perm.refl (L2 ++ R2)) HW1.out (q.same2 (by
                    have := q.l2; have := q.l3; have := q.l4; have := q.lm; have := q.l1; have := HB.out.ends
                    exact Or.inr (List.eq_nil_of_length_eq_zero (by omega))))
                  exact ⟨M1 ++ (L2 ++ R2), HS1.out.same (by simp), by rw [HL.out, HR.out]; exact k4, k5⟩
                go_wp2_with fail
                go_end0
                exact ⟨rfl, HF⟩
            · have hz1 : decide ((md : Int) < (en : Int)) = false := decide_eq_false (by omega)
              have hz2 : ¬ (md : Int) < (en : Int) := by omega
              have HF : Hid (∃ M : List Int, SRow g n c W0 (X ++ (M ++ Y)) wr3 ∧ M.Perm (L ++ R) ∧ M.Pairwise ll) := by
                have q := HQ.out
                obtain ⟨k4, k5⟩ := q.done HP1.out (List.Perm.refl (L2 ++ R2)) HW1.out (q.same2 (by
                  have := q.l2; have := q.l3; have := q.l4; have := q.lm; have := q.l1; have := HB.out.ends
                  exact Or.inl (List.eq_nil_of_length_eq_zero (by omega))))
                exact ⟨M1 ++ (L2 ++ R2), HS1.out.same (by simp), by rw [HL.out, HR.out]; exact k4, k5⟩
              go_wp2_with fail
              go_end0
              exact ⟨rfl, HF⟩
          · have hy1 : (a : Int) < (s : Int) := by omega
            have hy2 : decide ((s : Int) < (md : Int)) = false := decide_eq_false (by omega)
            have hy3 : ¬ (s : Int) < (md : Int) := by omega
            obtain ⟨M1, HM1⟩ : ∃ M1, Hid (M1 = L1 ++ R1) := ⟨_, rfl⟩
            have HS1 : Hid (SRow g n c W0 (X ++ (M1 ++ (L2 ++ (R2 ++ Y)))) wr2) := HS3.out.same (by rw [HM1.out]; simp)
            have HP1 : Hid (M1.Perm (L1 ++ R1)) := by rw [HM1.out]; exact List.Perm.refl _
            have HW1 : Hid (M1.Pairwise ll) := by
              have q := HQ.out
              rw [HM1.out]
              exact q.same1 (by
                have := q.l1; have := q.lm
                exact Or.inr (List.eq_nil_of_length_eq_zero (by omega)))
            obtain ⟨wr3, HWE⟩ : ∃ w, Hid (w = wr2) := ⟨_, rfl⟩
            rw [← HWE.out] at HS1 ⊢
            clear HWE HS3 HM1
            have HOK2 : Hid (AllOk ok (X ++ (M1 ++ (L2 ++ (R2 ++ Y))))) := HOK1.out.perm fun x hx => by
              have := HP1.out.mem_iff (a := x)
              simp only [List.mem_append] at hx this ⊢
              rcases hx with h1 | h1 | h1 | h1 | h1
              · exact Or.inl h1
              · rcases this.1 h1 with h2 | h2
                · exact Or.inr (Or.inl h2)
                · exact Or.inr (Or.inr (Or.inl h2))
              · exact Or.inr (Or.inr (Or.inr (Or.inl h1)))
              · exact Or.inr (Or.inr (Or.inr (Or.inr (Or.inl h1))))
              · exact Or.inr (Or.inr (Or.inr (Or.inr (Or.inr h1))))
            by_cases hc1 : md < en
            · by_cases hc2 : en < b
              · have hz1 : (md : Int) < (en : Int) := by omega
                have hz2 : (en : Int) < (b : Int) := by omega
                have C2 := Lib.hid (IH.out _ _ _ _ _ md en b _ (by have := HN.out; have := HB.out.ends; omega) HS1.out (HQ.out.half2 HP1.out) HOK2.out hc1 hc2)
                clear HS1
                go_wp2_with fail
                refine C2.out.mono ?_
                rintro e w9 ⟨rfl, HM⟩
                have HF : Hid (∃ M : List Int, SRow g n c W0 (X ++ (M ++ Y)) w9 ∧ M.Perm (L ++ R) ∧ M.Pairwise ll) := by
                  obtain ⟨M2, k1, k2, k3⟩ := HM.out
                  obtain ⟨k4, k5⟩ := HQ.out.done HP1.out k2 HW1.out k3
                  exact ⟨M1 ++ M2, k1.same (by simp), by rw [HL.out, HR.out]; exact k4, k5⟩
                go_wp2_with fail
                go_end0
                exact ⟨rfl, HF⟩
              · have hz1 : (md : Int) < (en : Int) := by omega
                have hz2 : decide ((en : Int) < (b : Int)) = false := decide_eq_false (by omega)
                have hz3 : ¬ (en : Int) < (b : Int) := by omega
                have HF : Hid (∃ M : List Int, SRow g n c W0 (X ++ (M ++ Y)) wr3 ∧ M.Perm (L ++ R) ∧ M.Pairwise ll) := by
                  have q := HQ.out
                  obtain ⟨k4, k5⟩ := q.done HP1.out (List.Perm.refl (L2 ++ R2)) HW1.out (q.same2 (by
                    have := q.l2; have := q.l3; have := q.l4; have := q.lm; have := q.l1; have := HB.out.ends
                    exact Or.inr (List.eq_nil_of_length_eq_zero (by omega))))
                  exact ⟨M1 ++ (L2 ++ R2), HS1.out.same (by simp), by rw [HL.out, HR.out]; exact k4, k5⟩
                go_wp2_with fail
                go_end0
                exact ⟨rfl, HF⟩
            · have hz1 : decide ((md : Int) < (en : Int)) = false := decide_eq_false (by omega)
              have hz2 : ¬ (md : Int) < (en : Int) := by omega
              have HF : Hid (∃ M : List Int, SRow g n c W0 (X ++ (M ++ Y)) wr3 ∧ M.Perm (L ++ R) ∧ M.Pairwise ll) := by
                have q := HQ.out
                obtain ⟨k4, k5⟩ := q.done HP1.out (List.Perm.refl (L2 ++ R2)) HW1.out (q.same2 (by
                  have := q.l2; have := q.l3; have := q.l4; have := q.lm; have := q.l1; have := HB.out.ends
                  exact Or.inl (List.eq_nil_of_length_eq_zero (by omega))))
                exact ⟨M1 ++ (L2 ++ R2), HS1.out.same (by simp), by rw [HL.out, HR.out]; exact k4, k5⟩
              go_wp2_with fail
              go_end0
              exact ⟨rfl, HF⟩
        · have hy1 : decide ((a : Int) < (s : Int)) = false := decide_eq_false (by omega)
          have hy2 : ¬ (a : Int) < (s : Int) := by omega
          obtain ⟨M1, HM1⟩ : ∃ M1, Hid (M1 = L1 ++ R1) := ⟨_, rfl⟩
          have HS1 : Hid (SRow g n c W0 (X ++ (M1 ++ (L2 ++ (R2 ++ Y)))) wr2) := HS3.out.same (by rw [HM1.out]; simp)
          have HP1 : Hid (M1.Perm (L1 ++ R1)) := by rw [HM1.out]; exact List.Perm.refl _
          have HW1 : Hid (M1.Pairwise ll) := by
            have q := HQ.out
            rw [HM1.out]
            exact q.same1 (by
              have := q.l1; have := q.lm
              exact Or.inl (List.eq_nil_of_length_eq_zero (by omega)))
          obtain ⟨wr3, HWE⟩ : ∃ w, Hid (w = wr2) := ⟨_, rfl⟩
          rw [← HWE.out] at HS1 ⊢
          clear HWE HS3 HM1
          have HOK2 : Hid (AllOk ok (X ++ (M1 ++ (L2 ++ (R2 ++ Y))))) := HOK1.out.perm fun x hx => by
            have := HP1.out.mem_iff (a := x)
            simp only [List.mem_append] at hx this ⊢
            rcases hx with h1 | h1 | h1 | h1 | h1
            · exact Or.inl h1
            · rcases this.1 h1 with h2 | h2
              · exact Or.inr (Or.inl h2)
              · exact Or.inr (Or.inr (Or.inl h2))
            · exact Or.inr (Or.inr (Or.inr (Or.inl h1)))
            · exact Or.inr (Or.inr (Or.inr (Or.inr (Or.inl h1))))
            · exact Or.inr (Or.inr (Or.inr (Or.inr (Or.inr h1))))
          by_cases hc1 : md < en
          · by_cases hc2 : en < b
            · have hz1 : (md : Int) < (en : Int) := by omega
              have hz2 : (en : Int) < (b : Int) := by omega
              have C2 := Lib.hid (IH.out _ _ _ _ _ md en b _ (by have := HN.out; have := HB.out.ends; omega) HS1.out (HQ.out.half2 HP1.out) HOK2.out hc1 hc2)
              clear HS1
              go_wp2_with fail
              refine C2.out.mono ?_
              rintro e w9 ⟨rfl, HM⟩
              have HF : Hid (∃ M : List Int, SRow g n c W0 (X ++ (M ++ Y)) w9 ∧ M.Perm (L ++ R) ∧ M.Pairwise ll) := by
                obtain ⟨M2, k1, k2, k3⟩ := HM.out
                obtain ⟨k4, k5⟩ := HQ.out.done HP1.out k2 HW1.out k3
                exact ⟨M1 ++ M2, k1.same (by simp), by rw [HL.out, HR.out]; exact k4, k5⟩
              go_wp2_with fail
              go_end0
              exact ⟨rfl, HF⟩
            · have hz1 : (md : Int) < (en : Int) := by omega
              have hz2 : decide ((en : Int) < (b : Int)) = false := decide_eq_false (by omega)
              have hz3 : ¬ (en : Int) < (b : Int) := by omega
              have HF : Hid (∃ M : List Int, SRow g n c W0 (X ++ (M ++ Y)) wr3 ∧ M.Perm (L ++ R) ∧ M.Pairwise ll) := by
                have q := HQ.out
                obtain ⟨k4, k5⟩ := q.done HP1.out (List.Perm.refl (L2 ++ R2)) HW1.out (q.same2 (by
                  have := q.l2; have := q.l3; have := q.l4; have := q.lm; have := q.l1; have := HB.out.ends
                  exact Or.inr (List.eq_nil_of_length_eq_zero (by omega))))
                exact ⟨M1 ++ (L2 ++ R2), HS1.out.same (by simp), by rw [HL.out, HR.out]; exact k4, k5⟩
              go_wp2_with fail
              go_end0
              exact ⟨rfl, HF⟩
          · have hz1 : decide ((md : Int) < (en : Int)) = false := decide_eq_false (by omega)
            have hz2 : ¬ (md : Int) < (en : Int) := by omega
            have HF : Hid (∃ M : List Int, SRow g n c W0 (X ++ (M ++ Y)) wr3 ∧ M.Perm (L ++ R) ∧ M.Pairwise ll) := by
              have q := HQ.out
              obtain ⟨k4, k5⟩ := q.done HP1.out (List.Perm.refl (L2 ++ R2)) HW1.out (q.same2 (by
                have := q.l2; have := q.l3; have := q.l4; have := q.lm; have := q.l1; have := HB.out.ends
                exact Or.inl (List.eq_nil_of_length_eq_zero (by omega))))
              exact ⟨M1 ++ (L2 ++ R2), HS1.out.same (by simp), by rw [HL.out, HR.out]; exact k4, k5⟩
            go_wp2_with fail
            go_end0
            exact ⟨rfl, HF⟩
set_option maxRecDepth 100000 in
set_option maxHeartbeats 16000000 in
theorem sym_lo {V X L R Y : List Int} {a m b md pp N : Nat} (C : Cmp3 h p cf tg ll ok g W0) (w : World) (hn : n ≤ 8000) (IH : Hid (SymTo h p tg ll ok g n c W0 N)) (hN : b - a < N + 1) (S0 : SRow g n c W0 V w) (H : Halves tg ll V X L R Y a m b) (hok : AllOk ok V) (B : Bis a m b md a m pp) (hw : m ≤ md) :
    Calls Try.prog 34 #[.slice (some ⟨g, 0, none⟩) n c, .int .i64 a, .int .i64 m, .int .i64 b, .func (.func h) #[] #[.pointer (some p)]] w (Merges ll g n c W0 X L R Y) := by
  have hbn : b ≤ n := by rw [← S0.len, H.eq]; have := H.la; have := H.lm; have := H.lb; simp; omega
  have HS := Lib.hid S0
  have HH := Lib.hid H
  have HOK := Lib.hid hok
  have eg := C.ent
  have HC := Lib.hid C
  have HB := Lib.hid B
  have HN := Lib.hid hN
  obtain ⟨nn, hnn⟩ : ∃ nn, nn = md + m := ⟨_, rfl⟩
  have HNN := Lib.hid hnn
  have z0 : ¬ (m : Int) - (a : Int) = 1 := by have := B.am; omega
  have z1 : ¬ (b : Int) - (m : Int) = 1 := by have := B.mb; omega
  have z2 : ((a : Int) + (b : Int)) / 2 = (md : Int) := by have := B.lo; have := B.hi; omega
  have z3 : (md : Int) + (m : Int) = (nn : Int) := by omega
  have z4 : (nn : Int) - 1 = (pp : Int) := by have := B.pe; omega
  have hppn : pp < 16000 := by have := B.pe; have := B.ends; omega
  have hsr : a ≤ m := B.ends.2.1
  have hr0m : m ≤ m := B.ends.2.2.1
  have hmb : m < b := by have := B.mb; omega
  have hwz : ¬ (md : Int) < (m : Int) := by omega
  clear S0 H hok C B hN hnn
  go_enter Try.func34, Try.ntmps34
  go_wp2_with fail
  clear z0 z1 z2 z3 z4
  go_loopw [20, 21] (fun t20 t21 wr => ∃ i j : Nat, t20 = .int .i64 i ∧ t21 = .int .i64 j ∧ a ≤ i ∧ i ≤ j ∧ j ≤ m ∧ Hid (SRow g n c W0 V wr) ∧ Hid (SymPre cf V pp a i) ∧ Hid (SymPost cf V pp j m)) (fun t20 t21 _ => (intOf t21).toNat - (intOf t20).toNat)
  case atStart => exact ⟨a, m, rfl, rfl, Nat.le_refl _, hsr, Nat.le_refl _, HS, fun k h1 h2 => by omega, fun k h1 h2 => by omega⟩
  case round =>
    clear HS
    obtain ⟨i, j, rfl, rfl, hs0, hij, hsr0, HS, HPRE, HPOST⟩ := hrel
    by_cases hlt : i < j
    · have hltz : (i : Int) < (j : Int) := by omega
      obtain ⟨q, hq⟩ : ∃ q, q = (i + j) / 2 := ⟨_, rfl⟩
      have hqz : ((i : Int) + (j : Int)) / 2 = (q : Int) := by omega
      have hq1 : i ≤ q := by omega
      have hq2 : q < j := by omega
      obtain ⟨z, hz⟩ : ∃ z, z = pp - q := ⟨_, rfl⟩
      have hin := HB.out.in_ (c := q) (by omega) (by omega)
      have hzz : (pp : Int) - (q : Int) = (z : Int) := by omega
      have hzn : z < n := by omega
      have hqn : q < n := by omega
      obtain ⟨x, HX⟩ : ∃ x, Hid (V.getD z 0 = x) := ⟨_, rfl⟩
      obtain ⟨y, HY⟩ : ∃ y, Hid (V.getD q 0 = y) := ⟨_, rfl⟩
      have HZ : Hid (z = pp - q) := hz
      clear hq hin hz
      go_wp2_with fail
      clear hqz
      have c1 := HS.out.cell (i := z) hzn
      have c2 := HS.out.cell (i := q) hqn
      have hc := HS.out.cmp3 HC.out HOK.out (i := z) (j := q) hzn hqn
      rw [HX.out] at c1
      rw [HY.out] at c2
      rw [HX.out, HY.out] at hc
      have i0 : (0 : Int) ≤ (q : Int) := by omega
      have i1 : (q : Int) < (n : Int) := by omega
      have i2 : (0 : Int) ≤ (z : Int) := by omega
      have i3 : (z : Int) < (n : Int) := by omega
      by_cases hv : cf x y < 0
      · have HPOST2 : Hid (SymPost cf V pp q m) := HB.out.less HH.out HC.out.ord (by omega) (by omega) (by rw [← HZ.out, HX.out, HY.out]; exact hv)
        have hd : decide (cf x y < 0) = true := decide_eq_true hv
        go_quiet (refine Calls.quiet_of (hc _))
        have S2 := Lib.hid (HS.out.drewN nq)
        clear hc c1 c2 HS HX HY HZ HPOST hzz
        generalize wr.drewN nq = w2 at S2 ⊢
        clear nq
        go_wp2_with fail
        go_roundw
        case rel => exact ⟨i, q, rfl, rfl, by omega, by omega, by omega, S2, HPRE, HPOST2⟩
        case measure => simp [intOf]; omega
      · have HPRE2 : Hid (SymPre cf V pp a (q + 1)) := HB.out.not_less HH.out HC.out.ord (by omega) (by omega) (by rw [← HZ.out, HX.out, HY.out]; exact hv)
        have hd : decide (cf x y < 0) = false := decide_eq_false hv
        go_quiet (refine Calls.quiet_of (hc _))
        have S2 := Lib.hid (HS.out.drewN nq)
        clear hc c1 c2 HS HX HY HZ HPRE hzz
        generalize wr.drewN nq = w2 at S2 ⊢
        clear nq
        go_wp2_with fail
        go_roundw
        case rel => exact ⟨q + 1, j, by go_num, rfl, by omega, by omega, by omega, S2, HPRE2, HPOST⟩
        case measure => simp [intOf]; omega
    · obtain ⟨s, HSI⟩ : ∃ s, Hid (s = i) := ⟨_, rfl⟩
      obtain rfl : j = i := by omega
      obtain rfl : s = j := HSI.out
      clear HSI
      obtain ⟨en, hen⟩ : ∃ en, en = md + m - s := ⟨_, rfl⟩
      have hsen : s + en = md + m := by have := HB.out.ends; omega
      have henb : en < 16000 := by have := HB.out.ends; have := HB.out.mb; have := HB.out.lo; omega
      have henz : (nn : Int) - (s : Int) = (en : Int) := by have := HNN.out; omega
      clear hen
      have HO : Hid (∃ L1 L2 R1 R2, L = L1 ++ L2 ∧ R = R1 ++ R2 ∧ Quar tg ll X L1 L2 R1 R2 Y a s m en b md) := HB.out.parts HH.out HC.out.ord hs0 hsr0 hsen HPRE.out HPOST.out
      obtain ⟨L1, L2, R1, R2, hL, hR, hQ⟩ := HO.out
      have HL := Lib.hid hL
      have HR := Lib.hid hR
      have HQ := Lib.hid hQ
      have HV : Hid (V = X ++ (L1 ++ (L2 ++ (R1 ++ (R2 ++ Y))))) := by
        show _ = _
        rw [HH.out.eq, hL, hR]; simp
      have HOK1 : Hid (AllOk ok (X ++ (L1 ++ (R1 ++ (L2 ++ (R2 ++ Y)))))) := HOK.out.perm fun x hx => by
        rw [HV.out]
        simp only [List.mem_append] at hx ⊢
        rcases hx with h1 | h1 | h1 | h1 | h1 | h1
        · exact Or.inl h1
        · exact Or.inr (Or.inl h1)
        · exact Or.inr (Or.inr (Or.inr (Or.inl h1)))
        · exact Or.inr (Or.inr (Or.inl h1))
        · exact Or.inr (Or.inr (Or.inr (Or.inr (Or.inl h1))))
        · exact Or.inr (Or.inr (Or.inr (Or.inr (Or.inr h1))))
      have HS0 := Lib.hid (HS.out.same HV.out)
      clear HO hL hR hQ HS HV HPRE HPOST HOK hsen
      by_cases hr1 : s < m
      · by_cases hr2 : m < en
        · have hx1 : (s : Int) < (m : Int) := by omega
          have hx2 : (m : Int) < (en : Int) := by omega
          have CR := Lib.hid (rotate_any (.func (.func h) #[] #[.pointer (some p)]) s m en (X ++ L1) L2 R1 (R2 ++ Y) wr hn (HS0.out.same (by simp)) (by rw [List.length_append, HQ.out.la]; exact HQ.out.l1) HQ.out.l2 HQ.out.l3 (by have := HQ.out.l2; omega) (by have := HQ.out.l3; omega))
          clear HS0
          go_wp2_with fail
          refine CR.out.mono ?_
          rintro e wr2 ⟨rfl, HSR⟩
          have HS3 : Hid (SRow g n c W0 (X ++ (L1 ++ (R1 ++ (L2 ++ (R2 ++ Y))))) wr2) := HSR.out.same (by simp)
          clear HSR
          by_cases hd1 : a < s
          · by_cases hd2 : s < md
            · have hy1 : (a : Int) < (s : Int) := by omega
              have hy2 : (s : Int) < (md : Int) := by omega
              have C1 := Lib.hid (IH.out _ _ _ _ _ a s md _ (by have := HN.out; have := HB.out.ends; omega) HS3.out HQ.out.half1 HOK1.out hd1 hd2)
              clear HS3
              go_wp2_with fail
              refine C1.out.mono ?_
              rintro e wr3 ⟨rfl, HM⟩
              obtain ⟨M1, k1, k2, k3⟩ := HM.out
              have HS1 : Hid (SRow g n c W0 (X ++ (M1 ++ (L2 ++ (R2 ++ Y)))) wr3) := k1
              have HP1 := Lib.hid k2
              have HW1 := Lib.hid k3
              clear HM k1 k2 k3
              have HOK2 : Hid (AllOk ok (X ++ (M1 ++ (L2 ++ (R2 ++ Y))))) := HOK1.out.perm fun x hx => by
                have := HP1.out.mem_iff (a := x)
                simp only [List.mem_append] at hx this ⊢
                rcases hx with h1 | h1 | h1 | h1 | h1
                · exact Or.inl h1
                · rcases this.1 h1 with h2 | h2
                  · exact Or.inr (Or.inl h2)
                  · exact Or.inr (Or.inr (Or.inl h2))
                · exact Or.inr (Or.inr (Or.inr (Or.inl h1)))
                · exact Or.inr (Or.inr (Or.inr (Or.inr (Or.inl h1))))
                · exact Or.inr (Or.inr (Or.inr (Or.inr (Or.inr h1))))
              by_cases hc1 : md < en
              · by_cases hc2 : en < b
                · have hz1 : (md : Int) < (en : Int) := by omega
                  have hz2 : (en : Int) < (b : Int) := by omega
                  have C2 := Lib.hid (IH.out _ _ _ _ _ md en b _ (by have := HN.out; have := HB.out.ends; omega) HS1.out (HQ.out.half2 HP1.out) HOK2.out hc1 hc2)
                  clear HS1
                  go_wp2_with fail
                  refine C2.out.mono ?_
                  rintro e w9 ⟨rfl, HM⟩
                  have HF : Hid (∃ M : List Int, SRow g n c W0 (X ++ (M ++ Y)) w9 ∧ M.Perm (L ++ R) ∧ M.Pairwise ll) := by
                    obtain ⟨M2, k1, k2, k3⟩ := HM.out
                    obtain ⟨k4, k5⟩ := HQ.out.done HP1.out k2 HW1.out k3
                    exact ⟨M1 ++ M2, k1.same (by simp), by rw [HL.out, HR.out]; exact k4, k5⟩
                  go_wp2_with fail
                  go_end0
                  exact ⟨rfl, HF⟩
                · have hz1 : (md : Int) < (en : Int) := by omega
                  have hz2 : decide ((en : Int) < (b : Int)) = false := decide_eq_false (by omega)
                  have hz3 : ¬ (en : Int) < (b : Int) := by omega
                  have HF : Hid (∃ M : List Int, SRow g n c W0 (X ++ (M ++ Y)) wr3 ∧ M.Perm (L ++ R) ∧ M.Pairwise ll) := by
                    have q := HQ.out
                    obtain ⟨k4, k5⟩ := q.done HP1.out (List.Perm.refl (L2 ++ R2)) HW1.out (q.same2 (by
                      have := q.l2; have := q.l3; have := q.l4; have := q.lm; have := q.l1; have := HB.out.ends
                      exact Or.inr (List.eq_nil_of_length_eq_zero (by omega))))
                    exact ⟨M1 ++ (L2 ++ R2), HS1.out.same (by simp), by rw [HL.out, HR.out]; exact k4, k5⟩
                  go_wp2_with fail
                  go_end0
                  exact ⟨rfl, HF⟩
              · have hz1 : decide ((md : Int) < (en : Int)) = false := decide_eq_false (by omega)
                have hz2 : ¬ (md : Int) < (en : Int) := by omega
                have HF : Hid (∃ M : List Int, SRow g n c W0 (X ++ (M ++ Y)) wr3 ∧ M.Perm (L ++ R) ∧ M.Pairwise ll) := by
                  have q := HQ.out
                  obtain ⟨k4, k5⟩ := q.done HP1.out (List.Perm.refl (L2 ++ R2)) HW1.out (q.same2 (by
                    have := q.l2; have := q.l3; have := q.l4; have := q.lm; have := q.l1; have := HB.out.ends
                    exact Or.inl (List.eq_nil_of_length_eq_zero (by omega))))
                  exact ⟨M1 ++ (L2 ++ R2), HS1.out.same (by simp), by rw [HL.out, HR.out]; exact k4, k5⟩
                go_wp2_with fail
                go_end0
                exact ⟨rfl, HF⟩
            · have hy1 : (a : Int) < (s : Int) := by omega
              have hy2 : decide ((s : Int) < (md : Int)) = false := decide_eq_false (by omega)
              have hy3 : ¬ (s : Int) < (md : Int) := by omega
              obtain ⟨M1, HM1⟩ : ∃ M1, Hid (M1 = L1 ++ R1) := ⟨_, rfl⟩
              have HS1 : Hid (SRow g n c W0 (X ++ (M1 ++ (L2 ++ (R2 ++ Y)))) wr2) := HS3.out.same (by rw [HM1.out]; simp)
              have HP1 : Hid (M1.Perm (L1 ++ R1)) := by rw [HM1.out]; exact List.Perm.refl _
              have HW1 : Hid (M1.Pairwise ll) := by
                have q := HQ.out
                rw [HM1.out]
                exact q.same1 (by
                  have := q.l1; have := q.lm
                  exact Or.inr (List.eq_nil_of_length_eq_zero (by omega)))
              obtain ⟨wr3, HWE⟩ : ∃ w, Hid (w = wr2) := ⟨_, rfl⟩
              rw [← HWE.out] at HS1 ⊢
              clear HWE HS3 HM1
              have HOK2 : Hid (AllOk ok (X ++ (M1 ++ (L2 ++ (R2 ++ Y))))) := HOK1.out.perm fun x hx => by
                have := HP1.out.mem_iff (a := x)
                simp only [List.mem_append] at hx this ⊢
                rcases hx with h1 | h1 | h1 | h1 | h1
                · exact Or.inl h1
                · rcases this.1 h1 with h2 | h2
                  · exact Or.inr (Or.inl h2)
                  · exact Or.inr (Or.inr (Or.inl h2))
                · exact Or.inr (Or.inr (Or.inr (Or.inl h1)))
                · exact Or.inr (Or.inr (Or.inr (Or.inr (Or.inl h1))))
                · exact Or.inr (Or.inr (Or.inr (Or.inr (Or.inr h1))))
              by_cases hc1 : md < en
              · by_cases hc2 : en < b
                · have hz1 : (md : Int) < (en : Int) := by omega
                  have hz2 : (en : Int) < (b : Int) := by omega
                  have C2 := Lib.hid (IH.out _ _ _ _ _ md en b _ (by have := HN.out; have := HB.out.ends; omega) HS1.out (HQ.out.half2 HP1.out) HOK2.out hc1 hc2)
                  clear HS1
                  go_wp2_with fail
                  refine C2.out.mono ?_
                  rintro e w9 ⟨rfl, HM⟩
                  have HF : Hid (∃ M : List Int, SRow g n c W0 (X ++ (M ++ Y)) w9 ∧ M.Perm (L ++ R) ∧ M.Pairwise ll) := by
                    obtain ⟨M2, k1, k2, k3⟩ := HM.out
                    obtain ⟨k4, k5⟩ := HQ.out.done HP1.out k2 HW1.out k3
                    exact ⟨M1 ++ M2, k1.same (by simp), by rw [HL.out, HR.out]; exact k4, k5⟩
                  go_wp2_with fail
                  go_end0
                  exact ⟨rfl, HF⟩
                · have hz1 : (md : Int) < (en : Int) := by omega
                  have hz2 : decide ((en : Int) < (b : Int)) = false := decide_eq_false (by omega)
                  have hz3 : ¬ (en : Int) < (b : Int) := by omega
                  have HF : Hid (∃ M : List Int, SRow g n c W0 (X ++ (M ++ Y)) wr3 ∧ M.Perm (L ++ R) ∧ M.Pairwise ll) := by
                    have q := HQ.out
                    obtain ⟨k4, k5⟩ := q.done HP1.out (List.Perm.refl (L2 ++ R2)) HW1.out (q.same2 (by
                      have := q.l2; have := q.l3; have := q.l4; have := q.lm; have := q.l1; have := HB.out.ends
                      exact Or.inr (List.eq_nil_of_length_eq_zero (by omega))))
                    exact ⟨M1 ++ (L2 ++ R2), HS1.out.same (by simp), by rw [HL.out, HR.out]; exact k4, k5⟩
                  go_wp2_with fail
                  go_end0
                  exact ⟨rfl, HF⟩
              · have hz1 : decide ((md : Int) < (en : Int)) = false := decide_eq_false (by omega)
                have hz2 : ¬ (md : Int) < (en : Int) := by omega
                have HF : Hid (∃ M : List Int, SRow g n c W0 (X ++ (M ++ Y)) wr3 ∧ M.Perm (L ++ R) ∧ M.Pairwise ll) := by
                  have q := HQ.out
                  obtain ⟨k4, k5⟩ := q.done HP1.out (List.Perm.refl (L2 ++ R2)) HW1.out (q.same2 (by
                    have := q.l2; have := q.l3; have := q.l4; have := q.lm; have := q.l1; have := HB.out.ends
                    exact Or.inl (List.eq_nil_of_length_eq_zero (by omega))))
                  exact ⟨M1 ++ (L2 ++ R2), HS1.out.same (by simp), by rw [HL.out, HR.out]; exact k4, k5⟩
                go_wp2_with fail
                go_end0
                exact ⟨rfl, HF⟩
          · have hy1 : decide ((a : Int) < (s : Int)) = false := decide_eq_false (by omega)
            have hy2 : ¬ (a : Int) < (s : Int) := by omega
            obtain ⟨M1, HM1⟩ : ∃ M1, Hid (M1 = L1 ++ R1) := ⟨_, rfl⟩
            have HS1 : Hid (SRow g n c W0 (X ++ (M1 ++ (L2 ++ (R2 ++ Y)))) wr2) := HS3.out.same (by rw [HM1.out]; simp)
            have HP1 : Hid (M1.Perm (L1 ++ R1)) := by rw [HM1.out]; exact List.Perm.refl _
            have HW1 : Hid (M1.Pairwise ll) := by
              have q := HQ.out
              rw [HM1.out]
              exact q.same1 (by
                have := q.l1; have := q.lm
                exact Or.inl (List.eq_nil_of_length_eq_zero (by omega)))
            obtain ⟨wr3, HWE⟩ : ∃ w, Hid (w = wr2) := ⟨_, rfl⟩
            rw [← HWE.out] at HS1 ⊢
            clear HWE HS3 HM1
            have HOK2 : Hid (AllOk ok (X ++ (M1 ++ (L2 ++ (R2 ++ Y))))) := HOK1.out.perm fun x hx => by
              have := HP1.out.mem_iff (a := x)
              simp only [List.mem_append] at hx this ⊢
              rcases hx with h1 | h1 | h1 | h1 | h1
              · exact Or.inl h1
              · rcases this.1 h1 with h2 | h2
                · exact Or.inr (Or.inl h2)
                · exact Or.inr (Or.inr (Or.inl h2))
              · exact Or.inr (Or.inr (Or.inr (Or.inl h1)))
              · exact Or.inr (Or.inr (Or.inr (Or.inr (Or.inl h1))))
              · exact Or.inr (Or.inr (Or.inr (Or.inr (Or.inr h1))))
            by_cases hc1 : md < en
            · by_cases hc2 : en < b
              · have hz1 : (md : Int) < (en : Int) := by omega
                have hz2 : (en : Int) < (b : Int) := by omega
                have C2 := Lib.hid (IH.out _ _ _ _ _ md en b _ (by have := HN.out; have := HB.out.ends; omega) HS1.out (HQ.out.half2 HP1.out) HOK2.out hc1 hc2)
                clear HS1
                go_wp2_with fail
                refine C2.out.mono ?_
                rintro e w9 ⟨rfl, HM⟩
                have HF : Hid (∃ M : List Int, SRow g n c W0 (X ++ (M ++ Y)) w9 ∧ M.Perm (L ++ R) ∧ M.Pairwise ll) := by
                  obtain ⟨M2, k1, k2, k3⟩ := HM.out
                  obtain ⟨k4, k5⟩ := HQ.out.done HP1.out k2 HW1.out k3
                  exact ⟨M1 ++ M2, k1.same (by simp), by rw [HL.out, HR.out]; exact k4, k5⟩
                go_wp2_with fail
                go_end0
                exact ⟨rfl, HF⟩
              · have hz1 : (md : Int) < (en : Int) := by omega
                have hz2 : decide ((en : Int) < (b : Int)) = false := decide_eq_false (by omega)
                have hz3 : ¬ (en : Int) < (b : Int) := by omega
                have HF : Hid (∃ M : List Int, SRow g n c W0 (X ++ (M ++ Y)) wr3 ∧ M.Perm (L ++ R) ∧ M.Pairwise ll) := by
                  have q := HQ.out
                  obtain ⟨k4, k5⟩ := q.done HP1.out (List.Perm.refl (L2 ++ R2)) HW1.out (q.same2 (by
                    have := q.l2; have := q.l3; have := q.l4; have := q.lm; have := q.l1; have := HB.out.ends
                    exact Or.inr (List.eq_nil_of_length_eq_zero (by omega))))
                  exact ⟨M1 ++ (L2 ++ R2), HS1.out.same (by simp), by rw [HL.out, HR.out]; exact k4, k5⟩
                go_wp2_with fail
                go_end0
                exact ⟨rfl, HF⟩
            · have hz1 : decide ((md : Int) < (en : Int)) = false := decide_eq_false (by omega)
              have hz2 : ¬ (md : Int) < (en : Int) := by omega
              have HF : Hid (∃ M : List Int, SRow g n c W0 (X ++ (M ++ Y)) wr3 ∧ M.Perm (L ++ R) ∧ M.Pairwise ll) := by
                have q := HQ.out
                obtain ⟨k4, k5⟩ := q.done HP1.out (List.Perm.refl (L2 ++ R2)) HW1.out (q.same2 (by
                  have := q.l2; have := q.l3; have := q.l4; have := q.lm; have := q.l1; have := HB.out.ends
                  exact Or.inl (List.eq_nil_of_length_eq_zero (by omega))))
                exact ⟨M1 ++ (L2 ++ R2), HS1.out.same (by simp), by rw [HL.out, HR.out]; exact k4, k5⟩
              go_wp2_with fail
              go_end0
              exact ⟨rfl, HF⟩
        · have hx1 : (s : Int) < (m : Int) := by omega
          have hx2 : decide ((m : Int) < (en : Int)) = false := decide_eq_false (by omega)
          have hx3 : ¬ (m : Int) < (en : Int) := by omega
          obtain ⟨wr2, HWE⟩ : ∃ w, Hid (w = wr) := ⟨_, rfl⟩
          have HS3 : Hid (SRow g n c W0 (X ++ (L1 ++ (R1 ++ (L2 ++ (R2 ++ Y))))) wr2) := by
            rw [HWE.out]
            refine HS0.out.same ?_
            have q := HQ.out
            have := q.l2; have := q.l3
            rw [List.eq_nil_of_length_eq_zero (l := R1) (by omega)]; simp
          rw [← HWE.out]
          clear HWE HS0
          by_cases hd1 : a < s
          · by_cases hd2 : s < md
            · have hy1 : (a : Int) < (s : Int) := by omega
              have hy2 : (s : Int) < (md : Int) := by omega
              have C1 := Lib.hid (IH.out _ _ _ _ _ a s md _ (by have := HN.out; have := HB.out.ends; omega) HS3.out HQ.out.half1 HOK1.out hd1 hd2)
              clear HS3
              go_wp2_with fail
              refine C1.out.mono ?_
              rintro e wr3 ⟨rfl, HM⟩
              obtain ⟨M1, k1, k2, k3⟩ := HM.out
              have HS1 : Hid (SRow g n c W0 (X ++ (M1 ++ (L2 ++ (R2 ++ Y)))) wr3) := k1
              have HP1 := Lib.hid k2
              have HW1 := Lib.hid k3
              clear HM k1 k2 k3
              have HOK2 : Hid (AllOk ok (X ++ (M1 ++ (L2 ++ (R2 ++ Y))))) := HOK1.out.perm fun x hx => by
                have := HP1.out.mem_iff (a := x)
                simp only [List.mem_append] at hx this ⊢
                rcases hx with h1 | h1 | h1 | h1 | h1
                · exact Or.inl h1
                · rcases this.1 h1 with h2 | h2
                  · exact Or.inr (Or.inl h2)
                  · exact Or.inr (Or.inr (Or.inl h2))
                · exact Or.inr (Or.inr (Or.inr (Or.inl h1)))
                · exact Or.inr (Or.inr (Or.inr (Or.inr (Or.inl h1))))
                · exact Or.inr (Or.inr (Or.inr (Or.inr (Or.inr h1))))
              by_cases hc1 : md < en
              · by_cases hc2 : en < b
                · have hz1 : (md : Int) < (en : Int) := by omega
                  have hz2 : (en : Int) < (b : Int) := by omega
                  have C2 := Lib.hid (IH.out _ _ _ _ _ md en b _ (by have := HN.out; have := HB.out.ends; omega) HS1.out (HQ.out.half2 HP1.out) HOK2.out hc1 hc2)
                  clear HS1
                  go_wp2_with fail
                  refine C2.out.mono ?_
                  rintro e w9 ⟨rfl, HM⟩
                  have HF : Hid (∃ M : List Int, SRow g n c W0 (X ++ (M ++ Y)) w9 ∧ M.Perm (L ++ R) ∧ M.Pairwise ll) := by
                    obtain ⟨M2, k1, k2, k3⟩ := HM.out
                    obtain ⟨k4, k5⟩ := HQ.out.done HP1.out k2 HW1.out k3
                    exact ⟨M1 ++ M2, k1.same (by simp), by rw [HL.out, HR.out]; exact k4, k5⟩
                  go_wp2_with fail
                  go_end0
                  exact ⟨rfl, HF⟩
                · have hz1 : (md : Int) < (en : Int) := by omega
                  have hz2 : decide ((en : Int) < (b : Int)) = false := decide_eq_false (by omega)
                  have hz3 : ¬ (en : Int) < (b : Int) := by omega
                  have HF : Hid (∃ M : List Int, SRow g n c W0 (X ++ (M ++ Y)) wr3 ∧ M.Perm (L ++ R) ∧ M.Pairwise ll) := by
                    have q := HQ.out
                    obtain ⟨k4, k5⟩ := q.done HP1.out (List.Perm.refl (L2 ++ R2)) HW1.out (q.same2 (by
                      have := q.l2; have := q.l3; have := q.l4; have := q.lm; have := q.l1; have := HB.out.ends
                      exact Or.inr (List.eq_nil_of_length_eq_zero (by omega))))
                    exact ⟨M1 ++ (L2 ++ R2), HS1.out.same (by simp), by rw [HL.out, HR.out]; exact k4, k5⟩
                  go_wp2_with fail
                  go_end0
                  exact ⟨rfl, HF⟩
              · have hz1 : decide ((md : Int) < (en : Int)) = false := decide_eq_false (by omega)
                have hz2 : ¬ (md : Int) < (en : Int) := by omega
                have HF : Hid (∃ M : List Int, SRow g n c W0 (X ++ (M ++ Y)) wr3 ∧ M.Perm (L ++ R) ∧ M.Pairwise ll) := by
                  have q := HQ.out
                  obtain ⟨k4, k5⟩ := q.done HP1.out (List.Perm.refl (L2 ++ R2)) HW1.out (q.same2 (by
                    have := q.l2; have := q.l3; have := q.l4; have := q.lm; have := q.l1; have := HB.out.ends
                    exact Or.inl (List.eq_nil_of_length_eq_zero (by omega))))
                  exact ⟨M1 ++ (L2 ++ R2), HS1.out.same (by simp), by rw [HL.out, HR.out]; exact k4, k5⟩
                go_wp2_with fail
                go_end0
                exact ⟨rfl, HF⟩
            · have hy1 : (a : Int) < (s : Int) := by omega
              have hy2 : decide ((s : Int) < (md : Int)) = false := decide_eq_false (by omega)
              have hy3 : ¬ (s : Int) < (md : Int) := by omega
              obtain ⟨M1, HM1⟩ : ∃ M1, Hid (M1 = L1 ++ R1) := ⟨_, rfl⟩
              have HS1 : Hid (SRow g n c W0 (X ++ (M1 ++ (L2 ++ (R2 ++ Y)))) wr2) := HS3.out.same (by rw [HM1.out]; simp)
              have HP1 : Hid (M1.Perm (L1 ++ R1)) := by rw [HM1.out]; exact List.Perm.refl _
              have HW1 : Hid (M1.Pairwise ll) := by
                have q := HQ.out
                rw [HM1.out]
                exact q.same1 (by
                  have := q.l1; have := q.lm
                  exact Or.inr (List.eq_nil_of_length_eq_zero (by omega)))
              obtain ⟨wr3, HWE⟩ : ∃ w, Hid (w = wr2) := ⟨_, rfl⟩
              rw [← HWE.out] at HS1 ⊢
              clear HWE HS3 HM1
              have HOK2 : Hid (AllOk ok (X ++ (M1 ++ (L2 ++ (R2 ++ Y))))) := HOK1.out.perm fun x hx => by
                have := HP1.out.mem_iff (a := x)
                simp only [List.mem_append] at hx this ⊢
                rcases hx with h1 | h1 | h1 | h1 | h1
                · exact Or.inl h1
                · rcases this.1 h1 with h2 | h2
                  · exact Or.inr (Or.inl h2)
                  · exact Or.inr (Or.inr (Or.inl h2))
                · exact Or.inr (Or.inr (Or.inr (Or.inl h1)))
                · exact Or.inr (Or.inr (Or.inr (Or.inr (Or.inl h1))))
                · exact Or.inr (Or.inr (Or.inr (Or.inr (Or.inr h1))))
              by_cases hc1 : md < en
              · by_cases hc2 : en < b
                · have hz1 : (md : Int) < (en : Int) := by omega
                  have hz2 : (en : Int) < (b : Int) := by omega
                  have C2 := Lib.hid (IH.out _ _ _ _ _ md en b _ (by have := HN.out; have := HB.out.ends; omega) HS1.out (HQ.out.half2 HP1.out) HOK2.out hc1 hc2)
                  clear HS1
                  go_wp2_with fail
                  refine C2.out.mono ?_
                  rintro e w9 ⟨rfl, HM⟩
                  have HF : Hid (∃ M : List Int, SRow g n c W0 (X ++ (M ++ Y)) w9 ∧ M.Perm (L ++ R) ∧ M.Pairwise ll) := by
                    obtain ⟨M2, k1, k2, k3⟩ := HM.out
                    obtain ⟨k4, k5⟩ := HQ.out.done HP1.out k2 HW1.out k3
                    exact ⟨M1 ++ M2, k1.same (by simp), by rw [HL.out, HR.out]; exact k4, k5⟩
                  go_wp2_with fail
                  go_end0
                  exact ⟨rfl, HF⟩
                · have hz1 : (md : Int) < (en : Int) := by omega
                  have hz2 : decide ((en : Int) < (b : Int)) = false := decide_eq_false (by omega)
                  have hz3 : ¬ (en : Int) < (b : Int) := by omega
                  have HF : Hid (∃ M : List Int, SRow g n c W0 (X ++ (M ++ Y)) wr3 ∧ M.Perm (L ++ R) ∧ M.Pairwise ll) := by
                    have q := HQ.out
                    obtain ⟨k4, k5⟩ := q.done HP1.out (List.Perm.refl (L2 ++ R2)) HW1.out (q.same2 (by
                      have := q.l2; have := q.l3; have := q.l4; have := q.lm; have := q.l1; have := HB.out.ends
                      exact Or.inr (List.eq_nil_of_length_eq_zero (by omega))))
                    exact ⟨M1 ++ (L2 ++ R2), HS1.out.same (by simp), by rw [HL.out, HR.out]; exact k4, k5⟩
                  go_wp2_with fail
                  go_end0
                  exact ⟨rfl, HF⟩
              · have hz1 : decide ((md : Int) < (en : Int)) = false := decide_eq_false (by omega)
                have hz2 : ¬ (md : Int) < (en : Int) := by omega
                have HF : Hid (∃ M : List Int, SRow g n c W0 (X ++ (M ++ Y)) wr3 ∧ M.Perm (L ++ R) ∧ M.Pairwise ll) := by
                  have q := HQ.out
                  obtain ⟨k4, k5⟩ := q.done HP1.out (List.Perm.refl (L2 ++ R2)) HW1.out (q.same2 (by
                    have := q.l2; have := q.l3; have := q.l4; have := q.lm; have := q.l1; have := HB.out.ends
                    exact Or.inl (List.eq_nil_of_length_eq_zero (by omega))))
                  exact ⟨M1 ++ (L2 ++ R2), HS1.out.same (by simp), by rw [HL.out, HR.out]; exact k4, k5⟩
                go_wp2_with fail
                go_end0
                exact ⟨rfl, HF⟩
          · have hy1 : decide ((a : Int) < (s : Int)) = false := decide_eq_false (by omega)
            have hy2 : ¬ (a : Int) < (s : Int) := by omega
            obtain ⟨M1, HM1⟩ : ∃ M1, Hid (M1 = L1 ++ R1) := ⟨_, rfl⟩
            have HS1 : Hid (SRow g n c W0 (X ++ (M1 ++ (L2 ++ (R2 ++ Y)))) wr2) := HS3.out.same (by rw [HM1.out]; simp)
            have HP1 : Hid (M1.Perm (L1 ++ R1)) := by rw [HM1.out]; exact List.Perm.refl _
            have HW1 : Hid (M1.Pairwise ll) := by
              have q := HQ.out
              rw [HM1.out]
              exact q.same1 (by
                have := q.l1; have := q.lm
                exact Or.inl (List.eq_nil_of_length_eq_zero (by omega)))
            obtain ⟨wr3, HWE⟩ : ∃ w, Hid (w = wr2) := ⟨_, rfl⟩
            rw [← HWE.out] at HS1 ⊢
            clear HWE HS3 HM1
            have HOK2 : Hid (AllOk ok (X ++ (M1 ++ (L2 ++ (R2 ++ Y))))) := HOK1.out.perm fun x hx => by
              have := HP1.out.mem_iff (a := x)
              simp only [List.mem_append] at hx this ⊢
              rcases hx with h1 | h1 | h1 | h1 | h1
              · exact Or.inl h1
              · rcases this.1 h1 with h2 | h2
                · exact Or.inr (Or.inl h2)
                · exact Or.inr (Or.inr (Or.inl h2))
              · exact Or.inr (Or.inr (Or.inr (Or.inl h1)))
              · exact Or.inr (Or.inr (Or.inr (Or.inr (Or.inl h1))))
              · exact Or.inr (Or.inr (Or.inr (Or.inr (Or.inr h1))))
            by_cases hc1 : md < en
            · by_cases hc2 : en < b
              · have hz1 : (md : Int) < (en : Int) := by omega
                have hz2 : (en : Int) < (b : Int) := by omega
                have C2 := Lib.hid (IH.out _ _ _ _ _ md en b _ (by have := HN.out; have := HB.out.ends; omega) HS1.out (HQ.out.half2 HP1.out) HOK2.out hc1 hc2)
                clear HS1
                go_wp2_with fail
                refine C2.out.mono ?_
                rintro e w9 ⟨rfl, HM⟩
                have HF : Hid (∃ M : List Int, SRow g n c W0 (X ++ (M ++ Y)) w9 ∧ M.Perm (L ++ R) ∧ M.Pairwise ll) := by
                  obtain ⟨M2, k1, k2, k3⟩ := HM.out
                  obtain ⟨k4, k5⟩ := HQ.out.done HP1.out k2 HW1.out k3
                  exact ⟨M1 ++ M2, k1.same (by simp), by rw [HL.out, HR.out]; exact k4, k5⟩
                go_wp2_with fail
                go_end0
                exact ⟨rfl, HF⟩
              · have hz1 : (md : Int) < (en : Int) := by omega
                have hz2 : decide ((en : Int) < (b : Int)) = false := decide_eq_false (by omega)
                have hz3 : ¬ (en : Int) < (b : Int) := by omega
                have HF : Hid (∃ M : List Int, SRow g n c W0 (X ++ (M ++ Y)) wr3 ∧ M.Perm (L ++ R) ∧ M.Pairwise ll) := by
                  have q := HQ.out
                  obtain ⟨k4, k5⟩ := q.done HP1.out (List.Perm.refl (L2 ++ R2)) HW1.out (q.same2 (by
                    have := q.l2; have := q.l3; have := q.l4; have := q.lm; have := q.l1; have := HB.out.ends
                    exact Or.inr (List.eq_nil_of_length_eq_zero (by omega))))
                  exact ⟨M1 ++ (L2 ++ R2), HS1.out.same (by simp), by rw [HL.out, HR.out]; exact k4, k5⟩
                go_wp2_with fail
                go_end0
                exact ⟨rfl, HF⟩
            · have hz1 : decide ((md : Int) < (en : Int)) = false := decide_eq_false (by omega)
              have hz2 : ¬ (md : Int) < (en : Int) := by omega
              have HF : Hid (∃ M : List Int, SRow g n c W0 (X ++ (M ++ Y)) wr3 ∧ M.Perm (L ++ R) ∧ M.Pairwise ll) := by
                have q := HQ.out
                obtain ⟨k4, k5⟩ := q.done HP1.out (List.Perm.refl (L2 ++ R2)) HW1.out (q.same2 (by
                  have := q.l2; have := q.l3; have := q.l4; have := q.lm; have := q.l1; have := HB.out.ends
                  exact Or.inl (List.eq_nil_of_length_eq_zero (by omega))))
                exact ⟨M1 ++ (L2 ++ R2), HS1.out.same (by simp), by rw [HL.out, HR.out]; exact k4, k5⟩
              go_wp2_with fail
              go_end0
              exact ⟨rfl, HF⟩
      · have hx1 : decide ((s : Int) < (m : Int)) = false := decide_eq_false (by omega)
        have hx2 : ¬ (s : Int) < (m : Int) := by omega
        obtain ⟨wr2, HWE⟩ : ∃ w, Hid (w = wr) := ⟨_, rfl⟩
        have HS3 : Hid (SRow g n c W0 (X ++ (L1 ++ (R1 ++ (L2 ++ (R2 ++ Y))))) wr2) := by
          rw [HWE.out]
          refine HS0.out.same ?_
          have q := HQ.out
          have := q.l2; have := q.l3
          rw [List.eq_nil_of_length_eq_zero (l := L2) (by omega)]; simp
        rw [← HWE.out]
        clear HWE HS0
        by_cases hd1 : a < s
        · by_cases hd2 : s < md
          · have hy1 : (a : Int) < (s : Int) := by omega
            have hy2 : (s : Int) < (md : Int) := by omega
            have C1 := Lib.hid (IH.out _ _ _ _ _ a s md _ (by have := HN.out; have := HB.out.ends; omega) HS3.out HQ.out.half1 HOK1.out hd1 hd2)
            clear HS3
            go_wp2_with fail
            refine C1.out.mono ?_
            rintro e wr3 ⟨rfl, HM⟩
            obtain ⟨M1, k1, k2, k3⟩ := HM.out
            have HS1 : Hid (SRow g n c W0 (X ++ (M1 ++ (L2 ++ (R2 ++ Y)))) wr3) := k1
            have HP1 := Lib.hid k2
            have HW1 := Lib.hid k3
            clear HM k1 k2 k3
            have HOK2 : Hid (AllOk ok (X ++ (M1 ++ (L2 ++ (R2 ++ Y))))) := HOK1.out.perm fun x hx => by
              have := HP1.out.mem_iff (a := x)
              simp only [List.mem_append] at hx this ⊢
              rcases hx with h1 | h1 | h1 | h1 | h1
              · exact Or.inl h1
              · rcases this.1 h1 with h2 | h2
                · exact Or.inr (Or.inl h2)
                · exact Or.inr (Or.inr (Or.inl h2))
              · exact Or.inr (Or.inr (Or.inr (Or.inl h1)))
              · exact Or.inr (Or.inr (Or.inr (Or.inr (Or.inl h1))))
              · exact Or.inr (Or.inr (Or.inr (Or.inr (Or.inr h1))))
            by_cases hc1 : md < en
            · by_cases hc2 : en < b
              · have hz1 : (md : Int) < (en : Int) := by omega
                have hz2 : (en : Int) < (b : Int) := by omega
                have C2 := Lib.hid (IH.out _ _ _ _ _ md en b _ (by have := HN.out; have := HB.out.ends; omega) HS1.out (HQ.out.half2 HP1.out) HOK2.out hc1 hc2)
                clear HS1
                go_wp2_with fail
                refine C2.out.mono ?_
                rintro e w9 ⟨rfl, HM⟩
                have HF : Hid (∃ M : List Int, SRow g n c W0 (X ++ (M ++ Y)) w9 ∧ M.Perm (L ++ R) ∧ M.Pairwise ll) := by
                  obtain ⟨M2, k1, k2, k3⟩ := HM.out
                  obtain ⟨k4, k5⟩ := HQ.out.done HP1.out k2 HW1.out k3
                  exact ⟨M1 ++ M2, k1.same (by simp), by rw [HL.out, HR.out]; exact k4, k5⟩
                go_wp2_with fail
                go_end0
                exact ⟨rfl, HF⟩
              · have hz1 : (md : Int) < (en : Int) := by omega
                have hz2 : decide ((en : Int) < (b : Int)) = false := decide_eq_false (by omega)
                have hz3 : ¬ (en : Int) < (b : Int) := by omega
                have HF : Hid (∃ M : List Int, SRow g n c W0 (X ++ (M ++ Y)) wr3 ∧ M.Perm (L ++ R) ∧ M.Pairwise ll) := by
                  have q := HQ.out
                  obtain ⟨k4, k5⟩ := q.done HP1.out (List.Perm.refl (L2 ++ R2)) HW1.out (q.same2 (by
                    have := q.l2; have := q.l3; have := q.l4; have := q.lm; have := q.l1; have := HB.out.ends
                    exact Or.inr (List.eq_nil_of_length_eq_zero (by omega))))
                  exact ⟨M1 ++ (L2 ++ R2), HS1.out.same (by simp), by rw [HL.out, HR.out]; exact k4, k5⟩
                go_wp2_with fail
                go_end0
                exact ⟨rfl, HF⟩
            · have hz1 : decide ((md : Int) < (en : Int)) = false := decide_eq_false (by omega)
              have hz2 : ¬ (md : Int) < (en : Int) := by omega
              have HF : Hid (∃ M : List Int, SRow g n c W0 (X ++ (M ++ Y)) wr3 ∧ M.Perm (L ++ R) ∧ M.Pairwise ll) := by
                have q := HQ.out
                obtain ⟨k4, k5⟩ := q.done HP1.out (List.Perm.refl (L2 ++ R2)) HW1.out (q.same2 (by
                  have := q.l2; have := q.l3; have := q.l4; have := q.lm; have := q.l1; have := HB.out.ends
                  exact Or.inl (List.eq_nil_of_length_eq_zero (by omega))))
                exact ⟨M1 ++ (L2 ++ R2), HS1.out.same (by simp), by rw [HL.out, HR.out]; exact k4, k5⟩
              go_wp2_with fail
              go_end0
              exact ⟨rfl, HF⟩
          · have hy1 : (a : Int) < (s : Int) := by omega
            have hy2 : decide ((s : Int) < (md : Int)) = false := decide_eq_false (by omega)
            have hy3 : ¬ (s : Int) < (md : Int) := by omega
            obtain ⟨M1, HM1⟩ : ∃ M1, Hid (M1 = L1 ++ R1) := ⟨_, rfl⟩
            have HS1 : Hid (SRow g n c W0 (X ++ (M1 ++ (L2 ++ (R2 ++ Y)))) wr2) := HS3.out.same (by rw [HM1.out]; simp)
            have HP1 : Hid (M1.Perm (L1 ++ R1)) := by rw [HM1.out]; exact List.Perm.refl _
            have HW1 : Hid (M1.Pairwise ll) := by
              have q := HQ.out
              rw [HM1.out]
              exact q.same1 (by
                have := q.l1; have := q.lm
                exact Or.inr (List.eq_nil_of_length_eq_zero (by omega)))
            obtain ⟨wr3, HWE⟩ : ∃ w, Hid (w = wr2) := ⟨_, rfl⟩
            rw [← HWE.out] at HS1 ⊢
            clear HWE HS3 HM1
            have HOK2 : Hid (AllOk ok (X ++ (M1 ++ (L2 ++ (R2 ++ Y))))) := HOK1.out.perm fun x hx => by
              have := HP1.out.mem_iff (a := x)
              simp only [List.mem_append] at hx this ⊢
              rcases hx with h1 | h1 | h1 | h1 | h1
              · exact Or.inl h1
              · rcases this.1 h1 with h2 | h2
                · exact Or.inr (Or.inl h2)
                · exact Or.inr (Or.inr (Or.inl h2))
              · exact Or.inr (Or.inr (Or.inr (Or.inl h1)))
              · exact Or.inr (Or.inr (Or.inr (Or.inr (Or.inl h1))))
              · exact Or.inr (Or.inr (Or.inr (Or.inr (Or.inr h1))))
            by_cases hc1 : md < en
            · by_cases hc2 : en < b
              · have hz1 : (md : Int) < (en : Int) := by omega
                have hz2 : (en : Int) < (b : Int) := by omega
                have C2 := Lib.hid (IH.out _ _ _ _ _ md en b _ (by have := HN.out; have := HB.out.ends; omega) HS1.out (HQ.out.half2 HP1.out) HOK2.out hc1 hc2)
                clear HS1
                go_wp2_with fail
                refine C2.out.mono ?_
                rintro e w9 ⟨rfl, HM⟩
                have HF : Hid (∃ M : List Int, SRow g n c W0 (X ++ (M ++ Y)) w9 ∧ M.Perm (L ++ R) ∧ M.Pairwise ll) := by
                  obtain ⟨M2, k1, k2, k3⟩ := HM.out
                  obtain ⟨k4, k5⟩ := HQ.out.done HP1.out k2 HW1.out k3
                  exact ⟨M1 ++ M2, k1.same (by simp), by rw [HL.out, HR.out]; exact k4, k5⟩
                go_wp2_with fail
                go_end0
                exact ⟨rfl, HF⟩
              · have hz1 : (md : Int) < (en : Int) := by omega
                have hz2 : decide ((en : Int) < (b : Int)) = false := decide_eq_false (by omega)
                have hz3 : ¬ (en : Int) < (b : Int) := by omega
                have HF : Hid (∃ M : List Int, SRow g n c W0 (X ++ (M ++ Y)) wr3 ∧ M.Perm (L ++ R) ∧ M.Pairwise ll) := by
                  have q := HQ.out
                  obtain ⟨k4, k5⟩ := q.done HP1.out (List.Perm.refl (L2 ++ R2)) HW1.out (q.same2 (by
                    have := q.l2; have := q.l3; have := q.l4; have := q.lm; have := q.l1; have := HB.out.ends
                    exact Or.inr (List.eq_nil_of_length_eq_zero (by omega))))
                  exact ⟨M1 ++ (L2 ++ R2), HS1.out.same (by simp), by rw [HL.out, HR.out]; exact k4, k5⟩
                go_wp2_with fail
                go_end0
                exact ⟨rfl, HF⟩
            · have hz1 : decide ((md : Int) < (en : Int)) = false := decide_eq_false (by omega)
              have hz2 : ¬ (md : Int) < (en : Int) := by omega
              have HF : Hid (∃ M : List Int, SRow g n c W0 (X ++ (M ++ Y)) wr3 ∧ M.Perm (L ++ R) ∧ M.Pairwise ll) := by
                have q := HQ.out
                obtain ⟨k4, k5⟩ := q.done HP1.out (List.Perm.refl (L2 ++ R2)) HW1.out (q.same2 (by
                  have := q.l2; have := q.l3; have := q.l4; have := q.lm; have := q.l1; have := HB.out.ends
                  exact Or.inl (List.eq_nil_of_length_eq_zero (by omega))))
                exact ⟨M1 ++ (L2 ++ R2), HS1.out.same (by simp), by rw [HL.out, HR.out]; exact k4, k5⟩
              go_wp2_with fail
              go_end0
              exact ⟨rfl, HF⟩
        · have hy1 : decide ((a : Int) < (s : Int)) = false := decide_eq_false (by omega)
          have hy2 : ¬ (a : Int) < (s : Int) := by omega
          obtain ⟨M1, HM1⟩ : ∃ M1, Hid (M1 = L1 ++ R1) := ⟨_, rfl⟩
          have HS1 : Hid (SRow g n c W0 (X ++ (M1 ++ (L2 ++ (R2 ++ Y)))) wr2) := HS3.out.same (by rw [HM1.out]; simp)
          have HP1 : Hid (M1.Perm (L1 ++ R1)) := by rw [HM1.out]; exact List.Perm.refl _
          have HW1 : Hid (M1.Pairwise ll) := by
            have q := HQ.out
            rw [HM1.out]
            exact q.same1 (by
              have := q.l1; have := q.lm
              exact Or.inl (List.eq_nil_of_length_eq_zero (by omega)))
          obtain ⟨wr3, HWE⟩ : ∃ w, Hid (w = wr2) := ⟨_, rfl⟩
          rw [← HWE.out] at HS1 ⊢
          clear HWE HS3 HM1
          have HOK2 : Hid (AllOk ok (X ++ (M1 ++ (L2 ++ (R2 ++ Y))))) := HOK1.out.perm fun x hx => by
            have := HP1.out.mem_iff (a := x)
            simp only [List.mem_append] at hx this ⊢
            rcases hx with h1 | h1 | h1 | h1 | h1
            · exact Or.inl h1
            · rcases this.1 h1 with h2 | h2
              · exact Or.inr (Or.inl h2)
              · exact Or.inr (Or.inr (Or.inl h2))
            · exact Or.inr (Or.inr (Or.inr (Or.inl h1)))
            · exact Or.inr (Or.inr (Or.inr (Or.inr (Or.inl h1))))
            · exact Or.inr (Or.inr (Or.inr (Or.inr (Or.inr h1))))
          by_cases hc1 : md < en
          · by_cases hc2 : en < b
            · have hz1 : (md : Int) < (en : Int) := by omega
              have hz2 : (en : Int) < (b : Int) := by omega
              have C2 := Lib.hid (IH.out _ _ _ _ _ md en b _ (by have := HN.out; have := HB.out.ends; omega) HS1.out (HQ.out.half2 HP1.out) HOK2.out hc1 hc2)
              clear HS1
              go_wp2_with fail
              refine C2.out.mono ?_
              rintro e w9 ⟨rfl, HM⟩
              have HF : Hid (∃ M : List Int, SRow g n c W0 (X ++ (M ++ Y)) w9 ∧ M.Perm (L ++ R) ∧ M.Pairwise ll) := by
                obtain ⟨M2, k1, k2, k3⟩ := HM.out
                obtain ⟨k4, k5⟩ := HQ.out.done HP1.out k2 HW1.out k3
                exact ⟨M1 ++ M2, k1.same (by simp), by rw [HL.out, HR.out]; exact k4, k5⟩
              go_wp2_with fail
              go_end0
              exact ⟨rfl, HF⟩
            · have hz1 : (md : Int) < (en : Int) := by omega
              have hz2 : decide ((en : Int) < (b : Int)) = false := decide_eq_false (by omega)
              have hz3 : ¬ (en : Int) < (b : Int) := by omega
              have HF : Hid (∃ M : List Int, SRow g n c W0 (X ++ (M ++ Y)) wr3 ∧ M.Perm (L ++ R) ∧ M.Pairwise ll) := by
                have q := HQ.out
                obtain ⟨k4, k5⟩ := q.done HP1.out (List.Perm.refl (L2 ++ R2)) HW1.out (q.same2 (by
                  have := q.l2; have := q.l3; have := q.l4; have := q.lm; have := q.l1; have := HB.out.ends
                  exact Or.inr (List.eq_nil_of_length_eq_zero (by omega))))
                exact ⟨M1 ++ (L2 ++ R2), HS1.out.same (by simp), by rw [HL.out, HR.out]; exact k4, k5⟩
              go_wp2_with fail
              go_end0
              exact ⟨rfl, HF⟩
          · have hz1 : decide ((md : Int) < (en : Int)) = false := decide_eq_false (by omega)
            have hz2 : ¬ (md : Int) < (en : Int) := by omega
            have HF : Hid (∃ M : List Int, SRow g n c W0 (X ++ (M ++ Y)) wr3 ∧ M.Perm (L ++ R) ∧ M.Pairwise ll) := by
              have q := HQ.out
              obtain ⟨k4, k5⟩ := q.done HP1.out (List.Perm.refl (L2 ++ R2)) HW1.out (q.same2 (by
                have := q.l2; have := q.l3; have := q.l4; have := q.lm; have := q.l1; have := HB.out.ends
                exact Or.inl (List.eq_nil_of_length_eq_zero (by omega))))
              exact ⟨M1 ++ (L2 ++ R2), HS1.out.same (by simp), by rw [HL.out, HR.out]; exact k4, k5⟩
            go_wp2_with fail
            go_end0
            exact ⟨rfl, HF⟩
theorem sym_all (C : Cmp3 h p cf tg ll ok g W0) (hn : n ≤ 8000) : ∀ N, SymTo h p tg ll ok g n c W0 N
  | 0 => fun V X L R Y a m b w hN => absurd hN (Nat.not_lt_zero _)
  | N + 1 => fun V X L R Y a m b w hN S0 H hok ham hmb => by
    by_cases h1 : m = a + 1
    · exact sym_one1 C w hn S0 H hok h1 hmb
    · by_cases h2 : b = m + 1
      · exact sym_one2 C w hn S0 H hok h2 (by omega)
      · by_cases hw : (a + b) / 2 < m
        · exact sym_hi (md := (a + b) / 2) (s0 := (a + b) / 2 + m - b) (pp := (a + b) / 2 + m - 1) C w hn (sym_all C hn N) hN S0 H hok ⟨by omega, by omega, by omega, by omega, by omega, Or.inl ⟨hw, by omega, rfl⟩⟩ hw (by omega)
        · exact sym_lo (md := (a + b) / 2) (pp := (a + b) / 2 + m - 1) C w hn (sym_all C hn N) hN S0 H hok ⟨by omega, by omega, by omega, by omega, by omega, Or.inr ⟨by omega, rfl, rfl⟩⟩ (by omega)
end
end Go.Proofs.Ytggijifealljiaa
