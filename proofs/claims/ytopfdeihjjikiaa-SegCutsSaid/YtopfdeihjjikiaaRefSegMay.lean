/- The document's own Size, Each, Parts, May of entries: the same answers as seg's. Conditions: the slice's cells. -/
import Derived.Test.YtopfdeihjjikiaaSegOk
set_option linter.unusedVariables false
set_option linter.unusedSimpArgs false
namespace Go.Proofs.Ytopfdeihjjikiaa
open Go.RowKit
open Go.Sort (grow)

def sizeB (x : Int) : Bool := decide (128 ≤ x ∧ x ≤ 256)
theorem refsize_any (x : Int) (w : World) : Calls Try.prog 25 #[.int .i64 x] w fun e w' => e = .returned (.bool (sizeB x)) ∧ w = w' := by
  by_cases h0 : 128 ≤ x
  · by_cases h1 : x ≤ 256
    · rw [show sizeB x = true from decide_eq_true ⟨h0, h1⟩]
      go_enter Try.func25, Try.ntmps25
      go_wp2
      go_ret
      exact ⟨by simp, rfl⟩
    · rw [show sizeB x = false from decide_eq_false fun h => h1 h.2]
      go_enter Try.func25, Try.ntmps25
      go_wp2
      go_ret
      exact ⟨by simp, rfl⟩
  · rw [show sizeB x = false from decide_eq_false fun h => h0 h.1]
    go_enter Try.func25, Try.ntmps25
    go_wp2
    go_ret
    exact ⟨by simp, rfl⟩
theorem refeach_any (x : Int) (w : World) : Calls Try.prog 15 #[.int .i64 x] w fun e w' => e = .returned (.int .i64 (eachI x)) ∧ w = w' := by
  have HS := Lib.hid (refsize_any x w)
  by_cases h : 128 ≤ x ∧ x ≤ 256
  · rw [eachI_yes h]
    rw [show sizeB x = true from decide_eq_true h] at HS
    obtain ⟨h0, h1⟩ := h
    go_enter Try.func15, Try.ntmps15
    go_wp2_with fail
    refine HS.out.mono ?_
    rintro e w' ⟨rfl, rfl⟩
    go_wp2
    go_ret
    exact ⟨rfl, rfl⟩
  · rw [eachI_no h]
    rw [show sizeB x = false from decide_eq_false h] at HS
    clear h
    go_enter Try.func15, Try.ntmps15
    go_wp2_with fail
    refine HS.out.mono ?_
    rintro e w' ⟨rfl, rfl⟩
    go_wp2
    go_ret
    exact ⟨rfl, rfl⟩
set_option maxHeartbeats 2000000 in
theorem refparts_any (x m : Int) (w : World) (hm : m ≤ 9223372036854775807) : Calls Try.prog 17 #[.int .i64 x, .int .i64 m] w fun e w' => e = .returned (.int .i64 (partsI x m)) ∧ w = w' := by
  have HS := Lib.hid (refsize_any x w)
  have HE := Lib.hid (refeach_any x w)
  by_cases h : 128 ≤ x ∧ x ≤ 256
  · rw [show sizeB x = true from decide_eq_true h] at HS
    have hq5 : 5 ≤ eachI x := by rw [eachI_yes h]; omega
    have hq1 := (eachI_bd x).2
    by_cases h0 : m < 0
    · rw [partsI_none (Or.inr h0)]
      clear h
      go_enter Try.func17, Try.ntmps17
      go_wp2_with fail
      refine HS.out.mono ?_
      rintro e w' ⟨rfl, rfl⟩
      go_wp2
      go_ret
      exact ⟨rfl, rfl⟩
    have hne : ¬(eachI x = 0 ∨ m < 0) := by omega
    obtain ⟨q, HQ⟩ : ∃ q, Hid (eachI x = q) := ⟨_, rfl⟩
    rw [HQ.out] at HE hq5 hq1
    have hqz : (q == 0) = false := by simp; omega
    have h2 : 0 ≤ m / q := Int.ediv_nonneg (by omega) (by omega)
    have h3 : m / q ≤ 4000000000000000000 := Int.ediv_le_of_le_mul (by omega) (by omega)
    have h6 : 0 ≤ m % q := Int.emod_nonneg _ (by omega)
    clear h
    by_cases h4 : m % q = 0
    · have b4 : (m % q == 0) = true := by simpa using h4
      have b4' : (m % q != 0) = false := by simpa using h4
      by_cases h5 : m = 0
      · rw [partsI_more hne (Or.inr h5), HQ.out]
        subst h5
        clear hne h4 h2 h3 h6 b4 b4'
        go_enter Try.func17, Try.ntmps17
        go_wp2_with fail
        refine HS.out.mono ?_
        rintro e w' ⟨rfl, rfl⟩
        go_wp2_with fail
        refine HE.out.mono ?_
        rintro e w' ⟨rfl, rfl⟩
        go_wp2_with fail
        refine HE.out.mono ?_
        rintro e w' ⟨rfl, rfl⟩
        go_wp2
        go_ret
        exact ⟨by simp, rfl⟩
      · rw [partsI_even hne (fun h => by rw [HQ.out] at h; omega), HQ.out]
        have b5 : (m == 0) = false := by simpa using h5
        go_enter Try.func17, Try.ntmps17
        go_wp2_with fail
        refine HS.out.mono ?_
        rintro e w' ⟨rfl, rfl⟩
        go_wp2_with fail
        refine HE.out.mono ?_
        rintro e w' ⟨rfl, rfl⟩
        go_wp2_with fail
        refine HE.out.mono ?_
        rintro e w' ⟨rfl, rfl⟩
        go_wp2
        go_ret
        exact ⟨rfl, rfl⟩
    · rw [partsI_more hne (Or.inl (by rw [HQ.out]; omega)), HQ.out]
      have b4 : (m % q == 0) = false := by simpa using h4
      have b4' : (m % q != 0) = true := by simpa using h4
      go_enter Try.func17, Try.ntmps17
      go_wp2_with fail
      refine HS.out.mono ?_
      rintro e w' ⟨rfl, rfl⟩
      go_wp2_with fail
      refine HE.out.mono ?_
      rintro e w' ⟨rfl, rfl⟩
      go_wp2_with fail
      refine HE.out.mono ?_
      rintro e w' ⟨rfl, rfl⟩
      go_wp2
      go_ret
      exact ⟨rfl, rfl⟩
  · rw [partsI_none (Or.inl (eachI_no h))]
    rw [show sizeB x = false from decide_eq_false h] at HS
    clear h
    go_enter Try.func17, Try.ntmps17
    go_wp2_with fail
    refine HS.out.mono ?_
    rintro e w' ⟨rfl, rfl⟩
    go_wp2
    go_ret
    exact ⟨rfl, rfl⟩
theorem mayE_many {es : List E} (h : mayE es = true) (hw : ∀ e ∈ es, EWf e) : es.length ≤ 256 := by
  have := (mayE_ok h hw).2.many
  simpa using this
set_option maxHeartbeats 4000000 in
set_option maxRecDepth 20000 in
theorem refmay_any (A : Option Addr) (n c : Nat) (es : List E) (w : World) (hn : n ≤ 9223372036854775807) (hA : entK.Lie w w.heap.size A n es) :
    Calls Try.prog 13 #[.slice A n c] w (SaysB w (mayE es)) := by
  have HA := Lib.hid hA
  have HL := Lib.hid hA.len
  have HM : Hid (256 < n → mayE es = false) := fun h => by
    rw [Bool.eq_false_iff]
    intro k
    have := mayE_many k hA.all
    have := HL.out
    omega
  clear hA
  obtain ⟨C, HC⟩ : ∃ C : Array Value, Hid (C = Array.replicate 256 (.bool false)) := ⟨_, rfl⟩
  have hz := zero_taken
  rw [← HC.out] at hz
  have T0 := Lib.hid (taken_new w C HC.out)
  have S0 := Lib.hid (since_alloc (Below.refl w.heap.size w) (.cells C 64))
  by_cases hbig : 256 < n
  · rw [HM.out hbig]
    go_enter Try.func13, Try.ntmps13
    go_wp2_with fail
    go_loopw [4] (fun t4 wr => t4 = .int .i64 0 ∧ Hid (Below w.heap.size w wr)) (fun _ _ => 0)
    case atStart => exact ⟨rfl, S0⟩
    case round =>
      obtain ⟨rfl, HB⟩ := hrel
      go_wp2_with fail
      go_ret
      exact ⟨by simp; omega, HB.out⟩
  clear HM
  go_enter Try.func13, Try.ntmps13
  go_wp2_with fail
  go_loopw [4] (fun t4 wr => ∃ (k : Nat), k ≤ n ∧ t4 = .int .i64 k ∧ Hid (∀ j, j < k → stepB es j = true) ∧ Hid (Taken wr w.heap.size fun p => seenB es k (p : Int)) ∧ Hid (Below w.heap.size w wr)) (fun t4 _ => n - (intOf t4).toNat)
  case atStart => exact ⟨0, Nat.zero_le _, rfl, fun j hj => absurd hj (Nat.not_lt_zero j), T0, S0⟩
  case round =>
    obtain ⟨k, hk, rfl, HK, HT, HB⟩ := hrel
    have hn256 : (n : Int) ≤ 256 := by omega
    by_cases hlt : k < n
    · obtain ⟨ad, hA, hblk, hat⟩ := (HA.out.since HB.out).each k hlt
      subst hA
      obtain ⟨e, HV⟩ : ∃ e, Hid (e = getE es k) := ⟨_, rfl⟩
      have hat : entK.At wr (ad.add (k * 4)) e := by rw [HV.out]; exact hat
      have i0 : (0 : Int) ≤ (k : Int) := by omega
      have i1 : (k : Int) < (n : Int) := by omega
      obtain ⟨c0, c1, c2, c3⟩ := entAt_of hat
      have h4 : ∃ a' : Int, (0 < k → a' = (getE es (k - 1)).addr) ∧ (0 < k → wr.cell? (ad.add ((k - 1) * 4)) = some (.int .u64 a')) := by
        by_cases hk0 : 0 < k
        · obtain ⟨ad', hA', _, hat'⟩ := (HA.out.since HB.out).each (k - 1) (by omega)
          obtain rfl := Option.some.inj hA'
          exact ⟨_, fun _ => rfl, fun _ => (entAt_of (e := getE es (k - 1)) hat').c0⟩
        · exact ⟨0, fun h => absurd h hk0, fun h => absurd h hk0⟩
      obtain ⟨a', HPA, hcp⟩ := h4
      have HPA := Lib.hid HPA
      have hidx : 0 < k → ∀ W : World, (Instr.indexAt 22 (.slice (some ad) n c) (.int .i64 ((k : Int) - 1))).run Try.prog W = .ok (.pointer (some (ad.add ((k - 1) * 4)))) W := fun hk0 W => by
        have j0 : (0 : Int) ≤ (k : Int) - 1 := by omega
        have j1 : (k : Int) - 1 < (n : Int) := by omega
        have e : ((k : Int) - 1).toNat = k - 1 := by omega
        go_simp
        intro h
        omega
      have HST : Hid (stepB es k = (okE e && (!seenB es k e.page && (k == 0 || decide (a' < e.addr))))) := by
        show _ = _
        unfold stepB
        rw [← HV.out]
        by_cases hk0 : 0 < k
        · rw [HPA.out hk0]
        · have : (k == 0) = true := by simp; omega
          rw [this]; simp
      clear hat
      obtain ⟨a, p, d, s⟩ := e
      dsimp only at c0 c1 c2 c3 HST
      go_wp2_with fail
      obtain ⟨W1, HW1⟩ : ∃ W1, Hid (W1 = wr.alloc (.cells #[.int .u64 a, .int .i64 p, .bool d, .int .i64 s] 48)) := ⟨_, rfl⟩
      have L1 : Hid (Below wr.heap.size wr W1) := by rw [HW1.out]; exact later_alloc _ _
      have R1 : Hid (RowE W1 wr.heap.size ⟨a, p, d, s⟩) := by rw [HW1.out]; exact rowE_new wr ⟨a, p, d, s⟩
      have T1 := Lib.hid (HT.out.since L1.out)
      have hcp1 : 0 < k → W1.cell? (ad.add ((k - 1) * 4)) = some (.int .u64 a') := fun hk0 => (L1.out.cell (by rw [addr_block]; exact hblk)).trans (hcp hk0)
      have HCP := Lib.hid hcp1
      have HIX := Lib.hid hidx
      rw [← HW1.out]
      clear c0 c1 c2 c3 hcp hcp1 hidx HC hz
      obtain ⟨c0, c1, c2, c3⟩ := R1.out.at_
      dsimp only at c0 c1 c2 c3
      by_cases hp0 : p < 0
      · clear HK HV HPA HCP HIX
        have HF : Hid (mayE es = false) := mayE_no (k := k) (by rw [HL.out]; omega) (by rw [HST.out]; show (okE ⟨a, p, d, s⟩ && _) = false; rw [okE_no (e := ⟨a, p, d, s⟩) (fun h => absurd h.1 (by show ¬ (0 : Int) ≤ p; omega))]; rfl)
        clear HST
        go_quiet (fail)
        go_wp2_with fail
        go_ret
        rw [HF.out]
        exact ⟨rfl, below_drewN (below_chain HB.out L1.out) _⟩
      by_cases hp1 : 255 < p
      · clear HK HV HPA HCP HIX
        have HF : Hid (mayE es = false) := mayE_no (k := k) (by rw [HL.out]; omega) (by rw [HST.out]; show (okE ⟨a, p, d, s⟩ && _) = false; rw [okE_no (e := ⟨a, p, d, s⟩) (fun h => absurd h.2.1 (by show ¬ p < 256; omega))]; rfl)
        clear HST
        go_quiet (fail)
        go_wp2_with fail
        go_ret
        rw [HF.out]
        exact ⟨rfl, below_drewN (below_chain HB.out L1.out) _⟩
      obtain ⟨q, rfl⟩ : ∃ q : Nat, p = (q : Int) := ⟨p.toNat, by omega⟩
      have hq : q < 256 := by omega
      have hq0 : (0 : Int) ≤ (q : Int) := by omega
      have hq' : (q : Int) < 256 := by omega
      have ct := T1.out.cell hq
      rcases hsn : seenB es k (q : Int) with _ | _
      rotate_left
      · rw [hsn] at ct HST
        clear HK HV HPA HCP HIX hsn
        have HF : Hid (mayE es = false) := mayE_no (k := k) (by rw [HL.out]; omega) (by rw [HST.out]; simp)
        clear HST
        go_quiet (fail)
        go_wp2_with fail
        go_ret
        rw [HF.out]
        exact ⟨rfl, below_drewN (below_chain HB.out L1.out) _⟩
      rw [hsn] at ct HST
      by_cases hs0 : s < 1
      · clear HK HV HPA HCP HIX
        have HF : Hid (mayE es = false) := mayE_no (k := k) (by rw [HL.out]; omega) (by rw [HST.out]; show (okE ⟨a, q, d, s⟩ && _) = false; rw [okE_no (e := ⟨a, q, d, s⟩) (fun h => absurd h.2.2.1 (by show ¬ 1 ≤ s; omega))]; rfl)
        clear HST
        go_quiet (fail)
        go_wp2_with fail
        go_ret
        rw [HF.out]
        exact ⟨rfl, below_drewN (below_chain HB.out L1.out) _⟩
      by_cases hs1 : 1099511627775 < s
      · clear HK HV HPA HCP HIX
        have HF : Hid (mayE es = false) := mayE_no (k := k) (by rw [HL.out]; omega) (by rw [HST.out]; show (okE ⟨a, q, d, s⟩ && _) = false; rw [okE_no (e := ⟨a, q, d, s⟩) (fun h => absurd h.2.2.2 (by show ¬ s ≤ 1099511627775; omega))]; rfl)
        clear HST
        go_quiet (fail)
        go_wp2_with fail
        go_ret
        rw [HF.out]
        exact ⟨rfl, below_drewN (below_chain HB.out L1.out) _⟩
      have HOK : Hid (okE ⟨a, (q : Int), d, s⟩ = true) := okE_yes (e := ⟨a, q, d, s⟩) ⟨by show (0 : Int) ≤ (q : Int); omega, by show (q : Int) < 256; omega, by show 1 ≤ s; omega, by show s ≤ 1099511627775; omega⟩
      rw [HOK.out, Bool.true_and, Bool.not_false, Bool.true_and] at HST
      by_cases hk0 : 0 < k
      · have hk0' : (0 : Int) < (k : Int) := by omega
        have b0 : (k == 0) = false := by simp; omega
        rw [b0, Bool.false_or] at HST
        have ix := HIX.out hk0
        have cp := HCP.out hk0
        by_cases hle : a ≤ a'
        · clear HK HV HPA HCP HIX hsn HOK
          have HF : Hid (mayE es = false) := mayE_no (k := k) (by rw [HL.out]; omega) (by rw [HST.out]; exact decide_eq_false (by omega))
          clear HST
          go_quiet (fail)
          go_wp2_with fail
          go_ret
          rw [HF.out]
          exact ⟨rfl, below_drewN (below_chain HB.out L1.out) _⟩
        · clear HPA HCP HIX HOK
          have HF : Hid (stepB es k = true) := by show _ = _; rw [HST.out]; exact decide_eq_true (by omega)
          clear HST
          go_quiet (fail)
          obtain ⟨W2, HW2⟩ : ∃ W2 : World, Hid (W2 = W1.drewN nq) := ⟨_, rfl⟩
          rw [← HW2.out]
          have S2 : Hid (Below W1.heap.size W1 W2) := by show Below _ _ _; rw [HW2.out]; exact below_drewN (Below.refl _ _) _
          clear c0 c1 c2 c3 ct HW2
          try clear cp
          have T2 := Lib.hid (T1.out.since S2.out)
          obtain ⟨d0, d1, d2, d3⟩ := (R1.out.since S2.out).at_
          dsimp only at d0 d1 d2 d3
          have hfz : W2.frozen? ⟨w.heap.size, q, none⟩ = false := T2.out.free q
          have hcell : W2.cell? ⟨w.heap.size, q, none⟩ = some (.bool (seenB es k (q : Int))) := T2.out.cell (by omega)
          have T3 : Hid (Taken (W2.setCell ⟨w.heap.size, q, none⟩ (.bool true)) w.heap.size fun p => seenB es (k + 1) (p : Int)) := T2.out.set (by omega) fun p hp => by
            rw [seenB_next (by rw [HL.out]; exact hlt), ← HV.out]
            show (seenB es k (p : Int) || (q : Int) == (p : Int)) = _
            by_cases h : p = q
            · subst h; simp
            · rw [if_neg h]
              have : ((q : Int) == (p : Int)) = false := by simp; omega
              rw [this, Bool.or_false]
          have S3 : Hid (Below w.heap.size w (W2.setCell ⟨w.heap.size, q, none⟩ (.bool true))) := (below_chain HB.out (below_chain L1.out S2.out)).setCell (Nat.le_refl _) _
          have HK2 : Hid (∀ j, j < k + 1 → stepB es j = true) := fun j hj => by
            by_cases e : j = k
            · subst e; exact HF.out
            · exact HK.out j (by omega)
          go_wp2_with fail
          go_roundw
          case rel => exact ⟨k + 1, by omega, by go_num, HK2, T3, S3⟩
          case measure => simp [intOf]; omega
      · have hk0' : ¬ (0 : Int) < (k : Int) := by omega
        have b0 : (k == 0) = true := by simp; omega
        rw [b0, Bool.true_or] at HST
        clear HPA HCP HIX HOK
        have HF : Hid (stepB es k = true) := by show _ = _; rw [HST.out]; skip
        clear HST
        go_quiet (fail)
        obtain ⟨W2, HW2⟩ : ∃ W2 : World, Hid (W2 = W1.drewN nq) := ⟨_, rfl⟩
        rw [← HW2.out]
        have S2 : Hid (Below W1.heap.size W1 W2) := by show Below _ _ _; rw [HW2.out]; exact below_drewN (Below.refl _ _) _
        clear c0 c1 c2 c3 ct HW2
        try clear cp
        have T2 := Lib.hid (T1.out.since S2.out)
        obtain ⟨d0, d1, d2, d3⟩ := (R1.out.since S2.out).at_
        dsimp only at d0 d1 d2 d3
        have hfz : W2.frozen? ⟨w.heap.size, q, none⟩ = false := T2.out.free q
        have hcell : W2.cell? ⟨w.heap.size, q, none⟩ = some (.bool (seenB es k (q : Int))) := T2.out.cell (by omega)
        have T3 : Hid (Taken (W2.setCell ⟨w.heap.size, q, none⟩ (.bool true)) w.heap.size fun p => seenB es (k + 1) (p : Int)) := T2.out.set (by omega) fun p hp => by
          rw [seenB_next (by rw [HL.out]; exact hlt), ← HV.out]
          show (seenB es k (p : Int) || (q : Int) == (p : Int)) = _
          by_cases h : p = q
          · subst h; simp
          · rw [if_neg h]
            have : ((q : Int) == (p : Int)) = false := by simp; omega
            rw [this, Bool.or_false]
        have S3 : Hid (Below w.heap.size w (W2.setCell ⟨w.heap.size, q, none⟩ (.bool true))) := (below_chain HB.out (below_chain L1.out S2.out)).setCell (Nat.le_refl _) _
        have HK2 : Hid (∀ j, j < k + 1 → stepB es j = true) := fun j hj => by
          by_cases e : j = k
          · subst e; exact HF.out
          · exact HK.out j (by omega)
        go_wp2_with fail
        go_roundw
        case rel => exact ⟨k + 1, by omega, by go_num, HK2, T3, S3⟩
        case measure => simp [intOf]; omega
    · have HY : Hid (mayE es = true) := mayE_yes (es := es) (fun j hj => HK.out j (by have := HL.out; omega))
      rw [HY.out]
      have hlt' : ¬ (k : Int) < (n : Int) := by omega
      clear HC hz
      go_wp2
      go_ret
      exact ⟨by simp [HY.out], HB.out⟩
end Go.Proofs.Ytopfdeihjjikiaa
