/- The contracts of the document's own Wide, Good, May (package sculleryref1): the same answers as label's. Condition: the text at most a million bytes. -/
import Derived.Test.YtgenkmihbnkakaaDoorLabelConv
import Derived.Test.YtgenkmihbnkakaaDoorSays
import Derived.BigGuard
import Derived.BigCall
set_option linter.unusedVariables false
set_option linter.unusedSimpArgs false
set_option maxRecDepth 20000
namespace Go.Proofs.YtgenkmihbnkakaaDoor
open Go.RowKit

theorem refWide_any (r : Int) (w : World) : Calls Tryd.prog 32 #[.int .i32 r] w fun e w' => e = .returned (.bool (wideB r)) ∧ w = w' := by
  by_cases h1 : 19968 ≤ r <;> by_cases h2 : r ≤ 40959
  all_goals
    have hw : wideB r = decide (19968 ≤ r ∧ r ≤ 40959) := rfl
    simp only [h1, h2, and_self, and_false, false_and, decide_true, decide_false] at hw
    rw [hw]; clear hw
    go_enter Tryd.func32, Tryd.ntmps32
    go_wp2
    go_ret
    exact ⟨rfl, rfl⟩
theorem wideB_not (r : Int) : wideB r = false ↔ ¬ (19968 ≤ r ∧ r ≤ 40959) := by simp [wideB]
set_option maxHeartbeats 1000000 in
theorem refGood_ret (r : Int) (w : World) : Calls Tryd.prog 44 #[.int .i32 r] w fun e w' => Ret (goodB r) e ∧ w = w' := by
  go_enter Tryd.func44, Tryd.ntmps44
  go_wp2_with (go_at_call 32; refine (refWide_any _ _).mono ?_; rintro e w' ⟨rfl, rfl⟩)
  all_goals go_ret
  all_goals
    refine ⟨ret_good ?_, rfl⟩
    try simp only [beq_iff_eq, beq_eq_false_iff_ne, wideB_iff, wideB_not, bne_iff_ne, ne_eq, bne_eq_false_iff_eq] at *
    try simp only [wideB_iff, Bool.and_eq_true, Bool.or_eq_true, decide_eq_true_eq, bne_iff_ne, eq_self_iff_true, true_iff, ne_eq, Bool.false_eq_true, false_iff]
    unfold goodP
    omega
theorem refGood_any (r : Int) (w : World) : Calls Tryd.prog 44 #[.int .i32 r] w fun e w' => e = .returned (.bool (goodB r)) ∧ w = w' := refGood_ret r w
theorem may_eq_R (l : List UInt8) : mayL l = mayR (runes l) := by
  cases h : mayR (runes l) with
  | true =>
    have he := enc_runes l.length l (Nat.le_refl _) (mayR_good h).not
    rw [← he]
    exact R_may h
  | false =>
    cases k : mayL l with
    | false => rfl
    | true => rw [may_R k] at h; exact h
theorem mayR_len {rs : List Int} (h : ¬ (1 ≤ rs.length ∧ rs.length ≤ 12)) : mayR rs = false := by unfold mayR; simp [h]
theorem mayR_bad {rs : List Int} (h : ¬ Good rs) : mayR rs = false := by
  cases k : mayR rs with
  | false => rfl
  | true => exact absurd (mayR_good k) h
theorem mayR_first {rs : List Int} (h0 : 0 < rs.length) (h : rs.getD 0 0 = 45) : mayR rs = false := by
  cases rs with
  | nil => simp at h0
  | cons r rs =>
    simp only [List.getD_cons_zero] at h
    subst h
    simp [mayR]
theorem mayR_last {rs : List Int} (h0 : 0 < rs.length) (h : rs.getD (rs.length - 1) 0 = 45) : mayR rs = false := by
  have e : rs.getLast? = some 45 := by
    rw [List.getLast?_eq_getElem?, List.getElem?_eq_getElem (by omega)]
    have : rs.getD (rs.length - 1) 0 = rs[rs.length - 1]'(by omega) := by simp [List.getD, List.getElem?_eq_getElem (show rs.length - 1 < rs.length by omega)]
    rw [← this, h]
  simp [mayR, e]
theorem mayR_all {rs : List Int} (hl : 1 ≤ rs.length ∧ rs.length ≤ 12) (hg : Good rs) (h0 : rs.getD 0 0 ≠ 45) (h1 : rs.getD (rs.length - 1) 0 ≠ 45) : mayR rs = true := by
  unfold mayR
  unfold Good at hg
  rw [hg]
  simp only [Bool.and_eq_true, decide_eq_true_eq, bne_iff_ne, ne_eq]
  refine ⟨⟨hl, trivial⟩, ?_, ?_⟩
  · cases rs with
    | nil => simp
    | cons r rs => simpa using h0
  · intro e
    rw [List.getLast?_eq_getElem?, List.getElem?_eq_getElem (by omega)] at e
    have : rs.getD (rs.length - 1) 0 = rs[rs.length - 1]'(by omega) := by simp [List.getD, List.getElem?_eq_getElem (show rs.length - 1 < rs.length by omega)]
    rw [this] at h1
    injection e with e
    exact h1 e
theorem good_bad {rs : List Int} (k : Nat) (hk : k < rs.length) (h : goodB (rs.getD k 0) = false) : ¬ Good rs := by
  intro hg
  have : rs.getD k 0 = rs[k] := by simp [List.getD, List.getElem?_eq_getElem hk]
  rw [this] at h
  have h2 := List.all_eq_true.1 hg _ (List.getElem_mem hk)
  rw [h] at h2
  simp at h2

set_option maxHeartbeats 4000000 in
set_option maxRecDepth 100000 in
theorem refMay_any (s : ByteArray) (hs : s.size ≤ 1000000) (w : World) :
    Calls Tryd.prog 26 #[.string s] w fun e w' => e = .returned (.bool (mayL s.data.toList)) ∧ Below w.heap.size w w' := by
  rw [may_eq_R]
  obtain ⟨cap, W, hcv, hcap, hb, hz, hcell, _, _⟩ := conv_runes s hs w
  have hrl := runes_length_le s.data.toList.length s.data.toList (Nat.le_refl _)
  rw [← Lib.size_eq] at hrl
  obtain ⟨rs, hrs⟩ : ∃ rs, rs = runes s.data.toList := ⟨_, rfl⟩
  rw [← hrs] at hcv hcap hcell hrl ⊢
  have HRS := Lib.hid hrs
  obtain ⟨n, hn⟩ : ∃ n, n = rs.length := ⟨_, rfl⟩
  rw [← hn] at hcv hcap hcell hrl
  have HN := Lib.hid hn
  have HB := Lib.hid hb
  obtain ⟨T, hT⟩ : ∃ T, T = runesBytes rs := ⟨_, rfl⟩
  have hcv2 := conv_text W w.heap.size 0 n cap rs hn.symm (fun j hj => by rw [Nat.zero_add]; exact hcell j hj) T hT
  have HC := Lib.hid hcell
  have hTg : Good rs → T = s := by
    intro hg
    have h1 : T.data.toList = enc rs := by rw [hT]; exact runesBytes_enc rs (fun r hr => by have := hg.low r hr; unfold Scalar; omega)
    have h2 : enc rs = s.data.toList := by rw [hrs]; exact enc_runes _ _ (Nat.le_refl _) (by rw [← hrs]; exact hg.not)
    apply ByteArray.ext
    apply Array.toList_inj.1
    rw [h1, h2]
  have HT := Lib.hid hTg
  clear hrs hn hb hT hcell hTg hz
  by_cases hn1 : n < 1
  · have HR := Lib.hid (mayR_len (rs := rs) (by rw [← HN.out]; omega))
    go_enter Tryd.func26, Tryd.ntmps26
    go_wp2_with fail
    go_ret
    exact ⟨ret_b HR.out.symm, HB.out⟩
  by_cases hn2 : 12 < n
  · have HR := Lib.hid (mayR_len (rs := rs) (by rw [← HN.out]; omega))
    go_enter Tryd.func26, Tryd.ntmps26
    go_wp2_with fail
    go_ret
    exact ⟨ret_b HR.out.symm, HB.out⟩
  have hn1' : 1 ≤ n := by omega
  have hn2' : n ≤ 12 := by omega
  clear hn1 hn2
  by_cases hTs : T = s
  · subst hTs
    have hc0 := HC.out 0 (by omega)
    have hcl := HC.out (n - 1) (by omega)
    have HF := Lib.hid (fun h => mayR_first (rs := rs) (by rw [← HN.out]; omega) h)
    have HLa := Lib.hid (fun h => mayR_last (rs := rs) (by rw [← HN.out]; omega) h)
    have HAll := Lib.hid (fun hg h0 h1 => mayR_all (rs := rs) (by rw [← HN.out]; omega) hg h0 h1)
    rw [← HN.out] at HLa HAll
    obtain ⟨r0, hr0⟩ : ∃ r, r = rs.getD 0 0 := ⟨_, rfl⟩
    obtain ⟨r1, hr1⟩ : ∃ r, r = rs.getD (n - 1) 0 := ⟨_, rfl⟩
    rw [← hr0] at hc0 HF HAll
    rw [← hr1] at hcl HLa HAll
    clear hr0 hr1
    by_cases h0 : r0 = 45
    · have HR := Lib.hid (HF.out h0)
      have hq : (r0 == 45) = true := by rw [beq_iff_eq]; exact h0
      clear h0
      go_enter Tryd.func26, Tryd.ntmps26
      go_wp2_with fail
      go_ret
      exact ⟨ret_b HR.out.symm, HB.out⟩
    have hq0 : (r0 == 45) = false := by rw [beq_eq_false_iff_ne]; exact h0
    by_cases h1 : r1 = 45
    · have HR := Lib.hid (HLa.out h1)
      have hq : (r1 == 45) = true := by rw [beq_iff_eq]; exact h1
      clear h0 h1
      go_enter Tryd.func26, Tryd.ntmps26
      go_wp2_with fail
      go_ret
      exact ⟨ret_b HR.out.symm, HB.out⟩
    have hq1 : (r1 == 45) = false := by rw [beq_eq_false_iff_ne]; exact h1
    have HAll2 := Lib.hid (fun hg => HAll.out hg h0 h1)
    clear h0 h1 HAll
    go_enter Tryd.func26, Tryd.ntmps26
    go_wp2_with fail
    go_loop [4] (fun vi => ∃ k : Nat, vi = .int .i64 k ∧ k ≤ n ∧ Hid (∀ j, j < k → goodB (rs.getD j 0) = true)) (fun vi => n - (intOf vi).toNat)
    case atStart => exact ⟨0, rfl, by omega, Lib.hid (fun j hj => by omega)⟩
    case round =>
      obtain ⟨k, rfl, hk, hg⟩ := hrel
      by_cases hkn : k < n
      · have hck := HC.out k hkn
        obtain ⟨r, hr⟩ : ∃ r, r = rs.getD k 0 := ⟨_, rfl⟩
        have HK := Lib.hid (fun h => good_bad (rs := rs) k (by rw [← HN.out]; exact hkn) h)
        have HG2 : Hid (goodB r = true → ∀ j, j < k + 1 → goodB (rs.getD j 0) = true) := Lib.hid (fun h j hj => by
          by_cases e : j = k
          · rw [e, ← hr]; exact h
          · exact hg.out j (by omega))
        rw [← hr] at hck HK
        clear hr
        cases hgr : goodB r with
        | false =>
          have HR := Lib.hid (mayR_bad (HK.out hgr))
          have hgc : Calls Tryd.prog 44 #[.int .i32 r] W fun e w' => e = .returned (.bool false) ∧ W = w' := by rw [← hgr]; exact refGood_any r W
          clear hgr
          go_wp2_with fail
          refine hgc.mono ?_
          rintro e W1 ⟨rfl, rfl⟩
          go_wp2_with fail
          go_ret
          exact ⟨ret_b HR.out.symm, HB.out⟩
        | true =>
          have HS := Lib.hid (HG2.out hgr)
          have hgc : Calls Tryd.prog 44 #[.int .i32 r] W fun e w' => e = .returned (.bool true) ∧ W = w' := by rw [← hgr]; exact refGood_any r W
          clear hgr
          go_wp2_with fail
          refine hgc.mono ?_
          rintro e W1 ⟨rfl, rfl⟩
          go_wp2_with fail
          go_round
          case rel => exact ⟨k + 1, by go_num, by omega, HS⟩
          case measure => simp [intOf]; omega
      · have HR : Hid (mayR rs = true) := Lib.hid (HAll2.out (by
          unfold Good
          rw [List.all_eq_true]
          intro x hx
          obtain ⟨j, hj, rfl⟩ := List.getElem_of_mem hx
          have := hg.out j (by rw [← HN.out] at hj; omega)
          simpa [List.getD, List.getElem?_eq_getElem hj] using this))
        go_wp2_with fail
        go_ret
        exact ⟨ret_b HR.out.symm, HB.out⟩
  · have HR := Lib.hid (mayR_bad (rs := rs) (fun hg => hTs (HT.out hg)))
    have hq : (T.toList == s.toList) = false := by
      rw [beq_eq_false_iff_ne, Lib.toList_data, Lib.toList_data]
      intro e
      exact hTs (ByteArray.ext (Array.toList_inj.1 e))
    clear hTs
    go_enter Tryd.func26, Tryd.ntmps26
    go_wp2_with fail
    go_ret
    exact ⟨ret_b HR.out.symm, HB.out⟩
end Go.Proofs.YtgenkmihbnkakaaDoor
