/- The contracts of the document's own Columns and Clip of a label (package sculleryref1): the same answers as label's. Condition: the text at most a million bytes. -/
import Derived.Test.YtgenkmihbnkakaaDoorRefLabel
import Derived.Test.YtgenkmihbnkakaaDoorLabelCols
set_option linter.unusedVariables false
set_option linter.unusedSimpArgs false
set_option maxRecDepth 20000
namespace Go.Proofs.YtgenkmihbnkakaaDoor
open Go.RowKit

theorem refOne_any (r : Int) (w : World) : Calls Tryd.prog 45 #[.int .i32 r] w fun e w' => e = .returned (.int .i64 (colsI r)) ∧ w = w' := by
  have hd : colsI r = if wideB r then 2 else 1 := rfl
  by_cases h1 : wideB r = true
  all_goals
    simp only [h1] at hd
    have h2 := h1
    try simp only [Bool.not_eq_true] at h2
    rw [hd]; clear hd h1
    go_enter Tryd.func45, Tryd.ntmps45
    go_wp2_with (go_at_call 32; refine (refWide_any _ _).mono ?_; rintro e w' ⟨rfl, rfl⟩)
    go_ret
    exact ⟨rfl, rfl⟩
theorem rcols_take (rs : List Int) (k : Nat) (h : k < rs.length) : colsR (rs.take (k + 1)) = colsR (rs.take k) + colsI (rs.getD k 0) := by
  rw [List.take_succ_eq_append_getElem h, colsR_append, colsR_cons, colsR_nil]
  simp [List.getD, List.getElem?_eq_getElem h]
theorem rcols_le (rs : List Int) (k : Nat) (h : rs.length ≤ 12) : 0 ≤ colsR (rs.take k) ∧ colsR (rs.take k) ≤ 24 := by
  have h1 := colsR_bd (rs.take k)
  have h2 : (rs.take k).length ≤ rs.length := List.length_take_le' _ _
  omega
theorem refMay_at (s : ByteArray) (b : Bool) (h : mayL s.data.toList = b) (hs : s.size ≤ 1000000) (w : World) : Calls Tryd.prog 26 #[.string s] w fun e w' => e = .returned (.bool b) ∧ Below w.heap.size w w' := by
  rw [← h]
  exact refMay_any s hs w
theorem bch {w a b : World} (h : Below w.heap.size w a) (k : Below a.heap.size a b) : Below w.heap.size w b := h.trans (k.mono (by have := h.size; omega))

theorem rslice_to (W : World) (B n cap k : Nat) (h : k ≤ n) (hc : n ≤ cap) (h1 : 1 ≤ n) : (Instr.slice 30 (.slice (some ⟨B, 0, none⟩) n cap) none (some (.int .i64 (k : Int))) none).run Tryd.prog W = .ok (.slice (some ⟨B, 0, none⟩) k cap) W := by
  have he : Tryd.prog.elem 30 = 21 := by kernel_rfl
  rw [run_slice_h W 30 (some ⟨B, 0, none⟩) n cap (by rw [he]; exact Tryd.underlying30) .i64 (k : Int) (by omega) (by omega), he, Tryd.sizeOf21 W]
  simp only [Result.andThen, sliced]
  rw [if_neg (by omega)]
  simp [Addr.add]

set_option maxHeartbeats 4000000 in
set_option maxRecDepth 100000 in
theorem refClip_any (s : ByteArray) (c : Int) (hs : s.size ≤ 1000000) (w : World) :
    Calls Tryd.prog 28 #[.string s, .int .i64 c] w fun e w' => e = .returned (.string ⟨(clipL s.data.toList c).toArray⟩) ∧ Below w.heap.size w w' := by
  cases hmay : mayL s.data.toList with
  | false =>
    have m1 := refMay_at s false hmay hs w
    have HF : Hid (clipL s.data.toList c = []) := Lib.hid (by unfold clipL; rw [hmay]; rfl)
    clear hmay
    go_enter Tryd.func28, Tryd.ntmps28
    go_wp2_with fail
    refine m1.mono ?_
    rintro e W1 ⟨rfl, hb1⟩
    go_wp2_with fail
    go_ret
    exact ⟨ret_s HF.out.symm, hb1⟩
  | true =>
    have m1 := refMay_at s true hmay hs w
    have HV := Lib.hid (clipL_may hmay c)
    have hl12 := may_len hmay
    have HG := Lib.hid (may_good hmay)
    clear hmay
    go_enter Tryd.func28, Tryd.ntmps28
    go_wp2_with fail
    refine m1.mono ?_
    rintro e W1 ⟨rfl, hb1⟩
    clear m1
    obtain ⟨cap, W, hcv, hcap, hb, hz, hcell, _, _⟩ := conv_runes s hs W1
    obtain ⟨rs, hrs⟩ : ∃ rs, rs = runes s.data.toList := ⟨_, rfl⟩
    rw [← hrs] at hcv hcap hcell HV hl12 HG
    obtain ⟨n, hn⟩ : ∃ n, n = rs.length := ⟨_, rfl⟩
    have HL12 := Lib.hid hl12.2
    rw [← hn] at hcv hcap hcell hl12
    have HN := Lib.hid hn
    have HB := Lib.hid (bch hb1 hb)
    have HC := Lib.hid hcell
    obtain ⟨B, hBq⟩ : ∃ B, B = W1.heap.size := ⟨_, rfl⟩
    have hsl := fun k h W => rslice_to W B n cap k h hcap hl12.1
    have htx := fun (k : Nat) (h : k ≤ n) => conv_text W B 0 k cap (rs.take k) (by rw [List.length_take, ← HN.out]; omega) (fun j hj => by
      rw [Nat.zero_add, hBq, HC.out j (by omega)]
      simp [List.getD, List.getElem?_take, hj]) (runesBytes (rs.take k)) rfl
    have hend : ∀ k, clipR rs c = rs.take k → (runesBytes (rs.take k)).data.toList = clipL s.data.toList c := by
      intro k h
      rw [HV.out, h]
      exact runesBytes_enc _ (fun r hr => by have := HG.out.low r (List.mem_of_mem_take hr); unfold Scalar; omega)
    have HSL := Lib.hid hsl
    have HTX := Lib.hid htx
    have HEnd := Lib.hid hend
    rw [← hBq] at hcv HC
    obtain ⟨hl1, hl2⟩ := hl12
    clear hrs hn hb hb1 hcell hz hsl htx hend hBq
    go_wp2_with fail
    clear hcv
    go_loop [6, 7] (fun vn vi => ∃ (k : Nat) (x : Int), vn = .int .i64 x ∧ vi = .int .i64 k ∧ k ≤ n ∧ 0 ≤ x ∧ x ≤ 24 ∧ Hid (x = colsR (rs.take k) ∧ (k = 0 ∨ x ≤ c))) (fun _ vi => n - (intOf vi).toNat)
    case atStart => exact ⟨0, 0, rfl, rfl, by omega, by omega, by omega, Lib.hid ⟨by simp [colsR_nil], Or.inl rfl⟩⟩
    case round =>
      obtain ⟨k, x, rfl, rfl, hk, hx0, hx1, hx⟩ := hrel
      have hs1 := HSL.out k hk
      have ht1 := HTX.out k hk
      by_cases hkn : k < n
      · have hck := HC.out k hkn
        obtain ⟨r, hr⟩ : ∃ r, r = rs.getD k 0 := ⟨_, rfl⟩
        have hkl : k < rs.length := by rw [← HN.out]; exact hkn
        have hst := rcols_take rs k hkl
        rw [← hr, ← hx.out.1] at hst
        have hbd := rcols_le rs (k + 1) HL12.out
        have hci := colsI_bd r
        obtain ⟨hci0, hci1⟩ := hci
        have hdec : rs = rs.take k ++ r :: rs.drop (k + 1) := by
          have h1 : rs.drop k = rs[k] :: rs.drop (k + 1) := List.drop_eq_getElem_cons hkl
          have h2 : rs[k] = r := by rw [hr]; simp [List.getD, List.getElem?_eq_getElem hkl]
          rw [← h2, ← h1, List.take_append_drop]
        rw [← hr] at hck
        by_cases hfit : x + colsI r ≤ c
        · have HS : Hid (x + colsI r = colsR (rs.take (k + 1)) ∧ 0 ≤ x + colsI r ∧ x + colsI r ≤ 24) := Lib.hid ⟨hst.symm, by omega, by omega⟩
          have HFit := Lib.hid hfit
          clear hr hst hbd hdec hkl hs1 ht1
          go_wp2_with fail
          refine (refOne_any r _).mono ?_
          rintro e W1 ⟨rfl, rfl⟩
          go_wp2_with fail
          refine (refOne_any r _).mono ?_
          rintro e W1 ⟨rfl, rfl⟩
          go_wp2_with fail
          go_round
          case rel => exact ⟨k + 1, _, rfl, by go_num, by omega, HS.out.2.1, HS.out.2.2, Lib.hid ⟨HS.out.1, Or.inr HFit.out⟩⟩
          case measure => simp [intOf]; omega
        · have hstop : clipR rs c = rs.take k := by
            have h3 := clipR_stop (rs.take k) (rs.drop (k + 1)) r c (by
              rcases hx.out.2 with h | h
              · exact Or.inl (by rw [h, List.take_zero])
              · exact Or.inr (by rw [← hx.out.1]; exact h)) (by rw [← hx.out.1]; omega)
            rwa [← hdec] at h3
          have HE := Lib.hid (HEnd.out k hstop)
          have hnf : c < x + colsI r := by omega
          clear hr hst hbd hdec hkl hstop hfit
          go_wp2_with fail
          refine (refOne_any r _).mono ?_
          rintro e W1 ⟨rfl, rfl⟩
          go_wp2_with fail
          go_ret
          exact ⟨ret_s HE.out, HB.out⟩
      · have hkk : k = n := by omega
        have hall : clipR rs c = rs.take k := by
          have e : rs.take k = rs := List.take_of_length_le (by rw [← HN.out]; omega)
          rw [e]
          rcases hx.out.2 with h | h
          · omega
          · rw [hx.out.1, e] at h
            exact clipR_all rs c h
        have HE := Lib.hid (HEnd.out k hall)
        clear hall hkk
        go_wp2_with fail
        go_ret
        exact ⟨ret_s HE.out, HB.out⟩
end Go.Proofs.YtgenkmihbnkakaaDoor
