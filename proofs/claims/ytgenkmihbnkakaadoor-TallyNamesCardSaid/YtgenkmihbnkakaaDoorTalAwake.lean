/- What every program answers that is one (package scullerylaw20); how many runes of a bar are full. Conditions: the text at most a million bytes. -/
import Derived.Test.YtgenkmihbnkakaaDoorTalFace
import Derived.Test.YtgenkmihbnkakaaDoorSays
set_option linter.unusedVariables false
set_option linter.unusedSimpArgs false
set_option maxRecDepth 20000
namespace Go.Proofs.YtgenkmihbnkakaaDoor
open Go Go.RowKit

theorem line_size {l : List UInt8} {d c m k : Int} : (lineL l d c m k).length ≤ 3000 := by
  unfold lineL
  split
  · rename_i h
    have h0 : mayL l = true := by unfold okT at h; exact (Bool.and_eq_true_iff.1 h).1
    have hf := h
    unfold okT at hf
    rw [h0, Bool.true_and] at hf
    obtain ⟨_, hc, _, hk0, hk1⟩ := of_decide_eq_true hf
    have h1 := enc_low_len (line_low (may_good h0).low d c m k)
    have h2 := (colsR_bd (lineR (runes l) d c m k)).1
    rw [line_cols hc hk0 hk1] at h2
    omega
  · decide
theorem bar_size {n o c : Int} : (enc (barR n o c)).length ≤ 600 := by
  have h1 := enc_low_len (bar_low n o c)
  by_cases h : 0 ≤ c ∧ c ≤ 200
  · have h2 := bar_len (n := n) (o := o) h.1 h.2
    omega
  · unfold barR
    rw [if_neg h]
    decide
set_option maxHeartbeats 4000000 in
set_option maxRecDepth 100000 in
theorem talawake_any (w : World) (HT0 : T10 w) : Calls Tryd.prog 7 #[] w (SaysB w true) := by
  have HT := Lib.hid HT0
  clear HT0
  go_enter Tryd.func7, Tryd.ntmps7
  go_wp2_with fail
  refine (tbar_any 1 2 4 (by decide) (by decide) (by decide) (by decide) (by decide) (by decide) _).mono ?_
  rintro e W1 ⟨S, rfl, hS, hb1⟩
  obtain rfl : S = ⟨#[226, 150, 136, 226, 150, 136, 194, 183, 194, 183]⟩ := ba_ext (hS.out.trans (by decide +kernel))
  go_wp2_with fail
  refine (tpct_any 1 3 (by decide) (by decide) (by decide) (by decide) _).mono ?_
  rintro e W2 ⟨rfl, hb2⟩
  rw [show pctT 1 3 = 33 by decide +kernel]
  have S2 := bch hb1 hb2
  go_wp2_with fail
  refine (tcols_any _ (by decide) _).mono ?_
  rintro e W3 ⟨rfl, hb3⟩
  rw [show colsR (runes (⟨#[230, 151, 165, 97]⟩ : ByteArray).data.toList) = 3 by decide +kernel]
  have S3 := bch S2 hb3
  go_wp2_with fail
  refine (tline_any ⟨#[115, 104, 101, 108, 102]⟩ 1 2 4 40 (by decide) (by decide) (by decide) (by decide) (by decide) (by decide) (by decide) (by decide) (by decide) _ (HT.out.since S3)).mono ?_
  rintro e W4 ⟨L, rfl, hL, hb4⟩
  have S4 := bch S3 hb4
  have hLz : L.size ≤ 1000000 := by rw [ba_size, hL.out]; exact Nat.le_trans line_size (by decide)
  have HC := tcols_any L hLz W4
  rw [hL.out, runes_line (by decide +kernel), line_cols (by decide) (by decide) (by decide)] at HC
  go_wp2_with fail
  refine HC.mono ?_
  rintro e W5 ⟨rfl, hb5⟩
  go_wp2_with fail
  go_ret
  exact ⟨rfl, bch S4 hb5⟩
set_option maxHeartbeats 4000000 in
set_option maxRecDepth 100000 in
theorem full_any (s : ByteArray) (hs : s.size ≤ 1000000) (w : World) :
    Calls Tryd.prog 17 #[.string s] w fun e w' => e = .returned (.int .i64 ((runes s.data.toList).count 9608)) ∧ Below w.heap.size w w' := by
  obtain ⟨cap, W, hcv, hcap, hb, hz, hcell, _, _⟩ := conv_runes s hs w
  have hlen := runes_length_le s.data.toList.length s.data.toList (Nat.le_refl _)
  rw [← Lib.size_eq] at hlen
  obtain ⟨rs, hrs⟩ : ∃ rs, Hid (runes s.data.toList = rs) := ⟨_, rfl⟩
  rw [hrs.out] at hcv hcap hcell hlen ⊢
  obtain ⟨n, HN⟩ : ∃ n, Hid (rs.length = n) := ⟨_, rfl⟩
  rw [HN.out] at hcv hcap hcell hlen
  have hn : n ≤ 1000000 := by omega
  have HB := Lib.hid hb
  have HC := Lib.hid hcell
  clear hrs hb hcell hz hlen hs
  go_enter Tryd.func17, Tryd.ntmps17
  go_wp2_with fail
  clear hcv
  go_loop [3, 5] (fun vn vi => ∃ (k x : Nat), vn = .int .i64 x ∧ vi = .int .i64 k ∧ k ≤ n ∧ x ≤ k ∧ Hid ((rs.take k).count 9608 = x)) (fun _ vi => n - (intOf vi).toNat)
  case atStart => exact ⟨0, 0, rfl, rfl, by omega, by omega, Lib.hid (by simp)⟩
  case round =>
    obtain ⟨k, x, rfl, rfl, hk, hx1, hx⟩ := hrel
    by_cases hkn : k < n
    · have hck := HC.out k hkn
      obtain ⟨r, hr⟩ : ∃ r, r = rs.getD k 0 := ⟨_, rfl⟩
      have hst : (rs.take (k + 1)).count 9608 = x + (if r = 9608 then 1 else 0) := by
        have hkl : k < rs.length := by rw [HN.out]; exact hkn
        rw [List.take_succ_eq_append_getElem hkl, List.count_append, hx.out, hr, List.getD_eq_getElem?_getD, List.getElem?_eq_getElem hkl]
        simp [List.count_singleton]
      rw [← hr] at hck
      clear hr
      by_cases h9 : r = 9608
      · subst h9
        have HS : Hid ((rs.take (k + 1)).count 9608 = x + 1) := by show _ = _; rw [hst, if_pos rfl]
        clear hst
        go_wp2_with fail
        go_round
        case rel => exact ⟨k + 1, x + 1, by go_num, by go_num, by omega, by omega, HS⟩
        case measure => simp [intOf]; omega
      · have HS : Hid ((rs.take (k + 1)).count 9608 = x) := by show _ = _; rw [hst, if_neg h9]; rfl
        clear hst
        go_wp2_with fail
        go_round
        case rel => exact ⟨k + 1, x, by go_num, by go_num, by omega, by omega, HS⟩
        case measure => simp [intOf]; omega
    · have HE : Hid ((x : Int) = (rs.count 9608 : Nat)) := by show _ = _; rw [← hx.out, List.take_of_length_le (by rw [HN.out]; omega)]
      go_wp2_with fail
      go_ret
      exact ⟨ret_i HE.out, HB.out⟩
end Go.Proofs.YtgenkmihbnkakaaDoor
