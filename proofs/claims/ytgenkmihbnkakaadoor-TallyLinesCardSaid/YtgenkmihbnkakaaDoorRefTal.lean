/- The contracts of the document's own tally (package sculleryref20). Conditions: numbers of an int; texts of at most a million bytes. -/
import Derived.Test.YtgenkmihbnkakaaDoorTalMath
import Derived.Test.YtgenkmihbnkakaaDoorRefLabelCols
import Derived.Test.YtgenkmihbnkakaaDoorRegion
import Derived.Test.YtgenkmihbnkakaaDoorOwn
import Derived.Laws.Closers25
set_option linter.unusedVariables false
set_option linter.unusedSimpArgs false
set_option maxRecDepth 20000
namespace Go.Proofs.YtgenkmihbnkakaaDoor
open Go Go.RowKit

def SaysS (w : World) (X : List UInt8) (e : Ending) (w' : World) : Prop := ∃ S : ByteArray, e = .returned (.string S) ∧ Hid (S.data.toList = X) ∧ Below w.heap.size w w'
theorem ba_ext {S T : ByteArray} (h : S.data.toList = T.data.toList) : S = T := by
  cases S; cases T
  congr
  exact Array.toList_inj.1 h

set_option maxHeartbeats 4000000 in
set_option maxRecDepth 100000 in
theorem rtpct_any (n o : Int) (hn1 : n ≤ 9223372036854775807) (ho1 : o ≤ 9223372036854775807) (w : World) :
    Calls Tryd.prog 9 #[.int .i64 n, .int .i64 o] w fun e w' => e = .returned (.int .i64 (pctT n o)) ∧ w = w' := by
  by_cases h1 : o < 1
  · have hv : pctT n o = 0 := by unfold pctT; rw [if_pos (Or.inl h1)]
    rw [hv]; clear hv
    go_enter Tryd.func9, Tryd.ntmps9
    go_wp2_with fail
    go_ret
    exact ⟨rfl, rfl⟩
  by_cases h2 : n < 0
  · have hv : pctT n o = 0 := by unfold pctT; rw [if_pos (Or.inr h2)]
    rw [hv]; clear hv
    go_enter Tryd.func9, Tryd.ntmps9
    go_wp2_with fail
    go_ret
    exact ⟨rfl, rfl⟩
  by_cases h3 : o ≤ n
  · have hv : pctT n o = 100 := pct_all (by omega) h3
    rw [hv]; clear hv
    go_enter Tryd.func9, Tryd.ntmps9
    go_wp2_with fail
    go_ret
    exact ⟨rfl, rfl⟩
  obtain ⟨P, HP⟩ : ∃ P, Hid (pctT n o = P) := ⟨_, rfl⟩
  have HPB : Hid (0 ≤ P ∧ P < 100) := by have h4 := pct_bd n o; have h5 := pct_lt (n := n) (o := o) (by omega) (by omega); rw [HP.out] at h4 h5; exact ⟨h4.1, h5⟩
  obtain ⟨q, hq⟩ : ∃ q, o / 100 = q := ⟨_, rfl⟩
  obtain ⟨r, hr⟩ : ∃ r, o % 100 = r := ⟨_, rfl⟩
  have HR : Hid (∀ p, (p * q + (p * r + 99) / 100 ≤ n ↔ p ≤ P)) := fun p => by have := pct_reach (p := p) (n := n) (o := o) (by omega) (by omega) hq hr; rw [HP.out] at this; exact this
  have q0 : 0 ≤ q := by omega
  have q1 : q ≤ 92233720368547758 := by omega
  have r0 : 0 ≤ r := by omega
  have r1 : r ≤ 99 := by omega
  have n0 : 0 ≤ n := by omega
  have o1 : 1 ≤ o := by omega
  have no : n < o := by omega
  clear h1 h2 h3
  rw [HP.out]
  go_enter Tryd.func9, Tryd.ntmps9
  go_wp2_with fail
  go_loop [5, 6] (fun vh vp => ∃ p h : Int, vh = .int .i64 h ∧ vp = .int .i64 p ∧ 1 ≤ p ∧ p ≤ 100 ∧ Hid (h = if p - 1 ≤ P then p - 1 else P)) (fun _ vp => (100 - intOf vp).toNat)
  case atStart => exact ⟨1, 0, rfl, rfl, by decide, by decide, by show _ = _; rw [if_pos (by have := HPB.out; omega)]; rfl⟩
  case round =>
    obtain ⟨p, h, rfl, rfl, hp1, hp2, hh⟩ := hrel
    by_cases hp : p < 100
    · obtain ⟨a, ha⟩ : ∃ a, p * q = a := ⟨_, rfl⟩
      obtain ⟨b, hb⟩ : ∃ b, p * r = b := ⟨_, rfl⟩
      have a0 : 0 ≤ a := by rw [← ha]; exact Int.mul_nonneg (by omega) q0
      have a1 : a ≤ 9131138316486228042 := by rw [← ha]; have := Int.mul_le_mul (show p ≤ 99 by omega) q1 q0 (by decide); omega
      have b0 : 0 ≤ b := by rw [← hb]; exact Int.mul_nonneg (by omega) r0
      have b1 : b ≤ 9801 := by rw [← hb]; have := Int.mul_le_mul (show p ≤ 99 by omega) r1 r0 (by decide); omega
      have HA := HR.out p
      rw [ha, hb] at HA
      by_cases hreach : p ≤ P
      · have hge := HA.2 hreach
        have HPP : Hid (p ≤ P) := hreach
        clear HA hreach
        go_wp2_with (simp only [hq, hr, ha, hb])
        go_round
        case rel => exact ⟨p + 1, p, by go_num, by go_num, by omega, by omega, by show _ = _; rw [if_pos (by have := HPP.out; omega)]; omega⟩
        case measure => simp [intOf]; omega
      · have hge : n < a + (b + 99) / 100 := by
          have h5 : ¬ (a + (b + 99) / 100 ≤ n) := fun h6 => hreach (HA.1 h6)
          omega
        have HPP : Hid (¬ p ≤ P) := hreach
        clear HA hreach
        go_wp2_with (simp only [hq, hr, ha, hb])
        go_round
        case rel => exact ⟨p + 1, h, by go_num, by go_num, by omega, by omega, by show _ = _; have h5 := hh.out; have h6 := HPP.out; rw [h5]; by_cases h7 : p - 1 ≤ P; rw [if_pos h7, if_neg (by omega)]; omega; rw [if_neg h7, if_neg (by omega)]⟩
        case measure => simp [intOf]; omega
    · have HE : Hid (h = P) := by show _ = _; have h5 := hh.out; have h6 := HPB.out; rw [h5]; by_cases h7 : p - 1 ≤ P; rw [if_pos h7]; omega; rw [if_neg h7]
      go_wp2_with fail
      go_ret
      exact ⟨ret_i HE.out, rfl⟩
theorem ba_app (S T : ByteArray) : (S ++ T).data.toList = S.data.toList ++ T.data.toList := by simp
theorem enc_take {rs : List Int} {k : Nat} (h : k < rs.length) : enc (rs.take (k + 1)) = enc (rs.take k) ++ Lib.encodeRune (rs.getD k 0) := by
  rw [List.take_succ_eq_append_getElem h, enc_append, enc_one]
  simp [List.getD, List.getElem?_eq_getElem h]
theorem enc_full : Lib.encodeRune 9608 = [226, 150, 136] := by decide +kernel
theorem enc_rest : Lib.encodeRune 183 = [194, 183] := by decide +kernel
theorem bar_out {n o c : Int} (h : ¬ (0 < c ∧ c ≤ 200)) : barR n o c = [] := by
  unfold barR
  split
  · rename_i h2
    have e : c = 0 := by omega
    subst e
    rw [show fullT n o 0 = 0 by unfold fullT; simp]
    rfl
  · rfl
set_option maxHeartbeats 4000000 in
set_option maxRecDepth 100000 in
theorem rtbar_any (n o c : Int) (hn1 : n ≤ 9223372036854775807) (ho1 : o ≤ 9223372036854775807) (w : World) :
    Calls Tryd.prog 11 #[.int .i64 n, .int .i64 o, .int .i64 c] w fun e w' => ∃ S : ByteArray, e = .returned (.string S) ∧ Hid (S.data.toList = enc (barR n o c)) ∧ w = w' := by
  by_cases hin : 0 < c ∧ c ≤ 200
  · obtain ⟨hc0, hc1⟩ := hin
    obtain ⟨P, HP⟩ : ∃ P, Hid (pctT n o = P) := ⟨_, rfl⟩
    have HPB : 0 ≤ P ∧ P ≤ 100 := by have h4 := pct_bd n o; rw [HP.out] at h4; exact h4
    obtain ⟨hp0, hp1⟩ := HPB
    have HC := Lib.hid (rtpct_any n o hn1 ho1 w)
    rw [HP.out] at HC
    obtain ⟨a, ha⟩ : ∃ a, P * c = a := ⟨_, rfl⟩
    have a0 : 0 ≤ a := by rw [← ha]; exact Int.mul_nonneg hp0 (by omega)
    have a1 : a ≤ 20000 := by rw [← ha]; have := Int.mul_le_mul hp1 hc1 (by omega) (by decide); omega
    have HF : Hid (fullT n o c = a / 100) := by show _ = _; unfold fullT; rw [HP.out, Int.mul_comm, ha]
    have HL : Hid ((barR n o c).length = c.toNat) := bar_len (by omega) hc1
    have HAT : Hid (∀ k : Nat, k < c.toNat → (barR n o c).getD k 0 = if (k : Int) < a / 100 then 9608 else 183) := fun k hk => by rw [← HF.out]; exact bar_at (by omega) hc1 hk
    obtain ⟨m, hm⟩ : ∃ m : Nat, c = (m : Int) := ⟨c.toNat, by omega⟩
    subst hm
    go_enter Tryd.func11, Tryd.ntmps11
    go_wp2_with fail
    go_loop [7, 8] (fun vs vi => ∃ (i : Nat) (S : ByteArray), vs = .string S ∧ vi = .int .i64 i ∧ i ≤ m ∧ S.size ≤ 3 * i ∧ Hid (S.data.toList = enc ((barR n o m).take i))) (fun _ vi => m - (intOf vi).toNat)
    case atStart => exact ⟨0, ⟨#[]⟩, rfl, rfl, Nat.zero_le _, by decide, by show _ = _; rw [List.take_zero]; rfl⟩
    case round =>
      obtain ⟨i, S, rfl, rfl, hi, hsz, hS⟩ := hrel
      by_cases hlt : i < m
      · have i1 : (i : Int) < (m : Int) := by omega
        have HT := enc_take (rs := barR n o m) (k := i) (by rw [HL.out]; omega)
        rw [HAT.out i (by omega)] at HT
        by_cases hf : (i : Int) < a / 100
        · rw [if_pos hf, enc_full] at HT
          have HT2 := Lib.hid HT
          clear HT
          go_wp2_with fail
          refine HC.out.mono ?_
          rintro e w' ⟨rfl, rfl⟩
          go_wp2_with (simp only [ha])
          go_round
          case rel => exact ⟨i + 1, _, rfl, by go_num, by omega, by rw [ByteArray.size_append]; exact Nat.le_trans (Nat.add_le_add hsz (show _ ≤ 3 by decide)) (by omega), by show _ = _; rw [HT2.out, ba_app, hS.out]⟩
          case measure => simp [intOf]; omega
        · rw [if_neg hf, enc_rest] at HT
          have HT2 := Lib.hid HT
          clear HT
          have hf2 : a / 100 ≤ (i : Int) := by omega
          go_wp2_with fail
          refine HC.out.mono ?_
          rintro e w' ⟨rfl, rfl⟩
          go_wp2_with (simp only [ha])
          go_round
          case rel => exact ⟨i + 1, _, rfl, by go_num, by omega, by rw [ByteArray.size_append]; exact Nat.le_trans (Nat.add_le_add hsz (show _ ≤ 3 by decide)) (by omega), by show _ = _; rw [HT2.out, ba_app, hS.out]⟩
          case measure => simp [intOf]; omega
      · have HE : Hid (S.data.toList = enc (barR n o m)) := by show _ = _; rw [hS.out, List.take_of_length_le (by rw [HL.out]; omega)]
        go_wp2_with fail
        go_ret
        exact ⟨S, rfl, HE, rfl⟩
  · have HE : Hid (([] : List UInt8) = enc (barR n o c)) := by show _ = _; rw [bar_out hin]; rfl
    by_cases h1 : 0 < c
    · have h2 : 200 < c := by omega
      go_enter Tryd.func11, Tryd.ntmps11
      go_wp2_with fail
      go_loop [7, 8] (fun vs vi => vs = .string ⟨#[]⟩ ∧ vi = .int .i64 0) (fun _ vi => 0)
      case atStart => exact ⟨rfl, rfl⟩
      case round =>
        obtain ⟨rfl, rfl⟩ := hrel
        go_wp2_with fail
        go_ret
        exact ⟨⟨#[]⟩, rfl, HE, rfl⟩
    · go_enter Tryd.func11, Tryd.ntmps11
      go_wp2_with fail
      go_loop [7, 8] (fun vs vi => vs = .string ⟨#[]⟩ ∧ vi = .int .i64 0) (fun _ vi => 0)
      case atStart => exact ⟨rfl, rfl⟩
      case round =>
        obtain ⟨rfl, rfl⟩ := hrel
        go_wp2_with fail
        go_ret
        exact ⟨⟨#[]⟩, rfl, HE, rfl⟩
set_option maxHeartbeats 4000000 in
set_option maxRecDepth 100000 in
theorem rtcols_any (s : ByteArray) (hs : s.size ≤ 1000000) (w : World) :
    Calls Tryd.prog 15 #[.string s] w fun e w' => e = .returned (.int .i64 (colsR (runes s.data.toList))) ∧ Below w.heap.size w w' := by
  obtain ⟨cap, W, hcv, hcap, hb, hz, hcell, _, _⟩ := conv_runes s hs w
  have hlen := runes_length_le s.data.toList.length s.data.toList (Nat.le_refl _)
  rw [← Lib.size_eq] at hlen
  obtain ⟨rs, hrs⟩ : ∃ rs, Hid (runes s.data.toList = rs) := ⟨_, rfl⟩
  rw [hrs.out] at hcv hcap hcell hlen ⊢
  obtain ⟨n, HN⟩ : ∃ n, Hid (rs.length = n) := ⟨_, rfl⟩
  rw [HN.out] at hcv hcap hcell hlen
  have hn : n ≤ 1000000 := by omega
  have HB := Lib.hid hb
  have HC := Lib.hid hcell
  clear hrs hb hcell hz hlen hs
  go_enter Tryd.func15, Tryd.ntmps15
  go_wp2_with fail
  clear hcv
  go_loop [3, 5] (fun vn vi => ∃ (k : Nat) (x : Int), vn = .int .i64 x ∧ vi = .int .i64 k ∧ k ≤ n ∧ 0 ≤ x ∧ x ≤ 2 * k ∧ Hid (x = colsR (rs.take k))) (fun _ vi => n - (intOf vi).toNat)
  case atStart => exact ⟨0, 0, rfl, rfl, by omega, by omega, by omega, Lib.hid (by simp [colsR_nil])⟩
  case round =>
    obtain ⟨k, x, rfl, rfl, hk, hx0, hx1, hx⟩ := hrel
    by_cases hkn : k < n
    · have hck := HC.out k hkn
      obtain ⟨r, hr⟩ : ∃ r, r = rs.getD k 0 := ⟨_, rfl⟩
      have hst := rcols_take rs k (by rw [HN.out]; exact hkn)
      rw [← hr, ← hx.out] at hst
      rw [← hr] at hck
      clear hr
      cases hw : wideB r with
      | true =>
        have HW := Lib.hid (refWide_any r W)
        rw [hw] at HW
        have HS : Hid (x + 1 + 1 = colsR (rs.take (k + 1))) := by show _ = _; rw [hst]; unfold colsI; rw [hw]; simp; omega
        clear hst hw
        go_wp2_with fail
        refine HW.out.mono ?_
        rintro e W1 ⟨rfl, rfl⟩
        go_wp2_with fail
        go_round
        case rel => exact ⟨k + 1, x + 1 + 1, by go_num, by go_num, by omega, by omega, by omega, HS⟩
        case measure => simp [intOf]; omega
      | false =>
        have HW := Lib.hid (refWide_any r W)
        rw [hw] at HW
        have HS : Hid (x + 1 = colsR (rs.take (k + 1))) := by show _ = _; rw [hst]; unfold colsI; rw [hw]; simp
        clear hst hw
        go_wp2_with fail
        refine HW.out.mono ?_
        rintro e W1 ⟨rfl, rfl⟩
        go_wp2_with fail
        go_round
        case rel => exact ⟨k + 1, x + 1, by go_num, by go_num, by omega, by omega, by omega, HS⟩
        case measure => simp [intOf]; omega
    · have HE : Hid (x = colsR rs) := by show _ = _; rw [hx.out, List.take_of_length_le (by rw [HN.out]; omega)]
      go_wp2_with fail
      go_ret
      exact ⟨ret_i HE.out, HB.out⟩
theorem rtfine_any (n : Int) (w : World) : Calls Tryd.prog 27 #[.int .i64 n] w fun e w' => e = .returned (.bool (decide (fineT n))) ∧ w = w' := by
  by_cases h1 : 0 ≤ n <;> by_cases h2 : n ≤ 1073741824
  all_goals
    have hw : decide (fineT n) = decide (0 ≤ n ∧ n ≤ 1073741824) := rfl
    simp only [h1, h2, and_self, and_false, false_and, decide_true, decide_false] at hw
    rw [hw]; clear hw
    go_enter Tryd.func27, Tryd.ntmps27
    go_wp2
    go_ret
    exact ⟨rfl, rfl⟩
set_option maxHeartbeats 4000000 in
theorem rtright_any (s : ByteArray) (k : Nat) (hs : s.size ≤ 1000000) (hk : k ≤ 1000) (w : World) :
    Calls Tryd.prog 29 #[.string s, .int .i64 k] w fun e w' => ∃ S : ByteArray, e = .returned (.string S) ∧ Hid (S.data.toList = List.replicate (k - s.size) 32 ++ s.data.toList) ∧ w = w' := by
  go_enter Tryd.func29, Tryd.ntmps29
  go_wp2_with fail
  go_loop [0] (fun vs => ∃ (i : Nat) (S : ByteArray), vs = .string S ∧ S.size ≤ 1001000 ∧ i ≤ k - s.size ∧ Hid (S.size = s.size + i) ∧ Hid (S.data.toList = List.replicate i 32 ++ s.data.toList)) (fun vs => match vs with | .string S => k - S.size | _ => 0)
  case atStart => exact ⟨0, s, rfl, by omega, Nat.zero_le _, rfl, rfl⟩
  case round =>
    obtain ⟨i, S, rfl, hsz, hi, h1, h2⟩ := hrel
    obtain ⟨z, hz⟩ : ∃ z, S.size = z := ⟨_, rfl⟩
    have hz1 := h1.out
    rw [hz] at hz1 hsz
    by_cases hlt : z < k
    · have z1 : (z : Int) < (k : Int) := by omega
      have HX : Hid (((⟨#[32]⟩ : ByteArray) ++ S).size = z + 1) := by show _ = _; rw [Lib.size_eq, ba_app, List.length_append, ← Lib.size_eq S, hz]; simp; omega
      go_wp2_with (simp only [hz])
      go_round
      case rel => exact ⟨i + 1, _, rfl, by rw [HX.out]; omega, by omega, by show _ = _; rw [HX.out]; omega, by show _ = _; rw [ba_app, h2.out, List.replicate_succ]; rfl⟩
      case measure => show k - _ < k - _; rw [HX.out, hz]; omega
    · have z1 : (k : Int) ≤ (z : Int) := by omega
      have e : i = k - s.size := by omega
      subst e
      go_wp2_with (simp only [hz])
      go_ret
      exact ⟨S, rfl, h2, rfl⟩
/-- What is gathered of a number's digits: s, where m is left of n. -/
def NumJ (n m : Int) (S : ByteArray) : Prop := (m = n ∧ S.data.toList = []) ∨ (S.data.toList ≠ [] ∧ enc (digR n) = (if m = 0 then [] else enc (digR m)) ++ S.data.toList)
theorem dig_bytes {d : Int} (h0 : 0 ≤ d) (h1 : d ≤ 9) : enc [48 + d] = [(48 + d).toNat.toUInt8] := by
  rw [enc_one]
  exact encodeRune_one (by omega) (by omega)
theorem num_step {n m : Int} {S : ByteArray} {b : List UInt8} (hm0 : 0 ≤ m) (hm1 : m ≤ 9223372036854775807) (h : NumJ n m S) (hgo : 0 < m ∨ S.data.toList = []) (hb : b = enc [48 + m % 10]) : enc (digR n) = (if m / 10 = 0 then [] else enc (digR (m / 10))) ++ (b ++ S.data.toList) := by
  have h10 : enc (digR m) = (if m / 10 = 0 then [] else enc (digR (m / 10))) ++ b := by
    by_cases hlt : m < 10
    · rw [if_pos (by omega), dig_small hm0 hlt, hb, show m % 10 = m by omega]; rfl
    · rw [if_neg (by omega), dig_step (by omega) hm1, enc_append, hb]
  rcases h with ⟨rfl, hS⟩ | ⟨hS, he⟩
  · rw [h10, hS, List.append_nil]
  · have hmp : ¬ m = 0 := by
      rcases hgo with h1 | h1
      · omega
      · exact absurd h1 hS
    rw [he, if_neg hmp, h10, List.append_assoc]
theorem strOf_one {d : Int} (h0 : 0 ≤ d) (h1 : d ≤ 9) : (strOf [(48 + d).toNat]).data.toList = enc [48 + d] := by
  rw [dig_bytes h0 h1]
  simp [strOf]
theorem ba_empty {S : ByteArray} (h : S.data.toList = []) : S = ⟨#[]⟩ := ba_ext h
theorem ba_size (S : ByteArray) : S.size = S.data.toList.length := Lib.size_eq S
theorem dig_short {n : Int} (h1 : n ≤ 1073741824) : (enc (digR n)).length ≤ 10 := by
  have hl := dig_len (n := n) 10 (by omega) (by decide)
  have : ∀ l : List Int, (∀ r ∈ l, 48 ≤ r ∧ r ≤ 57) → (enc l).length = l.length := fun l => by
    induction l with
    | nil => intro _; rfl
    | cons r l ih =>
      intro h
      have hr := h r List.mem_cons_self
      rw [enc_cons, List.length_append, ih fun q hq => h q (List.mem_cons_of_mem _ hq), encodeRune_one (by omega) (by omega)]
      simp
      omega
  rw [this _ fun r h => dig_mem h]
  exact hl
theorem num_size {n m : Int} {S : ByteArray} (hn : n ≤ 1073741824) (h : NumJ n m S) : S.size ≤ 10 := by
  rw [ba_size]
  rcases h with ⟨_, h⟩ | ⟨_, h⟩
  · rw [h]; decide
  · have h1 := dig_short hn
    rw [h, List.length_append] at h1
    omega
set_option maxHeartbeats 8000000 in
set_option maxRecDepth 100000 in
theorem rtnumber_any (n : Int) (hn0 : 0 ≤ n) (hn1 : n ≤ 1073741824) (w : World) :
    Calls Tryd.prog 30 #[.int .i64 n] w fun e w' => ∃ S : ByteArray, e = .returned (.string S) ∧ Hid (S.data.toList = enc (digR n)) ∧ Below w.heap.size w w' := by
  go_enter Tryd.func30, Tryd.ntmps30
  go_wp2_with fail
  go_loopw [0, 3] (fun t0 t3 wr => ∃ (m : Int) (S : ByteArray), t0 = .int .i64 m ∧ t3 = .string S ∧ 0 ≤ m ∧ m ≤ n ∧ Hid (NumJ n m S) ∧ Hid (Below w.heap.size w wr)) (fun t0 t3 _ => (intOf t0).toNat + (match t3 with | .string S => if S.size = 0 then 1 else 0 | _ => 0))
  case atStart => exact ⟨n, ⟨#[]⟩, rfl, rfl, hn0, Int.le_refl _, Or.inl ⟨rfl, rfl⟩, Below.refl _ _⟩
  case round =>
    obtain ⟨m, S, rfl, rfl, hm0, hm1, hJ, hB⟩ := hrel
    by_cases hgo : 0 < m ∨ S.data.toList = []
    · have HS := num_step (b := (strOf [(48 + m % 10).toNat]).data.toList) hm0 (by omega) hJ.out hgo (strOf_one (by omega) (by omega))
      have HS2 := Lib.hid HS
      have HNE : Hid ((strOf [(48 + m % 10).toNat] ++ S).data.toList ≠ []) := by show _ ≠ _; rw [ba_app, strOf_one (by omega) (by omega), dig_bytes (by omega) (by omega)]; simp
      obtain ⟨d, hd⟩ : ∃ d, m % 10 = d := ⟨_, rfl⟩
      obtain ⟨k, hk⟩ : ∃ k, m / 10 = k := ⟨_, rfl⟩
      rw [hd] at HS2 HNE
      rw [hk] at HS2
      have d0 : 0 ≤ d := by omega
      have d1 : d ≤ 9 := by omega
      have hsz : S.size ≤ 10 := num_size (by omega) hJ.out
      have hsz1 : (strOf [(48 + d).toNat]).size = 1 := by rw [ba_size, strOf_one d0 d1, dig_bytes d0 d1]; rfl
      have HCV := Lib.hid (conv_bytes (bytes_new1 wr (48 + d) (48 + d).toNat (by omega) (by omega)) 1)
      have hcv := HCV.out
      have HMS : Hid (k.toNat + (if (strOf [(48 + d).toNat] ++ S).size = 0 then 1 else 0) < m.toNat + (if S.size = 0 then 1 else 0)) := by
        show _ < _
        rw [if_neg (by rw [ba_size]; intro e; exact HNE.out (List.eq_nil_of_length_eq_zero e))]
        rcases hgo with h1 | h1
        · omega
        · rw [if_pos (by rw [ba_size, h1]; rfl)]
          omega
      have HG : Hid (0 < m ∨ S.data.toList = []) := hgo
      clear HS hgo
      have HB2 : Hid (Below w.heap.size w (wr.alloc (.cells #[.int .u8 (48 + d)] 5))) := hB.out.alloc hB.out.size _
      have k0 : 0 ≤ k := by omega
      have k1 : k ≤ n := by omega
      have HJ2 : Hid (NumJ n k (strOf [(48 + d).toNat] ++ S)) := Or.inr ⟨HNE.out, by rw [ba_app]; exact HS2.out⟩
      by_cases hm : 0 < m
      · go_wp2_with (simp only [hd, hk])
        go_roundw
        case rel => exact ⟨k, _, by go_num, rfl, k0, k1, HJ2, HB2⟩
        case measure => exact HMS.out
      · have e : S = ⟨#[]⟩ := ba_empty (by rcases HG.out with h | h; exact absurd h hm; exact h)
        subst e
        go_wp2_with (simp only [hd, hk])
        go_roundw
        case rel => exact ⟨k, _, by go_num, rfl, k0, k1, HJ2, HB2⟩
        case measure => exact HMS.out
    · have e : m = 0 := by
        by_cases h : 0 < m
        · exact absurd (Or.inl h) hgo
        · omega
      have hne : S.data.toList ≠ [] := fun h => hgo (Or.inr h)
      have HE : Hid (S.data.toList = enc (digR n)) := by
        show _ = _
        rcases hJ.out with ⟨_, h⟩ | ⟨_, h⟩
        · exact absurd h hne
        · rw [h, if_pos e]; rfl
      have hse : S.toList.isEmpty = false := by
        rw [← decide_eq_emptyBytes]
        exact decide_eq_false fun h => hne (by rw [h]; rfl)
      subst e
      clear hgo hne
      go_wp2_with fail
      go_ret
      exact ⟨S, rfl, HE, hB.out⟩
theorem enc_low_len {l : List Int} (h : Low l) : (enc l).length ≤ 3 * l.length := by
  induction l with
  | nil => exact Nat.le_refl _
  | cons r l ih =>
    have h1 := ih fun q hq => h q (List.mem_cons_of_mem _ hq)
    obtain ⟨hr0, hr1⟩ := h r List.mem_cons_self
    rw [enc_cons, List.length_append, List.length_cons]
    have h2 : (Lib.encodeRune r).length ≤ 3 := by
      by_cases h3 : r ≤ 127
      · rw [encodeRune_one hr0 h3]; simp
      · by_cases h4 : r ≤ 2047
        · rw [encodeRune_two (by omega) h4]; simp
        · rw [encodeRune_three (by omega) hr1]; simp
    omega
theorem enc_right {X : List UInt8} {l : List Int} (k : Nat) (h : X = enc l) (hl : (enc l).length = l.length) : List.replicate (k - X.length) 32 ++ X = enc (rightR l k) := by
  subst h
  unfold rightR
  rw [enc_append, hl]
  congr 1
  have : ∀ n : Nat, List.replicate n (32 : UInt8) = enc (List.replicate n 32) := fun n => by
    induction n with
    | zero => rfl
    | succ n ih => rw [List.replicate_succ, List.replicate_succ, enc_cons, ih]; rfl
  exact this _
theorem enc_dig_len (n : Int) : (enc (digR n)).length = (digR n).length := by
  have : ∀ l : List Int, (∀ r ∈ l, 48 ≤ r ∧ r ≤ 57) → (enc l).length = l.length := fun l => by
    induction l with
    | nil => intro _; rfl
    | cons r l ih =>
      intro h
      have hr := h r List.mem_cons_self
      rw [enc_cons, List.length_append, ih fun q hq => h q (List.mem_cons_of_mem _ hq), encodeRune_one (by omega) (by omega)]
      simp
      omega
  exact this _ fun r h => dig_mem h
theorem clip_len (rs : List Int) (c : Int) : (clipR rs c).length ≤ rs.length := by
  obtain ⟨q, hq⟩ := clipR_is rs c
  have := congrArg List.length hq
  rw [List.length_append] at this
  omega
theorem lineL_no {l : List UInt8} {d c m cols : Int} (h : okT l d c m cols = false) : ([] : List UInt8) = lineL l d c m cols := by unfold lineL; rw [h]; rfl
theorem lineL_yes {l : List UInt8} {d c m cols : Int} (h : okT l d c m cols = true) : lineL l d c m cols = enc (lineR (runes l) d c m cols) := by unfold lineL; rw [if_pos h]
set_option maxHeartbeats 16000000 in
set_option maxRecDepth 100000 in
theorem rtline_any (s : ByteArray) (d c m k : Int) (hs : s.size ≤ 1000000) (w : World) :
    Calls Tryd.prog 13 #[.string s, .int .i64 d, .int .i64 c, .int .i64 m, .int .i64 k] w fun e w' => ∃ S : ByteArray, e = .returned (.string S) ∧ Hid (S.data.toList = lineL s.data.toList d c m k) ∧ Below w.heap.size w w' := by
  by_cases hmay : mayL s.data.toList = true
  rotate_left
  · have HE : Hid (([] : List UInt8) = lineL s.data.toList d c m k) := lineL_no (by unfold okT; rw [show mayL s.data.toList = false by simpa using hmay]; rfl)
    go_enter Tryd.func13, Tryd.ntmps13
    go_wp2_with fail
    refine (refMay_at s false (by simpa using hmay) hs _).mono ?_
    rintro e W1 ⟨rfl, hb1⟩
    go_wp2_with fail
    go_ret
    exact ⟨⟨#[]⟩, rfl, HE, hb1⟩
  by_cases hd : fineT d
  rotate_left
  · have HE : Hid (([] : List UInt8) = lineL s.data.toList d c m k) := lineL_no (by unfold okT; rw [hmay, Bool.true_and]; exact decide_eq_false fun h => hd h.1)
    have CFd : Hid (∀ W, Calls Tryd.prog 27 #[.int .i64 d] W fun e w' => e = .returned (.bool false) ∧ W = w') := fun W => by have := rtfine_any d W; rw [decide_eq_false hd] at this; exact this
    go_enter Tryd.func13, Tryd.ntmps13
    go_wp2_with fail
    refine (refMay_at s true hmay hs _).mono ?_
    rintro e W1 ⟨rfl, hb1⟩
    go_wp2_with fail
    refine (CFd.out _).mono ?_
    rintro e w' ⟨rfl, rfl⟩
    go_wp2_with fail
    go_ret
    exact ⟨⟨#[]⟩, rfl, HE, hb1⟩
  by_cases hc : fineT c
  rotate_left
  · have HE : Hid (([] : List UInt8) = lineL s.data.toList d c m k) := lineL_no (by unfold okT; rw [hmay, Bool.true_and]; exact decide_eq_false fun h => hc h.2.1)
    have CFd : Hid (∀ W, Calls Tryd.prog 27 #[.int .i64 d] W fun e w' => e = .returned (.bool true) ∧ W = w') := fun W => by have := rtfine_any d W; rw [decide_eq_true hd] at this; exact this
    have CFc : Hid (∀ W, Calls Tryd.prog 27 #[.int .i64 c] W fun e w' => e = .returned (.bool false) ∧ W = w') := fun W => by have := rtfine_any c W; rw [decide_eq_false hc] at this; exact this
    go_enter Tryd.func13, Tryd.ntmps13
    go_wp2_with fail
    refine (refMay_at s true hmay hs _).mono ?_
    rintro e W1 ⟨rfl, hb1⟩
    go_wp2_with fail
    refine (CFd.out _).mono ?_
    rintro e w' ⟨rfl, rfl⟩
    go_wp2_with fail
    refine (CFc.out _).mono ?_
    rintro e w' ⟨rfl, rfl⟩
    go_wp2_with fail
    go_ret
    exact ⟨⟨#[]⟩, rfl, HE, hb1⟩
  by_cases hm : fineT m
  rotate_left
  · have HE : Hid (([] : List UInt8) = lineL s.data.toList d c m k) := lineL_no (by unfold okT; rw [hmay, Bool.true_and]; exact decide_eq_false fun h => hm h.2.2.1)
    have CFd : Hid (∀ W, Calls Tryd.prog 27 #[.int .i64 d] W fun e w' => e = .returned (.bool true) ∧ W = w') := fun W => by have := rtfine_any d W; rw [decide_eq_true hd] at this; exact this
    have CFc : Hid (∀ W, Calls Tryd.prog 27 #[.int .i64 c] W fun e w' => e = .returned (.bool true) ∧ W = w') := fun W => by have := rtfine_any c W; rw [decide_eq_true hc] at this; exact this
    have CFm : Hid (∀ W, Calls Tryd.prog 27 #[.int .i64 m] W fun e w' => e = .returned (.bool false) ∧ W = w') := fun W => by have := rtfine_any m W; rw [decide_eq_false hm] at this; exact this
    go_enter Tryd.func13, Tryd.ntmps13
    go_wp2_with fail
    refine (refMay_at s true hmay hs _).mono ?_
    rintro e W1 ⟨rfl, hb1⟩
    go_wp2_with fail
    refine (CFd.out _).mono ?_
    rintro e w' ⟨rfl, rfl⟩
    go_wp2_with fail
    refine (CFc.out _).mono ?_
    rintro e w' ⟨rfl, rfl⟩
    go_wp2_with fail
    refine (CFm.out _).mono ?_
    rintro e w' ⟨rfl, rfl⟩
    go_wp2_with fail
    go_ret
    exact ⟨⟨#[]⟩, rfl, HE, hb1⟩
  by_cases hk0 : 30 ≤ k
  rotate_left
  · have HE : Hid (([] : List UInt8) = lineL s.data.toList d c m k) := lineL_no (by unfold okT; rw [hmay, Bool.true_and]; exact decide_eq_false fun h => hk0 h.2.2.2.1)
    have CFd : Hid (∀ W, Calls Tryd.prog 27 #[.int .i64 d] W fun e w' => e = .returned (.bool true) ∧ W = w') := fun W => by have := rtfine_any d W; rw [decide_eq_true hd] at this; exact this
    have CFc : Hid (∀ W, Calls Tryd.prog 27 #[.int .i64 c] W fun e w' => e = .returned (.bool true) ∧ W = w') := fun W => by have := rtfine_any c W; rw [decide_eq_true hc] at this; exact this
    have CFm : Hid (∀ W, Calls Tryd.prog 27 #[.int .i64 m] W fun e w' => e = .returned (.bool true) ∧ W = w') := fun W => by have := rtfine_any m W; rw [decide_eq_true hm] at this; exact this
    have hlt : k < 30 := by omega
    go_enter Tryd.func13, Tryd.ntmps13
    go_wp2_with fail
    refine (refMay_at s true hmay hs _).mono ?_
    rintro e W1 ⟨rfl, hb1⟩
    go_wp2_with fail
    refine (CFd.out _).mono ?_
    rintro e w' ⟨rfl, rfl⟩
    go_wp2_with fail
    refine (CFc.out _).mono ?_
    rintro e w' ⟨rfl, rfl⟩
    go_wp2_with fail
    refine (CFm.out _).mono ?_
    rintro e w' ⟨rfl, rfl⟩
    go_wp2_with fail
    go_ret
    exact ⟨⟨#[]⟩, rfl, HE, hb1⟩
  by_cases hk1 : k ≤ 200
  rotate_left
  · have HE : Hid (([] : List UInt8) = lineL s.data.toList d c m k) := lineL_no (by unfold okT; rw [hmay, Bool.true_and]; exact decide_eq_false fun h => hk1 h.2.2.2.2)
    have CFd : Hid (∀ W, Calls Tryd.prog 27 #[.int .i64 d] W fun e w' => e = .returned (.bool true) ∧ W = w') := fun W => by have := rtfine_any d W; rw [decide_eq_true hd] at this; exact this
    have CFc : Hid (∀ W, Calls Tryd.prog 27 #[.int .i64 c] W fun e w' => e = .returned (.bool true) ∧ W = w') := fun W => by have := rtfine_any c W; rw [decide_eq_true hc] at this; exact this
    have CFm : Hid (∀ W, Calls Tryd.prog 27 #[.int .i64 m] W fun e w' => e = .returned (.bool true) ∧ W = w') := fun W => by have := rtfine_any m W; rw [decide_eq_true hm] at this; exact this
    have hlt : 200 < k := by omega
    go_enter Tryd.func13, Tryd.ntmps13
    go_wp2_with fail
    refine (refMay_at s true hmay hs _).mono ?_
    rintro e W1 ⟨rfl, hb1⟩
    go_wp2_with fail
    refine (CFd.out _).mono ?_
    rintro e w' ⟨rfl, rfl⟩
    go_wp2_with fail
    refine (CFc.out _).mono ?_
    rintro e w' ⟨rfl, rfl⟩
    go_wp2_with fail
    refine (CFm.out _).mono ?_
    rintro e w' ⟨rfl, rfl⟩
    go_wp2_with fail
    go_ret
    exact ⟨⟨#[]⟩, rfl, HE, hb1⟩
  have hok : okT s.data.toList d c m k = true := by unfold okT; rw [hmay, Bool.true_and]; exact decide_eq_true ⟨hd, hc, hm, hk0, hk1⟩
  have HY := Lib.hid (lineL_yes hok)
  have CFd : Hid (∀ W, Calls Tryd.prog 27 #[.int .i64 d] W fun e w' => e = .returned (.bool true) ∧ W = w') := fun W => by have := rtfine_any d W; rw [decide_eq_true hd] at this; exact this
  have CFc : Hid (∀ W, Calls Tryd.prog 27 #[.int .i64 c] W fun e w' => e = .returned (.bool true) ∧ W = w') := fun W => by have := rtfine_any c W; rw [decide_eq_true hc] at this; exact this
  have CFm : Hid (∀ W, Calls Tryd.prog 27 #[.int .i64 m] W fun e w' => e = .returned (.bool true) ∧ W = w') := fun W => by have := rtfine_any m W; rw [decide_eq_true hm] at this; exact this
  have HCL := Lib.hid (clipL_may hmay 12)
  have HLOW : Hid (Low (runes s.data.toList)) := (may_good hmay).low
  have HN12 : Hid ((runes s.data.toList).length ≤ 12) := (may_len hmay).2
  have hmay2 : Hid (mayL s.data.toList = true) := hmay
  obtain ⟨rs, HRS⟩ : ∃ rs, Hid (runes s.data.toList = rs) := ⟨_, rfl⟩
  rw [HRS.out] at HCL HLOW HN12 HY
  rw [HY.out]
  obtain ⟨hd0, hd1⟩ := hd
  obtain ⟨hc0, hc1⟩ := hc
  obtain ⟨hm0, hm1⟩ := hm
  go_enter Tryd.func13, Tryd.ntmps13
  go_wp2_with fail
  refine (refMay_at s true hmay hs _).mono ?_
  rintro e W1 ⟨rfl, hb1⟩
  go_wp2_with fail
  refine (CFd.out _).mono ?_
  rintro e w' ⟨rfl, rfl⟩
  go_wp2_with fail
  refine (CFc.out _).mono ?_
  rintro e w' ⟨rfl, rfl⟩
  go_wp2_with fail
  refine (CFm.out _).mono ?_
  rintro e w' ⟨rfl, rfl⟩
  go_wp2_with fail
  refine (refClip_any s 12 hs _).mono ?_
  rintro e W2 ⟨rfl, hb2⟩
  rw [HCL.out]
  obtain ⟨S0, HS0⟩ : ∃ S0 : ByteArray, Hid ((⟨(enc (clipR rs 12)).toArray⟩ : ByteArray) = S0) := ⟨_, rfl⟩
  have HT0 : Hid (S0.data.toList = enc (clipR rs 12)) := by show _ = _; rw [← HS0.out]
  rw [HS0.out]
  have S2 := Lib.hid (bch hb1 hb2)
  have HK12 := Lib.hid (clipR_fits rs 12 (by decide))
  have HK0 := Lib.hid (colsR_bd (clipR rs 12)).1
  clear hmay hb1 hb2 HS0 hok
  go_wp2_with fail
  go_loopw [11] (fun t11 wr => ∃ (j : Nat) (S : ByteArray), t11 = .string S ∧ S.size ≤ 48 ∧ Hid (colsR (clipR rs 12) + j ≤ 12) ∧ Hid (S.data.toList = enc (clipR rs 12 ++ List.replicate j 32)) ∧ Hid (Below w.heap.size w wr)) (fun t11 _ => match t11 with | .string S => 48 - S.size | _ => 0)
  case atStart => exact ⟨0, S0, rfl, by rw [ba_size, HT0.out]; have h1 := enc_low_len (low_clip HLOW.out 12); have h2 := clip_len rs 12; have h3 := HN12.out; omega, by have := HK12.out; show _ ≤ _; omega, by show _ = _; rw [HT0.out, List.replicate_zero, List.append_nil], S2⟩
  clear S2 HT0
  case round =>
    obtain ⟨j, S, rfl, hsz, hj, hS, hB⟩ := hrel
    have HLW : Low (clipR rs 12 ++ List.replicate j 32) := low_append (low_clip HLOW.out 12) (low_rep _ _ (by decide))
    have HRN : runes S.data.toList = clipR rs 12 ++ List.replicate j 32 := by rw [hS.out]; exact runes_enc _ HLW
    have HCS : colsR (runes S.data.toList) = colsR (clipR rs 12) + j := by
      rw [HRN, colsR_append, cols_narrow (rs := List.replicate j 32) (fun r h => by rw [List.eq_of_mem_replicate h]; decide), List.length_replicate]
    obtain ⟨x, hx⟩ : ∃ x : Int, colsR (clipR rs 12) + j = x := ⟨_, rfl⟩
    have HC := Lib.hid (rtcols_any S (by omega) wr)
    rw [HCS, hx] at HC
    have HX := Lib.hid hx
    have HJ := hj.out
    rw [hx] at HJ
    clear HLW HRN HCS hx
    by_cases hlt : x < 12
    · have HJ2 : Hid (colsR (clipR rs 12) + ((j + 1 : Nat) : Int) ≤ 12) := by show _ ≤ _; have := HX.out; omega
      have HT : Hid ((S ++ (⟨#[32]⟩ : ByteArray)).data.toList = enc (clipR rs 12 ++ List.replicate (j + 1) 32)) := by
        show _ = _
        rw [ba_app, hS.out, List.replicate_succ', ← List.append_assoc, enc_append (clipR rs 12 ++ List.replicate j 32) [32]]; rfl
      have HZ : Hid ((S ++ (⟨#[32]⟩ : ByteArray)).size = S.size + 1 ∧ S.size + 1 ≤ 48) := by
        have h0 : (S ++ (⟨#[32]⟩ : ByteArray)).size = S.size + 1 := by rw [ByteArray.size_append]; rfl
        refine ⟨h0, ?_⟩
        rw [← h0, ba_size, HT.out]
        have h1 := enc_low_len (low_clip HLOW.out 12)
        rw [enc_append, List.length_append]
        have h2 : (enc (List.replicate (j + 1) 32)).length = j + 1 := by
          have : ∀ n : Nat, (enc (List.replicate n 32)).length = n := fun n => by
            induction n with
            | zero => rfl
            | succ n ih => rw [List.replicate_succ, enc_cons, List.length_append, ih, show (Lib.encodeRune 32).length = 1 by decide +kernel]; omega
          exact this _
        have h3 := clip_len rs 12
        have h4 := HN12.out
        have h5 := HK0.out
        have h6 := HJ2.out
        omega
      go_wp2_with fail
      refine HC.out.mono ?_
      rintro e W3 ⟨rfl, hb3⟩
      have HB3 := Lib.hid (bch hB.out hb3)
      go_wp2_with fail
      go_roundw
      case rel => exact ⟨j + 1, _, rfl, by rw [HZ.out.1]; exact HZ.out.2, HJ2, HT, HB3⟩
      case measure => show 48 - _ < 48 - _; have := HZ.out; omega
    · have HNM : Hid (S.data.toList = enc (nameR rs)) := by
        show _ = _
        rw [hS.out]
        unfold nameR
        rw [show (12 - colsR (clipR rs 12)).toNat = j by have := HX.out; omega]
      clear hS hj HX
      go_wp2_with fail
      refine HC.out.mono ?_
      rintro e W3 ⟨rfl, hb3⟩
      have HB3 := Lib.hid (bch hB.out hb3)
      clear HC hB hb3
      go_wp2_with fail
      refine (rtbar_any d m (k - 30) (by omega) (by omega) _).mono ?_
      rintro e w4 ⟨B, rfl, hBL, rfl⟩
      have hbz : B.size ≤ 600 := by
        rw [ba_size, hBL.out]
        have h1 := enc_low_len (bar_low d m (k - 30))
        have h2 := bar_len (n := d) (o := m) (c := k - 30) (by omega) (by omega)
        omega
      go_wp2_with fail
      refine (rtpct_any d m (by omega) (by omega) _).mono ?_
      rintro e w5 ⟨rfl, rfl⟩
      have hpb := pct_bd d m
      obtain ⟨P, HP⟩ : ∃ P, Hid (pctT d m = P) := ⟨_, rfl⟩
      rw [HP.out] at hpb
      rw [HP.out]
      obtain ⟨hp0, hp1⟩ := hpb
      go_wp2_with fail
      refine (rtnumber_any P hp0 (by omega) _).mono ?_
      rintro e W6 ⟨N1, rfl, hN1, hb6⟩
      have HB6 := Lib.hid (bch HB3.out hb6)
      have hn1 : N1.size ≤ 10 := by rw [ba_size, hN1.out]; exact dig_short (by omega)
      clear HB3 hb6
      go_wp2_with fail
      refine (rtright_any N1 3 (by omega) (by decide) _).mono ?_
      rintro e w7 ⟨R1, rfl, hR1, rfl⟩
      have hr1 : R1.size ≤ 20 := by rw [ba_size, hR1.out, List.length_append, List.length_replicate, ← ba_size N1]; omega
      have HR1 : Hid (R1.data.toList = enc (rightR (digR P) 3)) := by show _ = _; rw [hR1.out, ba_size N1]; exact enc_right 3 hN1.out (enc_dig_len P)
      clear hR1 hN1
      go_wp2_with fail
      refine (rtnumber_any c hc0 hc1 _).mono ?_
      rintro e W8 ⟨N2, rfl, hN2, hb8⟩
      have HB8 := Lib.hid (bch HB6.out hb8)
      have hn2 : N2.size ≤ 10 := by rw [ba_size, hN2.out]; exact dig_short hc1
      clear HB6 hb8
      go_wp2_with fail
      refine (rtright_any N2 10 (by omega) (by decide) _).mono ?_
      rintro e w9 ⟨R2, rfl, hR2, rfl⟩
      have hr2 : R2.size ≤ 20 := by rw [ba_size, hR2.out, List.length_append, List.length_replicate, ← ba_size N2]; omega
      have HR2 : Hid (R2.data.toList = enc (rightR (digR c) 10)) := by show _ = _; rw [hR2.out, ba_size N2]; exact enc_right 10 hN2.out (enc_dig_len c)
      clear hR2 hN2
      have HALL : Hid ((((((((S ++ (⟨#[32]⟩ : ByteArray)) ++ B) ++ ⟨#[32]⟩) ++ R1) ++ ⟨#[37, 32]⟩) ++ R2) ++ ⟨#[43]⟩ : ByteArray).data.toList = enc (lineR rs d c m k)) := by
        show _ = _
        unfold lineR
        simp only [ba_app, enc_append, HNM.out, hBL.out, HR1.out, HR2.out, HP.out, List.append_assoc]
        rfl
      go_wp2_with fail
      go_ret
      exact ⟨_, rfl, HALL, HB8.out⟩
end Go.Proofs.YtgenkmihbnkakaaDoor
