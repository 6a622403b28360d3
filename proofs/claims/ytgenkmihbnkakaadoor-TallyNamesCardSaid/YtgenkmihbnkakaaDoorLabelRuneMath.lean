/- Plain facts on one rune's text, and on the texts that string(runes) gives. -/
import Derived.Test.YtgenkmihbnkakaaDoorLabelMath
import Derived.Laws.Cover4
set_option linter.unusedVariables false
set_option linter.unusedSimpArgs false
set_option maxRecDepth 20000
namespace Go.Proofs.YtgenkmihbnkakaaDoor
open Go.Lib

def Scalar (r : Int) : Prop := (0 ≤ r ∧ r < 55296) ∨ (57343 < r ∧ r ≤ 1114111)
theorem ofNat_toUInt8 (n : Nat) : UInt8.ofNat n = n.toUInt8 := rfl
theorem utf8_enc (r : Int) (h : Scalar r) : (Utf8.encode r).data.toList = encodeRune r := by
  have hv : Utf8.valid r = true := by
    unfold Utf8.valid
    unfold Scalar at h
    simp only [Bool.or_eq_true, Bool.and_eq_true, decide_eq_true_eq]
    omega
  unfold Scalar at h
  unfold Utf8.encode
  rw [hv]
  simp only [if_true]
  by_cases c1 : r ≤ 127
  · rw [encodeRune_one (by omega) c1, if_pos (by omega)]
  · by_cases c2 : r ≤ 2047
    · rw [encodeRune_two (by omega) c2, if_neg (by omega), if_pos (by omega)]
      have e1 : (192 + r / 64).toNat = 192 + r.toNat / 64 := by omega
      have e2 : (128 + r % 64).toNat = 128 + r.toNat % 64 := by omega
      rw [e1, e2]
    · by_cases c3 : r ≤ 65535
      · have e : encodeRune r = [(224 + r / 4096).toNat.toUInt8, (128 + r / 64 % 64).toNat.toUInt8, (128 + r % 64).toNat.toUInt8] := by simp [encodeRune, encodeRuneZ_three (show (2048 ≤ r ∧ r < 55296) ∨ (57343 < r ∧ r ≤ 65535) by omega)]
        rw [e, if_neg (by omega), if_neg (by omega), if_pos (by omega)]
        have e1 : (224 + r / 4096).toNat = 224 + r.toNat / 4096 := by omega
        have e2 : (128 + r / 64 % 64).toNat = 128 + r.toNat / 64 % 64 := by omega
        have e3 : (128 + r % 64).toNat = 128 + r.toNat % 64 := by omega
        rw [e1, e2, e3]
      · have e : encodeRune r = [(240 + r / 262144).toNat.toUInt8, (128 + r / 4096 % 64).toNat.toUInt8, (128 + r / 64 % 64).toNat.toUInt8, (128 + r % 64).toNat.toUInt8] := by simp [encodeRune, encodeRuneZ_four (show 65536 ≤ r by omega) (by omega)]
        rw [e, if_neg (by omega), if_neg (by omega), if_neg (by omega)]
        have e1 : (240 + r / 262144).toNat = 240 + r.toNat / 262144 := by omega
        have e2 : (128 + r / 4096 % 64).toNat = 128 + r.toNat / 4096 % 64 := by omega
        have e3 : (128 + r / 64 % 64).toNat = 128 + r.toNat / 64 % 64 := by omega
        have e4 : (128 + r % 64).toNat = 128 + r.toNat % 64 := by omega
        rw [e1, e2, e3, e4]
theorem foldl_enc : ∀ (rs : List Int) (s : ByteArray), (∀ r ∈ rs, Scalar r) → (rs.foldl (fun r n => r ++ Utf8.encode n) s).data.toList = s.data.toList ++ enc rs
  | [], s, _ => by simp [enc]
  | r :: rs, s, h => by
    rw [List.foldl_cons, foldl_enc rs _ (fun x hx => h x (by simp [hx])), ByteArray.data_append, Array.toList_append, utf8_enc r (h r (by simp)), enc_cons, List.append_assoc]
theorem runesBytes_enc (rs : List Int) (h : ∀ r ∈ rs, Scalar r) : (runesBytes rs).data.toList = enc rs := by
  unfold runesBytes
  rw [foldl_enc rs _ h]
  rfl
theorem enc_one (r : Int) : enc [r] = encodeRune r := by simp [enc]

/-- A rune by itself is a name, if it is good and no line. -/
theorem may_single (r : Int) (h : Scalar r) : mayL (enc [r]) = (goodB r && decide (r ≠ 45)) := by
  by_cases hlow : r < 55296
  · have h0 : 0 ≤ r := by unfold Scalar at h; omega
    cases hg : goodB r with
    | true =>
      have hG : Good [r] := by unfold Good; simp [hg]
      rw [mayL_enc _ hG]
      unfold mayR
      by_cases k : r = 45
      · subst k
        decide
      · have : (some r != some (45 : Int)) = true := by simpa using k
        simp [hg, this, k]
    | false =>
      unfold mayL
      rw [runes_enc [r] (by intro x hx; simp at hx; omega)]
      simp [hg]
  · have hr : 57343 < r ∧ r ≤ 1114111 := by unfold Scalar at h; omega
    have hg : goodB r = false := by
      rw [Bool.eq_false_iff]
      intro k
      have := good_low k
      omega
    rw [hg, Bool.false_and, Bool.eq_false_iff]
    intro hm
    have hgood := may_good hm
    have he := may_enc hm
    cases hrs : runes (enc [r]) with
    | nil =>
      have := (may_len hm).1
      rw [hrs] at this
      simp at this
    | cons x rs =>
      rw [hrs] at he hgood
      have hx := good_low (List.all_eq_true.1 hgood x (by simp))
      have hf := congrArg (fun l => (l.getD 0 0).toNat) he
      rw [enc_one, enc_cons] at hf
      have h2 : ((encodeRune r).getD 0 0).toNat ≥ 238 := by
        by_cases c3 : r ≤ 65535
        · have e : encodeRune r = [(224 + r / 4096).toNat.toUInt8, (128 + r / 64 % 64).toNat.toUInt8, (128 + r % 64).toNat.toUInt8] := by simp [encodeRune, encodeRuneZ_three (show (2048 ≤ r ∧ r < 55296) ∨ (57343 < r ∧ r ≤ 65535) by omega)]
          rw [e, List.getD_cons_zero, toByteNat _ (by omega) (by omega)]
          omega
        · have e : encodeRune r = [(240 + r / 262144).toNat.toUInt8, (128 + r / 4096 % 64).toNat.toUInt8, (128 + r / 64 % 64).toNat.toUInt8, (128 + r % 64).toNat.toUInt8] := by simp [encodeRune, encodeRuneZ_four (show 65536 ≤ r by omega) (by omega)]
          rw [e, List.getD_cons_zero, toByteNat _ (by omega) (by omega)]
          omega
      have h3 : ((encodeRune x ++ enc rs).getD 0 0).toNat ≤ 233 := by
        by_cases c1 : x ≤ 127
        · rw [encodeRune_one (by omega) c1]
          simp only [List.cons_append, List.nil_append, List.getD_cons_zero]
          rw [toByteNat _ (by omega) (by omega)]
          omega
        · by_cases c2 : x ≤ 2047
          · rw [encodeRune_two (by omega) c2]
            simp only [List.cons_append, List.nil_append, List.getD_cons_zero]
            rw [toByteNat _ (by omega) (by omega)]
            omega
          · rw [encodeRune_three (by omega) (by omega)]
            simp only [List.cons_append, List.nil_append, List.getD_cons_zero]
            rw [toByteNat _ (by omega) (by omega)]
            omega
      have hf' : ((encodeRune x ++ enc rs).getD 0 0).toNat = ((encodeRune r).getD 0 0).toNat := hf
      omega

/-- A wide rune by itself. -/
theorem wide_good (q : Int) (h0 : 19968 ≤ q) (h1 : q ≤ 40959) : goodB q = true := by
  rw [goodB_iff]
  unfold goodP
  omega
theorem wide_single (q : Int) (h0 : 19968 ≤ q) (h1 : q ≤ 40959) : columnsL (enc [q]) = 2 ∧ foldL (enc [q]) = enc [q] ∧ clipL (enc [q]) 1 = [] := by
  have hg := wide_good q h0 h1
  have hm : mayL (enc [q]) = true := by
    rw [may_single q (by unfold Scalar; omega), hg]
    simp
    omega
  have hr : runes (enc [q]) = [q] := runes_enc [q] (by intro x hx; simp at hx; omega)
  have hw : wideB q = true := by rw [wideB_iff]; omega
  have hc : colsI q = 2 := by unfold colsI; rw [hw, if_pos rfl]
  have hs : smallI q = q := by unfold smallI; rw [if_neg (by omega), if_neg (by omega)]
  refine ⟨?_, ?_, ?_⟩
  · rw [columnsL_may hm, hr, colsR_cons, colsR_nil, hc]
    rfl
  · rw [foldL_may hm, hr]
    simp [hs]
  · rw [clipL_may hm, hr, clipR, if_neg (by omega)]
    rfl
end Go.Proofs.YtgenkmihbnkakaaDoor
