/- Plain facts on the runes of bytes: no program stands in it. A text all of whose runes are good is the encoding of its runes, and the runes of an encoding are what was encoded. No conditions. -/
import Derived.Lib.MapLaws
set_option linter.unusedVariables false
set_option linter.unusedSimpArgs false
set_option maxRecDepth 20000
namespace Go.Proofs.YtgenkmihbnkakaaDoor
open Go.Lib

def rsD : Nat → List UInt8 → List Int
  | 0, _ => []
  | f + 1, l => if l = [] then [] else ((decodeL l).1 : Int) :: rsD f (l.drop (decodeL l).2)
def runes (l : List UInt8) : List Int := rsD l.length l
def enc (rs : List Int) : List UInt8 := rs.flatMap encodeRune

theorem rsD_nil : ∀ n, rsD n [] = []
  | 0 => rfl
  | _ + 1 => by simp [rsD]
theorem rsD_fuel : ∀ (n m : Nat) (l : List UInt8), l.length ≤ n → l.length ≤ m → rsD n l = rsD m l
  | 0, m, l, hn, _ => by
    have : l = [] := List.eq_nil_of_length_eq_zero (by omega)
    subst this
    rw [rsD_nil, rsD_nil]
  | n + 1, 0, l, _, hm => by
    have : l = [] := List.eq_nil_of_length_eq_zero (by omega)
    subst this
    rw [rsD_nil, rsD_nil]
  | n + 1, m + 1, l, hn, hm => by
    by_cases hne : l = []
    · subst hne
      rw [rsD_nil, rsD_nil]
    · have hw := decodeL_width l
      have hl : 0 < l.length := List.length_pos_iff.2 hne
      simp only [rsD, if_neg hne]
      rw [rsD_fuel n m _ (by rw [List.length_drop]; omega) (by rw [List.length_drop]; omega)]
theorem runes_nil : runes [] = [] := rfl
theorem runes_cons (l : List UInt8) (hne : l ≠ []) : runes l = ((decodeL l).1 : Int) :: runes (l.drop (decodeL l).2) := by
  have hw := decodeL_width l
  have hl : 0 < l.length := List.length_pos_iff.2 hne
  unfold runes
  obtain ⟨n, hn⟩ : ∃ n, l.length = n + 1 := ⟨l.length - 1, by omega⟩
  rw [hn]
  simp only [rsD, if_neg hne]
  rw [rsD_fuel n _ _ (by rw [List.length_drop]; omega) (Nat.le_refl _)]

theorem enc_nil : enc [] = [] := rfl
theorem enc_cons (r : Int) (rs : List Int) : enc (r :: rs) = encodeRune r ++ enc rs := rfl
theorem enc_append (a b : List Int) : enc (a ++ b) = enc a ++ enc b := by simp [enc]

theorem encodeRune_one {r : Int} (h0 : 0 ≤ r) (h1 : r ≤ 127) : encodeRune r = [r.toNat.toUInt8] := by simp [encodeRune, encodeRuneZ_one h0 h1]
theorem encodeRune_two {r : Int} (h0 : 128 ≤ r) (h1 : r ≤ 2047) : encodeRune r = [(192 + r / 64).toNat.toUInt8, (128 + r % 64).toNat.toUInt8] := by simp [encodeRune, encodeRuneZ_two h0 h1]
theorem encodeRune_three {r : Int} (h0 : 2048 ≤ r) (h1 : r < 55296) : encodeRune r = [(224 + r / 4096).toNat.toUInt8, (128 + r / 64 % 64).toNat.toUInt8, (128 + r % 64).toNat.toUInt8] := by simp [encodeRune, encodeRuneZ_three (Or.inl ⟨h0, h1⟩)]

theorem toByteNat (z : Int) (h0 : 0 ≤ z) (h1 : z < 256) : (z.toNat.toUInt8).toNat = z.toNat := by
  simp
  omega

/-- A rune below the surrogates, encoded, is decoded again. -/
theorem decodeL_enc (r : Int) (h0 : 0 ≤ r) (h1 : r < 55296) (t : List UInt8) : decodeL (encodeRune r ++ t) = (r.toNat, (encodeRune r).length) := by
  rw [decodeL_N]
  by_cases c1 : r ≤ 127
  · rw [encodeRune_one h0 c1]
    simp only [List.cons_append, List.nil_append, List.getD_cons_zero, List.length_singleton]
    rw [toByteNat _ h0 (by omega)]
    unfold decodeN
    rw [if_pos (by omega)]
  · by_cases c2 : r ≤ 2047
    · rw [encodeRune_two (by omega) c2]
      simp only [List.cons_append, List.nil_append, List.getD_cons_zero, List.getD_cons_succ, List.length_cons, List.length_nil]
      rw [toByteNat (192 + r / 64) (by omega) (by omega), toByteNat (128 + r % 64) (by omega) (by omega)]
      unfold decodeN
      rw [if_neg (by omega), if_pos (by omega), if_pos (by omega)]
      apply Prod.ext <;> simp only <;> omega
    · rw [encodeRune_three (by omega) h1]
      simp only [List.cons_append, List.nil_append, List.getD_cons_zero, List.getD_cons_succ, List.length_cons, List.length_nil]
      rw [toByteNat (224 + r / 4096) (by omega) (by omega), toByteNat (128 + r / 64 % 64) (by omega) (by omega), toByteNat (128 + r % 64) (by omega) (by omega)]
      unfold decodeN
      rw [if_neg (by omega), if_neg (by omega), if_pos (by omega), if_pos (by omega)]
      apply Prod.ext <;> simp only <;> omega

theorem encodeRune_ne (r : Int) : encodeRune r ≠ [] := by
  have := encodeRuneZ_length r
  intro h
  have h2 : (encodeRune r).length = 0 := by rw [h]; rfl
  simp [encodeRune] at h2
  simp [h2] at this

def Low (rs : List Int) : Prop := ∀ r ∈ rs, 0 ≤ r ∧ r < 55296

/-- The runes of what was encoded are that. -/
theorem runes_enc_append : ∀ (rs : List Int) (t : List UInt8), Low rs → runes (enc rs ++ t) = rs ++ runes t
  | [], t, _ => rfl
  | r :: rs, t, h => by
    obtain ⟨h0, h1⟩ := h r (by simp)
    have hne : enc (r :: rs) ++ t ≠ [] := by
      rw [enc_cons]
      have := encodeRune_ne r
      simp [this]
    rw [runes_cons _ hne]
    have hd : decodeL (enc (r :: rs) ++ t) = (r.toNat, (encodeRune r).length) := by
      rw [enc_cons, List.append_assoc]
      exact decodeL_enc r h0 h1 _
    rw [hd]
    simp only
    have : (enc (r :: rs) ++ t).drop (encodeRune r).length = enc rs ++ t := by
      rw [enc_cons, List.append_assoc, List.drop_left]
    rw [this, runes_enc_append rs t (fun x hx => h x (by simp [hx]))]
    simp
    omega
theorem runes_enc (rs : List Int) (h : Low rs) : runes (enc rs) = rs := by
  have := runes_enc_append rs [] h
  simpa [runes_nil] using this

/-- Bytes none of whose runes is U+FFFD are the encoding of their runes. -/
theorem enc_runes : ∀ (n : Nat) (l : List UInt8), l.length ≤ n → (∀ r ∈ runes l, r ≠ 65533) → enc (runes l) = l
  | 0, l, hn, _ => by
    have : l = [] := List.eq_nil_of_length_eq_zero (by omega)
    subst this
    rfl
  | n + 1, l, hn, h => by
    by_cases hne : l = []
    · subst hne
      rfl
    · have hw := decodeL_width l
      have hl : 0 < l.length := List.length_pos_iff.2 hne
      rw [runes_cons l hne] at h ⊢
      rw [enc_cons, enc_runes n _ (by rw [List.length_drop]; omega) (fun r hr => h r (by simp [hr]))]
      have hv : ((decodeL l).1 : Int) ≠ 65533 := h _ (by simp)
      rw [encode_decode l hne (fun e => hv (by rw [e.1]; rfl)), List.take_append_drop]
theorem runes_length_le : ∀ (n : Nat) (l : List UInt8), l.length ≤ n → (runes l).length ≤ l.length
  | 0, l, hn => by
    have : l = [] := List.eq_nil_of_length_eq_zero (by omega)
    subst this
    simp [runes_nil]
  | n + 1, l, hn => by
    by_cases hne : l = []
    · subst hne
      simp [runes_nil]
    · have hw := decodeL_width l
      have hl : 0 < l.length := List.length_pos_iff.2 hne
      rw [runes_cons l hne]
      have := runes_length_le n (l.drop (decodeL l).2) (by rw [List.length_drop]; omega)
      rw [List.length_drop] at this
      simp
      omega
end Go.Proofs.YtgenkmihbnkakaaDoor
