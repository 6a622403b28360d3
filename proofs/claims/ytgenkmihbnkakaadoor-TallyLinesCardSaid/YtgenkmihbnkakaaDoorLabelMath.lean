/- Plain facts on names as lists of runes: when a text may be a name, what its small letters are, what a beginning of it is. No program stands in it. -/
import Derived.Test.YtgenkmihbnkakaaDoorLabelRunes
set_option linter.unusedVariables false
set_option linter.unusedSimpArgs false
set_option maxRecDepth 20000
namespace Go.Proofs.YtgenkmihbnkakaaDoor
open Go.Lib

def mayR (rs : List Int) : Bool :=
  decide (1 ≤ rs.length ∧ rs.length ≤ 12) && rs.all goodB && (rs.head? != some 45 && rs.getLast? != some 45)

theorem enc_first (r : Int) (rs : List Int) (h : 0 ≤ r ∧ r < 55296) : ((enc (r :: rs)).getD 0 0 = 45) ↔ r = 45 := by
  rw [enc_cons]
  by_cases c1 : r ≤ 127
  · rw [encodeRune_one h.1 c1]
    simp only [List.cons_append, List.nil_append, List.getD_cons_zero]
    rw [← UInt8.toNat_inj, toByteNat r h.1 (by omega)]
    show r.toNat = 45 ↔ r = 45
    omega
  · by_cases c2 : r ≤ 2047
    · rw [encodeRune_two (by omega) c2]
      simp only [List.cons_append, List.nil_append, List.getD_cons_zero]
      rw [← UInt8.toNat_inj, toByteNat (192 + r / 64) (by omega) (by omega)]
      show (192 + r / 64).toNat = 45 ↔ r = 45
      omega
    · rw [encodeRune_three (by omega) h.2]
      simp only [List.cons_append, List.nil_append, List.getD_cons_zero]
      rw [← UInt8.toNat_inj, toByteNat (224 + r / 4096) (by omega) (by omega)]
      show (224 + r / 4096).toNat = 45 ↔ r = 45
      omega
theorem getD_last (l : List UInt8) (x : UInt8) : (l ++ [x]).getD ((l ++ [x]).length - 1) 0 = x := by
  simp [List.getD]
theorem enc_last (r : Int) (rs : List Int) (h : 0 ≤ r ∧ r < 55296) : ((enc (rs ++ [r])).getD ((enc (rs ++ [r])).length - 1) 0 = 45) ↔ r = 45 := by
  have e : enc (rs ++ [r]) = enc rs ++ encodeRune r := by rw [enc_append]; simp [enc]
  rw [e]
  by_cases c1 : r ≤ 127
  · rw [encodeRune_one h.1 c1, getD_last, ← UInt8.toNat_inj, toByteNat r h.1 (by omega)]
    show r.toNat = 45 ↔ r = 45
    omega
  · by_cases c2 : r ≤ 2047
    · rw [encodeRune_two (by omega) c2, show enc rs ++ [(192 + r / 64).toNat.toUInt8, (128 + r % 64).toNat.toUInt8] = (enc rs ++ [(192 + r / 64).toNat.toUInt8]) ++ [(128 + r % 64).toNat.toUInt8] by simp, getD_last, ← UInt8.toNat_inj, toByteNat (128 + r % 64) (by omega) (by omega)]
      show (128 + r % 64).toNat = 45 ↔ r = 45
      omega
    · rw [encodeRune_three (by omega) h.2, show enc rs ++ [(224 + r / 4096).toNat.toUInt8, (128 + r / 64 % 64).toNat.toUInt8, (128 + r % 64).toNat.toUInt8] = (enc rs ++ [(224 + r / 4096).toNat.toUInt8, (128 + r / 64 % 64).toNat.toUInt8]) ++ [(128 + r % 64).toNat.toUInt8] by simp, getD_last, ← UInt8.toNat_inj, toByteNat (128 + r % 64) (by omega) (by omega)]
      show (128 + r % 64).toNat = 45 ↔ r = 45
      omega
theorem bne_iff {a b : Prop} [Decidable a] [Decidable b] (h : a ↔ b) : (!decide a) = (!decide b) := by
  by_cases hb : b
  · simp [hb, h.2 hb]
  · simp [hb, mt h.1 hb]
/-- A text of good runes. -/
theorem mayL_enc (rs : List Int) (hg : Good rs) : mayL (enc rs) = mayR rs := by
  unfold mayL mayR
  rw [runes_enc rs hg.low, hg]
  cases rs with
  | nil => simp
  | cons r rs =>
    have h1 := enc_first r rs (hg.low r (by simp))
    have e1 : ((enc (r :: rs)).getD 0 0 != 45) = ((r :: rs).head? != some 45) := by
      rw [Bool.eq_iff_iff]
      simp only [bne_iff_ne, ne_eq, h1]
      simp
    rw [e1]
    rcases List.eq_nil_or_concat (r :: rs) with h | ⟨ys, y, h⟩
    · simp at h
    · have hy : y ∈ r :: rs := by rw [h]; simp
      have h2 := enc_last y ys (hg.low y hy)
      have h' : r :: rs = ys ++ [y] := by rw [h]; simp
      rw [h']
      have e2 : ((enc (ys ++ [y])).getD ((enc (ys ++ [y])).length - 1) 0 != 45) = ((ys ++ [y]).getLast? != some 45) := by
        rw [Bool.eq_iff_iff]
        simp only [bne_iff_ne, ne_eq, h2]
        simp
      rw [e2]
theorem may_R {l : List UInt8} (h : mayL l = true) : mayR (runes l) = true := by
  rw [← mayL_enc _ (may_good h), may_enc h, h]
theorem mayR_good {rs : List Int} (h : mayR rs = true) : Good rs := by
  unfold mayR at h
  simp only [Bool.and_eq_true] at h
  exact h.1.2
theorem R_may {rs : List Int} (h : mayR rs = true) : mayL (enc rs) = true := by rw [mayL_enc rs (mayR_good h), h]

/-! small letters -/
theorem small_good {r : Int} (h : goodB r = true) : goodB (smallI r) = true := by
  rw [goodB_iff] at h ⊢
  unfold goodP at h ⊢
  unfold smallI
  split
  · omega
  · split <;> omega
theorem small_small {r : Int} (h : goodB r = true) : smallI (smallI r) = smallI r := by
  rw [goodB_iff] at h
  unfold goodP at h
  by_cases c : (65 ≤ r ∧ r ≤ 90) ∨ (192 ≤ r ∧ r ≤ 222) ∨ (913 ≤ r ∧ r ≤ 937)
  · have e : smallI r = r + 32 := by unfold smallI; rw [if_pos c]
    rw [e]
    unfold smallI
    rw [if_neg (by omega), if_neg (by omega)]
  · by_cases d : r = 962
    · subst d
      decide
    · have e : smallI r = r := by unfold smallI; rw [if_neg c, if_neg d]
      rw [e, e]
theorem small_cols {r : Int} (h : goodB r = true) : colsI (smallI r) = colsI r := by
  rw [goodB_iff] at h
  unfold goodP at h
  have : wideB (smallI r) = wideB r := by
    rw [Bool.eq_iff_iff, wideB_iff, wideB_iff]
    unfold smallI
    split
    · omega
    · split <;> omega
  unfold colsI
  rw [this]
theorem small_45 {r : Int} : smallI r = 45 ↔ r = 45 := by
  unfold smallI
  split
  · omega
  · split <;> omega
theorem mapS_good {rs : List Int} (h : Good rs) : Good (rs.map smallI) := by
  unfold Good at h ⊢
  rw [List.all_eq_true] at h ⊢
  intro x hx
  obtain ⟨r, hr, rfl⟩ := List.mem_map.1 hx
  exact small_good (h r hr)
theorem mapS_same {rs : List Int} (h : Good rs) : (rs.map smallI).map smallI = rs.map smallI := by
  rw [List.map_map]
  apply List.map_congr_left
  intro r hr
  exact small_small (List.all_eq_true.1 h r hr)
theorem mapS_cols {rs : List Int} (h : Good rs) : colsR (rs.map smallI) = colsR rs := by
  unfold colsR
  rw [List.map_map]
  congr 1
  apply List.map_congr_left
  intro r hr
  exact small_cols (List.all_eq_true.1 h r hr)
theorem mapS_may {rs : List Int} (h : mayR rs = true) : mayR (rs.map smallI) = true := by
  have hg := mapS_good (mayR_good h)
  unfold mayR at h ⊢
  unfold Good at hg
  rw [hg]
  simp only [Bool.and_eq_true, decide_eq_true_eq, bne_iff_ne, ne_eq, List.length_map, List.head?_map, List.getLast?_map] at h ⊢
  refine ⟨⟨h.1.1, trivial⟩, ?_, ?_⟩
  · cases e : rs.head? with
    | none => simp
    | some r =>
      intro k
      have k' : smallI r = 45 := by simpa using k
      apply h.2.1
      rw [e, small_45.1 k']
  · cases e : rs.getLast? with
    | none => simp
    | some r =>
      intro k
      have k' : smallI r = 45 := by simpa using k
      apply h.2.2
      rw [e, small_45.1 k']
theorem foldL_may {l : List UInt8} (h : mayL l = true) : foldL l = enc ((runes l).map smallI) := by unfold foldL; rw [h, if_pos rfl]
theorem columnsL_may {l : List UInt8} (h : mayL l = true) : columnsL l = colsR (runes l) := by unfold columnsL; rw [h, if_pos rfl]
theorem clipL_may {l : List UInt8} (h : mayL l = true) (c : Int) : clipL l c = enc (clipR (runes l) c) := by unfold clipL; rw [h, if_pos rfl]
theorem runes_fold {l : List UInt8} (h : mayL l = true) : runes (foldL l) = (runes l).map smallI := by
  rw [foldL_may h, runes_enc _ (mapS_good (may_good h)).low]
theorem may_fold {l : List UInt8} (h : mayL l = true) : mayL (foldL l) = true := by
  rw [foldL_may h]
  exact R_may (mapS_may (may_R h))
theorem fold_fold {l : List UInt8} (h : mayL l = true) : foldL (foldL l) = foldL l := by
  rw [foldL_may (may_fold h), runes_fold h, mapS_same (may_good h), foldL_may h]
theorem cols_fold {l : List UInt8} (h : mayL l = true) : columnsL (foldL l) = columnsL l := by
  rw [columnsL_may (may_fold h), runes_fold h, mapS_cols (may_good h), columnsL_may h]

/-! two names side by side -/
theorem runes_two {s t : List UInt8} (hs : mayL s = true) : runes (s ++ t) = runes s ++ runes t := by
  have := runes_enc_append (runes s) t (may_good hs).low
  rwa [may_enc hs] at this
theorem columns_two {s t : List UInt8} (hs : mayL s = true) (ht : mayL t = true) (hst : mayL (s ++ t) = true) : columnsL (s ++ t) = columnsL s + columnsL t := by
  rw [columnsL_may hst, columnsL_may hs, columnsL_may ht, runes_two hs, colsR_append]
theorem fold_two {s t : List UInt8} (hs : mayL s = true) (ht : mayL t = true) (hst : mayL (s ++ t) = true) : foldL (s ++ t) = foldL s ++ foldL t := by
  rw [foldL_may hst, foldL_may hs, foldL_may ht, runes_two hs, List.map_append, enc_append]
theorem clipR_zero : ∀ rs : List Int, clipR rs 0 = []
  | [] => rfl
  | r :: rs => by
    have := colsI_bd r
    rw [clipR, if_neg (by omega)]
theorem clip_two {s t : List UInt8} (hs : mayL s = true) (hst : mayL (s ++ t) = true) : clipL (s ++ t) (columnsL s) = s := by
  rw [clipL_may hst, columnsL_may hs, runes_two hs, clipR_append _ _ _ (by omega), show colsR (runes s) - colsR (runes s) = 0 by omega, clipR_zero, List.append_nil, may_enc hs]
theorem may_two_fold {s t : List UInt8} (hs : mayL s = true) (ht : mayL t = true) (hst : mayL (s ++ t) = true) : mayL (foldL s ++ t) = true ∧ foldL (foldL s ++ t) = foldL s ++ foldL t := by
  have hgs := may_good hs
  have hgt := may_good ht
  have e : foldL s ++ t = enc ((runes s).map smallI ++ runes t) := by rw [enc_append, ← foldL_may hs, may_enc ht]
  have hR := may_R hst
  rw [runes_two hs] at hR
  have hls := (may_len hs).1
  have hlt := (may_len ht).1
  have hg : Good ((runes s).map smallI ++ runes t) := by
    have := mapS_good hgs
    unfold Good at this hgt ⊢
    rw [List.all_append, this, hgt]
    rfl
  have hm : mayR ((runes s).map smallI ++ runes t) = true := by
    unfold mayR at hR ⊢
    unfold Good at hg
    rw [hg]
    simp only [Bool.and_eq_true, decide_eq_true_eq, bne_iff_ne, ne_eq, List.length_append, List.length_map] at hR ⊢
    obtain ⟨⟨h1, _⟩, h2, h3⟩ := hR
    refine ⟨⟨h1, trivial⟩, ?_, ?_⟩
    · cases hc : runes s with
      | nil => rw [hc] at hls; simp at hls
      | cons r rs =>
        rw [hc] at h2
        simp only [List.map_cons, List.cons_append, List.head?_cons, Option.some.injEq] at h2 ⊢
        exact fun k => h2 (small_45.1 k)
    · rcases List.eq_nil_or_concat (runes t) with h | ⟨ys, y, h⟩
      · rw [h] at hlt; simp at hlt
      · rw [h] at h3 ⊢
        simpa using h3
  have hmay : mayL (foldL s ++ t) = true := by rw [e]; exact R_may hm
  refine ⟨hmay, ?_⟩
  rw [foldL_may hmay]
  have hr : runes (foldL s ++ t) = (runes s).map smallI ++ runes t := by rw [e, runes_enc _ hg.low]
  rw [hr, List.map_append, mapS_same hgs, enc_append, ← foldL_may hs, ← foldL_may ht]

/-! beginnings -/
theorem clipR_pre : ∀ (rs : List Int) (a b : Int), a ≤ b → ∃ q, clipR rs b = clipR rs a ++ q
  | [], a, b, _ => ⟨[], rfl⟩
  | r :: rs, a, b, h => by
    by_cases c : colsI r ≤ a
    · obtain ⟨q, hq⟩ := clipR_pre rs (a - colsI r) (b - colsI r) (by omega)
      refine ⟨q, ?_⟩
      rw [clipR, clipR, if_pos c, if_pos (by omega), hq]
      rfl
    · refine ⟨clipR (r :: rs) b, ?_⟩
      rw [show clipR (r :: rs) a = [] by rw [clipR, if_neg c]]
      rfl
theorem clipR_is : ∀ (rs : List Int) (c : Int), ∃ q, rs = clipR rs c ++ q
  | [], c => ⟨[], rfl⟩
  | r :: rs, c => by
    by_cases h : colsI r ≤ c
    · obtain ⟨q, hq⟩ := clipR_is rs (c - colsI r)
      refine ⟨q, ?_⟩
      rw [clipR, if_pos h]
      show r :: rs = r :: (clipR rs (c - colsI r) ++ q)
      rw [← hq]
    · exact ⟨r :: rs, by rw [clipR, if_neg h]; rfl⟩
theorem clipR_fits : ∀ (rs : List Int) (c : Int), 0 ≤ c → colsR (clipR rs c) ≤ c
  | [], c, h => by rw [clipR, colsR_nil]; omega
  | r :: rs, c, h => by
    by_cases h2 : colsI r ≤ c
    · have := clipR_fits rs (c - colsI r) (by omega)
      rw [clipR, if_pos h2, colsR_cons]
      omega
    · rw [clipR, if_neg h2, colsR_nil]
      omega
theorem clip_pre {l : List UInt8} (h : mayL l = true) {a b : Int} (hab : a ≤ b) : ∃ q, clipL l b = clipL l a ++ q := by
  obtain ⟨q, hq⟩ := clipR_pre (runes l) a b hab
  exact ⟨enc q, by rw [clipL_may h, clipL_may h, hq, enc_append]⟩
theorem clip_full {l : List UInt8} (h : mayL l = true) {c : Int} (hc : columnsL l ≤ c) : clipL l c = l := by
  rw [columnsL_may h] at hc
  rw [clipL_may h, clipR_all _ _ hc, may_enc h]
theorem clip_less {l : List UInt8} (h : mayL l = true) {c : Int} (hc : c < columnsL l) (h0 : 0 ≤ c) : clipL l c ≠ l := by
  rw [columnsL_may h] at hc
  intro e
  obtain ⟨q, hq⟩ := clipR_is (runes l) c
  have hg : Good (clipR (runes l) c) := by
    have := may_good h
    unfold Good at this ⊢
    rw [hq, List.all_append, Bool.and_eq_true] at this
    exact this.1
  have h2 : runes (clipL l c) = clipR (runes l) c := by rw [clipL_may h, runes_enc _ hg.low]
  rw [e] at h2
  have := clipR_fits (runes l) c h0
  rw [← h2] at this
  omega
theorem clip_zero {l : List UInt8} : clipL l 0 = [] := by
  unfold clipL
  split
  · rw [clipR_zero]; rfl
  · rfl
theorem columns_bd {l : List UInt8} (h : mayL l = true) : 1 ≤ columnsL l ∧ columnsL l ≤ 24 := by
  rw [columnsL_may h]
  have := may_len h
  have := colsR_bd (runes l)
  omega
end Go.Proofs.YtgenkmihbnkakaaDoor
