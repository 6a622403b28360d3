/- DiskApart: true, whatever its arguments are. Conditions: the list's cells. -/
import Derived.Test.YtfhfjfgajbgdcaaDiskAwake
set_option linter.unusedVariables false
set_option linter.unusedSimpArgs false
namespace Go.Proofs.Ytfhfjfgajbgdcaa
open Go.RowKit

def atA (xs : List Int) (i : Nat) : Nat := (lowM (xs.getD i 0) 6).toNat
theorem atA_cast (xs : List Int) (i : Nat) : lowM (xs.getD i 0) 6 = ((atA xs i : Nat) : Int) := by
  unfold atA
  have := lowM_bd (xs.getD i 0) 6 (by omega)
  omega
theorem atA_lt (xs : List Int) (i : Nat) : atA xs i < 6 := by
  have h := atA_cast xs i
  have := lowM_bd (xs.getD i 0) 6 (by omega)
  omega
def lastA (xs : List Int) : Nat → List Int
  | 0 => List.replicate 6 0
  | i + 1 => (lastA xs i).set (atA xs i) (i : Int)
def hasA (br : Nat) (xs : List Int) : Nat → List Bool
  | 0 => List.replicate 6 false
  | i + 1 => (hasA br xs i).set (atA xs i) (decide (atA xs i ≠ br))
def apW (br : Nat) (xs : List Int) : Nat → List (Int × List Nat)
  | 0 => []
  | i + 1 => if atA xs i = br then apW br xs i else apW br xs i ++ [((atA xs i : Int), fillL (i : Int) 200)]
def apB (br : Nat) : List Bool := (List.range 6).map fun k => decide (k = br)
def apSt (br : Nat) (xs : List Int) (i : Nat) : RD := ⟨List.replicate 6 (List.replicate 200 0), apW br xs i, apB br, 200⟩
section
variable {br : Nat} {xs : List Int}
theorem lastA_len : ∀ i, (lastA xs i).length = 6
  | 0 => List.length_replicate ..
  | i + 1 => by unfold lastA; rw [List.length_set]; exact lastA_len i
theorem hasA_len : ∀ i, (hasA br xs i).length = 6
  | 0 => List.length_replicate ..
  | i + 1 => by unfold hasA; rw [List.length_set]; exact hasA_len i
theorem apW_len : ∀ i, (apW br xs i).length ≤ i
  | 0 => Nat.le_refl _
  | i + 1 => by
    unfold apW
    have := apW_len i
    split
    · omega
    · rw [List.length_append]; simp; omega
theorem apB_at {k : Nat} (hk : k < 6) : (apB br).getD k false = decide (k = br) := by
  unfold apB
  rw [List.getD_eq_getElem?_getD, List.getElem?_map, List.getElem?_range hk]; rfl
theorem ap_fresh (h : br < 7) : freshD 6 200 [(br : Int)] = apSt br xs 0 := by
  have hB : markB 6 [(br : Int)] 1 = apB br := by
    have hall : ∀ b : Fin 7, markB 6 [((b.val : Nat) : Int)] 1 = apB b.val := by decide
    exact hall ⟨br, h⟩
  unfold freshD apSt
  rw [show [(br : Int)].length = 1 from rfl, hB]; rfl
theorem ap_write (i : Nat) : (afterWrite (apSt br xs i) (atA xs i : Int) (fillL (i : Int) 200), writeO (apSt br xs i) (atA xs i : Int) (fillL (i : Int) 200).length) = (apSt br xs (i + 1), if atA xs i = br then 5 else 0) := by
  have hlt := atA_lt xs i
  have hB := apB_at (br := br) hlt
  have w0 : writeO (apSt br xs i) (atA xs i : Int) (fillL (i : Int) 200).length = if atA xs i = br then 5 else 0 := by
    unfold writeO
    rw [fillL_len, if_neg (by
      show ¬ ((atA xs i : Int) < 0 ∨ ((List.replicate 6 (List.replicate 200 0)).length : Int) ≤ (atA xs i : Int) ∨ 200 ≠ 200)
      rw [List.length_replicate]; omega), Int.toNat_natCast]
    show (if (apB br).getD (atA xs i) false = true then (5 : Int) else 0) = _
    rw [hB]
    by_cases h : atA xs i = br
    · rw [if_pos h, if_pos (decide_eq_true h)]
    · rw [if_neg h, if_neg (by simp [h])]
  rw [w0]
  unfold afterWrite
  rw [w0]
  by_cases h : atA xs i = br
  · rw [if_pos h, if_neg (by decide)]
    unfold apSt
    rw [apW, if_pos h]
  · rw [if_neg h, if_pos rfl]
    unfold apSt
    rw [apW, if_neg h]
theorem lastW_snoc (x a : Int) (b : List Nat) (W : List (Int × List Nat)) : lastW x (W ++ [(a, b)]) = if a = x then some b else lastW x W := by
  unfold lastW
  rw [List.filter_append]
  by_cases h : a = x
  · rw [if_pos h, List.filter_cons_of_pos (by simpa using h)]; simp
  · rw [if_neg h, List.filter_cons_of_neg (by simpa using h)]; simp
theorem getD_set {α : Type} (l : List α) (i j : Nat) (x d : α) (h : i < l.length) : (l.set i x).getD j d = if j = i then x else l.getD j d := by
  rw [List.getD_eq_getElem?_getD, List.getD_eq_getElem?_getD, List.getElem?_set]
  by_cases e : j = i
  · subst e; simp [h]
  · simp [e, Ne.symm e]
theorem ap_last {k : Nat} (hk : k < 6) : ∀ i, (k = br → (hasA br xs i).getD k false = false) ∧ lastW (k : Int) (apW br xs i) = if (hasA br xs i).getD k false = true then some (fillL ((lastA xs i).getD k 0) 200) else none
  | 0 => by
    have e : (hasA br xs 0).getD k false = false := by unfold hasA; rw [List.getD_eq_getElem?_getD, List.getElem?_replicate, if_pos hk]; rfl
    exact ⟨fun _ => e, by rw [e]; rfl⟩
  | i + 1 => by
    obtain ⟨h1, h2⟩ := ap_last hk i
    have e : (hasA br xs (i + 1)).getD k false = if k = atA xs i then decide (atA xs i ≠ br) else (hasA br xs i).getD k false := by show ((hasA br xs i).set _ _).getD k false = _; rw [getD_set _ _ _ _ _ (by rw [hasA_len]; exact atA_lt xs i)]
    have e2 : (lastA xs (i + 1)).getD k 0 = if k = atA xs i then (i : Int) else (lastA xs i).getD k 0 := by show ((lastA xs i).set _ _).getD k 0 = _; rw [getD_set _ _ _ _ _ (by rw [lastA_len]; exact atA_lt xs i)]
    rw [e, e2, apW]
    by_cases hka : k = atA xs i
    · rw [if_pos hka, if_pos hka]
      by_cases hb : atA xs i = br
      · have hd : decide (atA xs i ≠ br) = false := by simp [hb]
        rw [hd, if_pos hb]
        refine ⟨fun _ => rfl, ?_⟩
        rw [h2, h1 (hka.trans hb), if_neg (by decide), if_neg (by decide)]
      · have hd : decide (atA xs i ≠ br) = true := by simp [hb]
        rw [hd, if_neg hb, lastW_snoc, if_pos (by rw [hka])]
        exact ⟨fun h => absurd (hka.symm.trans h) hb, by rw [if_pos rfl]⟩
    · rw [if_neg hka, if_neg hka]
      refine ⟨h1, ?_⟩
      by_cases hb : atA xs i = br
      · rw [if_pos hb]; exact h2
      · rw [if_neg hb, lastW_snoc, if_neg (by omega)]; exact h2
theorem ap_read {k : Nat} (hk : k < 6) (i : Nat) : readO (apSt br xs i) (k : Int) = if k = br then (5, []) else if (hasA br xs i).getD k false = true then (0, fillL ((lastA xs i).getD k 0) 200) else (0, List.replicate 200 0) := by
  have hw : whyO (apSt br xs i) (k : Int) = if k = br then 5 else 0 := by
    unfold whyO
    rw [if_neg (by
      show ¬ ((k : Int) < 0 ∨ ((List.replicate 6 (List.replicate 200 0)).length : Int) ≤ (k : Int))
      rw [List.length_replicate]; omega), Int.toNat_natCast]
    show (if (apB br).getD k false = true then (5 : Int) else 0) = _
    rw [apB_at hk]
    by_cases h : k = br
    · rw [if_pos h, if_pos (decide_eq_true h)]
    · rw [if_neg h, if_neg (by simp [h])]
  unfold readO
  rw [hw]
  by_cases h : k = br
  · rw [if_pos h, if_neg (by decide), if_pos h]
  · rw [if_neg h, if_pos rfl, if_neg h]
    obtain ⟨_, h2⟩ := ap_last (br := br) (xs := xs) hk i
    rw [show (apSt br xs i).W = apW br xs i from rfl, h2]
    by_cases h3 : (hasA br xs i).getD k false = true
    · rw [if_pos h3, if_pos h3]
    · rw [if_neg h3, if_neg h3]
      show (0, (List.replicate 6 (List.replicate 200 0)).getD (k : Int).toNat []) = _
      rw [Int.toNat_natCast, List.getD_eq_getElem?_getD, List.getElem?_replicate, if_pos hk]; rfl
end
/-- The array's cells. -/
def intsC (l : List Int) : Array Value := (l.map fun x => Value.int .i64 x).toArray
def boolsC (l : List Bool) : Array Value := (l.map fun x => Value.bool x).toArray
theorem intsC_at {l : List Int} {k : Nat} (hk : k < l.length) : (intsC l)[k]? = some (.int .i64 (l.getD k 0)) := by
  unfold intsC
  rw [List.getElem?_toArray, List.getElem?_map, List.getD_eq_getElem?_getD, List.getElem?_eq_getElem hk]; rfl
theorem boolsC_at {l : List Bool} {k : Nat} (hk : k < l.length) : (boolsC l)[k]? = some (.bool (l.getD k false)) := by
  unfold boolsC
  rw [List.getElem?_toArray, List.getElem?_map, List.getD_eq_getElem?_getD, List.getElem?_eq_getElem hk]; rfl
theorem intsC_set (l : List Int) (k : Nat) (x : Int) : (intsC l).setIfInBounds k (.int .i64 x) = intsC (l.set k x) := by unfold intsC; rw [List.setIfInBounds_toArray, List.map_set]
theorem boolsC_set (l : List Bool) (k : Nat) (x : Bool) : (boolsC l).setIfInBounds k (.bool x) = boolsC (l.set k x) := by unfold boolsC; rw [List.setIfInBounds_toArray, List.map_set]
set_option maxHeartbeats 32000000 in
set_option maxRecDepth 20000 in
theorem dapart_law (A : Option Addr) (n c : Nat) (xs : List Int) (x : Int) (w : World) (hn : n ≤ 9223372036854775807) (hA : intK.Lie w w.heap.size A n xs) :
    Calls Try.prog 5 #[.slice A n c, .int .i64 x] w (SaysB w true) := by
  by_cases h40 : 40 < n
  · clear hA
    go_enter Try.func5, Try.ntmps5
    go_wp2_with fail
    refine (dawake_any _).mono ?_
    rintro e W1 ⟨rfl, hb⟩
    go_wp2_with fail
    go_ret
    exact ⟨rfl, hb⟩
  have hn40 : n ≤ 40 := by omega
  have HA := Lib.hid hA
  clear hA h40
  obtain ⟨br, hbr, HBR⟩ : ∃ br : Nat, br < 7 ∧ Hid (lowM x 7 = (br : Int)) := by
    obtain ⟨h0, h1⟩ := lowM_bd x 7 (by omega)
    exact ⟨(lowM x 7).toNat, by omega, by show _ = _; omega⟩
  have br0 : (0 : Int) ≤ (br : Int) := by omega
  have br7 : (br : Int) < 7 := by omega
  have HFR := Lib.hid (ap_fresh (xs := xs) hbr)
  go_enter Try.func5, Try.ntmps5
  go_wp2_with fail
  refine (low_any x 7 (by omega) (by omega) _).mono ?_
  rw [HBR.out]
  rintro e w' ⟨rfl, rfl⟩
  go_wp2_with fail
  have S0 := Lib.hid (since_alloc (Below.refl w.heap.size w) (.cells #[.int .i64 (br : Int)] 3))
  have M0 : Hid (intK.Lie (w.alloc (.cells #[.int .i64 (br : Int)] 3)) (w.alloc (.cells #[.int .i64 (br : Int)] 3)).heap.size (some ⟨w.heap.size, 0, none⟩) 1 [(br : Int)]) := Kind.new1 (K := intK) w (br : Int) ⟨by omega, by omega⟩ _ rfl
  refine (dnew_any 6 200 (some ⟨w.heap.size, 0, none⟩) 1 1 [(br : Int)] _ (by omega) M0.out).mono ?_
  rw [if_pos (show mayD 6 200 = true from rfl), show freshD (6 : Int).toNat (200 : Int).toNat [(br : Int)] = apSt br xs 0 from HFR.out]
  rintro e W0 ⟨g, fp0, rfl, hc0, hb0⟩
  have C0 := Lib.hid (hc0.elder S0.out.size)
  have S1 := Lib.hid (below_chain S0.out hb0)
  clear S0 M0 hc0 hb0 HFR
  have HSZ : Hid ((apSt br xs 0).size = 200) := rfl
  have HFN : Hid ((apSt br xs 0).F.length = 6) := by show (List.replicate 6 _).length = 6; rw [List.length_replicate]
  go_wp2_with fail
  refine (dsize_any C0.out).mono ?_
  rw [HSZ.out]
  rintro e W2 ⟨rfl, hb2⟩
  have S2 := Lib.hid (below_chain S1.out hb2.out)
  have C2 := Lib.hid (C0.out.since hb2.out)
  clear hb2 S1 C0
  go_wp2_with fail
  refine (dsectors_any C2.out).mono ?_
  rw [HFN.out]
  rintro e W3 ⟨rfl, hb3⟩
  have S3 := Lib.hid (below_chain S2.out hb3.out)
  have C3 := Lib.hid (C2.out.since hb3.out)
  clear hb3 S2 C2
  go_wp2_with fail
  have P6 : Hid (RestC fp0 (W3.alloc (.cells (intsC (lastA xs 0)) 53)) W3.heap.size (intsC (lastA xs 0)) 53) := RestC.new W3 _ _ C3.out.lt
  have b6 := later_alloc W3 (.cells (intsC (lastA xs 0)) 53)
  obtain ⟨V1, HV1⟩ : ∃ V1 : World, Hid (V1 = W3.alloc (.cells (intsC (lastA xs 0)) 53)) := ⟨_, rfl⟩
  rw [← HV1.out] at P6 b6
  have S11 := Lib.hid (below_chain S3.out b6)
  have C11 := Lib.hid (C3.out.since b6)
  have P7 : Hid (RestC fp0 (V1.alloc (.cells (boolsC (hasA br xs 0)) 54)) V1.heap.size (boolsC (hasA br xs 0)) 54) := RestC.new V1 _ _ C11.out.lt
  have b7 := later_alloc V1 (.cells (boolsC (hasA br xs 0)) 54)
  have P6b := Lib.hid (P6.out.since b7)
  obtain ⟨q6, HQ6⟩ : ∃ q6, Hid (W3.heap.size = q6) := ⟨_, rfl⟩
  obtain ⟨q7, HQ7⟩ : ∃ q7, Hid (V1.heap.size = q7) := ⟨_, rfl⟩
  have hq67 : q6 ≠ q7 := by rw [← HQ6.out, ← HQ7.out]; have := P6.out.lt; omega
  have HQA : w.heap.size ≤ W3.heap.size := S3.out.size
  have HQB : w.heap.size ≤ V1.heap.size := S11.out.size
  clear S3 C3
  have S12 := Lib.hid (below_chain S11.out b7)
  have C12 := Lib.hid (C11.out.since b7)
  have HQ7b : Hid (W3.heap.size + 1 = q7) := by show _ = _; rw [← HQ7.out, HV1.out]; simp
  obtain ⟨V2, HV2⟩ : ∃ V2 : World, Hid (V2 = V1.alloc (.cells (boolsC (hasA br xs 0)) 54)) := ⟨_, rfl⟩
  rw [show (W3.alloc (.cells #[.int .i64 0, .int .i64 0, .int .i64 0, .int .i64 0, .int .i64 0, .int .i64 0] 53)) = V1 from HV1.out.symm, show (V1.alloc (.cells #[.bool false, .bool false, .bool false, .bool false, .bool false, .bool false] 54)) = V2 from HV2.out.symm, HQ7b.out, HQ6.out]
  rw [← HV2.out] at P7 P6b S12 C12
  rw [HQ7.out] at P7
  rw [HQ6.out] at P6b
  clear S11 C11 P6
  have HQW : Hid (w.heap.size ≤ q6 ∧ w.heap.size ≤ q7) := by rw [← HQ6.out, ← HQ7.out]; exact ⟨HQA, HQB⟩
  clear HQA HQB
  go_loopw [8] (fun t8 wr => ∃ (i : Nat) (fp : Nat → Prop), t8 = .int .i64 i ∧ i ≤ n ∧ Hid (DiskAt wr w.heap.size fp g (apSt br xs i)) ∧ Hid (RestC fp wr q6 (intsC (lastA xs i)) 53) ∧ Hid (RestC fp wr q7 (boolsC (hasA br xs i)) 54) ∧ Hid (Below w.heap.size w wr)) (fun t8 _ => n - (intOf t8).toNat)
  case atStart => exact ⟨0, fp0, rfl, Nat.zero_le _, C12, P6b, P7, S12⟩
  clear C12 S12 P6b P7 HSZ HFN HBR b6 b7 HV1 HV2
  case round =>
    obtain ⟨Wa, rfl⟩ : ∃ Wa, Wa = wr := ⟨_, rfl⟩
    obtain ⟨i, fp, rfl, hi, HC, H6, H7, HB⟩ := hrel
    have i0 : (0 : Int) ≤ (i : Int) := by omega
    by_cases hlt : i < n
    · skip
      have i1 : (i : Int) < (n : Int) := by omega
      obtain ⟨ad, rfl, hblk, hc⟩ := int_at (HA.out.since HB.out) hlt
      have HAT := Lib.hid (atA_cast xs i)
      obtain ⟨y, HY⟩ : ∃ y, Hid (xs.getD i 0 = y) := ⟨_, rfl⟩
      rw [HY.out] at hc HAT
      have hat6 := atA_lt xs i
      have HW := Lib.hid (ap_write (br := br) (xs := xs) i)
      have HL1 : Hid ((lastA xs i).set (atA xs i) (i : Int) = lastA xs (i + 1)) := rfl
      have HH1 : Hid ((hasA br xs i).set (atA xs i) (decide (atA xs i ≠ br)) = hasA br xs (i + 1)) := rfl
      obtain ⟨at_, HATN⟩ : ∃ a : Nat, Hid (atA xs i = a) := ⟨_, rfl⟩
      rw [HATN.out] at HAT hat6 HW HL1 HH1
      have a0 : (0 : Int) ≤ (at_ : Int) := by omega
      have a6 : (at_ : Int) < 6 := by omega
      have hwl : (apSt br xs i).W.length < 1000 := by have h1 := apW_len (br := br) (xs := xs) i; show (apW br xs i).length < 1000; omega
      obtain ⟨si, HSI⟩ : ∃ si, Hid (apSt br xs i = si) := ⟨_, rfl⟩
      obtain ⟨sj, HSJ⟩ : ∃ sj, Hid (apSt br xs (i + 1) = sj) := ⟨_, rfl⟩
      rw [HSI.out] at HC HW hwl
      rw [HSJ.out] at HW
      obtain ⟨fy, HFY⟩ : ∃ fy, Hid (fillL (i : Int) 200 = fy) := ⟨_, rfl⟩
      rw [HFY.out] at HW
      go_wp2_with fail
      refine (low_any y 6 (by omega) (by omega) _).mono ?_
      rw [HAT.out]
      rintro e w' ⟨rfl, rfl⟩
      clear hc
      go_wp2_with fail
      refine (fill_any (i : Int) 200 _ (by omega)).mono ?_
      rintro e W21 ⟨A21, n21, c21, rfl, ho21, hb21⟩
      obtain rfl : 200 = n21 := by rw [← ho21.len, fillL_len]
      have F21 := Lib.hid (Rest.new ho21 HC.out.lt)
      have S21 := Lib.hid (below_chain HB.out hb21)
      have C21 := Lib.hid (HC.out.since hb21)
      have P21 := Lib.hid (H6.out.since hb21)
      have Q21 := Lib.hid (H7.out.since hb21)
      clear hb21 ho21 HB HC H6 H7
      rw [HFY.out] at F21
      have hq6w : w.heap.size ≤ q6 := HQW.out.1
      have hq7w : w.heap.size ≤ q7 := HQW.out.2
      by_cases heq : at_ = br
      · have HWC := HW.out
        rw [if_pos heq] at HWC
        have HWD := Lib.hid HWC
        clear HWC
        have hne : ((at_ : Int) != (br : Int)) = false := by simp; omega
        have hd : decide (at_ ≠ br) = false := by simp; omega
        rw [hd] at HH1
        clear hd heq
        go_wp2_with fail
        refine (dwrite_any (at_ : Int) _ _ _ _ C21.out hwl F21.out.own.bytes F21.out.safe (by omega)).mono ?_
        rw [HWD.out]
        rintro e W22 ⟨v22, fp22, rfl, he22, hc22, hs22⟩
        have S22 := Lib.hid (hs22.below S21.out C21.out.ge S21.out.size)
        have P22 := Lib.hid (P21.out.step hs22)
        have Q22 := Lib.hid (Q21.out.step hs22)
        have F22 := Lib.hid (F21.out.step hs22)
        have C22 := Lib.hid hc22
        have E22 := Lib.hid he22.at_
        clear he22
        clear hc22 hs22 S21 P21 Q21 F21 C21
        obtain ⟨xE, rfl⟩ := (E22.out.wrong (show (5 : Int) ≠ 0 by decide)).ne
        clear E22
        have g6 : W22.cell? ⟨q6, at_, none⟩ = some (.int .i64 ((lastA xs i).getD at_ 0)) := (P22.out.cell at_).trans (intsC_at (by rw [lastA_len]; exact hat6))
        have g7 : W22.cell? ⟨q7, at_, none⟩ = some (.bool ((hasA br xs i).getD at_ false)) := (Q22.out.cell at_).trans (boolsC_at (by rw [hasA_len]; exact hat6))
        obtain ⟨u6, HU6⟩ : ∃ u : Value, Hid (u = .int .i64 ((lastA xs i).getD at_ 0)) := ⟨_, rfl⟩
        obtain ⟨u7, HU7⟩ : ∃ u : Value, Hid (u = .bool ((hasA br xs i).getD at_ false)) := ⟨_, rfl⟩
        rw [← HU6.out] at g6
        rw [← HU7.out] at g7
        have f6 := P22.out.free at_
        have f7 := Q22.out.free at_
        have n6 := (P22.out.put at_ (.int .i64 (i : Int))).other hq67 at_ (.bool false)
        have n7 := (Q22.out.other (c := q6) (fun e => hq67 e.symm) at_ (.int .i64 (i : Int))).put at_ (.bool false)
        rw [intsC_set, HL1.out] at n6
        rw [boolsC_set, HH1.out] at n7
        have m1 : Below w.heap.size w ((W22.setCell ⟨q6, at_, none⟩ (.int .i64 (i : Int))).setCell ⟨q7, at_, none⟩ (.bool false)) := ((S22.out.setCell hq6w _).setCell hq7w _)
        have mt : Turn (fun b => b = q6 ∨ b = q7) W22 ((W22.setCell ⟨q6, at_, none⟩ (.int .i64 (i : Int))).setCell ⟨q7, at_, none⟩ (.bool false)) := (Turn.of_setCell (fp := fun b => b = q6 ∨ b = q7) ⟨q6, at_, none⟩ (.int .i64 (i : Int)) (Or.inl rfl)).trans (Turn.of_setCell (fp := fun b => b = q6 ∨ b = q7) ⟨q7, at_, none⟩ (.bool false) (Or.inr rfl)) fun b hb => Or.inl hb
        have m2 := C22.out.keep mt (fun b hb hf => by rcases hb with rfl | rfl; exact P22.out.safe hf; exact Q22.out.safe hf)
        have N6 := Lib.hid n6
        have N7 := Lib.hid n7
        have MB := Lib.hid m1
        have MC := Lib.hid m2
        clear n6 n7 m1 m2 mt P22 Q22 S22 C22 HU6 HU7
        go_wp2_with fail
        go_region
        obtain ⟨W9, HW9⟩ : ∃ W9, Hid (W9 = (W22.setCell ⟨q6, at_, none⟩ (.int .i64 (i : Int))).setCell ⟨q7, at_, none⟩ (.bool false)) := ⟨_, rfl⟩
        rw [← HW9.out] at N6 N7 MB MC ⊢
        have D9 : Below W9.heap.size W9 W9.drew := (Below.refl _ _).drew
        have N6a := Lib.hid (N6.out.since D9)
        have N7a := Lib.hid (N7.out.since D9)
        have MCa := Lib.hid (MC.out.since D9)
        have MBa := Lib.hid (below_chain MB.out D9)
        rw [← HSJ.out] at MCa
        go_wp2_with fail
        go_roundw
        case rel => exact ⟨i + 1, fp22, by go_num, by omega, MCa, N6a, N7a, MBa⟩
        case measure => simp [intOf]; omega
      · have HWC := HW.out
        rw [if_neg heq] at HWC
        have HWD := Lib.hid HWC
        clear HWC
        have hne : ((at_ : Int) != (br : Int)) = true := by simp; omega
        have hd : decide (at_ ≠ br) = true := by simp; omega
        rw [hd] at HH1
        clear hd heq
        go_wp2_with fail
        refine (dwrite_any (at_ : Int) _ _ _ _ C21.out hwl F21.out.own.bytes F21.out.safe (by omega)).mono ?_
        rw [HWD.out]
        rintro e W22 ⟨v22, fp22, rfl, he22, hc22, hs22⟩
        have S22 := Lib.hid (hs22.below S21.out C21.out.ge S21.out.size)
        have P22 := Lib.hid (P21.out.step hs22)
        have Q22 := Lib.hid (Q21.out.step hs22)
        have F22 := Lib.hid (F21.out.step hs22)
        have C22 := Lib.hid hc22
        obtain rfl := he22.nil
        clear he22
        clear hc22 hs22 S21 P21 Q21 F21 C21
        have g6 : W22.cell? ⟨q6, at_, none⟩ = some (.int .i64 ((lastA xs i).getD at_ 0)) := (P22.out.cell at_).trans (intsC_at (by rw [lastA_len]; exact hat6))
        have g7 : W22.cell? ⟨q7, at_, none⟩ = some (.bool ((hasA br xs i).getD at_ false)) := (Q22.out.cell at_).trans (boolsC_at (by rw [hasA_len]; exact hat6))
        obtain ⟨u6, HU6⟩ : ∃ u : Value, Hid (u = .int .i64 ((lastA xs i).getD at_ 0)) := ⟨_, rfl⟩
        obtain ⟨u7, HU7⟩ : ∃ u : Value, Hid (u = .bool ((hasA br xs i).getD at_ false)) := ⟨_, rfl⟩
        rw [← HU6.out] at g6
        rw [← HU7.out] at g7
        have f6 := P22.out.free at_
        have f7 := Q22.out.free at_
        have n6 := (P22.out.put at_ (.int .i64 (i : Int))).other hq67 at_ (.bool true)
        have n7 := (Q22.out.other (c := q6) (fun e => hq67 e.symm) at_ (.int .i64 (i : Int))).put at_ (.bool true)
        rw [intsC_set, HL1.out] at n6
        rw [boolsC_set, HH1.out] at n7
        have m1 : Below w.heap.size w ((W22.setCell ⟨q6, at_, none⟩ (.int .i64 (i : Int))).setCell ⟨q7, at_, none⟩ (.bool true)) := ((S22.out.setCell hq6w _).setCell hq7w _)
        have mt : Turn (fun b => b = q6 ∨ b = q7) W22 ((W22.setCell ⟨q6, at_, none⟩ (.int .i64 (i : Int))).setCell ⟨q7, at_, none⟩ (.bool true)) := (Turn.of_setCell (fp := fun b => b = q6 ∨ b = q7) ⟨q6, at_, none⟩ (.int .i64 (i : Int)) (Or.inl rfl)).trans (Turn.of_setCell (fp := fun b => b = q6 ∨ b = q7) ⟨q7, at_, none⟩ (.bool true) (Or.inr rfl)) fun b hb => Or.inl hb
        have m2 := C22.out.keep mt (fun b hb hf => by rcases hb with rfl | rfl; exact P22.out.safe hf; exact Q22.out.safe hf)
        have N6 := Lib.hid n6
        have N7 := Lib.hid n7
        have MB := Lib.hid m1
        have MC := Lib.hid m2
        clear n6 n7 m1 m2 mt P22 Q22 S22 C22 HU6 HU7
        go_wp2_with fail
        go_region
        obtain ⟨W9, HW9⟩ : ∃ W9, Hid (W9 = (W22.setCell ⟨q6, at_, none⟩ (.int .i64 (i : Int))).setCell ⟨q7, at_, none⟩ (.bool true)) := ⟨_, rfl⟩
        rw [← HW9.out] at N6 N7 MB MC ⊢
        have D9 : Below W9.heap.size W9 W9.drew := (Below.refl _ _).drew
        have N6a := Lib.hid (N6.out.since D9)
        have N7a := Lib.hid (N7.out.since D9)
        have MCa := Lib.hid (MC.out.since D9)
        have MBa := Lib.hid (below_chain MB.out D9)
        rw [← HSJ.out] at MCa
        go_wp2_with fail
        go_roundw
        case rel => exact ⟨i + 1, fp22, by go_num, by omega, MCa, N6a, N7a, MBa⟩
        case measure => simp [intOf]; omega
    · skip
      obtain rfl : i = n := by omega
      go_wp2_with fail
      go_loopw [11] (fun t11 wr => ∃ (k : Nat), t11 = .int .i64 k ∧ k ≤ 6 ∧ Hid (DiskAt wr w.heap.size fp g (apSt br xs i)) ∧ Hid (RestC fp wr q6 (intsC (lastA xs i)) 53) ∧ Hid (RestC fp wr q7 (boolsC (hasA br xs i)) 54) ∧ Hid (Below w.heap.size w wr)) (fun t11 _ => 6 - (intOf t11).toNat)
      case atStart => exact ⟨0, rfl, Nat.zero_le _, HC, H6, H7, HB⟩
      clear HC H6 H7 HB
      case round =>
        obtain ⟨Wb, rfl⟩ : ∃ Wb, Wb = wr := ⟨_, rfl⟩
        obtain ⟨k, rfl, hk, HC, H6, H7, HB⟩ := hrel
        have k0 : (0 : Int) ≤ (k : Int) := by omega
        by_cases hltk : k < 6
        · skip
          have k6 : (k : Int) < 6 := by omega
          have HRD := Lib.hid (ap_read (br := br) (xs := xs) hltk i)
          obtain ⟨hl, hh⟩ := ap_last (br := br) (xs := xs) hltk i
          obtain ⟨hv, HHV⟩ : ∃ hv, Hid ((hasA br xs i).getD k false = hv) := ⟨_, rfl⟩
          obtain ⟨lv, HLV⟩ : ∃ lv, Hid ((lastA xs i).getD k 0 = lv) := ⟨_, rfl⟩
          rw [HHV.out, HLV.out] at HRD
          rw [HHV.out] at hl
          clear hh
          have HHL := Lib.hid hl
          clear hl
          obtain ⟨W61, hr61, hb61, ho61⟩ := made_any 200 200 rfl (by omega) Wb
          have Z61 := Lib.hid (Rest.new ho61 HC.out.lt)
          have S61 := Lib.hid (below_chain HB.out hb61)
          have C61 := Lib.hid (HC.out.since hb61)
          have P61 := Lib.hid (H6.out.since hb61)
          have Q61 := Lib.hid (H7.out.since hb61)
          clear hb61 ho61 HB HC H6 H7
          have g6 : W61.cell? ⟨q6, k, none⟩ = some (.int .i64 lv) := by rw [← HLV.out]; exact (P61.out.cell k).trans (intsC_at (by rw [lastA_len]; exact hltk))
          have g7 : W61.cell? ⟨q7, k, none⟩ = some (.bool hv) := by rw [← HHV.out]; exact (Q61.out.cell k).trans (boolsC_at (by rw [hasA_len]; exact hltk))
          by_cases hkb : k = br
          · skip
            have HRE : Hid (readO (apSt br xs i) (k : Int) = (5, [])) := by show _ = _; rw [HRD.out, if_pos hkb]
            have HHF := HHL.out hkb
            subst HHF
            have hkbi : ((k : Int) == (br : Int)) = true := by simp; omega
            have hkbn : ((k : Int) != (br : Int)) = false := by simp; omega
            clear HRD HHL HHV hkb
            go_wp2_with fail
            refine (dread_any (k : Int) C61.out).mono ?_
            rw [HRE.out]
            rintro e W62 ⟨v62, A62, n62, c62, rfl, he62, ho62, hb62⟩
            obtain rfl : 0 = n62 := ho62.len
            have E62 := Lib.hid he62.at_
            have S62 := Lib.hid (below_chain S61.out hb62)
            have C62 := Lib.hid (C61.out.since hb62)
            have P62 := Lib.hid (P61.out.since hb62)
            have Q62 := Lib.hid (Q61.out.since hb62)
            have Z62 := Lib.hid (Z61.out.since hb62)
            clear he62 ho62 hb62 S61 C61 P61 Q61 Z61
            go_wp2_with fail
            refine (err_num E62.out).mono ?_
            rintro e W63 ⟨rfl, hw63⟩
            subst hw63
            clear E62
            go_wp2_with fail
            go_roundw
            case rel => exact ⟨k + 1, by go_num, by omega, C62, P62, Q62, S62⟩
            case measure => simp [intOf]; omega
          · skip
            have hkbi : ((k : Int) == (br : Int)) = false := by simp; omega
            have hkbn : ((k : Int) != (br : Int)) = true := by simp; omega
            cases hv with
            | true =>
              obtain ⟨pg, HPG⟩ : ∃ pg, Hid (fillL lv 200 = pg) := ⟨_, rfl⟩
              have HPL : Hid (pg.length = 200) := by rw [← HPG.out]; exact fillL_len _ _
              have HRE : Hid (readO (apSt br xs i) (k : Int) = (0, pg)) := by show _ = _; rw [HRD.out, if_neg hkb, if_pos rfl, HPG.out]
              clear HRD HHL HHV hkb
              go_wp2_with fail
              refine (fill_any lv 200 _ (by omega)).mono ?_
              rintro e W62 ⟨A62, n62, c62, rfl, ho62, hb62⟩
              obtain rfl : 200 = n62 := by rw [← ho62.len, fillL_len]
              have G62 := Lib.hid (Rest.new ho62 C61.out.lt)
              have S62 := Lib.hid (below_chain S61.out hb62)
              have C62 := Lib.hid (C61.out.since hb62)
              have P62 := Lib.hid (P61.out.since hb62)
              have Q62 := Lib.hid (Q61.out.since hb62)
              clear hb62 ho62 S61 C61 P61 Q61
              rw [HPG.out] at G62
              go_wp2_with fail
              refine (dread_any (k : Int) C62.out).mono ?_
              rw [HRE.out]
              rintro e W63 ⟨v63, A63, n63, c63, rfl, he63, ho63, hb63⟩
              obtain rfl : 200 = n63 := by rw [← ho63.len]; exact HPL.out.symm
              have X63 := Lib.hid (Rest.new ho63 C62.out.lt)
              have S63 := Lib.hid (below_chain S62.out hb63)
              have C63 := Lib.hid (C62.out.since hb63)
              have P63 := Lib.hid (P62.out.since hb63)
              have Q63 := Lib.hid (Q62.out.since hb63)
              have G63 := Lib.hid (G62.out.since hb63)
              obtain rfl := he63.nil
              clear he63
              clear ho63 hb63 S62 C62 P62 Q62 G62
              go_wp2_with fail
              refine (same_since _ _ 200 _ _ pg _ (by omega) X63.out.own.bytes G63.out.own.bytes).mono ?_
              rintro e W64 ⟨rfl, hb64⟩
              have S64 := Lib.hid (below_chain S63.out hb64)
              have C64 := Lib.hid (C63.out.since hb64)
              have P64 := Lib.hid (P63.out.since hb64)
              have Q64 := Lib.hid (Q63.out.since hb64)
              clear hb64 X63 G63 S63 C63 P63 Q63
              go_wp2_with fail
              go_roundw
              case rel => exact ⟨k + 1, by go_num, by omega, C64, P64, Q64, S64⟩
              case measure => simp [intOf]; omega
            | false =>
              obtain ⟨pg, HPG⟩ : ∃ pg : List Nat, Hid (List.replicate 200 (0 : Nat) = pg) := ⟨_, rfl⟩
              have HPL : Hid (pg.length = 200) := by rw [← HPG.out]; exact List.length_replicate ..
              have HRE : Hid (readO (apSt br xs i) (k : Int) = (0, pg)) := by show _ = _; rw [HRD.out, if_neg hkb, if_neg (by decide), HPG.out]
              rw [HPG.out] at Z61
              clear HRD HHL HHV hkb
              go_wp2_with fail
              refine (dread_any (k : Int) C61.out).mono ?_
              rw [HRE.out]
              rintro e W62 ⟨v62, A62, n62, c62, rfl, he62, ho62, hb62⟩
              obtain rfl : 200 = n62 := by rw [← ho62.len]; exact HPL.out.symm
              have X62 := Lib.hid (Rest.new ho62 C61.out.lt)
              have S62 := Lib.hid (below_chain S61.out hb62)
              have C62 := Lib.hid (C61.out.since hb62)
              have P62 := Lib.hid (P61.out.since hb62)
              have Q62 := Lib.hid (Q61.out.since hb62)
              have Z62 := Lib.hid (Z61.out.since hb62)
              obtain rfl := he62.nil
              clear he62
              clear ho62 hb62 S61 C61 P61 Q61 Z61
              go_wp2_with fail
              refine (same_since _ _ 200 _ _ pg _ (by omega) X62.out.own.bytes Z62.out.own.bytes).mono ?_
              rintro e W63 ⟨rfl, hb63⟩
              have S63 := Lib.hid (below_chain S62.out hb63)
              have C63 := Lib.hid (C62.out.since hb63)
              have P63 := Lib.hid (P62.out.since hb63)
              have Q63 := Lib.hid (Q62.out.since hb63)
              clear hb63 X62 Z62 S62 C62 P62 Q62
              go_wp2_with fail
              go_roundw
              case rel => exact ⟨k + 1, by go_num, by omega, C63, P63, Q63, S63⟩
              case measure => simp [intOf]; omega
        · skip
          go_wp2_with fail
          refine (dawake_any _).mono ?_
          rintro e W91 ⟨rfl, hb91⟩
          have S91 := Lib.hid (below_chain HB.out hb91.out)
          go_wp2_with fail
          go_ret
          exact ⟨rfl, S91⟩
end Go.Proofs.Ytfhfjfgajbgdcaa
