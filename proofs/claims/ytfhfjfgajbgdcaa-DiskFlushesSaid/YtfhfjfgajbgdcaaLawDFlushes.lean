/- DiskFlushes: true, whatever its arguments are. Conditions: the list's cells. -/
import Derived.Test.YtfhfjfgajbgdcaaLawDApart
import Derived.Test.YtfhfjfgajbgdcaaBits1
set_option linter.unusedVariables false
set_option linter.unusedSimpArgs false
namespace Go.Proofs.Ytfhfjfgajbgdcaa
open Go.RowKit

def atF (xs : List Int) (i : Nat) : Nat := (lowM (xs.getD i 0) 5).toNat
theorem atF_cast (xs : List Int) (i : Nat) : lowM (xs.getD i 0) 5 = ((atF xs i : Nat) : Int) := by
  unfold atF
  have := lowM_bd (xs.getD i 0) 5 (by omega)
  omega
theorem atF_lt (xs : List Int) (i : Nat) : atF xs i < 5 := by
  have h := atF_cast xs i
  have := lowM_bd (xs.getD i 0) 5 (by omega)
  omega
/-- What stands behind j of the waiting ones: what is firm, and whether it is. -/
def firmF (xs : List Int) (ws : List Nat) (l : List Int) : Nat → List Int
  | 0 => l
  | j + 1 => (firmF xs ws l j).set (atF xs (ws.getD j 0)) ((ws.getD j 0 : Nat) : Int)
def hasF (xs : List Int) (ws : List Nat) (l : List Bool) : Nat → List Bool
  | 0 => l
  | j + 1 => (hasF xs ws l j).set (atF xs (ws.getD j 0)) true
def sectF (xs : List Int) (ws : List Nat) (F : List (List Nat)) : Nat → List (List Nat)
  | 0 => F
  | j + 1 => (sectF xs ws F j).set (atF xs (ws.getD j 0)) (fillL ((ws.getD j 0 : Nat) : Int) 128)
def waitF (xs : List Int) (ws : List Nat) : List (Int × List Nat) := ws.map fun j => ((atF xs j : Int), fillL (j : Int) 128)
def flSt (xs : List Int) (F : List (List Nat)) (ws : List Nat) : RD := ⟨F, waitF xs ws, List.replicate 5 false, 128⟩
/-- What is firm is what the arrays tell. -/
structure Firm (F : List (List Nat)) (l : List Int) (b : List Bool) : Prop where
  fl : F.length = 5
  ll : l.length = 5
  bl : b.length = 5
  each : ∀ a, a < 5 → F.getD a [] = if b.getD a false = true then fillL (l.getD a 0) 128 else List.replicate 128 0
section
variable {xs : List Int} {ws : List Nat} {F : List (List Nat)} {l : List Int} {b : List Bool}
theorem Firm.start : Firm (List.replicate 5 (List.replicate 128 0)) (List.replicate 5 0) (List.replicate 5 false) :=
  ⟨List.length_replicate .., List.length_replicate .., List.length_replicate .., fun a ha => by
    rw [List.getD_eq_getElem?_getD, List.getElem?_replicate, if_pos ha, List.getD_eq_getElem?_getD, List.getElem?_replicate, if_pos ha]; rfl⟩
theorem Firm.set (h : Firm F l b) {a : Nat} (ha : a < 5) (x : Int) : Firm (F.set a (fillL x 128)) (l.set a x) (b.set a true) :=
  ⟨by rw [List.length_set]; exact h.fl, by rw [List.length_set]; exact h.ll, by rw [List.length_set]; exact h.bl, fun c hc => by
    rw [getD_set _ _ _ _ _ (by rw [h.fl]; exact ha), getD_set _ _ _ _ _ (by rw [h.bl]; exact ha), getD_set _ _ _ _ _ (by rw [h.ll]; exact ha)]
    by_cases e : c = a
    · rw [if_pos e, if_pos e, if_pos e, if_pos rfl]
    · rw [if_neg e, if_neg e, if_neg e]; exact h.each c hc⟩
theorem Firm.all (h : Firm F l b) : ∀ j, Firm (sectF xs ws F j) (firmF xs ws l j) (hasF xs ws b j)
  | 0 => h
  | j + 1 => (h.all j).set (atF_lt xs _) _
theorem fl_fresh : freshD 5 128 [] = flSt xs (List.replicate 5 (List.replicate 128 0)) [] := rfl
theorem fl_write (hF : F.length = 5) (i : Nat) : (afterWrite (flSt xs F ws) (atF xs i : Int) (fillL (i : Int) 128), writeO (flSt xs F ws) (atF xs i : Int) (fillL (i : Int) 128).length) = (flSt xs F (ws ++ [i]), 0) := by
  have hlt := atF_lt xs i
  have w0 : writeO (flSt xs F ws) (atF xs i : Int) (fillL (i : Int) 128).length = 0 := by
    unfold writeO
    rw [fillL_len, if_neg (by
      show ¬ ((atF xs i : Int) < 0 ∨ (F.length : Int) ≤ (atF xs i : Int) ∨ 128 ≠ 128)
      rw [hF]; omega), Int.toNat_natCast, if_neg (by
      show ¬ (List.replicate 5 false).getD (atF xs i) false = true
      rw [List.getD_eq_getElem?_getD, List.getElem?_replicate, if_pos hlt]; decide)]
  unfold afterWrite
  rw [w0, if_pos rfl]
  unfold flSt waitF
  rw [List.map_append]; rfl
theorem waitF_at {k : Nat} (hk : k < ws.length) : waitAt (waitF xs ws) k = ((atF xs (ws.getD k 0) : Int), fillL ((ws.getD k 0 : Nat) : Int) 128) := by
  unfold waitAt waitF
  rw [List.getD_eq_getElem?_getD, List.getElem?_map, List.getD_eq_getElem?_getD, List.getElem?_eq_getElem hk]; rfl
theorem fl_crashS : ∀ j, j ≤ ws.length → crashS [true] (waitF xs ws) F j = (sectF xs ws F j, j)
  | 0, _ => rfl
  | j + 1, hj => by
    have hk : keepB [true] j = true := by unfold keepB; rw [show [true].length = 1 from rfl, Nat.mod_one]; rfl
    unfold crashS
    rw [if_pos hk, waitF_at (show j < ws.length by omega), fl_crashS j (by omega)]
    dsimp only
    rw [Int.toNat_natCast]; rfl
theorem fl_crash : (afterCrash (flSt xs F ws) [true], crashN (flSt xs F ws) [true]) = (flSt xs (sectF xs ws F ws.length) [], ws.length) := by
  unfold afterCrash crashN
  rw [show (flSt xs F ws).W = waitF xs ws from rfl, show (flSt xs F ws).F = F from rfl, show (waitF xs ws).length = ws.length by unfold waitF; rw [List.length_map], fl_crashS _ (Nat.le_refl _)]
  rfl
theorem crashS_none {keep : List Bool} (h : ∀ j, keepB keep j = false) (W : List (Int × List Nat)) (F : List (List Nat)) : ∀ j, crashS keep W F j = (F, 0)
  | 0 => rfl
  | j + 1 => by unfold crashS; rw [if_neg (by rw [h j]; decide)]; exact crashS_none h W F j
theorem fl_lost {keep : List Bool} (h : ∀ j, keepB keep j = false) : (afterCrash (flSt xs F ws) keep, crashN (flSt xs F ws) keep) = (flSt xs F [], 0) := by
  unfold afterCrash crashN
  rw [crashS_none h]; rfl
theorem lost_none (j : Nat) : keepB [] j = false := rfl
theorem lost_two (j : Nat) : keepB [false, false] j = false := by
  unfold keepB
  have : j % 2 = 0 ∨ j % 2 = 1 := by omega
  rw [show [false, false].length = 2 from rfl]
  rcases this with h | h <;> rw [h] <;> rfl
theorem fl_waits : (flSt xs F ws).W.map (·.1) = ws.map fun j => (atF xs j : Int) := by
  show (waitF xs ws).map (·.1) = _
  unfold waitF
  rw [List.map_map]; rfl
theorem fl_read (h : Firm F l b) {a : Nat} (ha : a < 5) : readO (flSt xs F []) (a : Int) = (0, if b.getD a false = true then fillL (l.getD a 0) 128 else List.replicate 128 0) := by
  have hw : whyO (flSt xs F []) (a : Int) = 0 := by
    unfold whyO
    rw [if_neg (by show ¬ ((a : Int) < 0 ∨ (F.length : Int) ≤ (a : Int)); rw [h.fl]; omega), Int.toNat_natCast, if_neg (by
      show ¬ (List.replicate 5 false).getD a false = true
      rw [List.getD_eq_getElem?_getD, List.getElem?_replicate, if_pos ha]; decide)]
  unfold readO
  rw [if_pos hw]
  show (0, F.getD (a : Int).toNat []) = _
  rw [Int.toNat_natCast, h.each a ha]
end
theorem map_snoc (xs : List Int) (ws : List Nat) (k : Nat) (hk : k < ws.length) : ((ws.take (k + 1)).map fun j => (atF xs j : Int)) = ((ws.take k).map fun j => (atF xs j : Int)) ++ [(atF xs (ws.getD k 0) : Int)] := by
  rw [List.take_add_one, List.getElem?_eq_getElem hk, List.map_append, List.getD_eq_getElem?_getD, List.getElem?_eq_getElem hk]; rfl
/-- What is waited for. -/
def idxL (ws : List Nat) : List Int := ws.map fun (j : Nat) => (j : Int)
theorem idxL_at {ws : List Nat} {k : Nat} (hk : k < ws.length) : (idxL ws).getD k 0 = ((ws.getD k 0 : Nat) : Int) := by
  unfold idxL
  rw [List.getD_eq_getElem?_getD, List.getElem?_map, List.getD_eq_getElem?_getD, List.getElem?_eq_getElem hk]; rfl
def atsL (xs : List Int) (ws : List Nat) : List Int := ws.map fun j => (atF xs j : Int)
theorem getD_all {ws : List Nat} {n : Nat} (h : ∀ j ∈ ws, j < n) {k : Nat} (hk : k < ws.length) : ws.getD k 0 < n := h _ (getD_mem_lt hk 0)
theorem at_wf (xs : List Int) (i : Nat) : intK.wf ((atF xs i : Nat) : Int) := by
  have := atF_lt xs i
  exact ⟨by omega, by omega⟩
theorem T5 : intK.T ≠ 56 ∧ intK.T ≠ 57 := by decide
/-- One more is firm: both arrays. -/
theorem arrays_put {fp fq : Nat → Prop} {W : World} {q6 q7 a : Nat} {l : List Int} {b : List Bool} (h6 : RestC fp W q6 (intsC l) 56) (h7 : RestC fp W q7 (boolsC b) 57) (hq : q6 ≠ q7) (x : Int) :
    RestC fp ((W.setCell ⟨q6, a, none⟩ (.int .i64 x)).setCell ⟨q7, a, none⟩ (.bool true)) q6 (intsC (l.set a x)) 56 ∧ RestC fp ((W.setCell ⟨q6, a, none⟩ (.int .i64 x)).setCell ⟨q7, a, none⟩ (.bool true)) q7 (boolsC (b.set a true)) 57
    ∧ Turn (fun c => c = q6 ∨ c = q7) W ((W.setCell ⟨q6, a, none⟩ (.int .i64 x)).setCell ⟨q7, a, none⟩ (.bool true)) := by
  have n6 := (h6.put a (.int .i64 x)).other hq a (.bool true)
  have n7 := (h7.other (c := q6) (fun e => hq e.symm) a (.int .i64 x)).put a (.bool true)
  rw [intsC_set] at n6
  rw [boolsC_set] at n7
  exact ⟨n6, n7, (Turn.of_setCell (fp := fun b => b = q6 ∨ b = q7) ⟨q6, a, none⟩ (.int .i64 x) (Or.inl rfl)).trans (Turn.of_setCell (fp := fun b => b = q6 ∨ b = q7) ⟨q7, a, none⟩ (.bool true) (Or.inr rfl)) fun b hb => Or.inl hb⟩
theorem restK_turn {fp : Nat → Prop} {W W' : World} {q6 q7 base : Nat} {A : Option Addr} {n c : Nat} {vs : List Int} {cs ds : Array Value} (h : RestK intK fp W base A n c vs) (h6 : RestC fp W q6 cs 56) (h7 : RestC fp W q7 ds 57) (ht : Turn (fun b => b = q6 ∨ b = q7) W W') : RestK intK fp W' base A n c vs :=
  ⟨Row.at_block h.row fun b hb => ht.block b (Row.blk_lt h.row b hb) fun hq => by
    obtain ⟨cur, hc⟩ := Row.typed h.row b hb
    rcases hq with rfl | rfl
    · exact T5.1 (other_type hc h6.row)
    · exact T5.2 (other_type hc h7.row), h.safe⟩
set_option maxHeartbeats 64000000 in
set_option maxRecDepth 20000 in
theorem dflushes_law (A : Option Addr) (n c : Nat) (xs : List Int) (x : Int) (w : World) (hn : n ≤ 9223372036854775807) (hA : intK.Lie w w.heap.size A n xs) :
    Calls Try.prog 6 #[.slice A n c, .int .i64 x] w (SaysB w true) := by
  by_cases h30 : 30 < n
  · clear hA
    go_enter Try.func6, Try.ntmps6
    go_wp2_with fail
    refine (dawake_any _).mono ?_
    rintro e W1 ⟨rfl, hb⟩
    go_wp2_with fail
    go_ret
    exact ⟨rfl, hb⟩
  have hn30 : n ≤ 30 := by omega
  have HA := Lib.hid hA
  clear hA h30
  obtain ⟨F0, HF0⟩ : ∃ F0 : List (List Nat), Hid (List.replicate 5 (List.replicate 128 0) = F0) := ⟨_, rfl⟩
  have HFR : Hid (freshD 5 128 [] = flSt xs F0 []) := by show _ = _; rw [← HF0.out]; rfl
  have HFM : Hid (Firm F0 (List.replicate 5 0) (List.replicate 5 false)) := by rw [← HF0.out]; exact Firm.start
  go_enter Try.func6, Try.ntmps6
  go_wp2_with fail
  refine (dnew_any 5 128 none 0 0 [] _ (by omega) Kind.Lie.none_).mono ?_
  rw [if_pos (show mayD 5 128 = true from rfl), show freshD (5 : Int).toNat (128 : Int).toNat [] = flSt xs F0 [] from HFR.out]
  rintro e W0 ⟨gd, fD, rfl, hc0, hb0⟩
  go_wp2_with fail
  refine (dnew_any 5 128 none 0 0 [] _ (by omega) Kind.Lie.none_).mono ?_
  rw [if_pos (show mayD 5 128 = true from rfl), show freshD (5 : Int).toNat (128 : Int).toNat [] = flSt xs F0 [] from HFR.out]
  rintro e W1 ⟨gk, fK, rfl, hc1, hb1⟩
  have TW1 : Hid (Two fD fK) := fun b h1 h2 => by have h3 := hc0.lt b h1; have h4 := hc1.ge b h2; omega
  have C1 := Lib.hid (hc0.since hb1)
  have K1 := Lib.hid (hc1.elder hb0.size)
  have S1 := Lib.hid (below_chain hb0 hb1)
  clear hc0 hb0 hc1 hb1 HFR
  go_wp2_with fail
  have P6 : Hid (RestC (Or2 fD fK) (W1.alloc (.cells (intsC (List.replicate 5 0)) 56)) W1.heap.size (intsC (List.replicate 5 0)) 56) := RestC.new W1 _ _ (fun b h => h.elim (C1.out.lt b) (K1.out.lt b))
  have b6 := later_alloc W1 (.cells (intsC (List.replicate 5 0)) 56)
  obtain ⟨V1, HV1⟩ : ∃ V1 : World, Hid (V1 = W1.alloc (.cells (intsC (List.replicate 5 0)) 56)) := ⟨_, rfl⟩
  rw [← HV1.out] at P6 b6
  have C2 := Lib.hid (C1.out.since b6)
  have K2 := Lib.hid (K1.out.since b6)
  have S2 := Lib.hid (below_chain S1.out b6)
  have P7 : Hid (RestC (Or2 fD fK) (V1.alloc (.cells (boolsC (List.replicate 5 false)) 57)) V1.heap.size (boolsC (List.replicate 5 false)) 57) := RestC.new V1 _ _ (fun b h => h.elim (C2.out.lt b) (K2.out.lt b))
  have b7 := later_alloc V1 (.cells (boolsC (List.replicate 5 false)) 57)
  have P6b := Lib.hid (P6.out.since b7)
  obtain ⟨q6, HQ6⟩ : ∃ q6, Hid (W1.heap.size = q6) := ⟨_, rfl⟩
  obtain ⟨q7, HQ7⟩ : ∃ q7, Hid (V1.heap.size = q7) := ⟨_, rfl⟩
  have hq67 : q6 ≠ q7 := by rw [← HQ6.out, ← HQ7.out]; have := P6.out.lt; omega
  have hq6w : w.heap.size ≤ q6 := by rw [← HQ6.out]; exact S1.out.size
  have hq7w : w.heap.size ≤ q7 := by rw [← HQ7.out]; exact S2.out.size
  have C3 := Lib.hid (C2.out.since b7)
  have K3 := Lib.hid (K2.out.since b7)
  have S3 := Lib.hid (below_chain S2.out b7)
  obtain ⟨V2, HV2⟩ : ∃ V2 : World, Hid (V2 = V1.alloc (.cells (boolsC (List.replicate 5 false)) 57)) := ⟨_, rfl⟩
  have HQ7b : Hid (W1.heap.size + 1 = q7) := by show _ = _; rw [← HQ7.out, HV1.out]; simp
  rw [show (W1.alloc (.cells #[.int .i64 0, .int .i64 0, .int .i64 0, .int .i64 0, .int .i64 0] 56)) = V1 from HV1.out.symm, show (V1.alloc (.cells #[.bool false, .bool false, .bool false, .bool false, .bool false] 57)) = V2 from HV2.out.symm, HQ7b.out, HQ6.out]
  rw [← HV2.out] at P7 P6b C3 K3 S3
  rw [HQ7.out] at P7
  rw [HQ6.out] at P6b
  clear P6 b6 b7 C1 C2 K1 K2 S1 S2 HV1 HV2 HQ7b HQ6 HQ7 HF0
  go_loopw [9, 10] (fun t9 t10 wr => ∃ (i m : Nat) (ws : List Nat) (F : List (List Nat)) (l : List Int) (b : List Bool) (fD fK : Nat → Prop) (AW : Option Addr) (cW : Nat), t9 = .slice AW m cW ∧ t10 = .int .i64 i ∧ i ≤ n ∧ m ≤ i ∧ Hid (ws.length = m) ∧ Hid (∀ j ∈ ws, j < n) ∧ Hid (Firm F l b) ∧ Hid (DiskAt wr w.heap.size fD gd (flSt xs F ws)) ∧ Hid (DiskAt wr w.heap.size fK gk (flSt xs F ws)) ∧ Hid (Two fD fK) ∧ Hid (RestK intK (Or2 fD fK) wr w.heap.size AW m cW (idxL ws)) ∧ Hid (RestC (Or2 fD fK) wr q6 (intsC l) 56) ∧ Hid (RestC (Or2 fD fK) wr q7 (boolsC b) 57) ∧ Hid (Below w.heap.size w wr)) (fun _ t10 _ => n - (intOf t10).toNat)
  case atStart => exact ⟨0, 0, [], F0, List.replicate 5 0, List.replicate 5 false, fD, fK, none, 0, rfl, rfl, Nat.zero_le _, Nat.le_refl _, rfl, fun j hj => (by cases hj), HFM, C3, K3, TW1, ⟨Kind.Row.none_, fun b hb => (by cases hb)⟩, P6b, P7, S3⟩
  clear C3 K3 S3 P6b P7 HFM TW1
  case round =>
    obtain ⟨Wa, rfl⟩ : ∃ Wa, Wa = wr := ⟨_, rfl⟩
    obtain ⟨i, m, ws, F, l, b, fD, fK, AW, cW, rfl, rfl, hi, hm, HWL, HWN, HF, HC, HK, HT, HWR, H6, H7, HB⟩ := hrel
    have i0 : (0 : Int) ≤ (i : Int) := by omega
    have hwl0 : (flSt xs F ws).W.length = m := by show (waitF xs ws).length = m; unfold waitF; rw [List.length_map]; exact HWL.out
    by_cases hlt : i < n
    · skip
      have i1 : (i : Int) < (n : Int) := by omega
      obtain ⟨ad, rfl, hblk, hc⟩ := int_at (HA.out.since HB.out) hlt
      have HAT := Lib.hid (atF_cast xs i)
      obtain ⟨y, HY⟩ : ∃ y, Hid (xs.getD i 0 = y) := ⟨_, rfl⟩
      rw [HY.out] at hc HAT
      have hat5 := atF_lt xs i
      have HWM := Lib.hid (fl_write (xs := xs) (ws := ws) HF.out.fl i)
      obtain ⟨at_, HATN⟩ : ∃ a : Nat, Hid (atF xs i = a) := ⟨_, rfl⟩
      rw [HATN.out] at HAT hat5 HWM
      have a0 : (0 : Int) ≤ (at_ : Int) := by omega
      have a5 : (at_ : Int) < 5 := by omega
      have hwl : (flSt xs F ws).W.length < 1000 := by omega
      clear hwl0
      obtain ⟨si, HSI⟩ : ∃ si, Hid (flSt xs F ws = si) := ⟨_, rfl⟩
      obtain ⟨sj, HSJ⟩ : ∃ sj, Hid (flSt xs F (ws ++ [i]) = sj) := ⟨_, rfl⟩
      rw [HSI.out] at HC HK HWM hwl
      rw [HSJ.out] at HWM
      obtain ⟨fy, HFY⟩ : ∃ fy, Hid (fillL (i : Int) 128 = fy) := ⟨_, rfl⟩
      rw [HFY.out] at HWM
      go_wp2_with fail
      refine (low_any y 5 (by omega) (by omega) _).mono ?_
      rw [HAT.out]
      rintro e w' ⟨rfl, rfl⟩
      clear hc
      go_wp2_with fail
      refine (fill_any (i : Int) 128 _ (by omega)).mono ?_
      rintro e W21 ⟨A21, n21, c21, rfl, ho21, hb21⟩
      obtain rfl : 128 = n21 := by rw [← ho21.len, fillL_len]
      have F21 := Lib.hid (Rest.new (fp := Or2 fD fK) ho21 (fun b h => h.elim (HC.out.lt b) (HK.out.lt b)))
      have S21 := Lib.hid (below_chain HB.out hb21)
      have C21 := Lib.hid (HC.out.since hb21)
      have P21 := Lib.hid (H6.out.since hb21)
      have Q21 := Lib.hid (H7.out.since hb21)
      have V21 := Lib.hid (HWR.out.since hb21)
      have K21 := Lib.hid (HK.out.since hb21)
      clear hb21 ho21 HB HC H6 H7 HWR HK
      rw [HFY.out] at F21
      go_wp2_with fail
      refine (dwrite_any (at_ : Int) _ _ _ _ C21.out hwl F21.out.own.bytes (fun b hb h => F21.out.safe b hb (Or.inl h)) (by omega)).mono ?_
      rw [HWM.out]
      rintro e W22 ⟨v22, fp22, rfl, he22, hc22, hs22⟩
      obtain rfl := he22.nil
      have S22 := Lib.hid ((hs22.orL fK).below S21.out (fun b h => h.elim (C21.out.ge b) (K21.out.ge b)) S21.out.size)
      have P22 := Lib.hid (P21.out.step (hs22.orL fK))
      have Q22 := Lib.hid (Q21.out.step (hs22.orL fK))
      have V22 := Lib.hid (V21.out.step (hs22.orL fK))
      have F22 := Lib.hid (F21.out.step (hs22.orL fK))
      have K22 := Lib.hid (K21.out.keep hs22.turn HT.out)
      have TW22 := Lib.hid (HT.out.left hs22 K21.out.lt)
      have C22 := Lib.hid hc22
      clear he22 hc22 hs22 S21 P21 Q21 V21 F21 K21 HT C21
      go_wp2_with fail
      refine (fill_any (i : Int) 128 _ (by omega)).mono ?_
      rintro e W23 ⟨A23, n23, c23, rfl, ho23, hb23⟩
      obtain rfl : 128 = n23 := by rw [← ho23.len, fillL_len]
      have F23 := Lib.hid (Rest.new (fp := Or2 fp22 fK) ho23 (fun b h => h.elim (C22.out.lt b) (K22.out.lt b)))
      have S23 := Lib.hid (below_chain S22.out hb23)
      have C23 := Lib.hid (C22.out.since hb23)
      have P23 := Lib.hid (P22.out.since hb23)
      have Q23 := Lib.hid (Q22.out.since hb23)
      have V23 := Lib.hid (V22.out.since hb23)
      have K23 := Lib.hid (K22.out.since hb23)
      clear hb23 ho23 S22 C22 P22 Q22 V22 K22
      rw [HFY.out] at F23
      go_wp2_with fail
      refine (dwrite_any (at_ : Int) _ _ _ _ K23.out hwl F23.out.own.bytes (fun b hb h => F23.out.safe b hb (Or.inr h)) (by omega)).mono ?_
      rw [HWM.out]
      rintro e W24 ⟨v24, fp24, rfl, he24, hc24, hs24⟩
      obtain rfl := he24.nil
      have S24 := Lib.hid ((hs24.orR fp22).below S23.out (fun b h => h.elim (C23.out.ge b) (K23.out.ge b)) S23.out.size)
      have P24 := Lib.hid (P23.out.step (hs24.orR fp22))
      have Q24 := Lib.hid (Q23.out.step (hs24.orR fp22))
      have V24 := Lib.hid (V23.out.step (hs24.orR fp22))
      have F24 := Lib.hid (F23.out.step (hs24.orR fp22))
      have C24 := Lib.hid (C23.out.keep hs24.turn TW22.out.flip)
      have TW24 := Lib.hid (TW22.out.right hs24 C23.out.lt)
      have K24 := Lib.hid hc24
      clear he24 hc24 hs24 S23 P23 Q23 V23 F23 K23 TW22 C23
      obtain ⟨m2, HM2⟩ : ∃ m2, m2 = m + 1 := ⟨_, rfl⟩
      obtain ⟨ws2, HWS⟩ : ∃ ws2, Hid (ws ++ [i] = ws2) := ⟨_, rfl⟩
      have HWL2 : Hid (ws2.length = m2) := by show _ = _; rw [← HWS.out, List.length_append, HWL.out, HM2]; rfl
      have HWN2 : Hid (∀ j ∈ ws2, j < n) := fun j hj => by
        rw [← HWS.out] at hj
        rcases List.mem_append.1 hj with h | h
        · exact HWN.out j h
        · rw [List.mem_singleton.1 h]; exact hlt
      rw [HWS.out] at HSJ
      obtain ⟨A25, c25, W25, hr25, ho25, ht25⟩ := V24.out.append S24.out.size (fun b h => h.elim (C24.out.lt b) (K24.out.lt b)) (i : Int) ⟨by omega, by omega⟩ #[.int .i64 (i : Int)] rfl (by omega)
      rw [← HM2] at hr25 ho25
      have R25 := Lib.hid hr25
      rw [show idxL ws ++ [(i : Int)] = idxL ws2 by rw [← HWS.out]; unfold idxL; rw [List.map_append]; rfl] at ho25
      have C25 := Lib.hid (C24.out.keep ht25 (fun b hb hf => V24.out.safe b hb (Or.inl hf)))
      have K25 := Lib.hid (K24.out.keep ht25 (fun b hb hf => V24.out.safe b hb (Or.inr hf)))
      have P25 := Lib.hid (P24.out.keep ht25 (P24.out.not_row V24.out.row T5.1))
      have Q25 := Lib.hid (Q24.out.keep ht25 (Q24.out.not_row V24.out.row T5.2))
      have V25 := Lib.hid ho25
      have S25 := Lib.hid (ht25.chain S24.out (fun b hb => Row.blk_ge V24.out.row b hb) S24.out.size)
      have hm2 : m2 ≤ i + 1 := by omega
      clear HM2
      clear hr25 ho25 ht25 V24 P24 Q24 C24 K24 S24 HWS HWL HWN
      go_wp2_with (at_builtin; refine wpList_append_run rfl (.tmp 59) (.tmp 61) 22 rfl rfl rfl R25.out ?_)
      clear R25
      go_loopw [12, 13] (fun t12 t13 wr => ∃ (j : Nat) (AN : Option Addr) (cN : Nat), t12 = .slice AN j cN ∧ t13 = .int .i64 j ∧ j ≤ m2 ∧ Hid (intK.Row wr W25.heap.size AN j cN (atsL xs (ws2.take j))) ∧ Hid (Below W25.heap.size W25 wr)) (fun _ t13 _ => m2 - (intOf t13).toNat)
      case atStart => exact ⟨0, none, 0, rfl, rfl, Nat.zero_le _, Kind.Row.none_, Below.refl _ _⟩
      case round =>
        obtain ⟨Wb, rfl⟩ : ∃ Wb, Wb = wr := ⟨_, rfl⟩
        obtain ⟨j, AN, cN, rfl, rfl, hj, HNR, HNB⟩ := hrel
        have j0 : (0 : Int) ≤ (j : Int) := by omega
        by_cases hltj : j < m2
        · skip
          have j1 : (j : Int) < (m2 : Int) := by omega
          obtain ⟨adw, hadw, hblkw, hcw⟩ := int_at ((V25.out.since HNB.out).row.lie) hltj
          obtain ⟨v, HV⟩ : ∃ v : Nat, Hid (ws2.getD j 0 = v) := ⟨_, rfl⟩
          have hvn : v < n := by rw [← HV.out]; exact getD_all HWN2.out (by rw [HWL2.out]; exact hltj)
          rw [idxL_at (by rw [HWL2.out]; exact hltj), HV.out] at hcw
          subst hadw
          have v0 : (0 : Int) ≤ (v : Int) := by omega
          have v1 : (v : Int) < (n : Int) := by omega
          obtain ⟨adx, hadx, hblkx, hcx⟩ := int_at (HA.out.since (below_chain S25.out HNB.out)) hvn
          obtain rfl := Option.some.inj hadx
          have HATV := Lib.hid (atF_cast xs v)
          obtain ⟨y2, HY2⟩ : ∃ y, Hid (xs.getD v 0 = y) := ⟨_, rfl⟩
          rw [HY2.out] at hcx HATV
          obtain ⟨A9, c9, W9, hr9, ho9, hg9⟩ := Kind.append_one_b (K := intK) HNB.out.size HNR.out ((atF xs v : Nat) : Int) (at_wf xs v) #[.int .i64 ((atF xs v : Nat) : Int)] rfl (by omega)
          have R9 := Lib.hid hr9
          have B9 := Lib.hid (HNB.out.grown hg9 HNB.out.size (fun b hb => (HNR.out.row.lt b hb).1))
          have O9 := Lib.hid ho9
          rw [show atsL xs (ws2.take j) ++ [((atF xs v : Nat) : Int)] = atsL xs (ws2.take (j + 1)) by rw [← HV.out]; exact (map_snoc xs ws2 j (by rw [HWL2.out]; exact hltj)).symm] at O9
          clear hr9 ho9 hg9
          go_wp2_with fail
          refine (low_any y2 5 (by omega) (by omega) _).mono ?_
          rw [HATV.out]
          rintro e w' ⟨rfl, rfl⟩
          go_wp2_with (at_builtin; refine wpList_append_run rfl (.tmp 69) (.tmp 78) 22 rfl rfl rfl R9.out ?_)
          go_roundw
          case rel => exact ⟨j + 1, A9, c9, rfl, by go_num, by omega, O9, B9⟩
          case measure => simp [intOf]; omega
        · skip
          obtain rfl : j = m2 := by omega
          rw [List.take_of_length_le (by rw [HWL2.out]; exact Nat.le_refl _)] at HNR
          have HWT : Hid (sj.W.map (·.1) = atsL xs ws2) := by rw [← HSJ.out]; exact fl_waits
          have S26 := Lib.hid (below_chain S25.out HNB.out)
          have C26 := Lib.hid (C25.out.since HNB.out)
          have P26 := Lib.hid (P25.out.since HNB.out)
          have Q26 := Lib.hid (Q25.out.since HNB.out)
          have V26 := Lib.hid (V25.out.since HNB.out)
          have K26 := Lib.hid (K25.out.since HNB.out)
          clear HNB S25 C25 P25 Q25 V25 K25
          have NR26 := HNR
          clear HNR
          go_wp2_with fail
          refine (dwaiting_any C26.out).mono ?_
          rw [HWT.out]
          rintro e W27 ⟨A27, n27, c27, rfl, hi27, hb27⟩
          obtain rfl : j = n27 := by rw [← hi27.out.len]; unfold atsL; rw [List.length_map]; exact HWL2.out.symm
          have NS27 := Lib.hid (NR26.out.since hb27.out)
          have S27 := Lib.hid (below_chain S26.out hb27.out)
          have C27 := Lib.hid (C26.out.since hb27.out)
          have P27 := Lib.hid (P26.out.since hb27.out)
          have Q27 := Lib.hid (Q26.out.since hb27.out)
          have V27 := Lib.hid (V26.out.since hb27.out)
          have K27 := Lib.hid (K26.out.since hb27.out)
          clear NR26 S26 C26 P26 Q26 V26 K26
          go_wp2_with fail
          refine (sameints_yes _ _ j _ _ (atsL xs ws2) _ (by omega) hi27.out.lie NS27.out.lie).mono ?_
          rintro e W28 ⟨rfl, hb28⟩
          have S28 := Lib.hid (below_chain S27.out hb28)
          have C28 := Lib.hid (C27.out.since hb28)
          have P28 := Lib.hid (P27.out.since hb28)
          have Q28 := Lib.hid (Q27.out.since hb28)
          have V28 := Lib.hid (V27.out.since hb28)
          have K28 := Lib.hid (K27.out.since hb28)
          clear hi27 hb27 NS27 hb28 S27 C27 P27 Q27 V27 K27
          obtain ⟨β, HBT⟩ : ∃ β : Int, Hid (bits .and .i64 (x / 2 ^ i) 1 = β) := ⟨_, rfl⟩
          have hβ : β = 0 ∨ β = 1 := by
            rw [← HBT.out, i64_and1]
            omega
          rcases hβ with rfl | rfl
          · go_wp2_with (simp only [HBT.out])
            rw [← HSJ.out] at C28 K28
            go_roundw
            case rel => exact ⟨i + 1, j, ws2, F, l, b, fp22, fp24, A25, c25, rfl, by go_num, by omega, by omega, HWL2, HWN2, HF, C28, K28, TW24, V28, P28, Q28, S28⟩
            case measure => simp [intOf]; omega
          · skip
            have HCP : Hid ((afterCrash sj [true], crashN sj [true]) = (flSt xs (sectF xs ws2 F j) [], j)) := by rw [← HSJ.out, ← HWL2.out]; exact fl_crash
            obtain ⟨sk, HSK⟩ : ∃ sk, Hid (flSt xs (sectF xs ws2 F j) [] = sk) := ⟨_, rfl⟩
            rw [HSK.out] at HCP
            have HCF : Hid (afterCrash sj [true] = sk) := congrArg Prod.fst HCP.out
            have hwj : sj.W.length ≤ 1000 := by rw [← HSJ.out]; show (waitF xs ws2).length ≤ 1000; unfold waitF; rw [List.length_map, HWL2.out]; omega
            go_wp2_with (simp only [HBT.out])
            refine (dflush_any C28.out hwj).mono ?_
            rw [HCF.out]
            rintro e W29 ⟨v29, fp29, rfl, he29, hc29, hs29⟩
            obtain rfl := he29.nil
            have S29 := Lib.hid ((hs29.orL fp24).below S28.out (fun b h => h.elim (C28.out.ge b) (K28.out.ge b)) S28.out.size)
            have P29 := Lib.hid (P28.out.step (hs29.orL fp24))
            have Q29 := Lib.hid (Q28.out.step (hs29.orL fp24))
            have V29 := Lib.hid (V28.out.step (hs29.orL fp24))
            have K29 := Lib.hid (K28.out.keep hs29.turn TW24.out)
            have TW29 := Lib.hid (TW24.out.left hs29 K28.out.lt)
            have C29 := Lib.hid hc29
            clear he29 hc29 hs29 S28 P28 Q28 V28 K28 TW24 C28
            go_wp2_with fail
            have hlt30 := K29.out.lt
            have N30 : Hid (boolK.Lie (W29.alloc (.cells #[.bool true] 4)) (W29.alloc (.cells #[.bool true] 4)).heap.size (some ⟨W29.heap.size, 0, none⟩) 1 [true]) := Kind.new1 (K := boolK) W29 true trivial _ rfl
            have hb30 : Below W29.heap.size W29 (W29.alloc (.cells #[.bool true] 4)) := later_alloc _ _
            have S30 := Lib.hid (below_chain S29.out hb30)
            have C30 := Lib.hid (C29.out.since hb30)
            have P30 := Lib.hid (P29.out.since hb30)
            have Q30 := Lib.hid (Q29.out.since hb30)
            have V30 := Lib.hid (V29.out.since hb30)
            have K30 := Lib.hid (K29.out.since hb30)
            clear hb30 S29 C29 P29 Q29 V29 K29
            refine (dcrash_any (some ⟨W29.heap.size, 0, none⟩) 1 1 [true] K30.out hwj (by omega) N30.out (fun _ b hb hf => by have h1 : b = W29.heap.size := (by simpa [blk] using hb); have h2 := hlt30 b hf; omega)).mono ?_
            rw [HCP.out]
            rintro e W31 ⟨fp31, rfl, hc31, hs31⟩
            have S31 := Lib.hid ((hs31.orR fp29).below S30.out (fun b h => h.elim (C30.out.ge b) (K30.out.ge b)) S30.out.size)
            have P31 := Lib.hid (P30.out.step (hs31.orR fp29))
            have Q31 := Lib.hid (Q30.out.step (hs31.orR fp29))
            have V31 := Lib.hid (V30.out.step (hs31.orR fp29))
            have C31 := Lib.hid (C30.out.keep hs31.turn TW29.out.flip)
            have TW31 := Lib.hid (TW29.out.right hs31 C30.out.lt)
            have K31 := Lib.hid hc31
            clear hc31 hs31 S30 P30 Q30 V30 K30 TW29 C30
            clear N30 hlt30
            go_wp2_with fail
            obtain ⟨m2, HMJ⟩ : ∃ m2, m2 = j := ⟨_, rfl⟩
            have hm3 : m2 ≤ 31 := by omega
            rw [← HMJ] at V31 HWL2 HCP HSK hj ⊢
            go_loopw [14] (fun t14 wr => ∃ (j : Nat), t14 = .int .i64 j ∧ j ≤ m2 ∧ Hid (DiskAt wr w.heap.size fp29 gd sk) ∧ Hid (DiskAt wr w.heap.size fp31 gk sk) ∧ Hid (RestK intK (Or2 fp29 fp31) wr w.heap.size A25 m2 c25 (idxL ws2)) ∧ Hid (RestC (Or2 fp29 fp31) wr q6 (intsC (firmF xs ws2 l j)) 56) ∧ Hid (RestC (Or2 fp29 fp31) wr q7 (boolsC (hasF xs ws2 b j)) 57) ∧ Hid (Below w.heap.size w wr)) (fun t14 _ => m2 - (intOf t14).toNat)
            case atStart => exact ⟨0, rfl, Nat.zero_le _, C31, K31, V31, P31, Q31, S31⟩
            clear C31 K31 V31 P31 Q31 S31
            case round =>
              obtain ⟨Wc, rfl⟩ : ∃ Wc, Wc = wr := ⟨_, rfl⟩
              clear j0 hj HMJ
              obtain ⟨j, rfl, hj, HC, HK, HV_, H6, H7, HB⟩ := hrel
              have j0 : (0 : Int) ≤ (j : Int) := by omega
              by_cases hltj : j < m2
              · skip
                have j1 : (j : Int) < (m2 : Int) := by omega
                obtain ⟨adw, hadw, hblkw, hcw⟩ := int_at (HV_.out.row.lie) hltj
                obtain ⟨v, HV⟩ : ∃ v : Nat, Hid (ws2.getD j 0 = v) := ⟨_, rfl⟩
                have hvn : v < n := by rw [← HV.out]; exact getD_all HWN2.out (by rw [HWL2.out]; exact hltj)
                rw [idxL_at (by rw [HWL2.out]; exact hltj), HV.out] at hcw
                subst hadw
                have v0 : (0 : Int) ≤ (v : Int) := by omega
                have v1 : (v : Int) < (n : Int) := by omega
                obtain ⟨adx, hadx, hblkx, hcx⟩ := int_at (HA.out.since HB.out) hvn
                obtain rfl := Option.some.inj hadx
                have HATV := Lib.hid (atF_cast xs v)
                obtain ⟨y2, HY2⟩ : ∃ y, Hid (xs.getD v 0 = y) := ⟨_, rfl⟩
                rw [HY2.out] at hcx HATV
                have ha5 := atF_lt xs v
                have HL1 : Hid ((firmF xs ws2 l j).set (atF xs v) (v : Int) = firmF xs ws2 l (j + 1)) := by show _ = _; rw [← HV.out]; rfl
                have HH1 : Hid ((hasF xs ws2 b j).set (atF xs v) true = hasF xs ws2 b (j + 1)) := by show _ = _; rw [← HV.out]; rfl
                have hll : (firmF xs ws2 l j).length = 5 := (HF.out.all (xs := xs) (ws := ws2) j).ll
                have hbl : (hasF xs ws2 b j).length = 5 := (HF.out.all (xs := xs) (ws := ws2) j).bl
                obtain ⟨av, HAVN⟩ : ∃ a : Nat, Hid (atF xs v = a) := ⟨_, rfl⟩
                rw [HAVN.out] at HATV ha5 HL1 HH1
                have av0 : (0 : Int) ≤ (av : Int) := by omega
                have av5 : (av : Int) < 5 := by omega
                obtain ⟨n6, n7, nt⟩ := arrays_put (fq := fun _ => False) (a := av) H6.out H7.out hq67 (v : Int)
                rw [HL1.out] at n6
                rw [HH1.out] at n7
                have g6 : Wc.cell? ⟨q6, av, none⟩ = some (.int .i64 ((firmF xs ws2 l j).getD av 0)) := (H6.out.cell av).trans (intsC_at (by rw [hll]; exact ha5))
                have g7 : Wc.cell? ⟨q7, av, none⟩ = some (.bool ((hasF xs ws2 b j).getD av false)) := (H7.out.cell av).trans (boolsC_at (by rw [hbl]; exact ha5))
                obtain ⟨u6, HU6⟩ : ∃ u : Value, Hid (u = .int .i64 ((firmF xs ws2 l j).getD av 0)) := ⟨_, rfl⟩
                obtain ⟨u7, HU7⟩ : ∃ u : Value, Hid (u = .bool ((hasF xs ws2 b j).getD av false)) := ⟨_, rfl⟩
                rw [← HU6.out] at g6
                rw [← HU7.out] at g7
                have f6 := H6.out.free av
                have f7 := H7.out.free av
                have MC := Lib.hid (HC.out.keep nt (fun b hb hf => by rcases hb with rfl | rfl; exact H6.out.safe (Or.inl hf); exact H7.out.safe (Or.inl hf)))
                have MK := Lib.hid (HK.out.keep nt (fun b hb hf => by rcases hb with rfl | rfl; exact H6.out.safe (Or.inr hf); exact H7.out.safe (Or.inr hf)))
                have MV := Lib.hid (restK_turn HV_.out H6.out H7.out nt)
                have MB := Lib.hid (nt.chain HB.out (fun b hb => by rcases hb with rfl | rfl; exact hq6w; exact hq7w) HB.out.size)
                have N6 := Lib.hid n6
                have N7 := Lib.hid n7
                clear n6 n7 nt HC HK HV_ H6 H7 HB HU6 HU7 hll hbl
                go_wp2_with fail
                refine (low_any y2 5 (by omega) (by omega) _).mono ?_
                rw [HATV.out]
                rintro e w' ⟨rfl, rfl⟩
                go_wp2_with fail
                go_roundw
                case rel => exact ⟨j + 1, by go_num, by omega, MC, MK, MV, N6, N7, MB⟩
                case measure => simp [intOf]; omega
              · skip
                obtain rfl : j = m2 := by omega
                have HF2 := Lib.hid (HF.out.all (xs := xs) (ws := ws2) j)
                rw [← HSK.out] at HC HK
                go_wp2_with fail
                go_roundw
                case rel => exact ⟨i + 1, 0, [], _, _, _, fp29, fp31, none, 0, rfl, by go_num, by omega, Nat.zero_le _, rfl, fun j hj => (by cases hj), HF2, HC, HK, TW31, ⟨Kind.Row.none_, fun b hb => (by cases hb)⟩, H6, H7, HB⟩
                case measure => simp [intOf]; omega
    · skip
      obtain ⟨si, HSI⟩ : ∃ si, Hid (flSt xs F ws = si) := ⟨_, rfl⟩
      obtain ⟨se, HSE⟩ : ∃ se, Hid (flSt xs F [] = se) := ⟨_, rfl⟩
      have HL2 := Lib.hid (fl_lost (xs := xs) (F := F) (ws := ws) lost_two)
      have HL0 := Lib.hid (fl_lost (xs := xs) (F := F) (ws := ws) lost_none)
      rw [HSI.out, HSE.out] at HL2 HL0
      have hwi : si.W.length ≤ 1000 := by rw [← HSI.out, hwl0]; omega
      rw [HSI.out] at HC HK
      clear HWR hwl0
      go_wp2_with fail
      have hlt301 := HC.out.lt
      obtain ⟨WF, HWF⟩ : ∃ WF : World, Hid (WF = Wa.alloc (.cells #[.bool false, .bool false] 4)) := ⟨_, rfl⟩
      have N301 : Hid (boolK.Lie WF WF.heap.size (some ⟨Wa.heap.size, 0, none⟩) 2 [false, false]) := by
        rw [HWF.out]
        exact Kind.lie_of rfl (fun v hv => trivial) (by simp) fun j u hu => by
          have hu2 : ([Value.bool false, Value.bool false] : List Value)[j]? = some u := hu
          rw [cell_new]; simpa using hu2
      have hb301 : Below Wa.heap.size Wa WF := by rw [HWF.out]; exact later_alloc _ _
      rw [← HWF.out]
      have S301 := Lib.hid (below_chain HB.out hb301)
      have C301 := Lib.hid (HC.out.since hb301)
      have P301 := Lib.hid (H6.out.since hb301)
      have Q301 := Lib.hid (H7.out.since hb301)
      have K301 := Lib.hid (HK.out.since hb301)
      clear hb301 HB HC H6 H7 HK
      refine (dcrash_any (some ⟨Wa.heap.size, 0, none⟩) 2 2 [false, false] C301.out hwi (by omega) N301.out (fun _ b hb hf => by have h1 : b = Wa.heap.size := (by simpa [blk] using hb); have h2 := hlt301 b hf; omega)).mono ?_
      rw [HL2.out]
      rintro e W302 ⟨fp302, rfl, hc302, hs302⟩
      have S302 := Lib.hid ((hs302.orL fK).below S301.out (fun b h => h.elim (C301.out.ge b) (K301.out.ge b)) S301.out.size)
      have P302 := Lib.hid (P301.out.step (hs302.orL fK))
      have Q302 := Lib.hid (Q301.out.step (hs302.orL fK))
      have K302 := Lib.hid (K301.out.keep hs302.turn HT.out)
      have TW302 := Lib.hid (HT.out.left hs302 K301.out.lt)
      have C302 := Lib.hid hc302
      clear hc302 hs302 S301 P301 Q301 K301 HT C301
      clear N301 hlt301
      go_wp2_with fail
      refine (dcrash_any none 0 0 [] K302.out hwi (by omega) Kind.Lie.none_ (fun h b hb => by cases hb)).mono ?_
      rw [HL0.out]
      rintro e W303 ⟨fp303, rfl, hc303, hs303⟩
      have S303 := Lib.hid ((hs303.orR fp302).below S302.out (fun b h => h.elim (C302.out.ge b) (K302.out.ge b)) S302.out.size)
      have P303 := Lib.hid (P302.out.step (hs303.orR fp302))
      have Q303 := Lib.hid (Q302.out.step (hs303.orR fp302))
      have C303 := Lib.hid (C302.out.keep hs303.turn TW302.out.flip)
      have TW303 := Lib.hid (TW302.out.right hs303 C302.out.lt)
      have K303 := Lib.hid hc303
      clear hc303 hs303 S302 P302 Q302 K302 TW302 C302
      go_wp2_with fail
      go_loopw [16] (fun t16 wr => ∃ (k : Nat), t16 = .int .i64 k ∧ k ≤ 5 ∧ Hid (DiskAt wr w.heap.size fp302 gd se) ∧ Hid (DiskAt wr w.heap.size fp303 gk se) ∧ Hid (RestC (Or2 fp302 fp303) wr q6 (intsC l) 56) ∧ Hid (RestC (Or2 fp302 fp303) wr q7 (boolsC b) 57) ∧ Hid (Below w.heap.size w wr)) (fun t16 _ => 5 - (intOf t16).toNat)
      case atStart => exact ⟨0, rfl, Nat.zero_le _, C303, K303, P303, Q303, S303⟩
      clear C303 K303 P303 Q303 S303
      case round =>
        obtain ⟨Wc, rfl⟩ : ∃ Wc, Wc = wr := ⟨_, rfl⟩
        obtain ⟨k, rfl, hk, HC, HK, H6, H7, HB⟩ := hrel
        have k0 : (0 : Int) ≤ (k : Int) := by omega
        by_cases hltk : k < 5
        · skip
          have k5 : (k : Int) < 5 := by omega
          have HRD := Lib.hid (fl_read (xs := xs) HF.out hltk)
          rw [HSE.out] at HRD
          obtain ⟨hv, HHV⟩ : ∃ hv, Hid (b.getD k false = hv) := ⟨_, rfl⟩
          obtain ⟨lv, HLV⟩ : ∃ lv, Hid (l.getD k 0 = lv) := ⟨_, rfl⟩
          rw [HHV.out, HLV.out] at HRD
          obtain ⟨W401, hr401, hb401, ho401⟩ := made_any 128 128 rfl (by omega) Wc
          have Z401 := Lib.hid (Rest.new (fp := Or2 fp302 fp303) ho401 (fun b h => h.elim (HC.out.lt b) (HK.out.lt b)))
          have S401 := Lib.hid (below_chain HB.out hb401)
          have C401 := Lib.hid (HC.out.since hb401)
          have P401 := Lib.hid (H6.out.since hb401)
          have Q401 := Lib.hid (H7.out.since hb401)
          have K401 := Lib.hid (HK.out.since hb401)
          clear hb401 ho401 HB HC H6 H7 HK
          have g6 : W401.cell? ⟨q6, k, none⟩ = some (.int .i64 lv) := by rw [← HLV.out]; exact (P401.out.cell k).trans (intsC_at (by rw [HF.out.ll]; exact hltk))
          have g7 : W401.cell? ⟨q7, k, none⟩ = some (.bool hv) := by rw [← HHV.out]; exact (Q401.out.cell k).trans (boolsC_at (by rw [HF.out.bl]; exact hltk))
          cases hv with
          | true =>
            obtain ⟨pg, HPG⟩ : ∃ pg, Hid (fillL lv 128 = pg) := ⟨_, rfl⟩
            have HPL : Hid (pg.length = 128) := by rw [← HPG.out]; exact fillL_len _ _
            have HRE : Hid (readO se (k : Int) = (0, pg)) := by show _ = _; rw [HRD.out, if_pos rfl, HPG.out]
            clear HRD HHV
            go_wp2_with fail
            refine (fill_any lv 128 _ (by omega)).mono ?_
            rintro e W402 ⟨A402, n402, c402, rfl, ho402, hb402⟩
            obtain rfl : 128 = n402 := by rw [← ho402.len, fillL_len]
            have G402 := Lib.hid (Rest.new (fp := Or2 fp302 fp303) ho402 (fun b h => h.elim (C401.out.lt b) (K401.out.lt b)))
            have S402 := Lib.hid (below_chain S401.out hb402)
            have C402 := Lib.hid (C401.out.since hb402)
            have P402 := Lib.hid (P401.out.since hb402)
            have Q402 := Lib.hid (Q401.out.since hb402)
            have K402 := Lib.hid (K401.out.since hb402)
            clear hb402 ho402 S401 C401 P401 Q401 K401
            rw [HPG.out] at G402
            go_wp2_with fail
            refine (dread_any (k : Int) C402.out).mono ?_
            rw [HRE.out]
            rintro e W403 ⟨v403, A403, n403, c403, rfl, he403, ho403, hb403⟩
            obtain rfl : 128 = n403 := by rw [← ho403.len]; exact HPL.out.symm
            have X403 := Lib.hid (Rest.new (fp := Or2 fp302 fp303) ho403 (fun b h => h.elim (C402.out.lt b) (K402.out.lt b)))
            obtain rfl := he403.nil
            have S403 := Lib.hid (below_chain S402.out hb403)
            have C403 := Lib.hid (C402.out.since hb403)
            have P403 := Lib.hid (P402.out.since hb403)
            have Q403 := Lib.hid (Q402.out.since hb403)
            have G403 := Lib.hid (G402.out.since hb403)
            have K403 := Lib.hid (K402.out.since hb403)
            clear he403 ho403 hb403 S402 C402 P402 Q402 G402 K402
            go_wp2_with fail
            refine (dread_any (k : Int) K403.out).mono ?_
            rw [HRE.out]
            rintro e W404 ⟨v404, A404, n404, c404, rfl, he404, ho404, hb404⟩
            obtain rfl : 128 = n404 := by rw [← ho404.len]; exact HPL.out.symm
            have Y404 := Lib.hid (Rest.new (fp := Or2 fp302 fp303) ho404 (fun b h => h.elim (C403.out.lt b) (K403.out.lt b)))
            obtain rfl := he404.nil
            have S404 := Lib.hid (below_chain S403.out hb404)
            have C404 := Lib.hid (C403.out.since hb404)
            have P404 := Lib.hid (P403.out.since hb404)
            have Q404 := Lib.hid (Q403.out.since hb404)
            have G404 := Lib.hid (G403.out.since hb404)
            have X404 := Lib.hid (X403.out.since hb404)
            have K404 := Lib.hid (K403.out.since hb404)
            clear he404 ho404 hb404 S403 C403 P403 Q403 G403 X403 K403
            go_wp2_with fail
            refine (same_since _ _ 128 _ _ pg _ (by omega) X404.out.own.bytes G404.out.own.bytes).mono ?_
            rintro e W405 ⟨rfl, hb405⟩
            have S405 := Lib.hid (below_chain S404.out hb405)
            have C405 := Lib.hid (C404.out.since hb405)
            have P405 := Lib.hid (P404.out.since hb405)
            have Q405 := Lib.hid (Q404.out.since hb405)
            have G405 := Lib.hid (G404.out.since hb405)
            have Y405 := Lib.hid (Y404.out.since hb405)
            have K405 := Lib.hid (K404.out.since hb405)
            clear hb405 X404 S404 C404 P404 Q404 G404 Y404 K404
            go_wp2_with fail
            refine (same_since _ _ 128 _ _ pg _ (by omega) Y405.out.own.bytes G405.out.own.bytes).mono ?_
            rintro e W406 ⟨rfl, hb406⟩
            have S406 := Lib.hid (below_chain S405.out hb406)
            have C406 := Lib.hid (C405.out.since hb406)
            have P406 := Lib.hid (P405.out.since hb406)
            have Q406 := Lib.hid (Q405.out.since hb406)
            have K406 := Lib.hid (K405.out.since hb406)
            clear hb406 Y405 G405 S405 C405 P405 Q405 K405
            go_wp2_with fail
            go_roundw
            case rel => exact ⟨k + 1, by go_num, by omega, C406, K406, P406, Q406, S406⟩
            case measure => simp [intOf]; omega
          | false =>
            obtain ⟨pg, HPG⟩ : ∃ pg : List Nat, Hid (List.replicate 128 (0 : Nat) = pg) := ⟨_, rfl⟩
            have HPL : Hid (pg.length = 128) := by rw [← HPG.out]; exact List.length_replicate ..
            have HRE : Hid (readO se (k : Int) = (0, pg)) := by show _ = _; rw [HRD.out, if_neg (by decide), HPG.out]
            rw [HPG.out] at Z401
            clear HRD HHV
            go_wp2_with fail
            refine (dread_any (k : Int) C401.out).mono ?_
            rw [HRE.out]
            rintro e W402 ⟨v402, A402, n402, c402, rfl, he402, ho402, hb402⟩
            obtain rfl : 128 = n402 := by rw [← ho402.len]; exact HPL.out.symm
            have X402 := Lib.hid (Rest.new (fp := Or2 fp302 fp303) ho402 (fun b h => h.elim (C401.out.lt b) (K401.out.lt b)))
            obtain rfl := he402.nil
            have S402 := Lib.hid (below_chain S401.out hb402)
            have C402 := Lib.hid (C401.out.since hb402)
            have P402 := Lib.hid (P401.out.since hb402)
            have Q402 := Lib.hid (Q401.out.since hb402)
            have Z402 := Lib.hid (Z401.out.since hb402)
            have K402 := Lib.hid (K401.out.since hb402)
            clear he402 ho402 hb402 S401 C401 P401 Q401 Z401 K401
            go_wp2_with fail
            refine (dread_any (k : Int) K402.out).mono ?_
            rw [HRE.out]
            rintro e W403 ⟨v403, A403, n403, c403, rfl, he403, ho403, hb403⟩
            obtain rfl : 128 = n403 := by rw [← ho403.len]; exact HPL.out.symm
            have Y403 := Lib.hid (Rest.new (fp := Or2 fp302 fp303) ho403 (fun b h => h.elim (C402.out.lt b) (K402.out.lt b)))
            obtain rfl := he403.nil
            have S403 := Lib.hid (below_chain S402.out hb403)
            have C403 := Lib.hid (C402.out.since hb403)
            have P403 := Lib.hid (P402.out.since hb403)
            have Q403 := Lib.hid (Q402.out.since hb403)
            have Z403 := Lib.hid (Z402.out.since hb403)
            have X403 := Lib.hid (X402.out.since hb403)
            have K403 := Lib.hid (K402.out.since hb403)
            clear he403 ho403 hb403 S402 C402 P402 Q402 Z402 X402 K402
            go_wp2_with fail
            refine (same_since _ _ 128 _ _ pg _ (by omega) X403.out.own.bytes Z403.out.own.bytes).mono ?_
            rintro e W404 ⟨rfl, hb404⟩
            have S404 := Lib.hid (below_chain S403.out hb404)
            have C404 := Lib.hid (C403.out.since hb404)
            have P404 := Lib.hid (P403.out.since hb404)
            have Q404 := Lib.hid (Q403.out.since hb404)
            have Z404 := Lib.hid (Z403.out.since hb404)
            have Y404 := Lib.hid (Y403.out.since hb404)
            have K404 := Lib.hid (K403.out.since hb404)
            clear hb404 X403 S403 C403 P403 Q403 Z403 Y403 K403
            go_wp2_with fail
            refine (same_since _ _ 128 _ _ pg _ (by omega) Y404.out.own.bytes Z404.out.own.bytes).mono ?_
            rintro e W405 ⟨rfl, hb405⟩
            have S405 := Lib.hid (below_chain S404.out hb405)
            have C405 := Lib.hid (C404.out.since hb405)
            have P405 := Lib.hid (P404.out.since hb405)
            have Q405 := Lib.hid (Q404.out.since hb405)
            have K405 := Lib.hid (K404.out.since hb405)
            clear hb405 Y404 Z404 S404 C404 P404 Q404 K404
            go_wp2_with fail
            go_roundw
            case rel => exact ⟨k + 1, by go_num, by omega, C405, K405, P405, Q405, S405⟩
            case measure => simp [intOf]; omega
        · skip
          go_wp2_with fail
          refine (dawake_any _).mono ?_
          rintro e W491 ⟨rfl, hb491⟩
          have S491 := Lib.hid (below_chain HB.out hb491.out)
          go_wp2_with fail
          go_ret
          exact ⟨rfl, S491⟩
end Go.Proofs.Ytfhfjfgajbgdcaa
