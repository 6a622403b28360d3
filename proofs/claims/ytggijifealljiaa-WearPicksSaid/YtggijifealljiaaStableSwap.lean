/- slices.SortStableFunc's helpers: a range exchanged, two parts that change their places. Conditions: the row's cells; at most 8000 elements. -/
import Derived.Test.YtggijifealljiaaStableRow
import Derived.LoopTactic
set_option linter.unusedVariables false
set_option linter.unusedSimpArgs false
namespace Go.Proofs.Ytggijifealljiaa
open Go.RowKit

section
variable {g n c : Nat} {W0 : World} {V : List Int}
set_option maxHeartbeats 2000000 in
theorem swaprange_any (fv : Value) (a b k : Nat) (X U Z T Y : List Int) (w : World) (hn : n ≤ 8000) (S0 : SRow g n c W0 V w) (e : V = X ++ (U ++ (Z ++ (T ++ Y)))) (ha : X.length = a) (hu : U.length = k) (hb : a + k + Z.length = b) (ht : T.length = k) :
    Calls Try.prog 36 #[.slice (some ⟨g, 0, none⟩) n c, .int .i64 a, .int .i64 b, .int .i64 k, fv] w (Sorts g n c W0 (X ++ (T ++ (Z ++ (U ++ Y))))) := by
  have H0 : Hid (SRow g n c W0 (X ++ (T.take 0 ++ (U.drop 0 ++ (Z ++ (U.take 0 ++ (T.drop 0 ++ Y)))))) w) := S0.same (by rw [e]; simp)
  have HN : b + k ≤ n := by rw [← S0.len, e]; simp; omega
  have HA := Lib.hid ha
  have HU := Lib.hid hu
  have HB := Lib.hid hb
  have HT := Lib.hid ht
  have hab : a + k ≤ b := by omega
  clear S0 e ha hu hb ht
  go_enter Try.func36, Try.ntmps36
  go_wp2_with fail
  go_loopw [10] (fun t10 wr => ∃ t : Nat, t10 = .int .i64 t ∧ t ≤ k ∧ Hid (SRow g n c W0 (X ++ (T.take t ++ (U.drop t ++ (Z ++ (U.take t ++ (T.drop t ++ Y)))))) wr)) (fun t10 _ => k - (intOf t10).toNat)
  case atStart => exact ⟨0, rfl, Nat.zero_le _, H0⟩
  case round =>
    obtain ⟨t, rfl, htk, HS⟩ := hrel
    by_cases hlt : t < k
    · have hltz : (t : Int) < (k : Int) := by omega
      obtain ⟨x, HX⟩ : ∃ x, Hid (x = U.getD t 0) := ⟨_, rfl⟩
      obtain ⟨y, HY⟩ : ∃ y, Hid (y = T.getD t 0) := ⟨_, rfl⟩
      have HV : Hid (X ++ (T.take t ++ (U.drop t ++ (Z ++ (U.take t ++ (T.drop t ++ Y))))) = (X ++ T.take t) ++ x :: ((U.drop (t + 1) ++ (Z ++ U.take t)) ++ y :: (T.drop (t + 1) ++ Y))) := by
        show _ = _
        rw [drop_cons (d := 0) (L := U) (by rw [HU.out]; exact hlt), drop_cons (d := 0) (L := T) (by rw [HT.out]; exact hlt), HX.out, HY.out]
        simp
      have HV2 : Hid ((X ++ T.take t) ++ y :: ((U.drop (t + 1) ++ (Z ++ U.take t)) ++ x :: (T.drop (t + 1) ++ Y)) = X ++ (T.take (t + 1) ++ (U.drop (t + 1) ++ (Z ++ (U.take (t + 1) ++ (T.drop (t + 1) ++ Y)))))) := by
        show _ = _
        rw [take_snoc (d := 0) (L := U) (by rw [HU.out]; exact hlt), take_snoc (d := 0) (L := T) (by rw [HT.out]; exact hlt), HX.out, HY.out]
        simp
      have e1 : a + t = (X ++ T.take t).length := by rw [List.length_append, List.length_take, HA.out, HT.out]; omega
      have e2 : b + t = (X ++ T.take t).length + 1 + (U.drop (t + 1) ++ (Z ++ U.take t)).length := by
        have := HB.out
        rw [← e1]; simp only [List.length_append, List.length_drop, List.length_take, HU.out]; omega
      have c1 := HS.out.at_ HV.out e1
      have c2 : wr.cell? ⟨g, b + t, none⟩ = some (.int .i64 y) := HS.out.at_ (P := (X ++ T.take t) ++ x :: (U.drop (t + 1) ++ (Z ++ U.take t))) (S := T.drop (t + 1) ++ Y) (HV.out.trans (by simp)) (by rw [e2]; simp; omega)
      have f1 := HS.out.free (a + t)
      have f2 := HS.out.free (b + t)
      have NS : Hid (SRow g n c W0 (X ++ (T.take (t + 1) ++ (U.drop (t + 1) ++ (Z ++ (U.take (t + 1) ++ (T.drop (t + 1) ++ Y)))))) ((wr.setCell ⟨g, a + t, none⟩ (.int .i64 y)).setCell ⟨g, b + t, none⟩ (.int .i64 x))) := (HS.out.swap HV.out e1 e2).same HV2.out
      have i0 : (0 : Int) ≤ (a : Int) + (t : Int) := by omega
      have i1 : (a : Int) + (t : Int) < (n : Int) := by omega
      have i2 : (0 : Int) ≤ (b : Int) + (t : Int) := by omega
      have i3 : (b : Int) + (t : Int) < (n : Int) := by omega
      have w1 : IntKind.i64.wrap ((a : Int) + (t : Int)) = (a : Int) + (t : Int) := by rw [IntKind.wrap_i64]; omega
      have w2 : IntKind.i64.wrap ((b : Int) + (t : Int)) = (b : Int) + (t : Int) := by rw [IntKind.wrap_i64]; omega
      have z1 : ((a : Int) + (t : Int)).toNat = a + t := by omega
      have z2 : ((b : Int) + (t : Int)).toNat = b + t := by omega
      clear e1 e2 HV HV2 HS HX HY
      go_wp2_with fail
      go_region
      have NS2 := Lib.hid (NS.out.drewN 1)
      clear NS c1 c2 f1 f2
      go_wp2_with fail
      go_roundw
      case rel => exact ⟨t + 1, by go_num, by omega, NS2⟩
      case measure => simp [intOf]; omega
    · obtain rfl : t = k := by omega
      have HE : Hid (X ++ (T.take t ++ (U.drop t ++ (Z ++ (U.take t ++ (T.drop t ++ Y))))) = X ++ (T ++ (Z ++ (U ++ Y)))) := by
        show _ = _
        rw [List.take_of_length_le (l := T) (by rw [HT.out]; exact Nat.le_refl _), List.take_of_length_le (l := U) (by rw [HU.out]; exact Nat.le_refl _), List.drop_of_length_le (l := U) (by rw [HU.out]; exact Nat.le_refl _), List.drop_of_length_le (l := T) (by rw [HT.out]; exact Nat.le_refl _)]
        simp
      have HF := Lib.hid (HS.out.same HE.out)
      clear HS HE
      go_wp2_with fail
      go_end0
      exact ⟨rfl, HF⟩
/-- What is to be done yet: the parts U and T are to change their places. -/
structure Rot (g n c m i j : Nat) (W0 : World) (G : List Int) (W : World) (P U T S : List Int) : Prop where
  row : SRow g n c W0 (P ++ (U ++ (T ++ S))) W
  goal : P ++ (T ++ (U ++ S)) = G
  lm : P.length + U.length = m
  lu : U.length = i
  lt : T.length = j
theorem tk_dr {α : Type} (k : Nat) (U Z : List α) : U.take k ++ (U.drop k ++ Z) = U ++ Z := by rw [← List.append_assoc, List.take_append_drop]
section
variable {m i j : Nat} {G : List Int} {w : World} {P U T S : List Int} (fv : Value) (hn : n ≤ 8000) (h : Rot g n c m i j W0 G w P U T S)
include hn h
theorem rot_left (hij : j < i) : Calls Try.prog 36 #[.slice (some ⟨g, 0, none⟩) n c, .int .i64 ((m : Int) - (i : Int)), .int .i64 m, .int .i64 j, fv] w fun e w' => e = .returned (.tuple #[]) ∧ Hid (∃ P U T S, Rot g n c m (i - j) j W0 G w' P U T S) := by
  have l1 := h.lm; have l2 := h.lu; have l3 := h.lt
  have C := swaprange_any fv P.length m j P (U.take j) (U.drop j) T S w hn h.row (by rw [tk_dr]) rfl (by rw [List.length_take]; omega) (by rw [List.length_drop]; omega) h.lt
  rw [show ((P.length : Nat) : Int) = (m : Int) - (i : Int) by omega] at C
  refine C.mono fun e w' hw => ⟨hw.1, P ++ T, U.drop j, U.take j, S, ?_, ?_, ?_, ?_, ?_⟩
  · exact hw.2.out.same (by simp)
  · rw [← h.goal, tk_dr]; simp
  · rw [List.length_append, List.length_drop]; omega
  · rw [List.length_drop]; omega
  · rw [List.length_take]; omega
theorem rot_right (h0 : 0 < i) (hij : i < j) : Calls Try.prog 36 #[.slice (some ⟨g, 0, none⟩) n c, .int .i64 ((m : Int) - (i : Int)), .int .i64 ((m : Int) + (j : Int) - (i : Int)), .int .i64 i, fv] w fun e w' => e = .returned (.tuple #[]) ∧ Hid (∃ P U T S, Rot g n c m i (j - i) W0 G w' P U T S) := by
  have l1 := h.lm; have l2 := h.lu; have l3 := h.lt
  have C := swaprange_any fv P.length (m + j - i) i P U (T.take (j - i)) (T.drop (j - i)) S w hn h.row (by rw [tk_dr]) rfl l2 (by rw [List.length_take]; omega) (by rw [List.length_drop]; omega)
  rw [show ((P.length : Nat) : Int) = (m : Int) - (i : Int) by omega, show ((m + j - i : Nat) : Int) = (m : Int) + (j : Int) - (i : Int) by omega] at C
  refine C.mono fun e w' hw => ⟨hw.1, P, T.drop (j - i), T.take (j - i), U ++ S, ?_, ?_, ?_, ?_, ?_⟩
  · exact hw.2.out.same (by simp)
  · rw [← h.goal, tk_dr]
  · rw [List.length_drop]; omega
  · rw [List.length_drop]; omega
  · rw [List.length_take]; omega
theorem rot_last (hij : i = j) : Calls Try.prog 36 #[.slice (some ⟨g, 0, none⟩) n c, .int .i64 ((m : Int) - (i : Int)), .int .i64 m, .int .i64 i, fv] w (Sorts g n c W0 G) := by
  have l1 := h.lm; have l2 := h.lu; have l3 := h.lt
  have hs := h.row
  have C := swaprange_any fv P.length m i P U [] T S w hn hs rfl rfl l2 (by simp; omega) (by omega)
  rw [show ((P.length : Nat) : Int) = (m : Int) - (i : Int) by omega] at C
  exact C.mono fun e w' hw => ⟨hw.1, hw.2.out.same (by rw [← h.goal]; simp)⟩
end
set_option maxHeartbeats 2000000 in
theorem rotate_any (fv : Value) (a m b : Nat) (X U T Y : List Int) (w : World) (hn : n ≤ 8000) (S0 : SRow g n c W0 (X ++ (U ++ (T ++ Y))) w) (ha : X.length = a) (hm : a + U.length = m) (hb : m + T.length = b) (hu : 0 < U.length) (ht : 0 < T.length) :
    Calls Try.prog 35 #[.slice (some ⟨g, 0, none⟩) n c, .int .i64 a, .int .i64 m, .int .i64 b, fv] w (Sorts g n c W0 (X ++ (T ++ (U ++ Y)))) := by
  have HN : b ≤ n := by rw [← S0.len]; simp; omega
  obtain ⟨i0, hi0⟩ : ∃ i, i = m - a := ⟨_, rfl⟩
  obtain ⟨j0, hj0⟩ : ∃ j, j = b - m := ⟨_, rfl⟩
  have hR : Rot g n c m i0 j0 W0 (X ++ (T ++ (U ++ Y))) w X U T Y := ⟨S0, rfl, by omega, by omega, by omega⟩
  have H0 : Hid (∃ P U' T' S, Rot g n c m i0 j0 W0 (X ++ (T ++ (U ++ Y))) w P U' T' S) := ⟨X, U, T, Y, hR⟩
  have hi1 : 0 < i0 := by omega
  have hj1 : 0 < j0 := by omega
  have e2 : Hid ((m : Int) - (a : Int) = (i0 : Int)) := by show _ = _; omega
  have e3 : Hid ((b : Int) - (m : Int) = (j0 : Int)) := by show _ = _; omega
  have hmj : i0 ≤ m ∧ m + j0 ≤ n := by omega
  obtain ⟨G, HG⟩ : ∃ G, Hid (G = X ++ (T ++ (U ++ Y))) := ⟨_, rfl⟩
  rw [← HG.out] at H0 ⊢
  clear hR S0 HG hi0 hj0 hu ht
  have ha' : a ≤ m := by omega
  have hb' : m ≤ b := by omega
  clear ha hm hb
  go_enter Try.func35, Try.ntmps35
  go_wp2_with fail
  rw [e2.out, e3.out]
  clear e2 e3
  go_loopw [10, 11] (fun t10 t11 wr => ∃ i j : Nat, t10 = .int .i64 i ∧ t11 = .int .i64 j ∧ 0 < i ∧ 0 < j ∧ i ≤ m ∧ m + j ≤ n ∧ Hid (∃ P U T S, Rot g n c m i j W0 G wr P U T S)) (fun t10 t11 _ => (intOf t10).toNat + (intOf t11).toNat)
  case atStart => exact ⟨i0, j0, rfl, rfl, hi1, hj1, hmj.1, hmj.2, H0⟩
  case round =>
    clear H0
    obtain ⟨i, j, rfl, rfl, hi, hj, him, hjm, HS⟩ := hrel
    obtain ⟨P, U1, T1, S1, hR⟩ := HS.out
    by_cases hne : i = j
    · subst hne
      have C := Lib.hid (rot_last fv hn hR rfl)
      clear HS hR
      go_wp2_with fail
      refine C.out.mono ?_
      rintro e w' ⟨rfl, HR⟩
      go_wp2_with fail
      go_end0
      exact ⟨rfl, HR⟩
    · by_cases hlt : j < i
      · have C := Lib.hid (rot_left fv hn hR hlt)
        clear HS hR
        have hz : ¬ (i : Int) = (j : Int) := by omega
        have hz2 : (j : Int) < (i : Int) := by omega
        go_wp2_with fail
        refine C.out.mono ?_
        rintro e w' ⟨rfl, HR⟩
        go_wp2_with fail
        go_roundw
        case rel => exact ⟨i - j, j, by go_num, rfl, by omega, hj, by omega, by omega, HR⟩
        case measure => simp [intOf]; omega
      · have hlt' : i < j := by omega
        have C := Lib.hid (rot_right fv hn hR hi hlt')
        clear HS hR
        have hz : ¬ (i : Int) = (j : Int) := by omega
        have hz2 : ¬ (j : Int) < (i : Int) := by omega
        go_wp2_with fail
        refine C.out.mono ?_
        rintro e w' ⟨rfl, HR⟩
        go_wp2_with fail
        go_roundw
        case rel => exact ⟨i, j - i, rfl, by go_num, hi, by omega, by omega, by omega, HR⟩
        case measure => simp [intOf]; omega
end
end Go.Proofs.Ytggijifealljiaa
