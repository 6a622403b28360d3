/- SumMores answers true, for all sums and bytes. Conditions: what the two tables hold; the slices' cells. -/
import Derived.Test.YteglhfimmbphmaaDoorAppend
set_option linter.unusedVariables false
set_option linter.unusedSimpArgs false
namespace Go.Proofs.YteglhfimmbphmaaDoor
open Go.RowKit

theorem mores_long (x1 x2 : Int) (A A' : Option Addr) (n c n' c' : Nat) (w : World) (hT : Tabs w) (hn : n ≤ 9223372036854775807) (hn' : n' ≤ 9223372036854775807) (hl : 200 < n ∨ 200 < n') :
    Calls Tryd.prog 7 #[.int .u32 x1, .int .u32 x2, .slice A n c, .slice A' n' c'] w fun e w' => e = .returned (.bool true) ∧ Below w.heap.size w w' := by
  have HT := Lib.hid hT
  clear hT
  have hl' : (200 < n) ∨ (¬ 200 < n ∧ 200 < n') := by omega
  clear hl
  rcases hl' with h1 | ⟨h1, h2⟩
  all_goals
    go_enter Tryd.func7, Tryd.ntmps7
    go_wp2_with fail
    refine (awake_any _ HT.out).mono ?_
    rintro e w' ⟨rfl, hb⟩
    go_wp2_with fail
    go_ret
    exact ⟨rfl, hb⟩

/- the new row of two slices -/
theorem of_two {W : World} {A A' : Option Addr} {n n' : Nat} {us bs : List Nat} (c c' : Nat) (hT : Tabs W) (hA : Bytes W W.heap.size A n us) (hn : n ≤ 9223372036854775807) (hB : Bytes W W.heap.size A' n' bs) (hn' : n' ≤ 9223372036854775807) :
    Calls Tryd.prog 11 #[.slice (some ⟨W.heap.size, 0, none⟩) 2 2] (W.alloc (.cells #[.slice A n c, .slice A' n' c'] 24)) fun e w' => e = .returned (.int .u32 ((Crc.more 0#32 (us ++ bs)).toNat : Int)) ∧
      Below W.heap.size W w' := by
  have hp : Parts (W.alloc (.cells #[.slice A n c, .slice A' n' c'] 24)) (W.alloc (.cells #[.slice A n c, .slice A' n' c'] 24)).heap.size (some ⟨W.heap.size, 0, none⟩) 2 [us, bs] :=
    parts_new _ _ _ 2 [us, bs] rfl rfl fun k hk => by
      rcases (by omega : k = 0 ∨ k = 1) with rfl | rfl
      · exact ⟨A, n, c, rfl, hn, hA⟩
      · exact ⟨A', n', c', rfl, hn', hB⟩
  have := of_since (some ⟨W.heap.size, 0, none⟩) 2 2 [us, bs] (W.alloc (.cells #[.slice A n c, .slice A' n' c'] 24)) (by omega) (hT.alloc _) hp
  rw [show ([us, bs] : List (List Nat)).flatten = us ++ bs by simp] at this
  exact this.mono fun e w' ⟨he, hb⟩ => ⟨he, below_chain ((Below.refl _ _).alloc (Nat.le_refl _) _) hb⟩
theorem of_single {W : World} {A : Option Addr} {n : Nat} {bs : List Nat} (c : Nat) (hT : Tabs W) (h : Bytes W W.heap.size A n bs) (hn : n ≤ 9223372036854775807) :
    Calls Tryd.prog 11 #[.slice (some ⟨W.heap.size, 0, none⟩) 1 1] (W.alloc (.cells #[.slice A n c] 24)) fun e w' => e = .returned (.int .u32 ((Crc.more 0#32 bs).toNat : Int)) ∧ Below W.heap.size W w' :=
  (of_one c hT h hn).mono fun e w' ⟨he, m, hw⟩ => ⟨he, hw ▸ below_drewN ((Below.refl _ _).alloc (Nat.le_refl _) _) m⟩

set_option maxHeartbeats 8000000 in
theorem mores_short (x1 x2 : Int) (s t : BitVec 32) (A A' : Option Addr) (n c n' c' : Nat) (us bs : List Nat) (w : World) (h0 : 0 ≤ x1) (h1 : x1 ≤ 4294967295) (HX : Hid (x1 = ((s.toNat : Nat) : Int)))
    (h0' : 0 ≤ x2) (h1' : x2 ≤ 4294967295) (HX' : Hid (x2 = ((t.toNat : Nat) : Int))) (hn : n ≤ 200) (hn' : n' ≤ 200) (hT : Tabs w) (hA : Bytes w w.heap.size A n us) (hB : Bytes w w.heap.size A' n' bs) :
    Calls Tryd.prog 7 #[.int .u32 x1, .int .u32 x2, .slice A n c, .slice A' n' c'] w fun e w' => e = .returned (.bool true) ∧ Below w.heap.size w w' := by
  obtain ⟨A1, c1, W1, hr1, ho1, hS1⟩ := append_bytes w w (Below.refl _ _) (.slice none 0 0) 0 [] (World.ownsRow_nil _ _ _ _) A n c us hA (by omega)
  obtain ⟨A2, c2, W2, hr2, ho2, hS2⟩ := append_bytes w W1 hS1 _ (0 + n) ([] ++ us) ho1 A' n' c' bs (hB.since hS1) (by omega)
  simp only [Nat.zero_add, List.nil_append] at hr1 hr2 ho1 ho2
  have hAB := own_bytes ho2 (getD_append _ _ hA.small hB.small)
  have HAB := Lib.hid hAB
  have R1 := Lib.hid hr1
  have R2 := Lib.hid hr2
  have HT := Lib.hid hT
  have HA := Lib.hid hA
  have HB := Lib.hid hB
  obtain ⟨X, hX0, hX1, EX⟩ : ∃ X : Int, 0 ≤ X ∧ X ≤ 4294967295 ∧ Hid (X = (((Crc.more s (us ++ bs)).toNat : Nat) : Int)) := ⟨_, by omega, bv_le _, rfl⟩
  obtain ⟨Y, hY0, hY1, EY⟩ : ∃ Y : Int, 0 ≤ Y ∧ Y ≤ 4294967295 ∧ Hid (Y = (((Crc.more t (us ++ bs)).toNat : Nat) : Int)) := ⟨_, by omega, bv_le _, rfl⟩
  obtain ⟨Z, hZ0, hZ1, EZ⟩ : ∃ Z : Int, 0 ≤ Z ∧ Z ≤ 4294967295 ∧ Hid (Z = (((Crc.more s us).toNat : Nat) : Int)) := ⟨_, by omega, bv_le _, rfl⟩
  obtain ⟨V, EV⟩ : ∃ V : Int, Hid (V = (((Crc.more 0#32 (us ++ bs)).toNat : Nat) : Int)) := ⟨_, rfl⟩
  have hXY : X = Y ↔ x1 = x2 := by
    rw [EX.out, EY.out, HX.out, HX'.out]
    constructor
    · intro h
      have : Crc.more s (us ++ bs) = Crc.more t (us ++ bs) := BitVec.eq_of_toNat_eq (by omega)
      rw [Crc.more_inj _ this]
    · intro h
      have : s = t := BitVec.eq_of_toNat_eq (by omega)
      rw [this]
  have S2 := Lib.hid hS2
  clear hr1 hr2 ho1 ho2 hAB hT hA hB hS1 hS2
  by_cases hst : x1 = x2
  all_goals
    have hxy : X = Y ∨ ¬ X = Y := Classical.em _
    rcases hxy with hxy | hxy
  case pos.inr => exact absurd (hXY.2 hst) hxy
  case neg.inl => exact absurd (hXY.1 hxy) hst
  all_goals
    clear hXY
    first
      | (obtain rfl : x1 = x2 := hst
         obtain rfl : X = Y := hxy)
      | (have b1 : (x1 == x2) = false := by simpa using hst
         have b2 : (X == Y) = false := by simpa using hxy)
    go_enter Tryd.func7, Tryd.ntmps7
    go_wp2_with (at_builtin; first
      | (refine wpList_append_run rfl (.const (.slice none 0 0)) (.tmp 21) 24 rfl rfl rfl R1.out ?_)
      | (refine wpList_append_run rfl (.tmp 22) (.tmp 23) 24 rfl rfl rfl R2.out ?_))
    refine (more_since x1 s A2 (n + n') c2 (us ++ bs) _ h0 h1 HX (by omega) (HT.out.since S2.out) HAB.out).mono ?_
    rw [← EX.out]
    rintro e W3 ⟨rfl, b3⟩
    go_wp2_with fail
    refine (more_since _ t A2 (n + n') c2 (us ++ bs) _ h0' h1' HX' (by omega) ((HT.out.since S2.out).since b3) (HAB.out.since b3)).mono ?_
    rw [← EY.out]
    rintro e W4 ⟨rfl, b4⟩
    have S4 := below_chain (below_chain S2.out b3) b4
    go_wp2_with fail
    refine (more_since x1 s A n c us _ h0 h1 HX (by omega) (HT.out.since S4) (HA.out.since S4)).mono ?_
    rw [← EZ.out]
    rintro e W5 ⟨rfl, b5⟩
    have S5 := below_chain S4 b5
    go_wp2_with fail
    refine (more_since Z (Crc.more s us) A' n' c' bs _ hZ0 hZ1 EZ (by omega) (HT.out.since S5) (HB.out.since S5)).mono ?_
    rw [← Crc.more_append, ← EX.out]
    rintro e W6 ⟨rfl, b6⟩
    have S6 := below_chain S5 b6
    go_wp2_with fail
    refine (more_since x1 s none 0 0 [] _ h0 h1 HX (by omega) (HT.out.since S6) Bytes.none_).mono ?_
    rw [Crc.more_nil, ← HX.out]
    rintro e W7 ⟨rfl, b7⟩
    have S7 := below_chain S6 b7
    go_wp2_with fail
    refine (of_two c c' (HT.out.since S7) (HA.out.since S7) (by omega) (HB.out.since S7) (by omega)).mono ?_
    rw [← EV.out]
    rintro e W8 ⟨rfl, b8⟩
    have S8 := below_chain S7 b8
    go_wp2_with fail
    refine (of_single c2 (HT.out.since S8) (HAB.out.since (below_chain (below_chain (below_chain (below_chain (below_chain b3 b4) b5) b6) b7) b8)) (by omega)).mono ?_
    rw [← EV.out]
    rintro e W9 ⟨rfl, b9⟩
    have S9 := below_chain S8 b9
    go_wp2_with fail
    refine (num_nil _).mono ?_
    rintro e w' ⟨rfl, rfl⟩
    go_wp2_with fail
    refine (awake_any _ (HT.out.since S9)).mono ?_
    rintro e w' ⟨rfl, hb⟩
    go_wp2_with fail
    go_ret
    exact ⟨rfl, below_chain S9 hb⟩
theorem mores_law (x1 x2 : Int) (A : Option Addr) (n c : Nat) (us : List Nat) (A' : Option Addr) (n' c' : Nat) (bs : List Nat) (h0 : 0 ≤ x1) (h1 : x1 ≤ 4294967295) (h0' : 0 ≤ x2) (h1' : x2 ≤ 4294967295)
    (hn : n ≤ 9223372036854775807) (hn' : n' ≤ 9223372036854775807) (w : World) (hT : Tabs w) (hA : Bytes w w.heap.size A n us) (hB : Bytes w w.heap.size A' n' bs) :
    Calls Tryd.prog 7 #[.int .u32 x1, .int .u32 x2, .slice A n c, .slice A' n' c'] w fun e w' => e = .returned (.bool true) ∧ Below w.heap.size w w' := by
  by_cases hl : 200 < n ∨ 200 < n'
  · exact mores_long x1 x2 A A' n c n' c' w hT hn hn' hl
  · obtain ⟨s, hs⟩ := bv_of h0 h1
    obtain ⟨t, ht⟩ := bv_of h0' h1'
    exact mores_short x1 x2 s t A A' n c n' c' us bs w h0 h1 hs h0' h1' ht (by omega) (by omega) hT hA hB
end Go.Proofs.YteglhfimmbphmaaDoor
