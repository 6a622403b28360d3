/- The landed table: compare, the searches, seek. Conditions: the table's cells. -/
import Derived.Test.YthamnmadgfmbkaaTabSays
set_option linter.unusedVariables false
set_option linter.unusedSimpArgs false
namespace Go.Proofs.Ythamnmadgfmbkaa
open Go.RowKit

def cmpT (p a : Int) : Int := if p < a then -1 else if a < p then 1 else 0
theorem cmpT_lt {p a : Int} : cmpT p a < 0 ↔ p < a := by
  unfold cmpT
  by_cases h1 : p < a
  · simp [h1]
  · by_cases h2 : a < p <;> simp [h1, h2]
theorem cmpT_eq {p a : Int} : cmpT p a = 0 ↔ p = a := by
  unfold cmpT
  by_cases h1 : p < a
  · simp [h1]; omega
  · by_cases h2 : a < p
    · simp [h1, h2]; omega
    · simp [h1, h2]; omega
theorem isnan_any (x : Int) (w : World) : Calls Try.prog 47 #[.int .u64 x] w fun e w' => e = .returned (.bool false) ∧ w' = w := by
  go_enter Try.func47, Try.ntmps47
  go_wp2
  go_ret
  simp
theorem cmp_any (x a : Int) (w : World) : Calls Try.prog 42 #[.int .u64 x, .int .u64 a] w fun e w' => e = .returned (.int .i64 (cmpT x a)) ∧ w' = w := by
  unfold cmpT
  by_cases h1 : x < a
  · rw [if_pos h1]
    go_enter Try.func42, Try.ntmps42
    go_wp2_with fail
    refine (isnan_any x w).mono ?_
    rintro e W1 ⟨rfl, rfl⟩
    go_wp2_with fail
    refine (isnan_any a _).mono ?_
    rintro e W1 ⟨rfl, rfl⟩
    go_wp2_with fail
    go_ret
    exact ⟨rfl, rfl⟩
  · rw [if_neg h1]
    by_cases h2 : a < x
    · rw [if_pos h2]
      go_enter Try.func42, Try.ntmps42
      go_wp2_with fail
      refine (isnan_any x w).mono ?_
      rintro e W1 ⟨rfl, rfl⟩
      go_wp2_with fail
      refine (isnan_any a _).mono ?_
      rintro e W1 ⟨rfl, rfl⟩
      go_wp2_with fail
      go_ret
      exact ⟨rfl, rfl⟩
    · rw [if_neg h2]
      go_enter Try.func42, Try.ntmps42
      go_wp2_with fail
      refine (isnan_any x w).mono ?_
      rintro e W1 ⟨rfl, rfl⟩
      go_wp2_with fail
      refine (isnan_any a _).mono ?_
      rintro e W1 ⟨rfl, rfl⟩
      go_wp2_with fail
      go_ret
      exact ⟨rfl, rfl⟩
theorem compare_any (x : E) (a : Int) (w : World) : Calls Try.prog 35 #[entV x, .int .u64 a] w (SaysI w (cmpT x.addr a)) := by
  obtain ⟨xa, xp, xd, xs⟩ := x
  unfold entV
  dsimp only
  have S0 : Hid (Below w.heap.size w (w.alloc (.cells #[.int .u64 xa, .int .i64 xp, .bool xd, .int .i64 xs] 32))) := (Below.refl _ _).alloc (Nat.le_refl _) _
  go_enter Try.func35, Try.ntmps35
  go_wp2_with fail
  refine (cmp_any xa a _).mono ?_
  rintro e W1 ⟨rfl, rfl⟩
  go_wp2_with fail
  go_ret
  exact ⟨rfl, S0⟩
/-- The number of entries ahead, and whether one stands there. -/
def whereT (l : List E) (a : Int) : Value := .tuple #[.int .i64 (aheadT l a : Nat), .bool (getT l a).isSome]
set_option maxHeartbeats 4000000 in
theorem bsearch_any (A : Option Addr) (n c : Nat) (l : List E) (a : Int) (w : World) (hs : Srt l) (hn : n ≤ 120) (hA : entK.Lie w w.heap.size A n l) :
    Calls Try.prog 36 #[.slice A n c, .int .u64 a, .func (.func 35) #[] #[]] w fun e w' => e = .returned (whereT l a) ∧ Hid (Below w.heap.size w w') := by
  have HL : Hid (l.length = n) := hA.len
  have HS := Lib.hid hs
  have HA := Lib.hid hA
  obtain ⟨k, HK⟩ : ∃ k, Hid (aheadT l a = k) := ⟨_, rfl⟩
  have hkn : k ≤ n := by rw [← HK.out, ← HL.out]; exact ahead_le l a
  have S0 := Lib.hid (Below.refl w.heap.size w)
  unfold whereT
  rw [HK.out]
  obtain ⟨g, HG⟩ : ∃ g, Hid ((getT l a).isSome = g) := ⟨_, rfl⟩
  rw [HG.out]
  clear hs hA
  go_enter Try.func36, Try.ntmps36
  go_wp2_with fail
  go_loopw [9, 10] (fun t9 t10 wr => ∃ i j : Nat, t9 = .int .i64 i ∧ t10 = .int .i64 j ∧ i ≤ k ∧ k ≤ j ∧ j ≤ n ∧ Hid (Below w.heap.size w wr)) (fun t9 t10 _ => (intOf t10).toNat - (intOf t9).toNat)
  case atStart => exact ⟨0, n, rfl, rfl, Nat.zero_le _, hkn, Nat.le_refl _, S0⟩
  case round =>
    clear S0
    obtain ⟨i, j, rfl, rfl, hik, hkj, hjn, HB⟩ := hrel
    by_cases hlt : i < j
    · obtain ⟨q, hq⟩ : ∃ q, q = (i + j) / 2 := ⟨_, rfl⟩
      have hltz : (i : Int) < (j : Int) := by omega
      have hqz : ((i : Int) + (j : Int)) / 2 = (q : Int) := by omega
      have hq1 : i ≤ q := by omega
      have hq2 : q < j := by omega
      have hqn : q < n := by omega
      clear hq
      obtain ⟨ad, rfl, hblk, hat⟩ := ent_at (HA.out.below HB.out) hqn
      obtain ⟨⟨ya, yp, yd, yq⟩, HX⟩ : ∃ x, Hid (l.getD q E.zero = x) := ⟨_, rfl⟩
      rw [show getEn l q = ⟨ya, yp, yd, yq⟩ from HX.out] at hat
      have HLT : Hid (ya < a ↔ q < k) := by
        have := ahead_lt (a := a) HS.out (i := q) (by rw [HL.out]; exact hqn)
        rw [HX.out, HK.out] at this; exact this
      obtain ⟨e0, e1, e2, e3⟩ := hat
      dsimp only at e0 e1 e2 e3
      have i0 : (0 : Int) ≤ (q : Int) := by omega
      have i1 : (q : Int) < (n : Int) := by omega
      have C := Lib.hid (compare_any ⟨ya, yp, yd, yq⟩ a wr)
      unfold entV at C
      dsimp only at C
      go_wp2_with fail
      refine C.out.mono ?_
      rintro e W1 ⟨rfl, hb⟩
      have B1 := Lib.hid (below_chain HB.out hb.out)
      clear hb C e0 e1 e2 e3 hqz
      by_cases hv : ya < a
      · have hv2 : cmpT ya a < 0 := cmpT_lt.2 hv
        have hqk : q < k := HLT.out.1 hv
        go_wp2_with fail
        go_roundw
        case rel => exact ⟨q + 1, j, by go_num, rfl, hqk, hkj, hjn, B1⟩
        case measure => simp [intOf]; omega
      · have hv2 : ¬ cmpT ya a < 0 := fun h => hv (cmpT_lt.1 h)
        have hqk : k ≤ q := Nat.le_of_not_lt fun h => hv (HLT.out.2 h)
        go_wp2_with fail
        go_roundw
        case rel => exact ⟨i, q, rfl, rfl, hik, hqk, by omega, B1⟩
        case measure => simp [intOf]; omega
    · obtain rfl : i = k := by omega
      by_cases hin : i < n
      · have hinz : (i : Int) < (n : Int) := by omega
        obtain ⟨ad, rfl, hblk, hat⟩ := ent_at (HA.out.below HB.out) hin
        obtain ⟨⟨ya, yp, yd, yq⟩, HX⟩ : ∃ x, Hid (l.getD i E.zero = x) := ⟨_, rfl⟩
        rw [show getEn l i = ⟨ya, yp, yd, yq⟩ from HX.out] at hat
        obtain ⟨e0, e1, e2, e3⟩ := hat
        dsimp only at e0 e1 e2 e3
        have i0 : (0 : Int) ≤ (i : Int) := by omega
        have C := Lib.hid (compare_any ⟨ya, yp, yd, yq⟩ a wr)
        unfold entV at C
        dsimp only at C
        have HGE : Hid ((cmpT ya a == 0) = g) := by
          show _ = _
          rw [← HG.out]
          by_cases hv : ya = a
          · have h1 := get_ahead_some HS.out (a := a) (by rw [HK.out, HL.out]; exact hin) (by rw [HK.out, HX.out]; exact hv)
            rw [h1, cmpT_eq.2 hv]; rfl
          · have h1 := get_ahead_none HS.out (a := a) (fun _ => by rw [HK.out, HX.out]; exact hv)
            rw [h1]
            exact beq_eq_false_iff_ne.2 fun h => hv (cmpT_eq.1 h)
        go_wp2_with fail
        refine C.out.mono ?_
        rintro e W1 ⟨rfl, hb⟩
        have B1 := Lib.hid (below_chain HB.out hb.out)
        clear hb C e0 e1 e2 e3
        go_wp2_with fail
        go_ret2
        rw [HGE.out]
        exact ⟨rfl, B1⟩
      · have HGE : Hid (g = false) := by
          show _ = _
          rw [← HG.out, get_ahead_none HS.out (a := a) (fun h => by rw [HK.out, HL.out] at h; omega)]; rfl
        go_wp2_with fail
        go_ret2
        rw [HGE.out]
        exact ⟨rfl, HB⟩
end Go.Proofs.Ythamnmadgfmbkaa
