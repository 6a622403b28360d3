/- SumFinds answers true: the walk. Conditions: what the two tables hold; the slice's cells. -/
import Derived.Test.YteglhfimmbphmaaDoorLawFinds
set_option linter.unusedVariables false
set_option linter.unusedSimpArgs false
namespace Go.Proofs.YteglhfimmbphmaaDoor
open Go.RowKit

theorem finds_none (A : Option Addr) (n c : Nat) (x p q : Int) (w : World) (hT : Tabs w) (hn : n ≤ 9223372036854775807) (hl : 400 < n ∨ n < 2 ∨ (p = 0 ∧ q = 0)) :
    Calls Tryd.prog 5 #[.slice A n c, .int .i64 x, .int .u8 p, .int .u8 q] w fun e w' => e = .returned (.bool true) ∧ Below w.heap.size w w' := by
  have HT := Lib.hid hT
  clear hT
  have hl' : (400 < n) ∨ (¬ 400 < n ∧ n < 2) ∨ (¬ 400 < n ∧ ¬ n < 2 ∧ p = 0 ∧ q = 0) := by omega
  clear hl
  rcases hl' with h1 | ⟨h1, h2⟩ | ⟨h1, h2, rfl, rfl⟩
  all_goals
    go_enter Tryd.func5, Tryd.ntmps5
    go_wp2_with fail
    refine (awake_any _ HT.out).mono ?_
    rintro e w' ⟨rfl, hb⟩
    go_wp2_with fail
    go_ret
    exact ⟨rfl, hb⟩

set_option maxHeartbeats 2000000 in
theorem finds_some (A : Option Addr) (n c : Nat) (x : Int) (p q : Nat) (P Q : Int) (EP : Hid (P = p)) (EQ : Hid (Q = q)) (bs : List Nat) (w : World) (hn : n ≤ 400) (hn2 : 2 ≤ n) (hp : p < 256) (hq : q < 256) (hpq : ¬ (P = 0 ∧ Q = 0)) (hT : Tabs w) (hA : Bytes w w.heap.size A n bs) :
    Calls Tryd.prog 5 #[.slice A n c, .int .i64 x, .int .u8 P, .int .u8 Q] w fun e w' => e = .returned (.bool true) ∧ Below w.heap.size w w' := by
  obtain ⟨A1, c1, W1, hr1, ho1, hS1⟩ := append_bytes w w (Below.refl _ _) (.slice none 0 0) 0 [] (World.ownsRow_nil _ _ _ _) A n c bs hA (by omega)
  simp only [Nat.zero_add, List.nil_append] at hr1 ho1
  obtain ⟨g, rfl, hM⟩ := mine_of hS1 ho1 (by omega)
  have hbd := lowM_bd x ((n : Int) - 1) (by omega)
  obtain ⟨i, hi, EI⟩ : ∃ i : Nat, i + 1 < n ∧ Hid (lowM x ((n : Int) - 1) = i) := ⟨(lowM x ((n : Int) - 1)).toNat, by omega, by show _ = _; omega⟩
  have K0 : Hid (∀ W, Calls Tryd.prog 16 #[.int .i64 x, .int .i64 ((n : Int) - 1)] W fun e w' => e = .returned (.int .i64 i) ∧ W = w') := fun W => by
    have := low_any x ((n : Int) - 1) (by omega) (by omega) W
    rwa [EI.out] at this
  have b0 := hM.cell (show i < n by omega)
  have b1 := hM.cell hi
  have f0 := hM.free i
  have f1 := hM.free (i + 1)
  obtain ⟨u, hu⟩ : ∃ u : Int, bits .xor .u8 ((bs.getD i 0 : Nat) : Int) P = u := ⟨_, rfl⟩
  obtain ⟨v, hv⟩ : ∃ v : Int, bits .xor .u8 ((bs.getD (i + 1) 0 : Nat) : Int) Q = v := ⟨_, rfl⟩
  have EU : Hid (u = ((bs.getD i 0 ^^^ p : Nat) : Int)) := by
    rw [EP.out, u8_xor_nat _ _ (hA.small i) hp] at hu
    exact hu.symm
  have EV : Hid (v = ((bs.getD (i + 1) 0 ^^^ q : Nat) : Int)) := by
    rw [EQ.out, u8_xor_nat _ _ (hA.small (i + 1)) hq] at hv
    exact hv.symm
  obtain ⟨y0, Y0⟩ : ∃ y : Int, Hid (((bs.getD i 0 : Nat) : Int) = y) := ⟨_, rfl⟩
  obtain ⟨y1, Y1⟩ : ∃ y : Int, Hid (((bs.getD (i + 1) 0 : Nat) : Int) = y) := ⟨_, rfl⟩
  rw [Y0.out] at b0 hu
  rw [Y1.out] at b1 hv
  have hM2 : Mine w ((W1.setCell ⟨g, i, none⟩ (.int .u8 u)).setCell ⟨g, i + 1, none⟩ (.int .u8 v)) g n (turned bs i p q) := by
    have e1 : u = ((bs.getD i 0 ^^^ p : Nat) : Int) := EU.out
    have e2 : v = ((bs.getD (i + 1) 0 ^^^ q : Nat) : Int) := EV.out
    rw [e1, e2]
    exact (hM.set (by omega)).set hi
  have hB2 := hM2.bytes (turned_small bs i p q hA.small hp hq)
  have hne := turned_ne bs i p q (by rw [hA.len]; exact hi) hp hq (by rintro ⟨h1, h2⟩; exact hpq ⟨by rw [EP.out, h1]; rfl, by rw [EQ.out, h2]; rfl⟩)
  obtain ⟨X, EX⟩ : ∃ X : Int, Hid (X = (((Crc.more 0#32 (turned bs i p q)).toNat : Nat) : Int)) := ⟨_, rfl⟩
  obtain ⟨Y, EY⟩ : ∃ Y : Int, Hid (Y = (((Crc.more 0#32 bs).toNat : Nat) : Int)) := ⟨_, rfl⟩
  have hXY : (X == Y) = false := by
    rw [EX.out, EY.out]
    simp only [beq_eq_false_iff_ne, ne_eq]
    intro h
    exact hne (BitVec.eq_of_toNat_eq (by omega))
  have hXY' : (X != Y) = true := by simp [bne, hXY]
  have K1 : Hid (Calls Tryd.prog 11 #[.slice (some ⟨W1.heap.size, 0, none⟩) 1 1] (((W1.setCell ⟨g, i, none⟩ (.int .u8 u)).setCell ⟨g, i + 1, none⟩ (.int .u8 v)).alloc (.cells #[.slice (some ⟨g, 0, none⟩) n c1] 24))
      fun e w' => e = .returned (.int .u32 X) ∧ Below w.heap.size w w') := by
    have h := of_single c1 (hT.since hM2.below) hB2 (by omega)
    rw [show ((W1.setCell ⟨g, i, none⟩ (.int .u8 u)).setCell ⟨g, i + 1, none⟩ (.int .u8 v)).heap.size = W1.heap.size by simp [World.setCell]] at h
    refine h.mono fun e w' hh => ⟨by rw [EX.out]; exact hh.1, below_chain hM2.below ?_⟩
    rw [show ((W1.setCell ⟨g, i, none⟩ (.int .u8 u)).setCell ⟨g, i + 1, none⟩ (.int .u8 v)).heap.size = W1.heap.size by simp [World.setCell]]
    exact hh.2
  have R1 := Lib.hid hr1
  have HT := Lib.hid hT
  have HA := Lib.hid hA
  have HM := Lib.hid hM2
  have HB2 := Lib.hid hB2
  have hlt := hM.lt
  clear hr1 hT hA hM hM2 hB2 hne hS1 ho1 hbd
  have hP : (P == 0) = false ∨ ((P == 0) = true ∧ (Q == 0) = false) := by
    by_cases h : P = 0
    · exact Or.inr ⟨by simpa using h, by simpa using fun h' => hpq ⟨h, h'⟩⟩
    · exact Or.inl (by simpa using h)
  clear hpq
  have i0 : ((i : Int) + 1).toNat = i + 1 := by omega
  rcases hP with hP | ⟨hP, hQ⟩
  all_goals
    go_enter Tryd.func5, Tryd.ntmps5
    go_wp2_with fail
    refine (K0.out _).mono ?_
    rintro e w' ⟨rfl, rfl⟩
    go_wp2_with (at_builtin; (refine wpList_append_run rfl (.const (.slice none 0 0)) (.tmp 32) 24 rfl rfl rfl R1.out ?_))
    refine K1.out.mono ?_
    rintro e W3 ⟨rfl, S3⟩
    go_wp2_with fail
    refine (of_single c (HT.out.since S3) (HA.out.since S3) (by omega)).mono ?_
    rw [← EY.out]
    rintro e W4 ⟨rfl, b4⟩
    have S4 := below_chain S3 b4
    go_wp2_with fail
    refine (awake_any _ (HT.out.since S4)).mono ?_
    rintro e w' ⟨rfl, hb⟩
    go_wp2_with fail
    go_ret
    exact ⟨rfl, below_chain S4 hb⟩
theorem finds_law (A : Option Addr) (n c : Nat) (bs : List Nat) (x P Q : Int) (hn : n ≤ 9223372036854775807) (p0 : 0 ≤ P) (p1 : P ≤ 255) (q0 : 0 ≤ Q) (q1 : Q ≤ 255) (w : World) (hT : Tabs w) (hA : Bytes w w.heap.size A n bs) :
    Calls Tryd.prog 5 #[.slice A n c, .int .i64 x, .int .u8 P, .int .u8 Q] w fun e w' => e = .returned (.bool true) ∧ Below w.heap.size w w' := by
  by_cases hl : 400 < n ∨ n < 2 ∨ (P = 0 ∧ Q = 0)
  · exact finds_none A n c x P Q w hT hn hl
  · have h1 : n ≤ 400 := by omega
    have h2 : 2 ≤ n := by omega
    have h3 : ¬ (P = 0 ∧ Q = 0) := fun h => hl (Or.inr (Or.inr h))
    exact finds_some A n c x P.toNat Q.toNat P Q (by show _ = _; omega) (by show _ = _; omega) bs w h1 h2 (by omega) (by omega) h3 hT hA
end Go.Proofs.YteglhfimmbphmaaDoor
