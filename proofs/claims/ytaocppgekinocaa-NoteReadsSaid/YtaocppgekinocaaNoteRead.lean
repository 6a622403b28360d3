/- The contracts of note's isZeros, first, noteOf, notesOf, Read. Conditions: the slice's cells; at most 900 bytes. -/
import Derived.Test.YtaocppgekinocaaNoteParse
import Derived.Test.YtaocppgekinocaaNotePage
set_option linter.unusedVariables false
set_option linter.unusedSimpArgs false
namespace Go.Proofs.Ytaocppgekinocaa
open Go.RowKit

theorem zerosB_no {bs : List Nat} {k : Nat} (hk : k < bs.length) (h : bs.getD k 0 ≠ 0) : zerosB bs = false := by
  rw [Bool.eq_false_iff]
  intro e
  unfold zerosB at e
  rw [List.all_eq_true] at e
  apply h
  rw [List.getD_eq_getElem?_getD, List.getElem?_eq_getElem hk]
  simpa using e _ (List.getElem_mem hk)
theorem zerosB_yes {bs : List Nat} (h : ∀ j, j < bs.length → bs.getD j 0 = 0) : zerosB bs = true := by
  unfold zerosB
  rw [List.all_eq_true]
  intro b hb
  obtain ⟨i, hi, rfl⟩ := List.mem_iff_getElem.1 hb
  have := h i hi
  rw [List.getD_eq_getElem?_getD, List.getElem?_eq_getElem hi] at this
  simpa using this
set_option maxHeartbeats 1000000 in
theorem iszeros_any (A : Option Addr) (n c : Nat) (bs : List Nat) (w : World) (hn : n ≤ 900) (hA : Bytes w w.heap.size A n bs) : Calls Try.prog 39 #[.slice A n c] w (SaysB w (zerosB bs)) := by
  have HA := Lib.hid hA
  clear hA
  go_enter Try.func39, Try.ntmps39
  go_wp2_with fail
  go_loop [4, 7] (fun t4 t7 => ∃ k : Nat, t7 = .int .i64 k ∧ k ≤ n ∧ Hid (∀ j, j < k → bs.getD j 0 = 0)) (fun _ t7 => n - (intOf t7).toNat)
  case atStart => exact ⟨0, rfl, Nat.zero_le _, fun j hj => absurd hj (Nat.not_lt_zero _)⟩
  case round =>
    obtain ⟨k, rfl, hk, HK⟩ := hrel
    by_cases hlt : k < n
    · obtain ⟨ad, hA, hblk, hcell⟩ := HA.out.at_ hlt
      subst hA
      by_cases h255 : bs.getD k 0 = 0
      · rw [h255] at hcell
        have HK2 : Hid (∀ j, j < k + 1 → bs.getD j 0 = 0) := fun j hj => by
          rcases (by omega : j < k ∨ j = k) with h | rfl
          · exact HK.out j h
          · exact h255
        clear h255
        go_wp2_with fail
        go_round
        case rel => exact ⟨k + 1, by go_num, by omega, HK2⟩
        case measure => simp [intOf]; omega
      · have HB := Lib.hid (zerosB_no (by rw [HA.out.len]; exact hlt) h255)
        obtain ⟨y, HY⟩ : ∃ y : Int, Hid (y = ((bs.getD k 0 : Nat) : Int)) := ⟨_, rfl⟩
        rw [← HY.out] at hcell
        have hy : (y == 0) = false := by have := HY.out; simp; omega
        have hy' : ¬ y = 0 := by have := HY.out; omega
        clear h255
        go_wp2_with fail
        go_ret
        rw [HB.out]
        exact ⟨rfl, Below.refl _ _⟩
    · have HB : Hid (zerosB bs = true) := zerosB_yes fun j hj => HK.out j (by have := HA.out.len; omega)
      go_wp2_with fail
      go_ret
      rw [HB.out]
      exact ⟨rfl, Below.refl _ _⟩
theorem min_at (ts : Array TypeId) (ty : TypeId) (p q m : Int) (h : (p ≤ q ∧ m = p) ∨ (q ≤ p ∧ m = q)) (w : World) : (Builtin.min_ ts ty #[.int .i64 p, .int .i64 q]).run Try.prog w = .ok (.int .i64 m) w := by
  simp only [Builtin.min_]
  rcases h with ⟨h, rfl⟩ | ⟨h, rfl⟩
  · simp [Builtin.min2]; omega
  · simp [Builtin.min2]; omega
theorem Bytes.back {w w' : World} {B n : Nat} {A : Option Addr} {bs : List Nat} (h : Bytes w' B A n bs) (hb : Below B w w') : Bytes w B A n bs := ⟨h.len, h.lies.kept fun p hp => (hb.cell hp).symm, h.small⟩
/-- What first leaves: the number and what is behind it, in the same bytes. -/
def Firsts (w : World) (B : Nat) : Option (Nat × List Nat) → Ending → World → Prop
  | none, e, w' => e = .returned (.tuple #[.int .u64 0, .slice none 0 0, .bool false]) ∧ Hid (Below w.heap.size w w')
  | some (v, r), e, w' => ∃ (y : Int) (A : Option Addr) (n c : Nat), e = .returned (.tuple #[.int .u64 y, .slice A n c, .bool true]) ∧ Hid (y = (v : Int)) ∧ 0 ≤ y ∧ y ≤ 18446744073709551615 ∧ n ≤ 900 ∧ Hid (n ≤ c) ∧ Hid (Bytes w B A n r) ∧ Hid (Below w.heap.size w w')
set_option maxHeartbeats 1000000 in
theorem first_any (A : Option Addr) (n c B : Nat) (bs : List Nat) (w : World) (hn : n ≤ 900) (hc : n ≤ c) (hB : B ≤ w.heap.size) (hA : Bytes w B A n bs) : Calls Try.prog 43 #[.slice A n c] w (Firsts w B (Pk.get 0 0 bs)) := by
  have HA := Lib.hid hA
  have HC := Lib.hid hc
  obtain ⟨m, hm0, hm1, HM⟩ : ∃ m : Nat, m ≤ n ∧ m ≤ 10 ∧ Hid ((n ≤ 10 ∧ m = n) ∨ (10 ≤ n ∧ m = 10)) := by
    rcases Nat.le_total n 10 with h | h
    · exact ⟨n, Nat.le_refl _, h, Or.inl ⟨h, rfl⟩⟩
    · exact ⟨10, h, Nat.le_refl _, Or.inr ⟨h, rfl⟩⟩
  have hmin : ∀ ts ty w, (Builtin.min_ ts ty #[.int .i64 (n : Int), .int .i64 10]).run Try.prog w = .ok (.int .i64 (m : Int)) w := fun ts ty w => min_at ts ty n 10 m (by have := HM.out; omega) w
  have hsl : ∀ W : World, (Instr.slice 25 (.slice A n c) none (some (.int .i64 (m : Int))) none).run Try.prog W = .ok (.slice A m c) W := fun W => slice_to A n c m hm0 hc W
  have HT : Hid (bs.take m = bs.take 10) := by
    show _ = _
    rcases HM.out with ⟨h, rfl⟩ | ⟨h, rfl⟩
    · rw [List.take_of_length_le (by rw [hA.len]; exact Nat.le_refl _), List.take_of_length_le (by rw [hA.len]; exact h)]
    · rfl
  have HF := Lib.hid ((hA.wider hB).first hm0)
  clear hA
  go_enter Try.func43, Try.ntmps43
  go_wp2_with fail
  refine (get_any A m c (bs.take m) _ (by omega) (by omega) HF.out).mono ?_
  rcases hg : Pk.get 0 0 (bs.take m) with _ | ⟨v, r⟩
  · rintro e W1 ⟨rfl, hb⟩
    have HG : Hid (Pk.get 0 0 bs = none) := first_none (by rw [← HT.out]; exact hg)
    go_wp2_with fail
    go_ret3
    rw [HG.out]
    exact ⟨rfl, hb⟩
  · rintro e W1 ⟨y, A1, n1, c1, rfl, HY, hy0, hy1, hn1, ho, hb⟩
    have hg' := hg
    rw [HT.out] at hg'
    obtain ⟨hl, hg2⟩ := first_some HA.out.lt256 hg'
    rw [← HT.out, HF.out.len, ho.out.len] at hl hg2
    have HG := Lib.hid hg2
    obtain ⟨k, HK⟩ : ∃ k : Nat, Hid (k = m - n1) := ⟨_, rfl⟩
    have hkn : k ≤ n := by rw [HK.out]; omega
    have hsl2 : ∀ W : World, (Instr.slice 25 (.slice A n c) (some (.int .i64 ((m : Int) - (n1 : Int)))) none none).run Try.prog W = .ok (.slice (if c = k then A else A.map (·.add (k * 1))) (n - k) (c - k)) W := fun W => by
      have := slice_from A n c k hkn W
      rwa [show ((k : Nat) : Int) = (m : Int) - (n1 : Int) by rw [HK.out]; omega] at this
    obtain ⟨A5, HA5⟩ : ∃ A5 : Option Addr, Hid (A5 = if c = k then A else A.map (·.add (k * 1))) := ⟨_, rfl⟩
    rw [← HA5.out] at hsl2
    have HB5 : Hid (Bytes w B A5 (n - k) (bs.drop k)) := by
      rw [HA5.out]; exact HA.out.rest hkn HC.out
    have hc1 := ho.out.cap
    clear hg hg2 hg' ho hmin hsl hkn
    go_wp2_with fail
    go_quiet (fail)
    go_wp2_with fail
    go_ret3
    rw [HG.out, ← HK.out]
    exact ⟨y, A5, n - k, c - k, rfl, HY, hy0, hy1, by omega, by have := HC.out; show _ ≤ _; omega, HB5, below_drewN hb.out _⟩
theorem RowN.put {w : World} {g : Nat} {v : V} (h : RowN w g v) (u : V) : RowN (((((w.setCell ⟨g, 0, none⟩ (.bool u.gone)).setCell ⟨g, 1, none⟩ (.int .u64 u.addr)).setCell ⟨g, 2, none⟩ (.int .i64 u.page)).setCell ⟨g, 3, none⟩ (.bool u.dirty)).setCell ⟨g, 4, none⟩ (.int .i64 u.seq)) g u := ⟨by simp [World.setCell, Array.getElem?_modify, h.row]⟩
theorem RowN.page {w : World} {g : Nat} {v : V} (h : RowN w g v) (p : Int) : RowN (w.setCell ⟨g, 2, none⟩ (.int .i64 p)) g ⟨v.gone, v.addr, p, v.dirty, v.seq⟩ := ⟨by simp [World.setCell, Array.getElem?_modify, h.row]⟩
theorem setCell_else (w : World) (p : Addr) (v : Value) : w.grownBy (w.setCell p v) (some p.block) :=
  ⟨rfl, rfl, rfl, by simp, fun k hk hn => by simp only [World.setCell]; rw [Array.getElem?_modify]; rw [if_neg (fun e => hn (by rw [e]))]⟩
theorem put5_else (w : World) (g : Nat) (a b c d e : Value) : w.grownBy (((((w.setCell ⟨g, 0, none⟩ a).setCell ⟨g, 1, none⟩ b).setCell ⟨g, 2, none⟩ c).setCell ⟨g, 3, none⟩ d).setCell ⟨g, 4, none⟩ e) (some g) :=
  grownBy_trans (grownBy_trans (grownBy_trans (grownBy_trans (setCell_else w ⟨g, 0, none⟩ a) (setCell_else _ ⟨g, 1, none⟩ b)) (setCell_else _ ⟨g, 2, none⟩ c)) (setCell_else _ ⟨g, 3, none⟩ d)) (setCell_else _ ⟨g, 4, none⟩ e)
theorem RowN.else_ {w w' : World} {g b : Nat} {v : V} (h : RowN w g v) (hg : w.grownBy w' (some b)) (hn : g ≠ b) : RowN w' g v := ⟨(hg.block g h.lt (fun e => hn (Option.some.inj e))).trans h.row⟩
theorem wrap64_eq (x : Int) : wrap64 x = IntKind.i64.wrap x := by unfold wrap64; rw [IntKind.wrap_i64]
/-- What noteOf leaves. -/
def NoteOfs (w : World) (B : Nat) : Option (V × List Nat) → Ending → World → Prop
  | none, e, w' => ∃ v A n c, e = .returned (.tuple #[noteV v, .slice A n c, .bool false]) ∧ Hid (Below w.heap.size w w')
  | some (v, r), e, w' => ∃ (A : Option Addr) (n c : Nat), e = .returned (.tuple #[noteV v, .slice A n c, .bool true]) ∧ n ≤ 900 ∧ Hid (n ≤ c) ∧ Hid (Bytes w B A n r) ∧ Hid (Below w.heap.size w w')
set_option maxHeartbeats 8000000 in
theorem noteof_any (A : Option Addr) (n c BB : Nat) (bs : List Nat) (w : World) (hn : n ≤ 900) (hc : n ≤ c) (hBB : BB ≤ w.heap.size) (hA : Bytes w BB A n bs) : Calls Try.prog 44 #[.slice A n c] w (NoteOfs w BB (parse1 bs)) := by
  have HA := Lib.hid hA
  have S0 := Lib.hid (since_alloc (Below.refl w.heap.size w) (.cells #[.bool false, .int .u64 0, .int .i64 0, .bool false, .int .i64 0] 43))
  have R0 : Hid (RowN (w.alloc (.cells #[.bool false, .int .u64 0, .int .i64 0, .bool false, .int .i64 0] 43)) w.heap.size ⟨false, 0, 0, false, 0⟩) := rowN_new w ⟨false, 0, 0, false, 0⟩
  obtain ⟨W0, HW0⟩ : ∃ W0 : World, Hid (W0 = w.alloc (.cells #[.bool false, .int .u64 0, .int .i64 0, .bool false, .int .i64 0] 43)) := ⟨_, rfl⟩
  clear hA
  go_enter Try.func44, Try.ntmps44
  go_wp2_with fail
  rw [← HW0.out] at S0 R0 ⊢
  refine (first_any A n c BB bs _ hn hc (Nat.le_trans hBB S0.out.size) (HA.out.below (S0.out.mono hBB))).mono ?_
  rcases h0 : Pk.get 0 0 bs with _ | ⟨a, r1⟩
  · rintro e W1 ⟨rfl, hb1⟩
    have HP : Hid (parse1 bs = none) := parse1_a h0
    have S1 := Lib.hid (S0.out.trans (hb1.out.mono S0.out.size))
    have R1 := Lib.hid (R0.out.since hb1.out)
    obtain ⟨d0, d1, d2, d3, d4⟩ := R1.out.at_
    have f0 := R1.out.free 0
    have f1 := R1.out.free 1
    have f2 := R1.out.free 2
    have f3 := R1.out.free 3
    have f4 := R1.out.free 4
    dsimp only at d0 d1 d2 d3 d4
    go_wp2_with fail
    have S9 := Lib.hid (S1.out.grown (put5_else W1 w.heap.size (.bool false) (.int .u64 0) (.int .i64 0) (.bool false) (.int .i64 0)) S1.out.size (fun q hq => by rw [← Option.some.inj hq]; exact Nat.le_refl _))
    have R9 := Lib.hid (R1.out.put ⟨false, 0, 0, false, 0⟩)
    dsimp only at R9
    obtain ⟨W9, HW9⟩ : ∃ W9, Hid (W9 = (((((W1.setCell ⟨w.heap.size, 0, none⟩ (.bool false)).setCell ⟨w.heap.size, 1, none⟩ (.int .u64 0)).setCell ⟨w.heap.size, 2, none⟩ (.int .i64 0)).setCell ⟨w.heap.size, 3, none⟩ (.bool false)).setCell ⟨w.heap.size, 4, none⟩ (.int .i64 0))) := ⟨_, rfl⟩
    rw [← HW9.out] at S9 R9 ⊢
    obtain ⟨r0, r1, r2, r3, r4⟩ := R9.out.at_
    dsimp only at r0 r1 r2 r3 r4
    exact bodyPost_ret (v := .tuple #[noteV ⟨false, 0, 0, false, 0⟩, .slice none 0 0, .bool false]) (by simp [results, Try.results44, go_sem, r0, r1, r2, r3, r4, noteV]) rfl (by rw [HP.out]; exact ⟨_, _, _, _, rfl, S9⟩)
  · rintro e W1 ⟨y1, A1, n1, c1, rfl, HY1, hy10, hy11, hn1, HC1, HB1, hb1⟩
    have S1 := Lib.hid (S0.out.trans (hb1.out.mono S0.out.size))
    have R1 := Lib.hid (R0.out.since hb1.out)
    have HA1 := Lib.hid (HB1.out.back (S0.out.mono hBB))
    clear HB1 hb1
    have H0 := Lib.hid h0
    clear h0
    go_wp2_with fail
    refine (first_any A1 n1 c1 BB r1 _ hn1 HC1.out (Nat.le_trans hBB S1.out.size) (HA1.out.below (S1.out.mono hBB))).mono ?_
    rcases h1 : Pk.get 0 0 r1 with _ | ⟨s, r2⟩
    · rintro e W2 ⟨rfl, hb2⟩
      have HP : Hid (parse1 bs = none) := parse1_s H0.out h1
      have S2 := Lib.hid (S1.out.trans (hb2.out.mono S1.out.size))
      have R2 := Lib.hid (R1.out.since hb2.out)
      obtain ⟨d0, d1, d2, d3, d4⟩ := R2.out.at_
      have f0 := R2.out.free 0
      have f1 := R2.out.free 1
      have f2 := R2.out.free 2
      have f3 := R2.out.free 3
      have f4 := R2.out.free 4
      dsimp only at d0 d1 d2 d3 d4
      go_wp2_with fail
      have S9 := Lib.hid (S2.out.grown (put5_else W2 w.heap.size (.bool false) (.int .u64 0) (.int .i64 0) (.bool false) (.int .i64 0)) S2.out.size (fun q hq => by rw [← Option.some.inj hq]; exact Nat.le_refl _))
      have R9 := Lib.hid (R2.out.put ⟨false, 0, 0, false, 0⟩)
      dsimp only at R9
      obtain ⟨W9, HW9⟩ : ∃ W9, Hid (W9 = (((((W2.setCell ⟨w.heap.size, 0, none⟩ (.bool false)).setCell ⟨w.heap.size, 1, none⟩ (.int .u64 0)).setCell ⟨w.heap.size, 2, none⟩ (.int .i64 0)).setCell ⟨w.heap.size, 3, none⟩ (.bool false)).setCell ⟨w.heap.size, 4, none⟩ (.int .i64 0))) := ⟨_, rfl⟩
      rw [← HW9.out] at S9 R9 ⊢
      obtain ⟨r0, r1, r2, r3, r4⟩ := R9.out.at_
      dsimp only at r0 r1 r2 r3 r4
      exact bodyPost_ret (v := .tuple #[noteV ⟨false, 0, 0, false, 0⟩, .slice none 0 0, .bool false]) (by simp [results, Try.results44, go_sem, r0, r1, r2, r3, r4, noteV]) rfl (by rw [HP.out]; exact ⟨_, _, _, _, rfl, S9⟩)
    · rintro e W2 ⟨y2, A2, n2, c2, rfl, HY2, hy20, hy21, hn2, HC2, HB2, hb2⟩
      have S2 := Lib.hid (S1.out.trans (hb2.out.mono S1.out.size))
      have R2 := Lib.hid (R1.out.since hb2.out)
      have HA2 := Lib.hid (HB2.out.back (S1.out.mono hBB))
      clear HB2 hb2
      have H1 := Lib.hid h1
      clear h1
      rcases r2 with _ | ⟨k, r3⟩
      · have HP : Hid (parse1 bs = none) := parse1_e H0.out H1.out
        obtain rfl : 0 = n2 := HA2.out.len
        obtain ⟨d0, d1, d2, d3, d4⟩ := R2.out.at_
        have f0 := R2.out.free 0
        have f1 := R2.out.free 1
        have f2 := R2.out.free 2
        have f3 := R2.out.free 3
        have f4 := R2.out.free 4
        dsimp only at d0 d1 d2 d3 d4
        go_wp2_with fail
        have S9 := Lib.hid (S2.out.grown (put5_else W2 w.heap.size (.bool false) (.int .u64 0) (.int .i64 0) (.bool false) (.int .i64 0)) S2.out.size (fun q hq => by rw [← Option.some.inj hq]; exact Nat.le_refl _))
        have R9 := Lib.hid (R2.out.put ⟨false, 0, 0, false, 0⟩)
        dsimp only at R9
        obtain ⟨W9, HW9⟩ : ∃ W9, Hid (W9 = (((((W2.setCell ⟨w.heap.size, 0, none⟩ (.bool false)).setCell ⟨w.heap.size, 1, none⟩ (.int .u64 0)).setCell ⟨w.heap.size, 2, none⟩ (.int .i64 0)).setCell ⟨w.heap.size, 3, none⟩ (.bool false)).setCell ⟨w.heap.size, 4, none⟩ (.int .i64 0))) := ⟨_, rfl⟩
        rw [← HW9.out] at S9 R9 ⊢
        obtain ⟨r0, r1, r2, r3, r4⟩ := R9.out.at_
        dsimp only at r0 r1 r2 r3 r4
        exact bodyPost_ret (v := .tuple #[noteV ⟨false, 0, 0, false, 0⟩, .slice none 0 0, .bool false]) (by simp [results, Try.results44, go_sem, r0, r1, r2, r3, r4, noteV]) rfl (by rw [HP.out]; exact ⟨_, _, _, _, rfl, S9⟩)
      · have hl2 := HA2.out.len
        rw [List.length_cons] at hl2
        have hpos : 0 < n2 := by omega
        obtain ⟨ad, hAD, hblk, hcell⟩ := (HA2.out.below (S2.out.mono hBB)).at_ hpos
        subst hAD
        rw [add_none] at hcell
        have hk256 := HA2.out.small 0
        replace hcell : W2.cell? ad = some (.int .u8 ((k : Nat) : Int)) := hcell
        replace hk256 : k < 256 := hk256
        have hz0 : ((n2 : Int) == 0) = false := by simp; omega
        clear hl2
        by_cases hk : 2 < k
        · have HP : Hid (parse1 bs = none) := parse1_k H0.out H1.out hk
          obtain ⟨z, HZ⟩ : ∃ z : Int, Hid (z = (k : Int)) := ⟨_, rfl⟩
          rw [← HZ.out] at hcell
          have hz : (2 : Int) < z := by rw [HZ.out]; omega
          clear hk hk256
          obtain ⟨d0, d1, d2, d3, d4⟩ := R2.out.at_
          have f0 := R2.out.free 0
          have f1 := R2.out.free 1
          have f2 := R2.out.free 2
          have f3 := R2.out.free 3
          have f4 := R2.out.free 4
          dsimp only at d0 d1 d2 d3 d4
          go_wp2_with fail
          have S9 := Lib.hid (S2.out.grown (put5_else W2 w.heap.size (.bool false) (.int .u64 0) (.int .i64 0) (.bool false) (.int .i64 0)) S2.out.size (fun q hq => by rw [← Option.some.inj hq]; exact Nat.le_refl _))
          have R9 := Lib.hid (R2.out.put ⟨false, 0, 0, false, 0⟩)
          dsimp only at R9
          obtain ⟨W9, HW9⟩ : ∃ W9, Hid (W9 = (((((W2.setCell ⟨w.heap.size, 0, none⟩ (.bool false)).setCell ⟨w.heap.size, 1, none⟩ (.int .u64 0)).setCell ⟨w.heap.size, 2, none⟩ (.int .i64 0)).setCell ⟨w.heap.size, 3, none⟩ (.bool false)).setCell ⟨w.heap.size, 4, none⟩ (.int .i64 0))) := ⟨_, rfl⟩
          rw [← HW9.out] at S9 R9 ⊢
          obtain ⟨r0, r1, r2, r3, r4⟩ := R9.out.at_
          dsimp only at r0 r1 r2 r3 r4
          exact bodyPost_ret (v := .tuple #[noteV ⟨false, 0, 0, false, 0⟩, .slice none 0 0, .bool false]) (by simp [results, Try.results44, go_sem, r0, r1, r2, r3, r4, noteV]) rfl (by rw [HP.out]; exact ⟨_, _, _, _, rfl, S9⟩)
        · by_cases hk0 : k = 0
          · subst hk0
            have HP : Hid (parse1 bs = some (goneV a s, r3)) := parse1_g H0.out H1.out
            obtain ⟨q, HQ⟩ : ∃ q : Int, Hid (wrap64 y2 = q) := ⟨_, rfl⟩
            have hsl : ∀ W : World, (Instr.slice 25 (.slice (some ad) n2 c2) (some (.int .i64 1)) none none).run Try.prog W = .ok (.slice (if c2 = 1 then some ad else (some ad).map (·.add (1 * 1))) (n2 - 1) (c2 - 1)) W := fun W => slice_from (some ad) n2 c2 1 (by omega) W
            obtain ⟨A5, HA5⟩ : ∃ A5 : Option Addr, Hid (A5 = if c2 = 1 then some ad else (some ad).map (·.add (1 * 1))) := ⟨_, rfl⟩
            rw [← HA5.out] at hsl
            replace hcell : W2.cell? ad = some (.int .u8 0) := hcell
            clear hk hk256
            go_wp2_with (simp only [HQ.out])
            go_quiet (fail)
            obtain ⟨W3, HW3⟩ : ∃ W3 : World, Hid (W3 = W2.drewN nq) := ⟨_, rfl⟩
            rw [← HW3.out]
            have S3 : Hid (Below w.heap.size w W3) := by rw [HW3.out]; exact below_drewN S2.out _
            have R3 : Hid (RowN W3 w.heap.size ⟨false, 0, 0, false, 0⟩) := by rw [HW3.out]; exact ⟨R2.out.row⟩
            have S4 := Lib.hid (since_alloc S3.out (.cells #[.bool true, .int .u64 y1, .int .i64 0, .bool false, .int .i64 q] 43))
            have R4 := Lib.hid (R3.out.since (later_alloc W3 (.cells #[.bool true, .int .u64 y1, .int .i64 0, .bool false, .int .i64 q] 43)))
            obtain ⟨d0, d1, d2, d3, d4⟩ := R4.out.at_
            have f0 := R4.out.free 0
            have f1 := R4.out.free 1
            have f2 := R4.out.free 2
            have f3 := R4.out.free 3
            have f4 := R4.out.free 4
            dsimp only at d0 d1 d2 d3 d4
            have HE : Hid (noteV ⟨true, y1, 0, false, q⟩ = noteV (goneV a s)) := by
              show _ = _
              rw [HY1.out, ← HQ.out, HY2.out, wrap64_eq]; rfl
            have HBR : Hid (Bytes w BB A5 (n2 - 1) r3) := by
              rw [HA5.out]
              exact HA2.out.rest (k := 1) hpos HC2.out
            obtain ⟨W4, HW4⟩ : ∃ W4 : World, Hid (W4 = W3.alloc (.cells #[.bool true, .int .u64 y1, .int .i64 0, .bool false, .int .i64 q] 43)) := ⟨_, rfl⟩
            clear hcell hsl
            go_wp2_with (simp only [HQ.out])
            rw [← HW4.out] at S4 R4 ⊢
            have S9 := Lib.hid (S4.out.grown (put5_else W4 w.heap.size (.bool true) (.int .u64 y1) (.int .i64 0) (.bool false) (.int .i64 q)) S4.out.size (fun q hq => by rw [← Option.some.inj hq]; exact Nat.le_refl _))
            have R9 := Lib.hid (R4.out.put ⟨true, y1, 0, false, q⟩)
            dsimp only at R9
            obtain ⟨W9, HW9⟩ : ∃ W9, Hid (W9 = (((((W4.setCell ⟨w.heap.size, 0, none⟩ (.bool true)).setCell ⟨w.heap.size, 1, none⟩ (.int .u64 y1)).setCell ⟨w.heap.size, 2, none⟩ (.int .i64 0)).setCell ⟨w.heap.size, 3, none⟩ (.bool false)).setCell ⟨w.heap.size, 4, none⟩ (.int .i64 q))) := ⟨_, rfl⟩
            rw [← HW9.out] at S9 R9 ⊢
            obtain ⟨r0, r1, r2, r3, r4⟩ := R9.out.at_
            dsimp only at r0 r1 r2 r3 r4
            exact bodyPost_ret (v := .tuple #[noteV ⟨true, y1, 0, false, q⟩, .slice A5 (n2 - 1) (c2 - 1), .bool true]) (by simp [results, Try.results44, go_sem, r0, r1, r2, r3, r4, noteV]) rfl (by rw [HP.out]; exact ⟨A5, (n2 - 1), (c2 - 1), by rw [HE.out], by omega, by have := HC2.out; show _ ≤ _; omega, HBR, S9⟩)
          · have hkk : k = 1 ∨ k = 2 := by omega
            have hslk : ∀ W : World, (Instr.slice 25 (.slice (some ad) n2 c2) (some (.int .i64 1)) none none).run Try.prog W = .ok (.slice (if c2 = 1 then some ad else (some ad).map (·.add (1 * 1))) (n2 - 1) (c2 - 1)) W := fun W => slice_from (some ad) n2 c2 1 (by omega) W
            obtain ⟨A5, HA5⟩ : ∃ A5 : Option Addr, Hid (A5 = if c2 = 1 then some ad else (some ad).map (·.add (1 * 1))) := ⟨_, rfl⟩
            rw [← HA5.out] at hslk
            have HB5 : Hid (Bytes w BB A5 (n2 - 1) r3) := by
              rw [HA5.out]
              exact HA2.out.rest (k := 1) hpos HC2.out
            obtain ⟨q, HQ⟩ : ∃ q : Int, Hid (wrap64 y2 = q) := ⟨_, rfl⟩
            have HPB := Lib.hid (show k ≤ 2 by omega)
            have HP0 := Lib.hid hk0
            clear hk hk256 hk0
            rcases hkk with rfl | rfl
            · replace hcell : W2.cell? ad = some (.int .u8 1) := hcell
              go_wp2_with (simp only [HQ.out])
              go_quiet (fail)
              obtain ⟨W3, HW3⟩ : ∃ W3 : World, Hid (W3 = W2.drewN nq) := ⟨_, rfl⟩
              rw [← HW3.out]
              have S3 : Hid (Below w.heap.size w W3) := by rw [HW3.out]; exact below_drewN S2.out _
              have R3 : Hid (RowN W3 w.heap.size ⟨false, 0, 0, false, 0⟩) := by rw [HW3.out]; exact ⟨R2.out.row⟩
              have S4 := Lib.hid (since_alloc S3.out (.cells #[.bool false, .int .u64 y1, .int .i64 0, .bool false, .int .i64 q] 43))
              have L4 := Lib.hid (later_alloc W3 (.cells #[.bool false, .int .u64 y1, .int .i64 0, .bool false, .int .i64 q] 43))
              have R4 := Lib.hid (R3.out.since L4.out)
              have N4 : Hid (RowN (W3.alloc (.cells #[.bool false, .int .u64 y1, .int .i64 0, .bool false, .int .i64 q] 43)) W3.heap.size ⟨false, y1, 0, false, q⟩) := rowN_new W3 ⟨false, y1, 0, false, q⟩
              obtain ⟨W4, HW4⟩ : ∃ W4 : World, Hid (W4 = W3.alloc (.cells #[.bool false, .int .u64 y1, .int .i64 0, .bool false, .int .i64 q] 43)) := ⟨_, rfl⟩
              have hlt3 : Hid (w.heap.size < W3.heap.size) := R3.out.lt
              have hle3 : Hid (w.heap.size ≤ W3.heap.size) := Nat.le_of_lt hlt3.out
              obtain ⟨g2, HG2⟩ : ∃ g2 : Nat, Hid (g2 = W3.heap.size) := ⟨_, rfl⟩
              clear hcell hslk
              go_wp2_with (simp only [HQ.out])
              rw [← HW4.out] at S4 R4 N4 ⊢
              rw [← HG2.out] at N4 hlt3 hle3 ⊢
              refine (first_any A5 (n2 - 1) (c2 - 1) BB r3 _ (by omega) (by have := HC2.out; omega) (Nat.le_trans hBB S4.out.size) (HB5.out.below (S4.out.mono hBB))).mono ?_
              rcases h3 : Pk.get 0 0 r3 with _ | ⟨p, r4⟩
              · rintro e W5 ⟨rfl, hb5⟩
                have HP : Hid (parse1 bs = none) := parse1_p H0.out H1.out HPB.out HP0.out h3
                have S5 := Lib.hid (S4.out.trans (hb5.out.mono S4.out.size))
                have R5 := Lib.hid (R4.out.since hb5.out)
                have N5 := Lib.hid (N4.out.since hb5.out)
                have c22 := N5.out.at_.c2
                have f22 := N5.out.free 2
                have S6 := Lib.hid (S5.out.setCell (p := ⟨g2, 2, none⟩) hle3.out (.int .i64 0))
                have R6 := Lib.hid (R5.out.else_ (setCell_else W5 ⟨g2, 2, none⟩ (.int .i64 0)) (Nat.ne_of_lt hlt3.out))
                have N6 := Lib.hid (N5.out.page 0)
                obtain ⟨d0, d1, d2, d3, d4⟩ := R6.out.at_
                have f0 := R6.out.free 0
                have f1 := R6.out.free 1
                have f2 := R6.out.free 2
                have f3 := R6.out.free 3
                have f4 := R6.out.free 4
                dsimp only at d0 d1 d2 d3 d4
                obtain ⟨e0, e1, e2, e3, e4⟩ := N6.out.at_
                dsimp only at e0 e1 e2 e3 e4 c22
                obtain ⟨W6, HW6⟩ : ∃ W6 : World, Hid (W6 = W5.setCell ⟨g2, 2, none⟩ (.int .i64 0)) := ⟨_, rfl⟩
                clear hb5
                go_wp2_with fail
                rw [← HW6.out] at S6 R6 ⊢
                have S9 := Lib.hid (S6.out.grown (put5_else W6 w.heap.size (.bool false) (.int .u64 y1) (.int .i64 0) (.bool false) (.int .i64 q)) S6.out.size (fun q hq => by rw [← Option.some.inj hq]; exact Nat.le_refl _))
                have R9 := Lib.hid (R6.out.put ⟨false, y1, 0, false, q⟩)
                dsimp only at R9
                obtain ⟨W9, HW9⟩ : ∃ W9, Hid (W9 = (((((W6.setCell ⟨w.heap.size, 0, none⟩ (.bool false)).setCell ⟨w.heap.size, 1, none⟩ (.int .u64 y1)).setCell ⟨w.heap.size, 2, none⟩ (.int .i64 0)).setCell ⟨w.heap.size, 3, none⟩ (.bool false)).setCell ⟨w.heap.size, 4, none⟩ (.int .i64 q))) := ⟨_, rfl⟩
                rw [← HW9.out] at S9 R9 ⊢
                obtain ⟨r0, r1, r2, r3, r4⟩ := R9.out.at_
                dsimp only at r0 r1 r2 r3 r4
                exact bodyPost_ret (v := .tuple #[noteV ⟨false, y1, 0, false, q⟩, .slice none 0 0, .bool false]) (by simp [results, Try.results44, go_sem, r0, r1, r2, r3, r4, noteV]) rfl (by rw [HP.out]; exact ⟨_, _, _, _, rfl, S9⟩)
              · rintro e W5 ⟨y3, A6, n6, c6, rfl, HY3, hy30, hy31, hn6, HC6, HB6, hb5⟩
                have HB6 := Lib.hid (HB6.out.back (S4.out.mono hBB))
                have HP : Hid (parse1 bs = some (hereV a s 1 p, r4)) := parse1_h H0.out H1.out HPB.out HP0.out h3
                obtain ⟨p3, HP3⟩ : ∃ p3 : Int, Hid (wrap64 y3 = p3) := ⟨_, rfl⟩
                have S5 := Lib.hid (S4.out.trans (hb5.out.mono S4.out.size))
                have R5 := Lib.hid (R4.out.since hb5.out)
                have N5 := Lib.hid (N4.out.since hb5.out)
                have c22 := N5.out.at_.c2
                have f22 := N5.out.free 2
                have S6 := Lib.hid (S5.out.setCell (p := ⟨g2, 2, none⟩) hle3.out (.int .i64 p3))
                have R6 := Lib.hid (R5.out.else_ (setCell_else W5 ⟨g2, 2, none⟩ (.int .i64 p3)) (Nat.ne_of_lt hlt3.out))
                have N6 := Lib.hid (N5.out.page p3)
                obtain ⟨d0, d1, d2, d3, d4⟩ := R6.out.at_
                have f0 := R6.out.free 0
                have f1 := R6.out.free 1
                have f2 := R6.out.free 2
                have f3 := R6.out.free 3
                have f4 := R6.out.free 4
                dsimp only at d0 d1 d2 d3 d4
                obtain ⟨e0, e1, e2, e3, e4⟩ := N6.out.at_
                dsimp only at e0 e1 e2 e3 e4 c22
                have HE : Hid (noteV ⟨false, y1, p3, false, q⟩ = noteV (hereV a s 1 p)) := by
                  show _ = _
                  rw [HY1.out, ← HQ.out, HY2.out, ← HP3.out, HY3.out, wrap64_eq, wrap64_eq]; rfl
                obtain ⟨W6, HW6⟩ : ∃ W6 : World, Hid (W6 = W5.setCell ⟨g2, 2, none⟩ (.int .i64 p3)) := ⟨_, rfl⟩
                clear hb5
                go_wp2_with (simp only [HP3.out])
                rw [← HW6.out] at S6 R6 ⊢
                have S9 := Lib.hid (S6.out.grown (put5_else W6 w.heap.size (.bool false) (.int .u64 y1) (.int .i64 p3) (.bool false) (.int .i64 q)) S6.out.size (fun q hq => by rw [← Option.some.inj hq]; exact Nat.le_refl _))
                have R9 := Lib.hid (R6.out.put ⟨false, y1, p3, false, q⟩)
                dsimp only at R9
                obtain ⟨W9, HW9⟩ : ∃ W9, Hid (W9 = (((((W6.setCell ⟨w.heap.size, 0, none⟩ (.bool false)).setCell ⟨w.heap.size, 1, none⟩ (.int .u64 y1)).setCell ⟨w.heap.size, 2, none⟩ (.int .i64 p3)).setCell ⟨w.heap.size, 3, none⟩ (.bool false)).setCell ⟨w.heap.size, 4, none⟩ (.int .i64 q))) := ⟨_, rfl⟩
                rw [← HW9.out] at S9 R9 ⊢
                obtain ⟨r0, r1, r2, r3, r4⟩ := R9.out.at_
                dsimp only at r0 r1 r2 r3 r4
                exact bodyPost_ret (v := .tuple #[noteV ⟨false, y1, p3, false, q⟩, .slice A6 n6 c6, .bool true]) (by simp [results, Try.results44, go_sem, r0, r1, r2, r3, r4, noteV]) rfl (by rw [HP.out]; exact ⟨A6, n6, c6, by rw [HE.out], hn6, HC6, HB6, S9⟩)
            · replace hcell : W2.cell? ad = some (.int .u8 2) := hcell
              go_wp2_with (simp only [HQ.out])
              go_quiet (fail)
              obtain ⟨W3, HW3⟩ : ∃ W3 : World, Hid (W3 = W2.drewN nq) := ⟨_, rfl⟩
              rw [← HW3.out]
              have S3 : Hid (Below w.heap.size w W3) := by rw [HW3.out]; exact below_drewN S2.out _
              have R3 : Hid (RowN W3 w.heap.size ⟨false, 0, 0, false, 0⟩) := by rw [HW3.out]; exact ⟨R2.out.row⟩
              have S4 := Lib.hid (since_alloc S3.out (.cells #[.bool false, .int .u64 y1, .int .i64 0, .bool true, .int .i64 q] 43))
              have L4 := Lib.hid (later_alloc W3 (.cells #[.bool false, .int .u64 y1, .int .i64 0, .bool true, .int .i64 q] 43))
              have R4 := Lib.hid (R3.out.since L4.out)
              have N4 : Hid (RowN (W3.alloc (.cells #[.bool false, .int .u64 y1, .int .i64 0, .bool true, .int .i64 q] 43)) W3.heap.size ⟨false, y1, 0, true, q⟩) := rowN_new W3 ⟨false, y1, 0, true, q⟩
              obtain ⟨W4, HW4⟩ : ∃ W4 : World, Hid (W4 = W3.alloc (.cells #[.bool false, .int .u64 y1, .int .i64 0, .bool true, .int .i64 q] 43)) := ⟨_, rfl⟩
              have hlt3 : Hid (w.heap.size < W3.heap.size) := R3.out.lt
              have hle3 : Hid (w.heap.size ≤ W3.heap.size) := Nat.le_of_lt hlt3.out
              obtain ⟨g2, HG2⟩ : ∃ g2 : Nat, Hid (g2 = W3.heap.size) := ⟨_, rfl⟩
              clear hcell hslk
              go_wp2_with (simp only [HQ.out])
              rw [← HW4.out] at S4 R4 N4 ⊢
              rw [← HG2.out] at N4 hlt3 hle3 ⊢
              refine (first_any A5 (n2 - 1) (c2 - 1) BB r3 _ (by omega) (by have := HC2.out; omega) (Nat.le_trans hBB S4.out.size) (HB5.out.below (S4.out.mono hBB))).mono ?_
              rcases h3 : Pk.get 0 0 r3 with _ | ⟨p, r4⟩
              · rintro e W5 ⟨rfl, hb5⟩
                have HP : Hid (parse1 bs = none) := parse1_p H0.out H1.out HPB.out HP0.out h3
                have S5 := Lib.hid (S4.out.trans (hb5.out.mono S4.out.size))
                have R5 := Lib.hid (R4.out.since hb5.out)
                have N5 := Lib.hid (N4.out.since hb5.out)
                have c22 := N5.out.at_.c2
                have f22 := N5.out.free 2
                have S6 := Lib.hid (S5.out.setCell (p := ⟨g2, 2, none⟩) hle3.out (.int .i64 0))
                have R6 := Lib.hid (R5.out.else_ (setCell_else W5 ⟨g2, 2, none⟩ (.int .i64 0)) (Nat.ne_of_lt hlt3.out))
                have N6 := Lib.hid (N5.out.page 0)
                obtain ⟨d0, d1, d2, d3, d4⟩ := R6.out.at_
                have f0 := R6.out.free 0
                have f1 := R6.out.free 1
                have f2 := R6.out.free 2
                have f3 := R6.out.free 3
                have f4 := R6.out.free 4
                dsimp only at d0 d1 d2 d3 d4
                obtain ⟨e0, e1, e2, e3, e4⟩ := N6.out.at_
                dsimp only at e0 e1 e2 e3 e4 c22
                obtain ⟨W6, HW6⟩ : ∃ W6 : World, Hid (W6 = W5.setCell ⟨g2, 2, none⟩ (.int .i64 0)) := ⟨_, rfl⟩
                clear hb5
                go_wp2_with fail
                rw [← HW6.out] at S6 R6 ⊢
                have S9 := Lib.hid (S6.out.grown (put5_else W6 w.heap.size (.bool false) (.int .u64 y1) (.int .i64 0) (.bool true) (.int .i64 q)) S6.out.size (fun q hq => by rw [← Option.some.inj hq]; exact Nat.le_refl _))
                have R9 := Lib.hid (R6.out.put ⟨false, y1, 0, true, q⟩)
                dsimp only at R9
                obtain ⟨W9, HW9⟩ : ∃ W9, Hid (W9 = (((((W6.setCell ⟨w.heap.size, 0, none⟩ (.bool false)).setCell ⟨w.heap.size, 1, none⟩ (.int .u64 y1)).setCell ⟨w.heap.size, 2, none⟩ (.int .i64 0)).setCell ⟨w.heap.size, 3, none⟩ (.bool true)).setCell ⟨w.heap.size, 4, none⟩ (.int .i64 q))) := ⟨_, rfl⟩
                rw [← HW9.out] at S9 R9 ⊢
                obtain ⟨r0, r1, r2, r3, r4⟩ := R9.out.at_
                dsimp only at r0 r1 r2 r3 r4
                exact bodyPost_ret (v := .tuple #[noteV ⟨false, y1, 0, true, q⟩, .slice none 0 0, .bool false]) (by simp [results, Try.results44, go_sem, r0, r1, r2, r3, r4, noteV]) rfl (by rw [HP.out]; exact ⟨_, _, _, _, rfl, S9⟩)
              · rintro e W5 ⟨y3, A6, n6, c6, rfl, HY3, hy30, hy31, hn6, HC6, HB6, hb5⟩
                have HB6 := Lib.hid (HB6.out.back (S4.out.mono hBB))
                have HP : Hid (parse1 bs = some (hereV a s 2 p, r4)) := parse1_h H0.out H1.out HPB.out HP0.out h3
                obtain ⟨p3, HP3⟩ : ∃ p3 : Int, Hid (wrap64 y3 = p3) := ⟨_, rfl⟩
                have S5 := Lib.hid (S4.out.trans (hb5.out.mono S4.out.size))
                have R5 := Lib.hid (R4.out.since hb5.out)
                have N5 := Lib.hid (N4.out.since hb5.out)
                have c22 := N5.out.at_.c2
                have f22 := N5.out.free 2
                have S6 := Lib.hid (S5.out.setCell (p := ⟨g2, 2, none⟩) hle3.out (.int .i64 p3))
                have R6 := Lib.hid (R5.out.else_ (setCell_else W5 ⟨g2, 2, none⟩ (.int .i64 p3)) (Nat.ne_of_lt hlt3.out))
                have N6 := Lib.hid (N5.out.page p3)
                obtain ⟨d0, d1, d2, d3, d4⟩ := R6.out.at_
                have f0 := R6.out.free 0
                have f1 := R6.out.free 1
                have f2 := R6.out.free 2
                have f3 := R6.out.free 3
                have f4 := R6.out.free 4
                dsimp only at d0 d1 d2 d3 d4
                obtain ⟨e0, e1, e2, e3, e4⟩ := N6.out.at_
                dsimp only at e0 e1 e2 e3 e4 c22
                have HE : Hid (noteV ⟨false, y1, p3, true, q⟩ = noteV (hereV a s 2 p)) := by
                  show _ = _
                  rw [HY1.out, ← HQ.out, HY2.out, ← HP3.out, HY3.out, wrap64_eq, wrap64_eq]; rfl
                obtain ⟨W6, HW6⟩ : ∃ W6 : World, Hid (W6 = W5.setCell ⟨g2, 2, none⟩ (.int .i64 p3)) := ⟨_, rfl⟩
                clear hb5
                go_wp2_with (simp only [HP3.out])
                rw [← HW6.out] at S6 R6 ⊢
                have S9 := Lib.hid (S6.out.grown (put5_else W6 w.heap.size (.bool false) (.int .u64 y1) (.int .i64 p3) (.bool true) (.int .i64 q)) S6.out.size (fun q hq => by rw [← Option.some.inj hq]; exact Nat.le_refl _))
                have R9 := Lib.hid (R6.out.put ⟨false, y1, p3, true, q⟩)
                dsimp only at R9
                obtain ⟨W9, HW9⟩ : ∃ W9, Hid (W9 = (((((W6.setCell ⟨w.heap.size, 0, none⟩ (.bool false)).setCell ⟨w.heap.size, 1, none⟩ (.int .u64 y1)).setCell ⟨w.heap.size, 2, none⟩ (.int .i64 p3)).setCell ⟨w.heap.size, 3, none⟩ (.bool true)).setCell ⟨w.heap.size, 4, none⟩ (.int .i64 q))) := ⟨_, rfl⟩
                rw [← HW9.out] at S9 R9 ⊢
                obtain ⟨r0, r1, r2, r3, r4⟩ := R9.out.at_
                dsimp only at r0 r1 r2 r3 r4
                exact bodyPost_ret (v := .tuple #[noteV ⟨false, y1, p3, true, q⟩, .slice A6 n6 c6, .bool true]) (by simp [results, Try.results44, go_sem, r0, r1, r2, r3, r4, noteV]) rfl (by rw [HP.out]; exact ⟨A6, n6, c6, by rw [HE.out], hn6, HC6, HB6, S9⟩)

end Go.Proofs.Ytaocppgekinocaa
