/- Texts of one layer, laid together. Conditions: as each one says. -/
import Derived.Test.YthgkdnegnecnjaaGreatDoorSbase
import Derived.Test.YthgkdnegnecnjaaGreatDoorSmath
import Derived.Lib.SliceRun
/- The small contracts of package head, and of the document's own: which heads may be, how many bytes data may have, whether bytes are erased. Conditions: the slices' cells. -/

set_option linter.unusedVariables false
set_option linter.unusedSimpArgs false
set_option maxRecDepth 20000
namespace Go.Proofs.YthgkdnegnecnjaaGreatDoor
open Go.RowKit

def mayB (K A S G : Int) : Bool := decide (1 ≤ S ∧ S ≤ 1099511627775 ∧ 0 ≤ G ∧ G ≤ 16777215 ∧ ((K = 1 ∨ K = 2) ∨ (K = 3 ∨ K = 4) ∧ A = 0))
theorem mayB_yes {K A S G : Int} (h : 1 ≤ S ∧ S ≤ 1099511627775 ∧ 0 ≤ G ∧ G ≤ 16777215 ∧ ((K = 1 ∨ K = 2) ∨ (K = 3 ∨ K = 4) ∧ A = 0)) : mayB K A S G = true := decide_eq_true h
theorem mayB_no {K A S G : Int} (h : ¬(1 ≤ S ∧ S ≤ 1099511627775 ∧ 0 ≤ G ∧ G ≤ 16777215 ∧ ((K = 1 ∨ K = 2) ∨ (K = 3 ∨ K = 4) ∧ A = 0))) : mayB K A S G = false := decide_eq_false h
theorem mayB_out {K A S G : Int} (h : mayB K A S G = true) : 1 ≤ S ∧ S ≤ 1099511627775 ∧ 0 ≤ G ∧ G ≤ 16777215 ∧ ((K = 1 ∨ K = 2) ∨ (K = 3 ∨ K = 4) ∧ A = 0) := of_decide_eq_true h
def dataB (x : Int) : Bool := decide (128 ≤ x ∧ x ≤ 256)
theorem dataB_yes {x : Int} (h0 : 128 ≤ x) (h1 : x ≤ 256) : dataB x = true := decide_eq_true ⟨h0, h1⟩
theorem dataB_no {x : Int} (h : ¬(128 ≤ x ∧ x ≤ 256)) : dataB x = false := decide_eq_false h

theorem maybedata_any (x : Int) (w : World) : Calls Tryz.prog 84 #[.int .i64 x] w (SaysB w (dataB x)) := by
  by_cases h0 : 128 ≤ x
  · by_cases h1 : x ≤ 256
    · rw [dataB_yes h0 h1]
      go_enter Tryz.func84, Tryz.ntmps84
      go_wp2
      go_ret
      exact ⟨by simp, Below.refl _ _⟩
    · rw [dataB_no (fun h => h1 h.2)]
      go_enter Tryz.func84, Tryz.ntmps84
      go_wp2
      go_ret
      exact ⟨by simp, Below.refl _ _⟩
  · rw [dataB_no (fun h => h0 h.1)]
    go_enter Tryz.func84, Tryz.ntmps84
    go_wp2
    go_ret
    exact ⟨by simp, Below.refl _ _⟩
set_option maxHeartbeats 4000000 in
theorem headmay_any (K A S G : Int) (w : World) : Calls Tryz.prog 85 #[.agg #[.int .i64 K, .int .u64 A, .int .i64 S, .int .i64 G]] w (SaysB w (mayB K A S G)) := by
  have S1 := Lib.hid (since_alloc (Below.refl w.heap.size w) (.cells #[.int .i64 K, .int .u64 A, .int .i64 S, .int .i64 G] 42))
  by_cases hs0 : S < 1
  · rw [mayB_no (fun h => by omega)]
    go_enter Tryz.func85, Tryz.ntmps85
    go_wp2
    go_ret
    exact ⟨rfl, S1⟩
  by_cases hs1 : 1099511627775 < S
  · rw [mayB_no (fun h => by omega)]
    go_enter Tryz.func85, Tryz.ntmps85
    go_wp2
    go_ret
    exact ⟨rfl, S1⟩
  by_cases hg0 : G < 0
  · rw [mayB_no (fun h => by omega)]
    go_enter Tryz.func85, Tryz.ntmps85
    go_wp2
    go_ret
    exact ⟨rfl, S1⟩
  by_cases hg1 : 16777215 < G
  · rw [mayB_no (fun h => by omega)]
    go_enter Tryz.func85, Tryz.ntmps85
    go_wp2
    go_ret
    exact ⟨rfl, S1⟩
  by_cases hk1 : K = 1
  · rw [mayB_yes ⟨by omega, by omega, by omega, by omega, Or.inl (Or.inl hk1)⟩]
    subst hk1
    go_enter Tryz.func85, Tryz.ntmps85
    go_wp2
    go_ret
    exact ⟨rfl, S1⟩
  by_cases hk2 : K = 2
  · rw [mayB_yes ⟨by omega, by omega, by omega, by omega, Or.inl (Or.inr hk2)⟩]
    subst hk2
    clear hk1
    go_enter Tryz.func85, Tryz.ntmps85
    go_wp2
    go_ret
    exact ⟨rfl, S1⟩
  have HR : Hid ((K = 3 ∨ K = 4) → mayB K A S G = (A == 0)) := fun hk => by
    by_cases ha : A = 0
    · rw [mayB_yes ⟨by omega, by omega, by omega, by omega, Or.inr ⟨hk, ha⟩⟩, ha]; rfl
    · rw [mayB_no (fun h => by omega)]; simp [ha]
  by_cases hk3 : K = 3
  · rw [HR.out (Or.inl hk3)]
    subst hk3
    clear hk1 hk2 HR
    go_enter Tryz.func85, Tryz.ntmps85
    go_wp2
    go_ret
    exact ⟨rfl, S1⟩
  by_cases hk4 : K = 4
  · rw [HR.out (Or.inr hk4)]
    subst hk4
    clear hk1 hk2 hk3 HR
    go_enter Tryz.func85, Tryz.ntmps85
    go_wp2
    go_ret
    exact ⟨rfl, S1⟩
  rw [mayB_no (fun h => by omega)]
  have b1 : (K == 1) = false := by simpa using hk1
  have b2 : (K == 2) = false := by simpa using hk2
  have b3 : (K == 3) = false := by simpa using hk3
  have b4 : (K == 4) = false := by simpa using hk4
  clear HR hk1 hk2 hk3 hk4
  go_enter Tryz.func85, Tryz.ntmps85
  go_wp2
  go_ret
  exact ⟨rfl, S1⟩
end Go.Proofs.YthgkdnegnecnjaaGreatDoor

/- The contract of bytes.Equal. Conditions: the slices' cells. -/
set_option linter.unusedVariables false
set_option linter.unusedSimpArgs false
set_option maxRecDepth 20000
namespace Go.Proofs.YthgkdnegnecnjaaGreatDoor
open Go.RowKit

/- bytes.Equal -/
theorem strOf_beq {bs cs : List Nat} (hb : ∀ b ∈ bs, b < 256) (hc : ∀ b ∈ cs, b < 256) : (strOf bs == strOf cs) = sameB bs cs := by
  unfold sameB
  by_cases h : bs = cs
  · subst h
    have := strOf_same bs
    rw [bne] at this
    simpa using this
  · have := strOf_other hb hc h
    rw [bne] at this
    simp only [h, decide_false]
    simpa using this
theorem equal_any (A A' : Option Addr) (n c n' c' : Nat) (bs cs : List Nat) (w : World) (hA : Bytes w w.heap.size A n bs) (hA' : Bytes w w.heap.size A' n' cs) : Calls Tryz.prog 104 #[.slice A n c, .slice A' n' c'] w (SaysB w (sameB bs cs)) := by
  have h1 := conv_bytes hA c
  have h2 := conv_bytes hA' c'
  have HB := Lib.hid (strOf_beq hA.lt256 hA'.lt256)
  obtain ⟨s1, H1⟩ : ∃ s, Hid (s = strOf bs) := ⟨_, rfl⟩
  obtain ⟨s2, H2⟩ : ∃ s, Hid (s = strOf cs) := ⟨_, rfl⟩
  rw [← H1.out] at h1 HB
  rw [← H2.out] at h2 HB
  obtain ⟨b, hb⟩ : ∃ b, (s1 == s2) = b := ⟨_, rfl⟩
  have HBB : Hid (b = sameB bs cs) := by rw [← hb]; exact HB
  rw [← HBB.out]
  clear HB hA hA'
  go_enter Tryz.func104, Tryz.ntmps104
  go_wp2
  go_ret
  exact ⟨by simp; rw [← beq_toListBytes]; exact hb, Below.refl _ _⟩
end Go.Proofs.YthgkdnegnecnjaaGreatDoor

/- Small contracts for package head: whether bytes are erased, bytes.Equal, an error's number, bytes of a number, the statements' head. Conditions: the slices' cells. -/
set_option linter.unusedVariables false
set_option linter.unusedSimpArgs false
set_option maxRecDepth 20000
namespace Go.Proofs.YthgkdnegnecnjaaGreatDoor
open Go.RowKit

/-- All bytes are 255. -/
def blankB (bs : List Nat) : Bool := bs.all fun b => b == 255
theorem blankB_iff {bs : List Nat} : blankB bs = true ↔ ∀ b ∈ bs, b = 255 := by unfold blankB; simp
theorem blank_no {bs : List Nat} {k : Nat} (hk : k < bs.length) (h : bs.getD k 0 ≠ 255) : blankB bs = false := by
  cases hb : blankB bs with
  | false => rfl
  | true =>
    exfalso
    refine h ?_
    rw [List.getD_eq_getElem?_getD, List.getElem?_eq_getElem hk]
    exact blankB_iff.1 hb _ (List.getElem_mem hk)
set_option maxHeartbeats 1000000 in
theorem isblank_any (A : Option Addr) (n c : Nat) (bs : List Nat) (w : World) (hn : n ≤ 900) (hA : Bytes w w.heap.size A n bs) : Calls Tryz.prog 102 #[.slice A n c] w (SaysB w (blankB bs)) := by
  have HA := Lib.hid hA
  clear hA
  go_enter Tryz.func102, Tryz.ntmps102
  go_wp2_with fail
  go_loop [4, 7] (fun t4 t7 => ∃ k : Nat, t7 = .int .i64 k ∧ k ≤ n ∧ Hid (∀ j, j < k → bs.getD j 0 = 255)) (fun _ t7 => n - (intOf t7).toNat)
  case atStart => exact ⟨0, rfl, Nat.zero_le _, fun j hj => absurd hj (Nat.not_lt_zero _)⟩
  case round =>
    obtain ⟨k, rfl, hk, HK⟩ := hrel
    by_cases hlt : k < n
    · obtain ⟨ad, hA, hblk, hcell⟩ := HA.out.at_ hlt
      subst hA
      by_cases h255 : bs.getD k 0 = 255
      · rw [h255] at hcell
        have HK2 : Hid (∀ j, j < k + 1 → bs.getD j 0 = 255) := fun j hj => by
          rcases (by omega : j < k ∨ j = k) with h | rfl
          · exact HK.out j h
          · exact h255
        clear h255
        go_wp2_with fail
        go_round
        case rel => exact ⟨k + 1, by go_num, by omega, HK2⟩
        case measure => simp [intOf]; omega
      · have HB := Lib.hid (blank_no (by rw [HA.out.len]; exact hlt) h255)
        obtain ⟨y, HY⟩ : ∃ y : Int, Hid (y = ((bs.getD k 0 : Nat) : Int)) := ⟨_, rfl⟩
        rw [← HY.out] at hcell
        have hy : (y == 255) = false := by have := HY.out; simp; omega
        have hy' : ¬ y = 255 := by have := HY.out; omega
        clear h255
        go_wp2_with fail
        go_ret
        rw [HB.out]
        exact ⟨rfl, Below.refl _ _⟩
    · have HB : Hid (blankB bs = true) := blankB_iff.2 fun b hb => by
        obtain ⟨i, hi, rfl⟩ := List.mem_iff_getElem.1 hb
        have h1 := HK.out i (by have := HA.out.len; omega)
        rw [List.getD_eq_getElem?_getD, List.getElem?_eq_getElem hi] at h1
        exact h1
      go_wp2_with fail
      go_ret
      rw [HB.out]
      exact ⟨rfl, Below.refl _ _⟩

/- the statements' head; an error's number -/
/-- What is known of an error that says 'may not be'. -/
def Bad (W : World) (v : Value) : Prop := ∃ g s, v = .iface 111 (.pointer (some ⟨g, 0, none⟩)) ∧ W.cell? ⟨g, 0, none⟩ = some (.int .i64 2) ∧ W.cell? ⟨g, 1, none⟩ = some (.string s)
theorem run_assert_wrong (v : Value) (w : World) : (Instr.typeAssert (.iface 111 v) 34 111 true).run Tryz.prog w = .ok (.tuple #[v, .bool true]) w := by
  simp [Instr.typeAssert, run_underlying Tryz.underlying111]
theorem code_bad (v : Value) (w : World) (h : Bad w v) : Calls Tryz.prog 47 #[v] w fun e w' => e = .returned (.int .i64 2) ∧ w = w' := by
  obtain ⟨g, s, rfl, h0, h1⟩ := h
  have ha := run_assert_wrong (.pointer (some ⟨g, 0, none⟩)) w
  go_enter Tryz.func47, Tryz.ntmps47
  go_wp2
  go_ret
  exact ⟨rfl, rfl⟩
theorem num_bad (v : Value) (w : World) (h : Bad w v) : Calls Tryz.prog 25 #[v] w fun e w' => e = .returned (.int .i64 2) ∧ w = w' := by
  have HC := Lib.hid (code_bad v w h)
  obtain ⟨g, s, rfl, h0, h1⟩ := h
  clear h0 h1
  go_enter Tryz.func25, Tryz.ntmps25
  go_wp2_with fail
  refine HC.out.mono ?_
  rintro e W1 ⟨rfl, rfl⟩
  go_wp2_with fail
  refine HC.out.mono ?_
  rintro e W2 ⟨rfl, rfl⟩
  go_wp2_with fail
  go_ret
  exact ⟨rfl, rfl⟩
theorem Bad.since {w w' : World} {v : Value} (h : Bad w v) (hb : Below w.heap.size w w') : Bad w' v := by
  obtain ⟨g, s, e, h0, h1⟩ := h
  exact ⟨g, s, e, (hb.cell (World.block_lt_of_cell? w _ h0)).trans h0, (hb.cell (World.block_lt_of_cell? w _ h1)).trans h1⟩
theorem Bad.ne {w : World} {v : Value} (h : Bad w v) : ∃ x, v = .iface 111 x := by
  obtain ⟨g, s, e, _⟩ := h
  exact ⟨_, e⟩

/- bytes of a number -/
def fillAt (n : Int) (i : Nat) : Nat := ((n / 2 ^ (8 * (i % 4)) + (i : Int)) % 256).toNat
def fillL (n : Int) : Nat → List Nat
  | 0 => []
  | k + 1 => fillL n k ++ [fillAt n k]
theorem fillL_len (n : Int) (k : Nat) : (fillL n k).length = k := by
  induction k with
  | zero => rfl
  | succ k ih => simp [fillL, ih]
theorem fillL_byte (n : Int) (k : Nat) : ∀ b ∈ fillL n k, b < 256 := by
  induction k with
  | zero => intro b hb; simp [fillL] at hb
  | succ k ih =>
    intro b hb
    rcases List.mem_append.1 hb with h | h
    · exact ih b h
    · simp at h
      rw [h]; unfold fillAt; omega
set_option maxHeartbeats 1000000 in
theorem fill_any (x M : Int) (m : Nat) (w : World) (hM : M = (m : Int)) (hx0 : -9223372036854775808 ≤ x) (hx1 : x ≤ 9223372036854775807) (hm : m ≤ 300) :
    Calls Tryz.prog 24 #[.int .i64 x, .int .i64 M] w (GivesBytes w (fillL x m)) := by
  subst hM
  go_enter Tryz.func24, Tryz.ntmps24
  go_wp2_with fail
  go_loopw [5, 6] (fun t5 t6 wr => ∃ (A : Option Addr) (k c : Nat), t5 = .slice A k c ∧ t6 = .int .i64 k ∧ k ≤ m ∧ Hid (Own wr w.heap.size A k c (fillL x k)) ∧ Hid (Below w.heap.size w wr)) (fun _ t6 _ => m - (intOf t6).toNat)
  case atStart => exact ⟨none, 0, 0, rfl, rfl, Nat.zero_le _, Own.none_, Below.refl _ _⟩
  case round =>
    obtain ⟨A3, k, c3, rfl, rfl, hk, HO3, HB3⟩ := hrel
    by_cases hlt : k < m
    · obtain ⟨A4, c4, W4, hr, ho, hb⟩ := own_append_one HB3.out HO3.out ((x / 2 ^ (8 * (k % 4)) + (k : Int)) % 256) (fillAt x k) (by unfold fillAt; omega) (by unfold fillAt; omega) (by omega)
      have R := Lib.hid hr
      have HO4 := Lib.hid ho
      have HB4 := Lib.hid hb
      clear hr ho hb
      go_wp2_with (at_builtin; refine wpList_append_run rfl (.tmp 16) (.tmp 26) 58 rfl rfl rfl R.out ?_)
      go_roundw
      case rel => exact ⟨_, k + 1, _, rfl, by go_num, by omega, HO4, HB4⟩
      case measure => simp [intOf]; omega
    · have hkm : k = m := by omega
      subst hkm
      go_wp2_with fail
      go_ret
      exact ⟨_, _, _, rfl, HO3.out, HB3.out⟩
end Go.Proofs.YthgkdnegnecnjaaGreatDoor

/- The contracts of package pack: Put, Get, Fix, Unfix, and of bytes.Clone: what they answer is new. Conditions: the slices' cells; at most 900 bytes ahead. -/
set_option linter.unusedVariables false
set_option linter.unusedSimpArgs false
set_option maxRecDepth 20000
namespace Go.Proofs.YthgkdnegnecnjaaGreatDoor
open Go.RowKit

set_option maxHeartbeats 1000000 in
theorem room_any (A : Option Addr) (n c : Nat) (bs : List Nat) (x : Int) (w : World) (hn : n ≤ 3000) (h0 : 0 ≤ x) (h1 : x ≤ 20) (hA : Bytes w w.heap.size A n bs) :
    Calls Tryz.prog 112 #[.slice A n c, .int .i64 x] w fun e w' => ∃ A' c', e = .returned (.slice A' n c') ∧ Hid (Own w' w.heap.size A' n c' bs) ∧ Hid (Below w.heap.size w w') := by
  have hmk := make_room n x (by omega) h0 (by omega) w
  have hS := since_alloc (Below.refl w.heap.size w) (.cells (madeCells #[.int .u8 0] ((n : Int) + x).toNat) 5)
  obtain ⟨A2, c2, W2, hr, ho, hb⟩ := own_append (c' := c) hS (own_made w ((n : Int) + x).toNat (by omega) (Nat.le_refl _)) (hA.since hS) (by omega)
  rw [Nat.zero_add] at hr ho
  rw [List.nil_append] at ho
  have R := Lib.hid hr
  have HO := Lib.hid ho
  have HB := Lib.hid hb
  clear hr ho hb hA hS
  go_enter Tryz.func112, Tryz.ntmps112
  go_wp2_with (at_builtin; refine wpList_append_run rfl (.tmp 11) (.tmp 12) 58 rfl rfl rfl R.out ?_)
  go_ret
  exact ⟨_, _, rfl, HO, HB⟩

theorem or128 {y b : Int} {u : Nat} (h0 : 0 ≤ y) (HY : y = (u : Int)) : bits .or .u8 (y % 256) 128 = ((u % 128 + 128 : Nat) : Int) := by
  have e : y % 256 = ((u % 256 : Nat) : Int) := by omega
  rw [e]
  have := u8_or_nat (u % 256) 128 (by omega) (by omega)
  rw [show (128 : Int) = ((128 : Nat) : Int) by rfl, this]
  congr 1
  have hx : u % 256 = u % 128 ∨ u % 256 = u % 128 + 128 := by omega
  rcases hx with h | h
  · rw [h, Nat.or_comm]
    have := nat_join 7 128 (u % 128) (by decide) (by omega)
    omega
  · have e1 := nat_join 7 128 (u % 128) (by decide) (by omega)
    have e2 : u % 256 = 128 ||| u % 128 := by omega
    rw [e2, Nat.or_comm, ← Nat.or_assoc, Nat.or_self]; omega

theorem may_any (x : Int) (w : World) : Calls Tryz.prog 111 #[.int .i64 x] w fun e w' => e = .returned (.bool (decide (0 ≤ x ∧ x ≤ 8))) ∧ w = w' := by
  by_cases h0 : 0 ≤ x
  · by_cases h1 : x ≤ 8
    all_goals
      go_enter Tryz.func111, Tryz.ntmps111
      go_wp2
      go_ret
      simp [h0, h1]
  · go_enter Tryz.func111, Tryz.ntmps111
    go_wp2
    go_ret
    simp [h0]
    omega
/-- How many bytes Fix lays. -/
def fixMany (x : Int) : Nat := if 0 ≤ x ∧ x ≤ 8 then x.toNat else 0
theorem fixMany_yes {x : Int} (h : 0 ≤ x ∧ x ≤ 8) : fixMany x = x.toNat := if_pos h
theorem fixMany_no {x : Int} (h : ¬(0 ≤ x ∧ x ≤ 8)) : fixMany x = 0 := if_neg h
theorem fix_shift {x a : Int} {v : Nat} (HX : x = (v : Int)) (h0 : 0 ≤ a) : x / 2 ^ (8 * a).toNat = ((v / 256 ^ a.toNat : Nat) : Int) := by
  have e : (8 * a).toNat = 8 * a.toNat := by omega
  rw [HX, e, show (256 : Nat) = 2 ^ 8 by rfl, ← Nat.pow_mul]
  simp
set_option maxHeartbeats 1000000 in
theorem fix_loop (A : Option Addr) (n c : Nat) (bs : List Nat) (x m : Int) (v : Nat) (w : World) (h0 : 0 ≤ x) (h1 : x ≤ 18446744073709551615) (HX : Hid (x = (v : Int))) (m0 : 0 ≤ m) (m1 : m ≤ 8) (hn : n ≤ 900) (hA : Bytes w w.heap.size A n bs) :
    Calls Tryz.prog 86 #[.slice A n c, .int .u64 x, .int .i64 m] w (GivesBytes w (bs ++ Pk.fix v m.toNat)) := by
  have HA := Lib.hid hA
  have hmay := may_any m
  rw [decide_eq_true ⟨m0, m1⟩] at hmay
  obtain ⟨N, hN0, HN⟩ : ∃ N : Nat, N ≤ 910 ∧ Hid ((bs ++ Pk.fix v m.toNat).length = N) := ⟨_, by rw [List.length_append, Pk.fix_len, hA.len]; omega, rfl⟩
  have HM := Lib.hid hmay
  clear hA hmay
  go_enter Tryz.func86, Tryz.ntmps86
  go_wp2_with fail
  refine (HM.out _).mono ?_
  rintro e w' ⟨rfl, rfl⟩
  go_wp2_with fail
  refine (room_any A n c bs m _ (by omega) m0 (by omega) HA.out).mono ?_
  rintro e W1 ⟨A1, c1, rfl, HO, HB⟩
  go_wp2_with fail
  go_loopw [7, 8] (fun t7 t8 wr => ∃ (A : Option Addr) (k c : Nat) (us : List Nat) (a : Int), t7 = .slice A k c ∧ t8 = .int .i64 a ∧ -1 ≤ a ∧ a ≤ 7 ∧ Hid (us ++ Pk.fix v (a + 1).toNat = bs ++ Pk.fix v m.toNat) ∧ Hid (Own wr w.heap.size A k c us) ∧ Hid (Below w.heap.size w wr)) (fun _ t8 _ => (intOf t8 + 1).toNat)
  case atStart => exact ⟨A1, n, c1, bs, m - 1, rfl, by go_num, by omega, by omega, by rw [show m - 1 + 1 = m by omega]; rfl, HO, HB⟩
  case round =>
    obtain ⟨A3, k, c3, us, a, rfl, rfl, ha0, ha1, HU, HO3, HB3⟩ := hrel
    by_cases hlt : 0 ≤ a
    · have hk : k + 1 ≤ 8000 := by
        have e := congrArg List.length HU.out
        rw [HN.out, List.length_append, HO3.out.len, Pk.fix_len] at e
        omega
      have hs := fix_shift HX.out hlt
      obtain ⟨q, HQ⟩ : ∃ q : Int, Hid (q = ((v / 256 ^ a.toNat : Nat) : Int)) := ⟨_, rfl⟩
      rw [← HQ.out] at hs
      have hq0 : 0 ≤ q := by rw [HQ.out]; exact Int.natCast_nonneg _
      have hq1 : q ≤ 18446744073709551615 := by
        have h : v / 256 ^ a.toNat ≤ v := Nat.div_le_self _ _
        have := HX.out
        rw [HQ.out]; omega
      obtain ⟨z, hz, HZ⟩ : ∃ z : Int, q % 256 = z ∧ Hid (z = ((v / 256 ^ a.toNat % 256 : Nat) : Int)) := ⟨_, rfl, by rw [HQ.out]; show _ = _; omega⟩
      obtain ⟨A4, c4, W4, hr, ho, hb⟩ := own_append_one HB3.out HO3.out z _ HZ.out (by omega) hk
      have R := Lib.hid hr
      have HO4 := Lib.hid ho
      have HB4 := Lib.hid hb
      have HU4 : Hid ((us ++ [v / 256 ^ a.toNat % 256]) ++ Pk.fix v (a - 1 + 1).toNat = bs ++ Pk.fix v m.toNat) := by
        have e := HU.out
        rw [show (a + 1).toNat = (a - 1 + 1).toNat + 1 by omega] at e
        rw [List.append_assoc]
        have e2 : (a - 1 + 1).toNat = a.toNat := by omega
        rw [e2] at e ⊢
        exact e
      have HS := Lib.hid hs
      clear hr ho hb hk hs
      go_wp2_with (first | (simp only [HS.out]) | (at_builtin; refine wpList_append_run rfl (.tmp 21) (.tmp 27) 58 rfl rfl rfl R.out ?_))
      go_roundw
      case rel => exact ⟨_, _, _, _, a - 1, rfl, by go_num, by omega, by omega, HU4, HO4, HB4⟩
      case measure => simp [intOf]; omega
    · have ha : a = -1 := by omega
      subst ha
      have HU4 : Hid (us = bs ++ Pk.fix v m.toNat) := by
        have e := HU.out
        simp [Pk.fix] at e
        exact e
      go_wp2_with fail
      go_ret
      exact ⟨_, _, _, rfl, HO3.out.same HU4.out, HB3.out⟩

set_option maxHeartbeats 1000000 in
theorem fix_none (A : Option Addr) (n c : Nat) (bs : List Nat) (x m : Int) (w : World) (hm : ¬(0 ≤ m ∧ m ≤ 8)) (hn : n ≤ 900) (hA : Bytes w w.heap.size A n bs) :
    Calls Tryz.prog 86 #[.slice A n c, .int .u64 x, .int .i64 m] w (GivesBytes w bs) := by
  have HA := Lib.hid hA
  have hmay := may_any m
  rw [decide_eq_false hm] at hmay
  have HM := Lib.hid hmay
  clear hA hmay hm
  go_enter Tryz.func86, Tryz.ntmps86
  go_wp2_with fail
  refine (HM.out _).mono ?_
  rintro e w' ⟨rfl, rfl⟩
  go_wp2_with fail
  refine (room_any A n c bs 0 _ (by omega) (by omega) (by omega) HA.out).mono ?_
  rintro e W1 ⟨A1, c1, rfl, HO, HB⟩
  go_wp2_with fail
  go_loopw [7, 8] (fun t7 t8 wr => t7 = .slice A1 n c1 ∧ t8 = .int .i64 (-1) ∧ Hid (Own wr w.heap.size A1 n c1 bs) ∧ Hid (Below w.heap.size w wr)) (fun _ _ _ => 0)
  case atStart => exact ⟨rfl, rfl, HO, HB⟩
  case round =>
    obtain ⟨rfl, rfl, HO3, HB3⟩ := hrel
    go_wp2_with fail
    go_ret
    exact ⟨_, _, _, rfl, HO3.out, HB3.out⟩
theorem fix_any (A : Option Addr) (n c : Nat) (bs : List Nat) (x m : Int) (v : Nat) (w : World) (h0 : 0 ≤ x) (h1 : x ≤ 18446744073709551615) (HX : Hid (x = (v : Int))) (hn : n ≤ 900) (hA : Bytes w w.heap.size A n bs) :
    Calls Tryz.prog 86 #[.slice A n c, .int .u64 x, .int .i64 m] w (GivesBytes w (bs ++ Pk.fix v (fixMany m))) := by
  by_cases hm : 0 ≤ m ∧ m ≤ 8
  · rw [fixMany_yes hm]
    exact fix_loop A n c bs x m v w h0 h1 HX hm.1 hm.2 hn hA
  · rw [fixMany_no hm, Pk.fix, List.append_nil]
    exact fix_none A n c bs x m w hm hn hA

theorem own_empty {base : Nat} (W : World) (hb : base ≤ W.heap.size) : Own (W.alloc (.cells #[] 5)) base (some ⟨W.heap.size, 0, none⟩) 0 0 [] :=
  ⟨World.ownsRow_lit W #[] 0 hb (by unfold maxLen; omega) (by simp), fun k => by simp⟩
set_option maxHeartbeats 1000000 in
theorem clone_any (A : Option Addr) (n c : Nat) (bs : List Nat) (w : World) (hn : n ≤ 900) (hA : Bytes w w.heap.size A n bs) :
    Calls Tryz.prog 100 #[.slice A n c] w (GivesBytes w bs) := by
  rcases A with _ | ad
  · have hn0 : bs = [] := by
      rcases Nat.eq_zero_or_pos n with h | h
      · exact List.eq_nil_of_length_eq_zero (hA.len.trans h)
      · obtain ⟨ad, h', _⟩ := hA.lies 0 h
        cases h'
    subst hn0
    clear hA
    have heq : ∀ W : World, (binOp .eql 58 (.slice none n c) (.slice none 0 0)).run Tryz.prog W = .ok (.bool true) W := fun W => Lib.run_eql_slice_nil W _ _ _ _ _ _ _ Tryz.underlying58
    go_enter Tryz.func100, Tryz.ntmps100
    go_wp2
    go_ret
    exact ⟨_, _, _, rfl, Own.none_, Below.refl _ _⟩
  · have hS := since_alloc (Below.refl w.heap.size w) (.cells #[] 5)
    obtain ⟨A2, c2, W2, hr, ho, hb⟩ := own_append (c' := c) hS (own_empty w (Nat.le_refl _)) (hA.since hS) (by omega)
    rw [Nat.zero_add] at hr ho
    rw [List.nil_append] at ho
    have R := Lib.hid hr
    have HO := Lib.hid ho
    have HB := Lib.hid hb
    clear hr ho hb hA hS
    have heq : ∀ W : World, (binOp .eql 58 (.slice (some ad) n c) (.slice none 0 0)).run Tryz.prog W = .ok (.bool false) W := fun W => Lib.run_eql_slice_nil W _ _ _ _ _ _ _ Tryz.underlying58
    go_enter Tryz.func100, Tryz.ntmps100
    go_wp2_with (at_builtin; refine wpList_append_run rfl (.tmp 5) (.tmp 6) 58 rfl rfl rfl R.out ?_)
    go_ret
    exact ⟨_, _, _, rfl, HO.out, HB.out⟩

/-- What Get and Unfix leave. -/
def Got (w : World) : Option (Nat × List Nat) → Ending → World → Prop
  | none, e, w' => e = .returned (.tuple #[.int .u64 0, .slice none 0 0, .bool false]) ∧ Hid (Below w.heap.size w w')
  | some (v, r), e, w' => ∃ (y : Int) (A : Option Addr) (n c : Nat), e = .returned (.tuple #[.int .u64 y, .slice A n c, .bool true]) ∧ Hid (y = (v : Int)) ∧ 0 ≤ y ∧ y ≤ 18446744073709551615 ∧ n ≤ 900 ∧ Hid (Own w' w.heap.size A n c r) ∧ Hid (Below w.heap.size w w')
theorem drop_cons {bs : List Nat} {k : Nat} (h : k < bs.length) : bs.drop k = bs.getD k 0 :: bs.drop (k + 1) := by
  rw [List.drop_eq_getElem_cons h, List.getD_eq_getElem?_getD, List.getElem?_eq_getElem h]; rfl
theorem andNot128 {z : Int} {b : Nat} (HZ : (b : Int) = z) (hb : b < 256) : bits .andNot .u8 z 128 = ((b % 128 : Nat) : Int) := by
  rw [← HZ, show (128 : Int) = ((128 : Nat) : Int) by rfl, u8_andNot_nat b 128 hb (by omega)]
  exact congrArg _ (nat_mask7 b)
theorem wrap_lit {d : Int} (h0 : 0 ≤ d) (h1 : d < 18446744073709551616) : IntKind.u64.wrap d = d := by rw [IntKind.wrap_u64]; omega
theorem pow128 (k : Nat) : (2 : Int) ^ (7 * k) = ((128 ^ k : Nat) : Int) := by
  rw [show (128 : Nat) = 2 ^ 7 by rfl, ← Nat.pow_mul]; simp
theorem or_step {y d : Int} {u b k : Nat} (HY : y = (u : Int)) (HD : d = ((b % 128 : Nat) : Int)) (hu : u < 128 ^ k) (hk : k ≤ 9) (h9 : ¬(k = 9 ∧ 1 < b)) :
    bits .or .u64 y (IntKind.u64.wrap (IntKind.u64.wrap d * 2 ^ (7 * k))) = ((u + b % 128 * 128 ^ k : Nat) : Int) ∧ u + b % 128 * 128 ^ k < 18446744073709551616 := by
  have hlt : b % 128 * 128 ^ k + 128 ^ k ≤ 18446744073709551616 := by
    rcases (by omega : k ≤ 8 ∨ k = 9) with h | rfl
    · have e : b % 128 * 128 ^ k + 128 ^ k = (b % 128 + 1) * 128 ^ k := by rw [Nat.add_mul, Nat.one_mul]
      rw [e]
      have h1 : (b % 128 + 1) * 128 ^ k ≤ 128 * 128 ^ 8 := Nat.mul_le_mul (by omega) (Nat.pow_le_pow_right (by omega) h)
      exact Nat.le_trans h1 (by decide)
    · rw [Pk.pow9]; omega
  have hs : u + b % 128 * 128 ^ k < 18446744073709551616 := by omega
  refine ⟨?_, hs⟩
  have e1 : IntKind.u64.wrap d = d := wrap_lit (by omega) (by omega)
  have e2 : d * 2 ^ (7 * k) = ((b % 128 * 128 ^ k : Nat) : Int) := by rw [HD, pow128]; simp
  rw [e1, e2, wrap_lit (Int.natCast_nonneg _) (by omega), HY, u64_or_nat _ _ (by omega) (by omega), Nat.or_comm]
  congr 1
  have hj := nat_join (7 * k) (b % 128 * 128 ^ k) u (by rw [show (128 : Nat) ^ k = 2 ^ (7 * k) by rw [Nat.pow_mul]]; exact Nat.mul_mod_left _ _) (by rw [show (2 : Nat) ^ (7 * k) = 128 ^ k by rw [Nat.pow_mul]]; exact hu)
  omega
theorem step_lt {u b k : Nat} (hu : u < 128 ^ k) : u + b % 128 * 128 ^ k < 128 ^ (k + 1) := by
  rw [Nat.pow_succ, Nat.mul_comm (128 ^ k) 128]
  have h1 : (b % 128 + 1) * 128 ^ k ≤ 128 * 128 ^ k := Nat.mul_le_mul_right _ (by omega)
  rw [Nat.add_mul, Nat.one_mul] at h1
  omega
end Go.Proofs.YthgkdnegnecnjaaGreatDoor

/- Package sum's contracts: More, Of. Conditions: what the two tables hold; the slices' cells. -/
set_option linter.unusedVariables false
set_option linter.unusedSimpArgs false
set_option maxRecDepth 20000
namespace Go.Proofs.YthgkdnegnecnjaaGreatDoor
open Go.RowKit

/- what the two tables hold -/
structure Tabs (w : World) : Prop where
  low : ∀ i, i < 16 → w.cell? ⟨1, i, none⟩ = some (.int .u32 ((Crc.lowerT.getD i 0 : Nat) : Int))
  high : ∀ i, i < 16 → w.cell? ⟨2, i, none⟩ = some (.int .u32 ((Crc.higherT.getD i 0 : Nat) : Int))
theorem Tabs.drewN {w : World} (h : Tabs w) (n : Nat) : Tabs (w.drewN n) := ⟨h.low, h.high⟩
theorem Tabs.since {w w' : World} (h : Tabs w) (hb : Below w.heap.size w w') : Tabs w' :=
  ⟨fun i hi => (hb.cell (World.block_lt_of_cell? w _ (h.low i hi))).trans (h.low i hi), fun i hi => (hb.cell (World.block_lt_of_cell? w _ (h.high i hi))).trans (h.high i hi)⟩
theorem Tabs.alloc {w : World} (h : Tabs w) (o : Obj) : Tabs (w.alloc o) := h.since ((Below.refl _ _).alloc (Nat.le_refl _) o)
/- the walk's words for bits, as the mathematics has them -/
theorem lower_lt (k : Nat) : Crc.lowerT.getD k 0 < 4294967296 := by
  by_cases h : k < 16
  · have all : ∀ j : Fin 16, Crc.lowerT.getD j.val 0 < 4294967296 := by decide
    exact all ⟨k, h⟩
  · rw [List.getD_eq_getElem?_getD, List.getElem?_eq_none (by simp only [Crc.lowerT, List.length_cons, List.length_nil]; omega)]; simp
theorem higher_lt (k : Nat) : Crc.higherT.getD k 0 < 4294967296 := by
  by_cases h : k < 16
  · have all : ∀ j : Fin 16, Crc.higherT.getD j.val 0 < 4294967296 := by decide
    exact all ⟨k, h⟩
  · rw [List.getD_eq_getElem?_getD, List.getElem?_eq_none (by simp only [Crc.higherT, List.length_cons, List.length_nil]; omega)]; simp
theorem index_val {r y : Int} {R b : Nat} (hr : r = R) (hy : (b : Int) = y) (hb : b < 256) : bits .xor .u8 (r % 256) y = (((R % 256) ^^^ b : Nat) : Int) := by
  subst hr hy
  have e : ((R : Int) % 256) = ((R % 256 : Nat) : Int) := by omega
  rw [e]
  exact u8_xor_nat _ _ (Nat.mod_lt _ (by omega)) hb
theorem low_val {z : Int} {Z : Nat} (hz : z = Z) (h : Z < 256) : bits .and .u8 z 15 = ((Z % 16 : Nat) : Int) := by
  subst hz
  have := u8_and_nat Z 15 h (by omega)
  rw [nat_mask4] at this
  exact this
theorem step_val {r z q a b : Int} {R : BitVec 32} {bn : Nat} (hb : bn < 256) (hr : r = ((R.toNat : Nat) : Int)) (hz : z = (((R.toNat % 256) ^^^ bn : Nat) : Int)) (hq : q = (((((R.toNat % 256) ^^^ bn) % 16 : Nat)) : Int))
    (ha : ((Crc.lowerT.getD q.toNat 0 : Nat) : Int) = a) (hbb : ((Crc.higherT.getD (z / 16).toNat 0 : Nat) : Int) = b) :
    bits .xor .u32 (bits .xor .u32 (r / 256) a) b = (((Crc.byte R bn).toNat : Nat) : Int) := by
  rw [Crc.byte_table R bn hb]
  subst ha hbb
  subst hq
  rw [show (z / 16).toNat = ((R.toNat % 256) ^^^ bn) / 16 by rw [hz]; omega, hr, show ((R.toNat : Nat) : Int) / 256 = ((R.toNat / 256 : Nat) : Int) by omega, Int.toNat_natCast]
  have hR := R.isLt
  rw [u32_xor_nat _ _ (by omega) (lower_lt _), u32_xor_nat _ _ (Nat.xor_lt_two_pow (n := 32) (by omega) (lower_lt _)) (higher_lt _)]
theorem not_val (s : BitVec 32) : bits .xor .u32 IntKind.u32.max (s.toNat : Int) = (((~~~ s).toNat : Nat) : Int) := by
  have h := u32_xor_nat 4294967295 s.toNat (by omega) s.isLt
  have e : (IntKind.u32.max : Int) = ((4294967295 : Nat) : Int) := rfl
  rw [e, h]
  have e2 : ~~~ s = BitVec.allOnes 32 ^^^ s := by rw [BitVec.allOnes_xor]
  rw [e2, BitVec.toNat_xor]
  rfl
theorem reg_snoc (r : BitVec 32) (bs : List Nat) (k : Nat) (h : k < bs.length) : Crc.reg r (bs.take (k + 1)) = Crc.byte (Crc.reg r (bs.take k)) (bs.getD k 0) := by
  rw [List.take_succ_eq_append_getElem h, Crc.reg_append, List.getD_eq_getElem?_getD, List.getElem?_eq_getElem h]
  rfl

set_option maxHeartbeats 1000000 in
theorem more_int (x : Int) (s : BitVec 32) (A : Option Addr) (n c : Nat) (bs : List Nat) (w : World) (h0 : 0 ≤ x) (h1 : x ≤ 4294967295) (HX : Hid (x = ((s.toNat : Nat) : Int))) (hn : n ≤ 9223372036854775807) (hT : Tabs w) (hA : Bytes w w.heap.size A n bs) :
    Calls Tryz.prog 113 #[.int .u32 x, .slice A n c] w fun e w' => e = .returned (.int .u32 ((Crc.more s bs).toNat : Int)) ∧ ∃ m, w' = w.drewN m := by
  have HT := Lib.hid hT
  have HA := Lib.hid hA
  clear hT hA
  go_enter Tryz.func113, Tryz.ntmps113
  go_wp2
  go_loopw [5, 13] (fun t5 t13 wr => ∃ (k m : Nat) (r : Int), k ≤ n ∧ t13 = .int .i64 k ∧ wr = w.drewN m ∧ t5 = .int .u32 r ∧ 0 ≤ r ∧ r ≤ 4294967295 ∧ Hid (r = (((Crc.reg (~~~ s) (bs.take k)).toNat : Nat) : Int))) (fun _ t13 _ => n - (intOf t13).toNat)
  case atStart =>
    have e := not_val s
    rw [← HX.out] at e
    have hl := (~~~ s).isLt
    exact ⟨0, 0, _, Nat.zero_le _, rfl, rfl, rfl, by rw [e]; omega, by rw [e]; omega, e⟩
  case round =>
    obtain ⟨k, m, r, hk, rfl, rfl, rfl, hr0, hr1, HR⟩ := hrel
    by_cases hlt : k < n
    · obtain ⟨ad, hA, hblk, hcell⟩ := HA.out.at_ hlt
      have hsm : bs.getD k 0 < 256 := HA.out.small k
      obtain ⟨y, hy0, hy1, HY⟩ : ∃ y : Int, 0 ≤ y ∧ y ≤ 255 ∧ Hid (((bs.getD k 0 : Nat) : Int) = y) := ⟨_, by omega, by omega, rfl⟩
      rw [HY.out] at hcell
      have hcell' : (w.drewN m).cell? (ad.add k) = some (.int .u8 y) := hcell
      subst hA
      have hlen := HA.out.len
      have HN : Hid (((((Crc.reg (~~~ s) (bs.take (k + 1))).toNat : Nat) : Int)) = (((Crc.byte (Crc.reg (~~~ s) (bs.take k)) (bs.getD k 0)).toNat : Nat) : Int)) := by
        rw [reg_snoc _ _ _ (by omega)]; rfl
      clear hlen
      obtain ⟨Z, HZ⟩ : ∃ Z : Nat, Hid (Z = ((Crc.reg (~~~ s) (bs.take k)).toNat % 256) ^^^ (bs.getD k 0)) := ⟨_, rfl⟩
      have hZl : Z < 256 := by rw [HZ.out]; exact Crc.xor_lt_256 (Nat.mod_lt _ (by omega)) hsm
      obtain ⟨z, hz, hz0, hz1, HZ2⟩ : ∃ z : Int, bits BinOp.xor IntKind.u8 (r % 256) y = z ∧ 0 ≤ z ∧ z ≤ 255 ∧ Hid (z = (Z : Int)) :=
        ⟨_, index_val HR.out HY.out hsm, by omega, by rw [← HZ.out]; omega, by rw [HZ.out]; rfl⟩
      obtain ⟨q, hq, hq0, hq1, HQ⟩ : ∃ q : Int, bits BinOp.and IntKind.u8 z 15 = q ∧ 0 ≤ q ∧ q < 16 ∧ Hid (q = ((Z % 16 : Nat) : Int)) :=
        ⟨_, low_val HZ2.out hZl, by omega, by omega, rfl⟩
      have lo := HT.out.low q.toNat (by omega)
      have hi := HT.out.high (z / 16).toNat (by omega)
      obtain ⟨a, HA1⟩ : ∃ a : Int, Hid (((Crc.lowerT.getD q.toNat 0 : Nat) : Int) = a) := ⟨_, rfl⟩
      obtain ⟨b, HB1⟩ : ∃ b : Int, Hid (((Crc.higherT.getD (z / 16).toNat 0 : Nat) : Int) = b) := ⟨_, rfl⟩
      rw [HA1.out] at lo
      rw [HB1.out] at hi
      have HV : Hid (bits .xor .u32 (bits .xor .u32 (r / 256) a) b = (((Crc.byte (Crc.reg (~~~ s) (bs.take k)) (bs.getD k 0)).toNat : Nat) : Int)) :=
        step_val hsm HR.out (by rw [← HZ.out]; exact HZ2.out) (by rw [← HZ.out]; exact HQ.out) HA1.out HB1.out
      clear hsm
      go_wp2
      clear hz hcell hcell'
      have p0 : 0 ≤ z / 16 := by omega
      have p1 : z / 16 < 16 := by omega
      go_quiet (fail)
      go_wp2
      go_roundw
      case rel =>
        have e := HV.out.trans HN.out.symm
        have hl := (Crc.reg (~~~ s) (bs.take (k + 1))).isLt
        exact ⟨k + 1, m + nq, _, by omega, by go_num, rfl, rfl, by rw [e]; omega, by rw [e]; omega, e⟩
      case measure => simp [intOf]; omega
    · have hkn : k = n := by omega
      have hlen := HA.out.len
      have ht : bs.take k = bs := List.take_of_length_le (by omega)
      rw [ht] at HR
      clear ht hlen hkn
      have HV : Hid (bits .xor .u32 IntKind.u32.max r = ((Crc.more s bs).toNat : Int)) := by
        show bits .xor .u32 IntKind.u32.max r = _
        rw [HR.out]; exact not_val _
      go_wp2
      go_ret
      exact ⟨ret_int HV.out, _, rfl⟩
theorem more_any (s : BitVec 32) (A : Option Addr) (n c : Nat) (bs : List Nat) (w : World) (hn : n ≤ 9223372036854775807) (hT : Tabs w) (hA : Bytes w w.heap.size A n bs) :
    Calls Tryz.prog 113 #[.int .u32 (s.toNat : Int), .slice A n c] w fun e w' => e = .returned (.int .u32 ((Crc.more s bs).toNat : Int)) ∧ ∃ m, w' = w.drewN m :=
  more_int _ s A n c bs w (by omega) (by have := s.isLt; omega) rfl hn hT hA
theorem bv_le (x : BitVec 32) : ((x.toNat : Nat) : Int) ≤ 4294967295 := by have := x.isLt; omega
theorem flat_snoc (ps : List (List Nat)) (k : Nat) (h : k < ps.length) : (ps.take (k + 1)).flatten = (ps.take k).flatten ++ ps.getD k [] := by
  rw [List.take_succ_eq_append_getElem h, List.flatten_append, List.getD_eq_getElem?_getD, List.getElem?_eq_getElem h]
  simp
theorem more_snoc (s : BitVec 32) (ps : List (List Nat)) (k : Nat) (h : k < ps.length) : Crc.more s (ps.take (k + 1)).flatten = Crc.more (Crc.more s (ps.take k).flatten) (ps.getD k []) := by
  rw [flat_snoc _ _ h, Crc.more_append]

set_option maxHeartbeats 1000000 in
theorem of_any (A : Option Addr) (n c : Nat) (ps : List (List Nat)) (w : World) (hn : n ≤ 9223372036854775807) (hT : Tabs w) (hA : Parts w w.heap.size A n ps) :
    Calls Tryz.prog 87 #[.slice A n c] w fun e w' => e = .returned (.int .u32 ((Crc.more 0#32 ps.flatten).toNat : Int)) ∧ ∃ m, w' = w.drewN m := by
  have HT := Lib.hid hT
  have HA := Lib.hid hA
  clear hT hA
  go_enter Tryz.func87, Tryz.ntmps87
  go_wp2
  go_loopw [3, 8] (fun t3 t8 wr => ∃ (k m : Nat) (r : Int), k ≤ n ∧ t8 = .int .i64 k ∧ wr = w.drewN m ∧ t3 = .int .u32 r ∧ 0 ≤ r ∧ r ≤ 4294967295 ∧ Hid (r = (((Crc.more 0#32 (ps.take k).flatten).toNat : Nat) : Int))) (fun _ t8 _ => n - (intOf t8).toNat)
  case atStart => exact ⟨0, 0, 0, Nat.zero_le _, rfl, rfl, rfl, by omega, by omega, by simp only [List.take_zero, List.flatten_nil, Crc.more_nil]; rfl⟩
  case round =>
    obtain ⟨k, m, r, hk, rfl, rfl, rfl, hr0, hr1, HR⟩ := hrel
    by_cases hlt : k < n
    · obtain ⟨ad, A', n', c', hA, hblk, hcell, hn', hB⟩ := HA.out.each k hlt
      have HB := Lib.hid hB
      clear hB
      subst hA
      have hlen := HA.out.len
      have HN : Hid (Crc.more 0#32 (ps.take (k + 1)).flatten = Crc.more (Crc.more 0#32 (ps.take k).flatten) (ps.getD k [])) := more_snoc _ _ _ (by omega)
      clear hlen
      go_wp2_with fail
      refine (more_int r (Crc.more 0#32 (ps.take k).flatten) A' n' c' (ps.getD k []) _ hr0 hr1 HR hn' (HT.out.drewN m) (HB.out.drewN m)).mono ?_
      rintro e w' ⟨rfl, m', hw⟩
      obtain rfl : w' = (w.drewN m).drewN m' := hw
      clear hcell
      go_wp2_with fail
      go_roundw
      case rel =>
        exact ⟨k + 1, m + m', _, by omega, by go_num, by go_simp, rfl, by omega, bv_le _, by rw [HN.out]; rfl⟩
      case measure => simp [intOf]; omega
    · have hlen := HA.out.len
      have ht : ps.take k = ps := List.take_of_length_le (by omega)
      rw [ht] at HR
      clear ht hlen
      go_wp2
      go_ret
      exact ⟨ret_int HR.out, _, rfl⟩
/- the same contracts; of the world behind them only that nothing old has turned -/
theorem of_since (A : Option Addr) (n c : Nat) (ps : List (List Nat)) (w : World) (hn : n ≤ 9223372036854775807) (hT : Tabs w) (hA : Parts w w.heap.size A n ps) :
    Calls Tryz.prog 87 #[.slice A n c] w fun e w' => e = .returned (.int .u32 ((Crc.more 0#32 ps.flatten).toNat : Int)) ∧ Below w.heap.size w w' :=
  (of_any A n c ps w hn hT hA).mono fun e w' ⟨he, m, hw⟩ => ⟨he, hw ▸ below_drewN (Below.refl _ _) m⟩
theorem more_since (x : Int) (s : BitVec 32) (A : Option Addr) (n c : Nat) (bs : List Nat) (w : World) (h0 : 0 ≤ x) (h1 : x ≤ 4294967295) (HX : Hid (x = ((s.toNat : Nat) : Int))) (hn : n ≤ 9223372036854775807) (hT : Tabs w) (hA : Bytes w w.heap.size A n bs) :
    Calls Tryz.prog 113 #[.int .u32 x, .slice A n c] w fun e w' => e = .returned (.int .u32 ((Crc.more s bs).toNat : Int)) ∧ Below w.heap.size w w' :=
  (more_int x s A n c bs w h0 h1 HX hn hT hA).mono fun e w' ⟨he, m, hw⟩ => ⟨he, hw ▸ below_drewN (Below.refl _ _) m⟩
theorem bv_of {x : Int} (h0 : 0 ≤ x) (h1 : x ≤ 4294967295) : ∃ s : BitVec 32, x = ((s.toNat : Nat) : Int) :=
  ⟨BitVec.ofNat 32 x.toNat, by rw [BitVec.toNat_ofNat, Nat.mod_eq_of_lt (show x.toNat < 2 ^ 32 by omega)]; omega⟩
end Go.Proofs.YthgkdnegnecnjaaGreatDoor

/- The contract of head.Lay. Conditions: what the listed variables hold; the slice's cells; at most 900 bytes. -/
set_option linter.unusedVariables false
set_option linter.unusedSimpArgs false
set_option maxRecDepth 20000
namespace Go.Proofs.YthgkdnegnecnjaaGreatDoor
open Go.RowKit

/-- An append within the capacity: the row stays where it is, and no other one turns. -/
theorem own_append_fits {W : World} {g n c m c' base : Nat} {A' : Option Addr} {bs cs : List Nat} (h : Own W base (some ⟨g, 0, none⟩) n c bs) (hA : Bytes W W.heap.size A' m cs) (hnm : n + m ≤ c) :
    ∃ W2, (Builtin.append_ #[58, 58] 58 #[.slice (some ⟨g, 0, none⟩) n c, .slice A' m c']).run Tryz.prog W = .ok (.slice (some ⟨g, 0, none⟩) (n + m) c) W2 ∧ Own W2 base (some ⟨g, 0, none⟩) (n + m) c (bs ++ cs) ∧ W.grownBy W2 (some g) := by
  obtain ⟨i0, hi, hz0, hz1, hz2⟩ := info_parts info5
  rcases A' with _ | ad
  · have hm0 : m = 0 := by
      rcases Nat.eq_zero_or_pos m with h | h
      · exact h
      · obtain ⟨ad, h', _⟩ := hA.lies 0 h
        cases h'
    subst hm0
    have hcs : cs = [] := List.eq_nil_of_length_eq_zero hA.len
    subst hcs
    refine ⟨W, ?_, ⟨by simpa using h.row, getD_append _ _ h.small hA.small⟩, World.grownBy.refl _ _⟩
    have hnc : n ≤ c := by omega
    simp [Builtin.append_, run_underlying Tryz.underlying58, sizeOf, typeInfo, hi, Builtin.lenOf, Builtin.firstCells, storeCells, hnc]
  · have hlen := hA.len
    have hcells : ∀ j u, (cellsOf cs)[j]? = some u → W.cell? (ad.add j) = some u := by
      intro j u hu
      obtain ⟨hu', hj⟩ := byteAt_list hu
      obtain ⟨ad', e1, e2, e3⟩ := hA.lies j (by omega)
      obtain rfl := Option.some.inj e1
      rw [e3, hu']
    have h1 : ∀ u ∈ cellsOf cs, u.oneCell' = true := by
      intro u hu
      obtain ⟨b, _, rfl⟩ := List.mem_map.1 hu
      rfl
    obtain ⟨W2, hr, ho, hg⟩ := run_append_fits (P := Tryz.prog) W base 58 58 5 i0 1 Tryz.underlying58 hi hz1 g n c (cellsOf bs) h.row ad m c' (cellsOf cs) (by unfold cellsOf; simp [hlen]) hcells h1 hnm
    have e : cellsOf (bs ++ cs) = cellsOf bs ++ cellsOf cs := by unfold cellsOf; rw [List.map_append]
    exact ⟨W2, hr, ⟨by rw [e]; exact ho, getD_append _ _ h.small hA.small⟩, hg⟩
theorem cell_else {w w' : World} {g : Nat} (hg : w.grownBy w' (some g)) {p : Addr} {v : Value} (hp : p.block ≠ g) (h : w.cell? p = some v) : w'.cell? p = some v :=
  (World.cell?_of_block (w := w) (hg.block p.block (World.block_lt_of_cell? w p h) (fun e => hp (Option.some.inj e)))).trans h
/-- A head, laid in a block. -/
structure HeadAt (w : World) (g : Nat) (K A S G : Int) : Prop where
  k : w.cell? ⟨g, 0, none⟩ = some (.int .i64 K)
  a : w.cell? ⟨g, 1, none⟩ = some (.int .u64 A)
  s : w.cell? ⟨g, 2, none⟩ = some (.int .i64 S)
  g : w.cell? ⟨g, 3, none⟩ = some (.int .i64 G)
theorem headAt_new (W : World) (K A S G : Int) (t : TypeId) : HeadAt (W.alloc (.cells #[.int .i64 K, .int .u64 A, .int .i64 S, .int .i64 G] t)) W.heap.size K A S G :=
  ⟨cell_first rfl, cell_first rfl, cell_first rfl, cell_first rfl⟩
theorem HeadAt.since {w w' : World} {g : Nat} {K A S G : Int} (h : HeadAt w g K A S G) (hb : Below w.heap.size w w') : HeadAt w' g K A S G :=
  ⟨later_cell hb h.k, later_cell hb h.a, later_cell hb h.s, later_cell hb h.g⟩
theorem HeadAt.lt {w : World} {g : Nat} {K A S G : Int} (h : HeadAt w g K A S G) : g < w.heap.size := World.block_lt_of_cell? w _ h.k
theorem HeadAt.else_ {w w' : World} {g b : Nat} {K A S G : Int} (h : HeadAt w g K A S G) (hg : w.grownBy w' (some b)) (hn : g ≠ b) : HeadAt w' g K A S G :=
  ⟨cell_else hg hn h.k, cell_else hg hn h.a, cell_else hg hn h.s, cell_else hg hn h.g⟩
/-- What the list of widths holds. -/
structure Wid (w : World) : Prop where
  c0 : w.cell? ⟨0, 0, none⟩ = some (.int .i64 1)
  c1 : w.cell? ⟨0, 1, none⟩ = some (.int .i64 8)
  c2 : w.cell? ⟨0, 2, none⟩ = some (.int .i64 5)
  c3 : w.cell? ⟨0, 3, none⟩ = some (.int .i64 3)
  c4 : w.cell? ⟨0, 4, none⟩ = some (.int .i64 6)
theorem Wid.since {w w' : World} (h : Wid w) (hb : Below w.heap.size w w') : Wid w' :=
  ⟨later_cell hb h.c0, later_cell hb h.c1, later_cell hb h.c2, later_cell hb h.c3, later_cell hb h.c4⟩
/-- Five numbers, laid in a block. -/
structure Nums (w : World) (g : Nat) (a b c d e : Int) : Prop where
  c0 : w.cell? ⟨g, 0, none⟩ = some (.int .u64 a)
  c1 : w.cell? ⟨g, 1, none⟩ = some (.int .u64 b)
  c2 : w.cell? ⟨g, 2, none⟩ = some (.int .u64 c)
  c3 : w.cell? ⟨g, 3, none⟩ = some (.int .u64 d)
  c4 : w.cell? ⟨g, 4, none⟩ = some (.int .u64 e)
theorem Nums.since {w w' : World} {g : Nat} {a b c d e : Int} (h : Nums w g a b c d e) (hb : Below w.heap.size w w') : Nums w' g a b c d e :=
  ⟨later_cell hb h.c0, later_cell hb h.c1, later_cell hb h.c2, later_cell hb h.c3, later_cell hb h.c4⟩
theorem Nums.else_ {w w' : World} {g b' : Nat} {a b c d e : Int} (h : Nums w g a b c d e) (hg : w.grownBy w' (some b')) (hn : g ≠ b') : Nums w' g a b c d e :=
  ⟨cell_else hg hn h.c0, cell_else hg hn h.c1, cell_else hg hn h.c2, cell_else hg hn h.c3, cell_else hg hn h.c4⟩
theorem nums_new (W : World) (a b c d e : Int) (t : TypeId) : Nums (W.alloc (.cells #[.int .u64 a, .int .u64 b, .int .u64 c, .int .u64 d, .int .u64 e] t)) W.heap.size a b c d e :=
  ⟨cell_first rfl, cell_first rfl, cell_first rfl, cell_first rfl, cell_first rfl⟩
/-- What a call of Lay leaves that goes well. -/
def Lays (w : World) (ps : List Nat) (e : Ending) (w' : World) : Prop := ∃ A n c, e = .returned (.tuple #[.slice A n c, .nilIface]) ∧ Hid (Own w' w.heap.size A n c ps) ∧ Hid (Below w.heap.size w w')
/-- What one leaves that is refused. -/
def Refuses (w : World) (e : Ending) (w' : World) : Prop := ∃ v, e = .returned (.tuple #[.slice none 0 0, v]) ∧ Hid (Bad w' v) ∧ Hid (Below w.heap.size w w')
set_option maxHeartbeats 2000000 in
theorem lay_no (A : Option Addr) (n c : Nat) (K A' S G : Int) (w : World) (hn : n ≤ 9223372036854775807) (h : ¬(dataB n = true ∧ mayB K A' S G = true)) :
    Calls Tryz.prog 58 #[.slice A n c, .agg #[.int .i64 K, .int .u64 A', .int .i64 S, .int .i64 G]] w (Refuses w) := by
  have S1 := Lib.hid (since_alloc (Below.refl w.heap.size w) (.cells #[.int .i64 K, .int .u64 A', .int .i64 S, .int .i64 G] 42))
  have HH := Lib.hid (headAt_new w K A' S G 42)
  obtain ⟨b1, HB1⟩ : ∃ b, Hid (b = dataB n) := ⟨_, rfl⟩
  obtain ⟨b2, HB2⟩ : ∃ b, Hid (b = mayB K A' S G) := ⟨_, rfl⟩
  have hb : b1 = false ∨ (b1 = true ∧ b2 = false) := by
    rw [← HB1.out, ← HB2.out] at h
    cases b1 <;> cases b2 <;> simp at h ⊢
  clear h
  rcases hb with rfl | ⟨rfl, rfl⟩
  · go_enter Tryz.func58, Tryz.ntmps58
    go_wp2_with fail
    refine (maybedata_any _ _).mono ?_
    rw [← HB1.out]
    rintro e W2 ⟨rfl, hb2⟩
    have S2 := Lib.hid (S1.out.trans (hb2.out.mono (by simp)))
    clear S1 HH hb2
    go_wp2_with fail
    go_ret2
    exact ⟨_, rfl, ⟨_, _, rfl, cell_first rfl, cell_first rfl⟩, S2.out.alloc S2.out.size _⟩
  · go_enter Tryz.func58, Tryz.ntmps58
    go_wp2_with fail
    refine (maybedata_any _ _).mono ?_
    rw [← HB1.out]
    rintro e W2 ⟨rfl, hb2⟩
    have S2 := Lib.hid (S1.out.trans (hb2.out.mono (by simp)))
    obtain ⟨c0, c1, c2, c3⟩ := HH.out.since hb2.out
    clear S1 HH hb2
    go_wp2_with fail
    refine (headmay_any _ _ _ _ _).mono ?_
    rw [← HB2.out]
    rintro e W3 ⟨rfl, hb3⟩
    have S3 := Lib.hid (below_chain S2.out hb3.out)
    clear S2 hb3 c0 c1 c2 c3
    go_wp2_with fail
    go_ret2
    exact ⟨_, rfl, ⟨_, _, rfl, cell_first rfl, cell_first rfl⟩, S3.out.alloc S3.out.size _⟩
theorem info3 : (Tryz.prog.info? 3).map (fun i => (i.zero, i.size, i.bytes)) = some (some (.int .i64 0), 1, 8) := by kernel_rfl
theorem run_index5 (a b c d e : Value) (w : World) : (Instr.index 138 (.agg #[a, b, c, d, e]) (.int .i64 0)).run Tryz.prog w = .ok a w ∧ (Instr.index 138 (.agg #[a, b, c, d, e]) (.int .i64 1)).run Tryz.prog w = .ok b w ∧
    (Instr.index 138 (.agg #[a, b, c, d, e]) (.int .i64 2)).run Tryz.prog w = .ok c w ∧ (Instr.index 138 (.agg #[a, b, c, d, e]) (.int .i64 3)).run Tryz.prog w = .ok d w ∧ (Instr.index 138 (.agg #[a, b, c, d, e]) (.int .i64 4)).run Tryz.prog w = .ok e w := by
  obtain ⟨i0, hi, hz0, hz1, hz2⟩ := info_parts info3
  refine ⟨?_, ?_, ?_, ?_, ?_⟩
  all_goals
    simp [Instr.index, asIntOf, run_underlying Tryz.underlying138, part, isAgg, run_underlying Tryz.underlying3, sizeOf, typeInfo, hi, hz1]
/-- The sum of one part. -/
theorem of_one (A : Option Addr) (n c : Nat) (bs : List Nat) (W : World) (hn : n ≤ 9223372036854775807) (hT : Tabs W) (hA : Bytes W W.heap.size A n bs) :
    Calls Tryz.prog 87 #[.slice (some ⟨W.heap.size, 0, none⟩) 1 1] (W.alloc (.cells #[.slice A n c] 58)) fun e w' => ∃ z : Int, e = .returned (.int .u32 z) ∧ Hid (z = ((Hd.crc bs : Nat) : Int)) ∧ 0 ≤ z ∧ z ≤ 4294967295 ∧ Hid (Below W.heap.size W w') := by
  have hp : Parts (W.alloc (.cells #[.slice A n c] 58)) (W.alloc (.cells #[.slice A n c] 58)).heap.size (some ⟨W.heap.size, 0, none⟩) 1 [bs] :=
    parts_new _ _ _ 1 [bs] rfl rfl fun k hk => by
      obtain rfl : k = 0 := by omega
      exact ⟨A, n, c, rfl, hn, hA⟩
  refine (of_since (some ⟨W.heap.size, 0, none⟩) 1 1 [bs] _ (by omega) (hT.alloc _) hp).mono ?_
  rintro e w' ⟨rfl, hb⟩
  have e1 : [bs].flatten = bs := by simp
  rw [e1]
  exact ⟨_, rfl, rfl, by omega, bv_le _, (later_alloc W _).trans (hb.mono (by simp))⟩
theorem wid_le (k : Nat) : Hd.wid k ≤ 8 := by
  match k with
  | 0 => decide
  | 1 => decide
  | 2 => decide
  | 3 => decide
  | _ + 4 => exact (by decide : (6 : Nat) ≤ 8)
theorem fix_new (x m : Int) (v k : Nat) (w : World) (h0 : 0 ≤ x) (h1 : x ≤ 18446744073709551615) (HX : Hid (x = (v : Int))) (hm : m = (k : Int)) (hk : k ≤ 8) :
    Calls Tryz.prog 86 #[.slice none 0 0, .int .u64 x, .int .i64 m] w fun e w' => ∃ A c, e = .returned (.slice A k c) ∧ Hid (Own w' w.heap.size A k c (Pk.fix v k)) ∧ Hid (Below w.heap.size w w') := by
  refine (fix_any none 0 0 [] x m v w h0 h1 HX (by omega) Bytes.none_).mono ?_
  have e : fixMany m = k := by rw [fixMany_yes (by omega), hm, Int.toNat_natCast]
  rw [e, List.nil_append]
  rintro e W1 ⟨A1, n1, c1, rfl, HO, HB⟩
  obtain rfl : k = n1 := by rw [← HO.len, Pk.fix_len]
  exact ⟨A1, c1, rfl, HO, HB⟩
set_option maxHeartbeats 8000000 in
theorem lay_yes (A : Option Addr) (n c : Nat) (bs : List Nat) (K A' S G : Int) (h : Hd.H) (w : World) (hT : Tabs w) (hW : Wid w) (hn0 : 128 ≤ n) (hn1 : n ≤ 256) (hA : Bytes w w.heap.size A n bs)
    (hm : mayB K A' S G = true) (HK : Hid (K = (h.k : Int))) (HAA : Hid (A' = (h.a : Int))) (HS : Hid (S = (h.s : Int))) (HG : Hid (G = (h.g : Int))) (ha : 0 ≤ A' ∧ A' ≤ 18446744073709551615) :
    Calls Tryz.prog 58 #[.slice A n c, .agg #[.int .i64 K, .int .u64 A', .int .i64 S, .int .i64 G]] w (Lays w (Hd.page bs h)) := by
  have S1 := Lib.hid (since_alloc (Below.refl w.heap.size w) (.cells #[.int .i64 K, .int .u64 A', .int .i64 S, .int .i64 G] 42))
  have HH := Lib.hid (headAt_new w K A' S G 42)
  have HM := Lib.hid hm
  have HD := Lib.hid (dataB_yes (x := (n : Int)) (by omega) (by omega))
  have HT := Lib.hid hT
  have HW := Lib.hid hW
  have HA := Lib.hid hA
  have bd := mayB_out hm
  have bs0 : 1 ≤ S := bd.1
  have bs1 : S ≤ 1099511627775 := bd.2.1
  have bg0 : 0 ≤ G := bd.2.2.1
  have bg1 : G ≤ 16777215 := bd.2.2.2.1
  have bk0 : 0 ≤ K := by omega
  have bk1 : K ≤ 4 := by omega
  obtain ⟨ba0, ba1⟩ := ha
  clear hm hT hW hA bd
  go_enter Tryz.func58, Tryz.ntmps58
  go_wp2_with fail
  refine (maybedata_any _ _).mono ?_
  rw [HD.out]
  rintro e W2 ⟨rfl, hb2⟩
  have S2 := Lib.hid (S1.out.trans (hb2.out.mono (by simp)))
  have H2 := Lib.hid (HH.out.since hb2.out)
  obtain ⟨c0, c1, c2, c3⟩ := H2.out
  clear S1 hb2
  go_wp2_with fail
  refine (headmay_any _ _ _ _ _).mono ?_
  rw [HM.out]
  rintro e W3 ⟨rfl, hb3⟩
  have S3 := Lib.hid (below_chain S2.out hb3.out)
  have H3 := Lib.hid (H2.out.since hb3.out)
  clear S2 H2 HH hb3 c0 c1 c2 c3
  have hmk := make_room n 28 (by omega) (by omega) (by omega) W3
  have hS4 := since_alloc S3.out (.cells (madeCells #[.int .u8 0] ((n : Int) + 28).toNat) 5)
  have hO4 := own_made (base := w.heap.size) W3 ((n : Int) + 28).toNat (by omega) S3.out.size
  have hn28 : ((n : Int) + 28).toNat = n + 28 := by omega
  rw [hn28] at hmk hS4 hO4
  obtain ⟨W4, hr, ho, hg⟩ := own_append_fits (c' := c) hO4 (HA.out.since hS4) (by omega)
  rw [Nat.zero_add] at hr ho
  rw [List.nil_append] at ho
  have R4 := Lib.hid hr
  have O4 := Lib.hid ho
  have S4 := Lib.hid (hS4.grown hg (by have := S3.out.size; simp; omega) (fun k hk => by rw [← Option.some.inj hk]; exact S3.out.size))
  have H4 := Lib.hid ((H3.out.since (later_alloc _ _)).else_ hg (by have := H3.out.lt; omega))
  have hlt4 : W3.heap.size < W4.heap.size := by have := hg.size; simp at this; omega
  clear hr ho hg hS4 hO4 hn28
  obtain ⟨c0, c1, c2, c3⟩ := H4.out
  obtain ⟨w0, w1, w2, w3, w4⟩ := (HW.out.since S4.out).since (later_alloc W4 (.cells #[.int .u64 K, .int .u64 A', .int .u64 S, .int .u64 G, .int .u64 0] 137))
  go_wp2_with (at_builtin; refine wpList_append_run rfl (.tmp 26) (.tmp 27) 58 rfl rfl rfl R4.out ?_)
  have HN4 := Lib.hid (nums_new W4 K A' S G 0 137)
  have O5 := Lib.hid (O4.out.since (later_alloc W4 (.cells #[.int .u64 K, .int .u64 A', .int .u64 S, .int .u64 G, .int .u64 0] 137)))
  have S5 := Lib.hid (below_chain S4.out (later_alloc W4 (.cells #[.int .u64 K, .int .u64 A', .int .u64 S, .int .u64 G, .int .u64 0] 137)))
  have S3z := Lib.hid S3.out.size
  have HLT := Lib.hid hlt4
  clear R4 O4 S4 H4 S3 H3 hlt4 c0 c1 c2 c3 w0 w1 w2 w3 w4
  go_loopw [6, 42] (fun t6 t42 wr => ∃ (k : Nat) (x : Int) (m : Nat) (us : List Nat), t42 = .int .i64 x ∧ t6 = .slice (some ⟨W3.heap.size, 0, none⟩) m (n + 28) ∧ Hid (m = n + Hd.off k) ∧ Hid (us = Hd.upTo bs h k) ∧
    Hid (Own wr w.heap.size (some ⟨W3.heap.size, 0, none⟩) m (n + 28) us) ∧ Hid (Nums wr W4.heap.size K A' S G 0) ∧ Hid (Below w.heap.size w wr) ∧ Hid (W3.heap.size < wr.heap.size) ∧
    ((k = 0 ∧ x = 0) ∨ (k = 1 ∧ x = 1) ∨ (k = 2 ∧ x = 2) ∨ (k = 3 ∧ x = 3) ∨ (k = 4 ∧ x = 4) ∨ (k = 5 ∧ x = 5))) (fun _ t42 _ => 5 - (intOf t42).toNat)
  case atStart => exact ⟨0, 0, n, bs, rfl, rfl, rfl, rfl, O5, HN4, S5, by show _ < _; have := HLT.out; simp; omega, Or.inl ⟨rfl, rfl⟩⟩
  case round =>
    obtain ⟨k, x, m, us, rfl, rfl, HM3, HU, HO, HN, HB, HZ, hk⟩ := hrel
    obtain ⟨n0, n1, n2, n3, n4⟩ := HN.out
    obtain ⟨x0, x1, x2, x3, x4⟩ := run_index5 (.int .i64 1) (.int .i64 8) (.int .i64 5) (.int .i64 3) (.int .i64 6) wr
    rcases hk with ⟨rfl, rfl⟩ | ⟨rfl, rfl⟩ | ⟨rfl, rfl⟩ | ⟨rfl, rfl⟩ | ⟨rfl, rfl⟩ | ⟨rfl, rfl⟩
    · go_wp2_with fail
      refine (fix_new K 1 (Hd.num h 0) (Hd.wid 0) _ (by omega) (by omega) HK rfl (wid_le 0)).mono ?_
      rintro e W6 ⟨A6, c6, rfl, HO6, HB6⟩
      obtain ⟨W7, hr, ho, hg⟩ := own_append_fits (c' := c6) (HO.out.since HB6.out) HO6.out.bytes (by have h1 := HM3.out; have h2 : Hd.off 0 + Hd.wid 0 ≤ 28 := (by decide); omega)
      have R7 := Lib.hid hr
      have O7 := Lib.hid ho
      have N7 := Lib.hid ((HN.out.since HB6.out).else_ hg (by have := HLT.out; omega))
      have S7 := Lib.hid ((below_chain HB.out HB6.out).grown hg (by have := HB.out.size; have := HB6.out.size; omega) (fun q hq => by rw [← Option.some.inj hq]; exact S3z.out))
      have Z7 : Hid (W3.heap.size < W7.heap.size) := by have := HZ.out; have := HB6.out.size; have := hg.size; show _ < _; omega
      have M7 : Hid (m + Hd.wid 0 = n + Hd.off 1) := by rw [HM3.out]; show _ = n + (Hd.off 0 + Hd.wid 0); omega
      have U7 : Hid (us ++ Pk.fix (Hd.num h 0) (Hd.wid 0) = Hd.upTo bs h 1) := by rw [HU.out]; rfl
      clear hr ho hg n0 n1 n2 n3 n4 x0 x1 x2 x3 x4
      go_wp2_with (at_builtin; refine wpList_append_run rfl (.tmp 46) (.tmp 51) 58 rfl rfl rfl R7.out ?_)
      go_roundw
      case rel => exact ⟨1, 1, _, _, rfl, rfl, M7, U7, O7, N7, S7, Z7, by omega⟩
      case measure => simp [intOf]
    · go_wp2_with fail
      refine (fix_new A' 8 (Hd.num h 1) (Hd.wid 1) _ (by omega) (by omega) HAA rfl (wid_le 1)).mono ?_
      rintro e W6 ⟨A6, c6, rfl, HO6, HB6⟩
      obtain ⟨W7, hr, ho, hg⟩ := own_append_fits (c' := c6) (HO.out.since HB6.out) HO6.out.bytes (by have h1 := HM3.out; have h2 : Hd.off 1 + Hd.wid 1 ≤ 28 := (by decide); omega)
      have R7 := Lib.hid hr
      have O7 := Lib.hid ho
      have N7 := Lib.hid ((HN.out.since HB6.out).else_ hg (by have := HLT.out; omega))
      have S7 := Lib.hid ((below_chain HB.out HB6.out).grown hg (by have := HB.out.size; have := HB6.out.size; omega) (fun q hq => by rw [← Option.some.inj hq]; exact S3z.out))
      have Z7 : Hid (W3.heap.size < W7.heap.size) := by have := HZ.out; have := HB6.out.size; have := hg.size; show _ < _; omega
      have M7 : Hid (m + Hd.wid 1 = n + Hd.off 2) := by rw [HM3.out]; show _ = n + (Hd.off 1 + Hd.wid 1); omega
      have U7 : Hid (us ++ Pk.fix (Hd.num h 1) (Hd.wid 1) = Hd.upTo bs h 2) := by rw [HU.out]; rfl
      clear hr ho hg n0 n1 n2 n3 n4 x0 x1 x2 x3 x4
      go_wp2_with (at_builtin; refine wpList_append_run rfl (.tmp 46) (.tmp 51) 58 rfl rfl rfl R7.out ?_)
      go_roundw
      case rel => exact ⟨2, 2, _, _, rfl, rfl, M7, U7, O7, N7, S7, Z7, by omega⟩
      case measure => simp [intOf]
    · go_wp2_with fail
      refine (fix_new S 5 (Hd.num h 2) (Hd.wid 2) _ (by omega) (by omega) HS rfl (wid_le 2)).mono ?_
      rintro e W6 ⟨A6, c6, rfl, HO6, HB6⟩
      obtain ⟨W7, hr, ho, hg⟩ := own_append_fits (c' := c6) (HO.out.since HB6.out) HO6.out.bytes (by have h1 := HM3.out; have h2 : Hd.off 2 + Hd.wid 2 ≤ 28 := (by decide); omega)
      have R7 := Lib.hid hr
      have O7 := Lib.hid ho
      have N7 := Lib.hid ((HN.out.since HB6.out).else_ hg (by have := HLT.out; omega))
      have S7 := Lib.hid ((below_chain HB.out HB6.out).grown hg (by have := HB.out.size; have := HB6.out.size; omega) (fun q hq => by rw [← Option.some.inj hq]; exact S3z.out))
      have Z7 : Hid (W3.heap.size < W7.heap.size) := by have := HZ.out; have := HB6.out.size; have := hg.size; show _ < _; omega
      have M7 : Hid (m + Hd.wid 2 = n + Hd.off 3) := by rw [HM3.out]; show _ = n + (Hd.off 2 + Hd.wid 2); omega
      have U7 : Hid (us ++ Pk.fix (Hd.num h 2) (Hd.wid 2) = Hd.upTo bs h 3) := by rw [HU.out]; rfl
      clear hr ho hg n0 n1 n2 n3 n4 x0 x1 x2 x3 x4
      go_wp2_with (at_builtin; refine wpList_append_run rfl (.tmp 46) (.tmp 51) 58 rfl rfl rfl R7.out ?_)
      go_roundw
      case rel => exact ⟨3, 3, _, _, rfl, rfl, M7, U7, O7, N7, S7, Z7, by omega⟩
      case measure => simp [intOf]
    · go_wp2_with fail
      refine (fix_new G 3 (Hd.num h 3) (Hd.wid 3) _ (by omega) (by omega) HG rfl (wid_le 3)).mono ?_
      rintro e W6 ⟨A6, c6, rfl, HO6, HB6⟩
      obtain ⟨W7, hr, ho, hg⟩ := own_append_fits (c' := c6) (HO.out.since HB6.out) HO6.out.bytes (by have h1 := HM3.out; have h2 : Hd.off 3 + Hd.wid 3 ≤ 28 := (by decide); omega)
      have R7 := Lib.hid hr
      have O7 := Lib.hid ho
      have N7 := Lib.hid ((HN.out.since HB6.out).else_ hg (by have := HLT.out; omega))
      have S7 := Lib.hid ((below_chain HB.out HB6.out).grown hg (by have := HB.out.size; have := HB6.out.size; omega) (fun q hq => by rw [← Option.some.inj hq]; exact S3z.out))
      have Z7 : Hid (W3.heap.size < W7.heap.size) := by have := HZ.out; have := HB6.out.size; have := hg.size; show _ < _; omega
      have M7 : Hid (m + Hd.wid 3 = n + Hd.off 4) := by rw [HM3.out]; show _ = n + (Hd.off 3 + Hd.wid 3); omega
      have U7 : Hid (us ++ Pk.fix (Hd.num h 3) (Hd.wid 3) = Hd.upTo bs h 4) := by rw [HU.out]; rfl
      clear hr ho hg n0 n1 n2 n3 n4 x0 x1 x2 x3 x4
      go_wp2_with (at_builtin; refine wpList_append_run rfl (.tmp 46) (.tmp 51) 58 rfl rfl rfl R7.out ?_)
      go_roundw
      case rel => exact ⟨4, 4, _, _, rfl, rfl, M7, U7, O7, N7, S7, Z7, by omega⟩
      case measure => simp [intOf]
    · go_wp2_with fail
      refine (fix_new 0 6 (Hd.num h 4) (Hd.wid 4) _ (by omega) (by omega) rfl rfl (wid_le 4)).mono ?_
      rintro e W6 ⟨A6, c6, rfl, HO6, HB6⟩
      obtain ⟨W7, hr, ho, hg⟩ := own_append_fits (c' := c6) (HO.out.since HB6.out) HO6.out.bytes (by have h1 := HM3.out; have h2 : Hd.off 4 + Hd.wid 4 ≤ 28 := (by decide); omega)
      have R7 := Lib.hid hr
      have O7 := Lib.hid ho
      have N7 := Lib.hid ((HN.out.since HB6.out).else_ hg (by have := HLT.out; omega))
      have S7 := Lib.hid ((below_chain HB.out HB6.out).grown hg (by have := HB.out.size; have := HB6.out.size; omega) (fun q hq => by rw [← Option.some.inj hq]; exact S3z.out))
      have Z7 : Hid (W3.heap.size < W7.heap.size) := by have := HZ.out; have := HB6.out.size; have := hg.size; show _ < _; omega
      have M7 : Hid (m + Hd.wid 4 = n + Hd.off 5) := by rw [HM3.out]; show _ = n + (Hd.off 4 + Hd.wid 4); omega
      have U7 : Hid (us ++ Pk.fix (Hd.num h 4) (Hd.wid 4) = Hd.upTo bs h 5) := by rw [HU.out]; rfl
      clear hr ho hg n0 n1 n2 n3 n4 x0 x1 x2 x3 x4
      go_wp2_with (at_builtin; refine wpList_append_run rfl (.tmp 46) (.tmp 51) 58 rfl rfl rfl R7.out ?_)
      go_roundw
      case rel => exact ⟨5, 5, _, _, rfl, rfl, M7, U7, O7, N7, S7, Z7, by omega⟩
      case measure => simp [intOf]
    · have hm23 : m = n + 23 := HM3.out
      subst hm23
      have HUB : Hid (us = Hd.body bs h) := by rw [HU.out]; exact Hd.upTo_body bs h
      clear n0 n1 n2 n3 n4 x0 x1 x2 x3 x4
      go_wp2_with fail
      refine (of_one _ (n + 23) (n + 28) us _ (by omega) (HT.out.since HB.out) HO.out.bytes).mono ?_
      rintro e W6 ⟨z, rfl, HZ6, hz0, hz1, HB6⟩
      have O6 := Lib.hid (HO.out.since HB6.out)
      have B6 := Lib.hid (below_chain HB.out HB6.out)
      clear HN
      go_wp2_with fail
      refine (fix_new z 4 (Hd.crc us) 4 _ hz0 (by omega) HZ6 rfl (by omega)).mono ?_
      rintro e W7 ⟨A7, c7, rfl, HO7, HB7⟩
      obtain ⟨W8, hr, ho, hg⟩ := own_append_fits (c' := c7) (O6.out.since HB7.out) HO7.out.bytes (by omega)
      have R8 := Lib.hid hr
      have B8 := Lib.hid ((below_chain B6.out HB7.out).grown hg (by have := B6.out.size; have := HB7.out.size; omega) (fun q hq => by rw [← Option.some.inj hq]; exact S3z.out))
      obtain ⟨W9, hr9, ho9, hg9⟩ := own_append_fits (c' := 1) (ho.since (later_alloc W8 (.cells #[.int .u8 0] 5))) (bytes_new1 W8 0 0 rfl (by omega)) (by omega)
      have R9 := Lib.hid hr9
      have B9 := Lib.hid ((below_chain B8.out (later_alloc W8 (.cells #[.int .u8 0] 5))).grown hg9 (by have := B8.out.size; simp; omega) (fun q hq => by rw [← Option.some.inj hq]; exact S3z.out))
      have O9 : Hid (Own W9 w.heap.size (some ⟨W3.heap.size, 0, none⟩) (n + 23 + 4 + 1) (n + 28) (Hd.page bs h)) := ho9.same (by rw [HUB.out, List.append_assoc]; rfl)
      clear hr ho hg hr9 ho9 hg9
      go_wp2_with (at_builtin; first | (refine wpList_append_run rfl (.tmp 54) (.tmp 59) 58 rfl rfl rfl R8.out ?_) | (refine wpList_append_run rfl (.tmp 61) (.tmp 62) 58 rfl rfl rfl R9.out ?_))
      go_ret2
      exact ⟨_, _, _, rfl, O9, B9⟩
end Go.Proofs.YthgkdnegnecnjaaGreatDoor

/- The contract of pack.Unfix. Conditions: the slice's cells; at most 900 bytes. -/
set_option linter.unusedVariables false
set_option linter.unusedSimpArgs false
set_option maxRecDepth 20000
namespace Go.Proofs.YthgkdnegnecnjaaGreatDoor
open Go.RowKit

theorem or_byte {y z : Int} {u b j : Nat} (HY : y = (u : Int)) (HZ : (b : Int) = z) (hu : u < 256 ^ j) (hj : j ≤ 7) (hb : b < 256) :
    bits .or .u64 (IntKind.u64.wrap (y * 256)) z = ((u * 256 + b : Nat) : Int) ∧ u * 256 + b < 18446744073709551616 := by
  have h8 : u < 72057594037927936 := Nat.lt_of_lt_of_le hu (Nat.le_trans (Nat.pow_le_pow_right (by omega) hj) (by decide))
  refine ⟨?_, by omega⟩
  rw [wrap_lit (by omega) (by omega), HY, ← HZ, show ((u : Int) * 256) = ((u * 256 : Nat) : Int) by omega, u64_or_nat _ _ (by omega) (by omega)]
  congr 1
  exact nat_join 8 (u * 256) b (Nat.mul_mod_left _ _) hb
/-- What Unfix answers. -/
def unfixO (bs : List Nat) (n : Nat) (m : Int) : Option (Nat × List Nat) := if 0 ≤ m ∧ m ≤ 8 ∧ m ≤ n then some (Pk.unfix (bs.take m.toNat), bs.drop m.toNat) else none
theorem unfixO_yes {bs : List Nat} {n k : Nat} (hk : k ≤ 8) (hn : k ≤ n) : unfixO bs n (k : Int) = some (Pk.unfix (bs.take k), bs.drop k) := by
  unfold unfixO
  rw [if_pos (by omega), Int.toNat_natCast]
theorem unfixO_no {bs : List Nat} {n : Nat} {m : Int} (h : ¬(0 ≤ m ∧ m ≤ 8 ∧ m ≤ n)) : unfixO bs n m = none := if_neg h
theorem take_succ_getD {bs : List Nat} {k : Nat} (h : k < bs.length) : bs.take (k + 1) = bs.take k ++ [bs.getD k 0] := by
  rw [List.take_add_one, List.getD_eq_getElem?_getD, List.getElem?_eq_getElem h]; rfl
set_option maxHeartbeats 2000000 in
theorem unfix_yes (A : Option Addr) (n c k : Nat) (bs : List Nat) (w : World) (hn : n ≤ 900) (hc : n ≤ c) (hk8 : k ≤ 8) (hkn : k ≤ n) (hA : Bytes w w.heap.size A n bs) :
    Calls Tryz.prog 122 #[.slice A n c, .int .i64 (k : Int)] w (Got w (unfixO bs n k)) := by
  have HA := Lib.hid hA
  have hmay := may_any (k : Int) w
  rw [decide_eq_true (by omega)] at hmay
  have HM := Lib.hid hmay
  have hs1 := slice_to A n c k hkn hc
  have hs2 := slice_from A n c k hkn
  obtain ⟨A5, HA5⟩ : ∃ A5 : Option Addr, Hid (A5 = if c = k then A else A.map (·.add (k * 1))) := ⟨_, rfl⟩
  rw [← HA5.out] at hs2
  have HB5 : Hid (Bytes w w.heap.size A5 (n - k) (bs.drop k)) := by
    rw [HA5.out]; exact hA.rest hkn hc
  have HB4 : Hid (Bytes w w.heap.size A k (bs.take k)) := hA.first hkn
  clear hA hmay
  go_enter Tryz.func122, Tryz.ntmps122
  go_wp2_with fail
  refine HM.out.mono ?_
  rintro e w' ⟨rfl, rfl⟩
  go_wp2_with fail
  go_loop [7, 23] (fun t7 t23 => ∃ (j u : Nat) (y : Int), t7 = .int .u64 y ∧ t23 = .int .i64 j ∧ j ≤ k ∧ 0 ≤ y ∧ y ≤ 18446744073709551615 ∧ Hid (y = (u : Int)) ∧ Hid (u < 256 ^ j) ∧ Hid (u = Pk.unfix (bs.take j))) (fun _ t23 => k - (intOf t23).toNat)
  case atStart => exact ⟨0, 0, 0, rfl, rfl, by omega, by omega, by omega, rfl, by show 0 < 256 ^ 0; decide, by show _ = _; rw [List.take_zero]; rfl⟩
  case round =>
    obtain ⟨j, u, y, rfl, rfl, hj, hy0, hy1, HY, HU, HG⟩ := hrel
    by_cases hlt : j < k
    · obtain ⟨ad, hA, hblk, hcell⟩ := HB4.out.at_ hlt
      rw [getD_take _ _ _ hlt] at hcell
      have hsm := HA.out.small j
      have htk := take_succ_getD (bs := bs) (k := j) (by rw [HA.out.len]; omega)
      obtain ⟨b, HBB⟩ : ∃ b : Nat, Hid (bs.getD j 0 = b) := ⟨_, rfl⟩
      rw [HBB.out] at hcell hsm htk
      obtain ⟨z, hz0, hz1, HZ⟩ : ∃ z : Int, 0 ≤ z ∧ z ≤ 255 ∧ Hid ((b : Int) = z) := ⟨_, by omega, by omega, rfl⟩
      rw [HZ.out] at hcell
      subst hA
      obtain ⟨hor, hor2⟩ := or_byte HY.out HZ.out HU.out (by omega) hsm
      obtain ⟨p, HP⟩ : ∃ p : Int, Hid (p = ((u * 256 + b : Nat) : Int)) := ⟨_, rfl⟩
      have hp0 : 0 ≤ p := by rw [HP.out]; exact Int.natCast_nonneg _
      have hp1 : p ≤ 18446744073709551615 := by rw [HP.out]; omega
      rw [← HP.out] at hor
      have HOR := Lib.hid hor
      have HU2 : Hid (u * 256 + b < 256 ^ (j + 1)) := by
        have := HU.out
        show _ < _
        rw [Nat.pow_succ]; omega
      have HG2 : Hid (u * 256 + b = Pk.unfix (bs.take (j + 1))) := by
        show _ = _
        rw [htk, Pk.unfix_snoc, ← HG.out]
      clear hor hor2 hsm htk
      go_wp2_with (simp only [HOR.out])
      go_round
      case rel => exact ⟨j + 1, _, p, rfl, by go_num, by omega, hp0, hp1, HP, HU2, HG2⟩
      case measure => simp [intOf]; omega
    · have HJ : Hid (j = k) := by show j = k; omega
      go_wp2_with fail
      refine (clone_any A5 _ (c - k) _ _ (by omega) HB5.out).mono ?_
      rintro e W1 ⟨A6, n6, c6, rfl, ho, hb⟩
      go_wp2_with fail
      go_ret3
      rw [unfixO_yes hk8 hkn]
      have hl := ho.len
      exact ⟨y, A6, n6, c6, rfl, by rw [← HJ.out, ← HG.out]; exact HY, hy0, hy1, by rw [List.length_drop, HA.out.len] at hl; omega, ho, hb⟩
set_option maxHeartbeats 1000000 in
theorem unfix_no (A : Option Addr) (n c : Nat) (m : Int) (bs : List Nat) (w : World) (h : ¬(0 ≤ m ∧ m ≤ 8 ∧ m ≤ n)) :
    Calls Tryz.prog 122 #[.slice A n c, .int .i64 m] w (Got w (unfixO bs n m)) := by
  rw [unfixO_no h]
  have hmay := may_any m w
  by_cases hm : 0 ≤ m ∧ m ≤ 8
  · rw [decide_eq_true hm] at hmay
    have HM := Lib.hid hmay
    have h2 : ¬ m ≤ n := fun hh => h ⟨hm.1, hm.2, hh⟩
    obtain ⟨hm0, hm1⟩ := hm
    clear h hmay
    go_enter Tryz.func122, Tryz.ntmps122
    go_wp2_with fail
    refine HM.out.mono ?_
    rintro e w' ⟨rfl, rfl⟩
    go_wp2_with fail
    go_ret3
    exact ⟨rfl, Below.refl _ _⟩
  · rw [decide_eq_false hm] at hmay
    have HM := Lib.hid hmay
    clear h hmay hm
    go_enter Tryz.func122, Tryz.ntmps122
    go_wp2_with fail
    refine HM.out.mono ?_
    rintro e w' ⟨rfl, rfl⟩
    go_wp2_with fail
    go_ret3
    exact ⟨rfl, Below.refl _ _⟩
theorem unfix_any (A : Option Addr) (n c : Nat) (m : Int) (bs : List Nat) (w : World) (hn : n ≤ 900) (hc : n ≤ c) (hA : Bytes w w.heap.size A n bs) :
    Calls Tryz.prog 122 #[.slice A n c, .int .i64 m] w (Got w (unfixO bs n m)) := by
  by_cases h : 0 ≤ m ∧ m ≤ 8 ∧ m ≤ n
  · obtain ⟨k, rfl⟩ := Int.eq_ofNat_of_zero_le h.1
    exact unfix_yes A n c k bs w hn hc (by omega) (by omega) hA
  · exact unfix_no A n c m bs w h
end Go.Proofs.YthgkdnegnecnjaaGreatDoor

/- The contract of head.headOf. Conditions: what the list of widths holds; the slice's cells. -/
set_option linter.unusedVariables false
set_option linter.unusedSimpArgs false
set_option maxRecDepth 20000
namespace Go.Proofs.YthgkdnegnecnjaaGreatDoor
open Go.RowKit

/-- Five numbers, a row of the call's own. -/
structure Row5 (w : World) (g : Nat) (a b c d e : Int) : Prop where
  row : w.heap[g]? = some (.cells #[.int .u64 a, .int .u64 b, .int .u64 c, .int .u64 d, .int .u64 e] 137 (0, 0))
theorem Row5.lt {w : World} {g : Nat} {a b c d e : Int} (h : Row5 w g a b c d e) : g < w.heap.size := (Array.getElem?_eq_some_iff.1 h.row).1
theorem Row5.nums {w : World} {g : Nat} {a b c d e : Int} (h : Row5 w g a b c d e) : Nums w g a b c d e :=
  ⟨by rw [cell_of_row _ _ _ _ _ _ h.row]; rfl, by rw [cell_of_row _ _ _ _ _ _ h.row]; rfl, by rw [cell_of_row _ _ _ _ _ _ h.row]; rfl, by rw [cell_of_row _ _ _ _ _ _ h.row]; rfl, by rw [cell_of_row _ _ _ _ _ _ h.row]; rfl⟩
theorem Row5.free {w : World} {g : Nat} {a b c d e : Int} (h : Row5 w g a b c d e) (k : Nat) : w.frozen? ⟨g, k, none⟩ = false := by simp [World.frozen?, h.row]
theorem Row5.since {w w' : World} {g : Nat} {a b c d e : Int} (h : Row5 w g a b c d e) (hb : Below w.heap.size w w') : Row5 w' g a b c d e := ⟨(hb.block g h.lt).trans h.row⟩
theorem row5_new (W : World) (a b c d e : Int) : Row5 (W.alloc (.cells #[.int .u64 a, .int .u64 b, .int .u64 c, .int .u64 d, .int .u64 e] 137)) W.heap.size a b c d e := ⟨heap_alloc_new W _⟩
theorem Row5.s0 {w : World} {g : Nat} {a b c d e : Int} (h : Row5 w g a b c d e) (y : Int) : Row5 (w.setCell ⟨g, 0, none⟩ (.int .u64 y)) g y b c d e := ⟨by simp [World.setCell, Array.getElem?_modify, h.row]⟩
theorem Row5.s1 {w : World} {g : Nat} {a b c d e : Int} (h : Row5 w g a b c d e) (y : Int) : Row5 (w.setCell ⟨g, 1, none⟩ (.int .u64 y)) g a y c d e := ⟨by simp [World.setCell, Array.getElem?_modify, h.row]⟩
theorem Row5.s2 {w : World} {g : Nat} {a b c d e : Int} (h : Row5 w g a b c d e) (y : Int) : Row5 (w.setCell ⟨g, 2, none⟩ (.int .u64 y)) g a b y d e := ⟨by simp [World.setCell, Array.getElem?_modify, h.row]⟩
theorem Row5.s3 {w : World} {g : Nat} {a b c d e : Int} (h : Row5 w g a b c d e) (y : Int) : Row5 (w.setCell ⟨g, 3, none⟩ (.int .u64 y)) g a b c y e := ⟨by simp [World.setCell, Array.getElem?_modify, h.row]⟩
theorem Row5.s4 {w : World} {g : Nat} {a b c d e : Int} (h : Row5 w g a b c d e) (y : Int) : Row5 (w.setCell ⟨g, 4, none⟩ (.int .u64 y)) g a b c d y := ⟨by simp [World.setCell, Array.getElem?_modify, h.row]⟩
/-- A head, a row of the call's own. -/
structure Row4 (w : World) (g : Nat) (K A S G : Int) : Prop where
  row : w.heap[g]? = some (.cells #[.int .i64 K, .int .u64 A, .int .i64 S, .int .i64 G] 42 (0, 0))
theorem Row4.lt {w : World} {g : Nat} {K A S G : Int} (h : Row4 w g K A S G) : g < w.heap.size := (Array.getElem?_eq_some_iff.1 h.row).1
theorem Row4.at_ {w : World} {g : Nat} {K A S G : Int} (h : Row4 w g K A S G) : HeadAt w g K A S G :=
  ⟨by rw [cell_of_row _ _ _ _ _ _ h.row]; rfl, by rw [cell_of_row _ _ _ _ _ _ h.row]; rfl, by rw [cell_of_row _ _ _ _ _ _ h.row]; rfl, by rw [cell_of_row _ _ _ _ _ _ h.row]; rfl⟩
theorem Row4.free {w : World} {g : Nat} {K A S G : Int} (h : Row4 w g K A S G) (k : Nat) : w.frozen? ⟨g, k, none⟩ = false := by simp [World.frozen?, h.row]
theorem Row4.since {w w' : World} {g : Nat} {K A S G : Int} (h : Row4 w g K A S G) (hb : Below w.heap.size w w') : Row4 w' g K A S G := ⟨(hb.block g h.lt).trans h.row⟩
theorem row4_new (W : World) (K A S G : Int) : Row4 (W.alloc (.cells #[.int .i64 K, .int .u64 A, .int .i64 S, .int .i64 G] 42)) W.heap.size K A S G := ⟨heap_alloc_new W _⟩
theorem Row4.else_ {w w' : World} {g b : Nat} {K A S G : Int} (h : Row4 w g K A S G) (hg : w.grownBy w' (some b)) (hn : g ≠ b) : Row4 w' g K A S G := ⟨(hg.block g h.lt (fun e => hn (Option.some.inj e))).trans h.row⟩
theorem Row4.put {w : World} {g : Nat} {K A S G : Int} (h : Row4 w g K A S G) (K' A' S' G' : Int) : Row4 ((((w.setCell ⟨g, 0, none⟩ (.int .i64 K')).setCell ⟨g, 1, none⟩ (.int .u64 A')).setCell ⟨g, 2, none⟩ (.int .i64 S')).setCell ⟨g, 3, none⟩ (.int .i64 G')) g K' A' S' G' := ⟨by simp [World.setCell, Array.getElem?_modify, h.row]⟩
theorem put_else (w : World) (g : Nat) (a b c d : Value) : w.grownBy ((((w.setCell ⟨g, 0, none⟩ a).setCell ⟨g, 1, none⟩ b).setCell ⟨g, 2, none⟩ c).setCell ⟨g, 3, none⟩ d) (some g) :=
  grownBy_trans (grownBy_trans (grownBy_trans (setCell_else w ⟨g, 0, none⟩ a) (setCell_else _ ⟨g, 1, none⟩ b)) (setCell_else _ ⟨g, 2, none⟩ c)) (setCell_else _ ⟨g, 3, none⟩ d)
/-- What headOf leaves. -/
def Heads (w : World) (h : Hd.H) (e : Ending) (w' : World) : Prop := ∃ K A S G : Int, e = .returned (.agg #[.int .i64 K, .int .u64 A, .int .i64 S, .int .i64 G]) ∧ Hid (K = (h.k : Int)) ∧ Hid (A = (h.a : Int)) ∧ Hid (S = (h.s : Int)) ∧ Hid (G = (h.g : Int)) ∧
  0 ≤ K ∧ K ≤ 255 ∧ 0 ≤ A ∧ A ≤ 18446744073709551615 ∧ 0 ≤ S ∧ S ≤ 1099511627775 ∧ 0 ≤ G ∧ G ≤ 16777215 ∧ Hid (Below w.heap.size w w')
theorem unfix_at (A : Option Addr) (n c k : Nat) (m : Int) (bs : List Nat) (w : World) (hn : n ≤ 900) (hc : n ≤ c) (hm : m = (k : Int)) (hk : k ≤ 8) (hkn : k ≤ n) (hA : Bytes w w.heap.size A n bs) :
    Calls Tryz.prog 122 #[.slice A n c, .int .i64 m] w fun e w' => ∃ (y : Int) (A' : Option Addr) (c' : Nat), e = .returned (.tuple #[.int .u64 y, .slice A' (n - k) c', .bool true]) ∧ Hid (y = ((Pk.unfix (bs.take k) : Nat) : Int)) ∧ 0 ≤ y ∧ y ≤ 18446744073709551615 ∧
      Hid (Own w' w.heap.size A' (n - k) c' (bs.drop k)) ∧ Hid (Below w.heap.size w w') := by
  subst hm
  refine (unfix_any A n c (k : Int) bs w hn hc hA).mono ?_
  rw [unfixO_yes hk hkn]
  rintro e w' ⟨y, A', n', c', rfl, hy, h0, h1, hn', ho, hb⟩
  obtain rfl : n - k = n' := by rw [← ho.out.len, List.length_drop, hA.len]
  exact ⟨y, A', c', rfl, hy, h0, h1, ho, hb⟩
set_option maxHeartbeats 8000000 in
theorem headof_any (A : Option Addr) (c : Nat) (t : List Nat) (w : World) (hW : Wid w) (hc : 28 ≤ c) (hA : Bytes w w.heap.size A 28 t) :
    Calls Tryz.prog 103 #[.slice A 28 c] w (Heads w (Hd.headOf t)) := by
  have S0 := Lib.hid (since_alloc (Below.refl w.heap.size w) (.cells #[.int .i64 0, .int .u64 0, .int .i64 0, .int .i64 0] 42))
  have R40 := Lib.hid (row4_new w 0 0 0 0)
  obtain ⟨W0, HW0⟩ : ∃ W0, Hid (W0 = w.alloc (.cells #[.int .i64 0, .int .u64 0, .int .i64 0, .int .i64 0] 42)) := ⟨_, rfl⟩
  have S1 := Lib.hid (since_alloc S0.out (.cells #[.int .u64 0, .int .u64 0, .int .u64 0, .int .u64 0, .int .u64 0] 137))
  have HA1 := Lib.hid (hA.since S1.out)
  have HT := Lib.hid hA.lt256
  obtain ⟨w0, w1, w2, w3, w4⟩ := hW.since S1.out
  have R51 := Lib.hid (row5_new (w.alloc (.cells #[.int .i64 0, .int .u64 0, .int .i64 0, .int .i64 0] 42)) 0 0 0 0 0)
  have R41 := Lib.hid (R40.out.since (later_alloc _ (.cells #[.int .u64 0, .int .u64 0, .int .u64 0, .int .u64 0, .int .u64 0] 137)))
  clear hW hA S0 R40
  go_enter Tryz.func103, Tryz.ntmps103
  go_wp2_with fail
  have R5a : Hid (Row5 ((w.alloc (.cells #[.int .i64 0, .int .u64 0, .int .i64 0, .int .i64 0] 42)).alloc (.cells #[.int .u64 0, .int .u64 0, .int .u64 0, .int .u64 0, .int .u64 0] 137)) (w.heap.size + 1) 0 0 0 0 0) := by
    have e : (w.alloc (.cells #[.int .i64 0, .int .u64 0, .int .i64 0, .int .i64 0] 42)).heap.size = w.heap.size + 1 := by simp
    rw [← e]; exact R51
  obtain ⟨v0, V0⟩ : ∃ v, Hid (v = Hd.part t 0) := ⟨_, rfl⟩
  obtain ⟨v1, V1⟩ : ∃ v, Hid (v = Hd.part t 1) := ⟨_, rfl⟩
  obtain ⟨v2, V2⟩ : ∃ v, Hid (v = Hd.part t 2) := ⟨_, rfl⟩
  obtain ⟨v3, V3⟩ : ∃ v, Hid (v = Hd.part t 3) := ⟨_, rfl⟩
  have L0 : Hid (v0 < 256) := by rw [V0.out]; exact Hd.part_lt HT.out 0
  have L2 : Hid (v2 < 1099511627776) := by rw [V2.out]; exact Hd.part_lt HT.out 2
  have L3 : Hid (v3 < 16777216) := by rw [V3.out]; exact Hd.part_lt HT.out 3
  clear R51 w0 w1 w2 w3 w4 HW0
  go_loopw [0, 4, 5, 7] (fun t0 t4 t5 t7 wr => ∃ (k : Nat) (x : Int) (B : Option Addr) (m c' : Nat) (y0 y1 y2 y3 y4 : Int), t7 = .int .i64 x ∧ t0 = .slice B m c' ∧ Hid (m + Hd.off k = 28 ∧ m ≤ c') ∧ Hid (Bytes wr wr.heap.size B m (Hd.rest t k)) ∧
    Hid (Row5 wr (w.heap.size + 1) y0 y1 y2 y3 y4) ∧ Hid (Row4 wr w.heap.size 0 0 0 0) ∧ Hid (Below w.heap.size w wr) ∧ Hid ((1 ≤ k → y0 = (v0 : Int)) ∧ (2 ≤ k → y1 = (v1 : Int) ∧ 0 ≤ y1 ∧ y1 ≤ 18446744073709551615) ∧ (3 ≤ k → y2 = (v2 : Int)) ∧ (4 ≤ k → y3 = (v3 : Int))) ∧
    ((k = 0 ∧ x = 0) ∨ (k = 1 ∧ x = 1) ∨ (k = 2 ∧ x = 2) ∨ (k = 3 ∧ x = 3) ∨ (k = 4 ∧ x = 4) ∨ (k = 5 ∧ x = 5))) (fun _ _ _ t7 _ => 5 - (intOf t7).toNat)
  case atStart => exact ⟨0, 0, A, 28, c, 0, 0, 0, 0, 0, rfl, rfl, ⟨rfl, hc⟩, HA1, R5a, R41, S1, ⟨fun h => by omega, fun h => by omega, fun h => by omega, fun h => by omega⟩, Or.inl ⟨rfl, rfl⟩⟩
  case round =>
    obtain ⟨k, x, B, m, c', y0, y1, y2, y3, y4, rfl, rfl, HM3, HBY, HR5, HR4, HB, HV, hk⟩ := hrel
    obtain ⟨x0, x1, x2, x3, x4⟩ := run_index5 (.int .i64 1) (.int .i64 8) (.int .i64 5) (.int .i64 3) (.int .i64 6) wr
    rcases hk with ⟨rfl, rfl⟩ | ⟨rfl, rfl⟩ | ⟨rfl, rfl⟩ | ⟨rfl, rfl⟩ | ⟨rfl, rfl⟩ | ⟨rfl, rfl⟩
    · go_wp2_with fail
      refine (unfix_at B m c' (Hd.wid 0) 1 (Hd.rest t 0) _ (by have := HM3.out.1; omega) HM3.out.2 rfl (wid_le 0) (by have h1 := HM3.out.1; have h2 : Hd.off 0 + Hd.wid 0 ≤ 28 := (by decide); omega) HBY.out).mono ?_
      rintro e W6 ⟨z, A6, c6, rfl, HY6, hz0, hz1, HO6, HB6⟩
      have R6 := Lib.hid (HR5.out.since HB6.out)
      have n0 := R6.out.nums.c0
      have f0 := R6.out.free 0
      have B7 := Lib.hid ((below_chain HB.out HB6.out).setCell (p := ⟨w.heap.size + 1, 0, none⟩) (by simp) (.int .u64 z))
      have R7 := Lib.hid (R6.out.s0 z)
      have Q7 := Lib.hid ((HR4.out.since HB6.out).else_ (setCell_else W6 ⟨w.heap.size + 1, 0, none⟩ (.int .u64 z)) (by simp))
      have P7 : Hid (Bytes (W6.setCell ⟨w.heap.size + 1, 0, none⟩ (.int .u64 z)) (W6.setCell ⟨w.heap.size + 1, 0, none⟩ (.int .u64 z)).heap.size A6 (m - Hd.wid 0) (Hd.rest t 1)) :=
        (HO6.out.kept (setCell_else W6 ⟨w.heap.size + 1, 0, none⟩ (.int .u64 z)) (fun b hb => by have := HR5.out.lt; simp at hb; omega)).bytes
      have M7 : Hid (m - Hd.wid 0 + Hd.off 1 = 28 ∧ m - Hd.wid 0 ≤ c6) := ⟨by have h1 := HM3.out.1; have h2 : Hd.off 0 + Hd.wid 0 ≤ 28 := (by decide); show m - Hd.wid 0 + (Hd.off 0 + Hd.wid 0) = 28; omega, HO6.out.cap⟩
      have V7 : Hid ((1 ≤ 1 → z = (v0 : Int)) ∧ (2 ≤ 1 → y1 = (v1 : Int) ∧ 0 ≤ y1 ∧ y1 ≤ 18446744073709551615) ∧ (3 ≤ 1 → y2 = (v2 : Int)) ∧ (4 ≤ 1 → y3 = (v3 : Int))) := ⟨fun _ => by rw [V0.out]; exact HY6.out, fun h => by omega, fun h => by omega, fun h => by omega⟩
      clear x0 x1 x2 x3 x4
      go_wp2_with fail
      go_roundw
      case rel => exact ⟨1, 1, _, _, _, z, y1, y2, y3, y4, rfl, rfl, M7, P7, R7, Q7, B7, V7, by omega⟩
      case measure => simp [intOf]
    · go_wp2_with fail
      refine (unfix_at B m c' (Hd.wid 1) 8 (Hd.rest t 1) _ (by have := HM3.out.1; omega) HM3.out.2 rfl (wid_le 1) (by have h1 := HM3.out.1; have h2 : Hd.off 1 + Hd.wid 1 ≤ 28 := (by decide); omega) HBY.out).mono ?_
      rintro e W6 ⟨z, A6, c6, rfl, HY6, hz0, hz1, HO6, HB6⟩
      have R6 := Lib.hid (HR5.out.since HB6.out)
      have n1 := R6.out.nums.c1
      have f1 := R6.out.free 1
      have B7 := Lib.hid ((below_chain HB.out HB6.out).setCell (p := ⟨w.heap.size + 1, 1, none⟩) (by simp) (.int .u64 z))
      have R7 := Lib.hid (R6.out.s1 z)
      have Q7 := Lib.hid ((HR4.out.since HB6.out).else_ (setCell_else W6 ⟨w.heap.size + 1, 1, none⟩ (.int .u64 z)) (by simp))
      have P7 : Hid (Bytes (W6.setCell ⟨w.heap.size + 1, 1, none⟩ (.int .u64 z)) (W6.setCell ⟨w.heap.size + 1, 1, none⟩ (.int .u64 z)).heap.size A6 (m - Hd.wid 1) (Hd.rest t 2)) :=
        (HO6.out.kept (setCell_else W6 ⟨w.heap.size + 1, 1, none⟩ (.int .u64 z)) (fun b hb => by have := HR5.out.lt; simp at hb; omega)).bytes
      have M7 : Hid (m - Hd.wid 1 + Hd.off 2 = 28 ∧ m - Hd.wid 1 ≤ c6) := ⟨by have h1 := HM3.out.1; have h2 : Hd.off 1 + Hd.wid 1 ≤ 28 := (by decide); show m - Hd.wid 1 + (Hd.off 1 + Hd.wid 1) = 28; omega, HO6.out.cap⟩
      have V7 : Hid ((1 ≤ 2 → y0 = (v0 : Int)) ∧ (2 ≤ 2 → z = (v1 : Int) ∧ 0 ≤ z ∧ z ≤ 18446744073709551615) ∧ (3 ≤ 2 → y2 = (v2 : Int)) ∧ (4 ≤ 2 → y3 = (v3 : Int))) := ⟨fun _ => HV.out.1 (by omega), fun _ => ⟨by rw [V1.out]; exact HY6.out, hz0, hz1⟩, fun h => by omega, fun h => by omega⟩
      clear x0 x1 x2 x3 x4
      go_wp2_with fail
      go_roundw
      case rel => exact ⟨2, 2, _, _, _, y0, z, y2, y3, y4, rfl, rfl, M7, P7, R7, Q7, B7, V7, by omega⟩
      case measure => simp [intOf]
    · go_wp2_with fail
      refine (unfix_at B m c' (Hd.wid 2) 5 (Hd.rest t 2) _ (by have := HM3.out.1; omega) HM3.out.2 rfl (wid_le 2) (by have h1 := HM3.out.1; have h2 : Hd.off 2 + Hd.wid 2 ≤ 28 := (by decide); omega) HBY.out).mono ?_
      rintro e W6 ⟨z, A6, c6, rfl, HY6, hz0, hz1, HO6, HB6⟩
      have R6 := Lib.hid (HR5.out.since HB6.out)
      have n2 := R6.out.nums.c2
      have f2 := R6.out.free 2
      have B7 := Lib.hid ((below_chain HB.out HB6.out).setCell (p := ⟨w.heap.size + 1, 2, none⟩) (by simp) (.int .u64 z))
      have R7 := Lib.hid (R6.out.s2 z)
      have Q7 := Lib.hid ((HR4.out.since HB6.out).else_ (setCell_else W6 ⟨w.heap.size + 1, 2, none⟩ (.int .u64 z)) (by simp))
      have P7 : Hid (Bytes (W6.setCell ⟨w.heap.size + 1, 2, none⟩ (.int .u64 z)) (W6.setCell ⟨w.heap.size + 1, 2, none⟩ (.int .u64 z)).heap.size A6 (m - Hd.wid 2) (Hd.rest t 3)) :=
        (HO6.out.kept (setCell_else W6 ⟨w.heap.size + 1, 2, none⟩ (.int .u64 z)) (fun b hb => by have := HR5.out.lt; simp at hb; omega)).bytes
      have M7 : Hid (m - Hd.wid 2 + Hd.off 3 = 28 ∧ m - Hd.wid 2 ≤ c6) := ⟨by have h1 := HM3.out.1; have h2 : Hd.off 2 + Hd.wid 2 ≤ 28 := (by decide); show m - Hd.wid 2 + (Hd.off 2 + Hd.wid 2) = 28; omega, HO6.out.cap⟩
      have V7 : Hid ((1 ≤ 3 → y0 = (v0 : Int)) ∧ (2 ≤ 3 → y1 = (v1 : Int) ∧ 0 ≤ y1 ∧ y1 ≤ 18446744073709551615) ∧ (3 ≤ 3 → z = (v2 : Int)) ∧ (4 ≤ 3 → y3 = (v3 : Int))) := ⟨fun _ => HV.out.1 (by omega), fun _ => HV.out.2.1 (by omega), fun _ => by rw [V2.out]; exact HY6.out, fun h => by omega⟩
      clear x0 x1 x2 x3 x4
      go_wp2_with fail
      go_roundw
      case rel => exact ⟨3, 3, _, _, _, y0, y1, z, y3, y4, rfl, rfl, M7, P7, R7, Q7, B7, V7, by omega⟩
      case measure => simp [intOf]
    · go_wp2_with fail
      refine (unfix_at B m c' (Hd.wid 3) 3 (Hd.rest t 3) _ (by have := HM3.out.1; omega) HM3.out.2 rfl (wid_le 3) (by have h1 := HM3.out.1; have h2 : Hd.off 3 + Hd.wid 3 ≤ 28 := (by decide); omega) HBY.out).mono ?_
      rintro e W6 ⟨z, A6, c6, rfl, HY6, hz0, hz1, HO6, HB6⟩
      have R6 := Lib.hid (HR5.out.since HB6.out)
      have n3 := R6.out.nums.c3
      have f3 := R6.out.free 3
      have B7 := Lib.hid ((below_chain HB.out HB6.out).setCell (p := ⟨w.heap.size + 1, 3, none⟩) (by simp) (.int .u64 z))
      have R7 := Lib.hid (R6.out.s3 z)
      have Q7 := Lib.hid ((HR4.out.since HB6.out).else_ (setCell_else W6 ⟨w.heap.size + 1, 3, none⟩ (.int .u64 z)) (by simp))
      have P7 : Hid (Bytes (W6.setCell ⟨w.heap.size + 1, 3, none⟩ (.int .u64 z)) (W6.setCell ⟨w.heap.size + 1, 3, none⟩ (.int .u64 z)).heap.size A6 (m - Hd.wid 3) (Hd.rest t 4)) :=
        (HO6.out.kept (setCell_else W6 ⟨w.heap.size + 1, 3, none⟩ (.int .u64 z)) (fun b hb => by have := HR5.out.lt; simp at hb; omega)).bytes
      have M7 : Hid (m - Hd.wid 3 + Hd.off 4 = 28 ∧ m - Hd.wid 3 ≤ c6) := ⟨by have h1 := HM3.out.1; have h2 : Hd.off 3 + Hd.wid 3 ≤ 28 := (by decide); show m - Hd.wid 3 + (Hd.off 3 + Hd.wid 3) = 28; omega, HO6.out.cap⟩
      have V7 : Hid ((1 ≤ 4 → y0 = (v0 : Int)) ∧ (2 ≤ 4 → y1 = (v1 : Int) ∧ 0 ≤ y1 ∧ y1 ≤ 18446744073709551615) ∧ (3 ≤ 4 → y2 = (v2 : Int)) ∧ (4 ≤ 4 → z = (v3 : Int))) := ⟨fun _ => HV.out.1 (by omega), fun _ => HV.out.2.1 (by omega), fun _ => HV.out.2.2.1 (by omega), fun _ => by rw [V3.out]; exact HY6.out⟩
      clear x0 x1 x2 x3 x4
      go_wp2_with fail
      go_roundw
      case rel => exact ⟨4, 4, _, _, _, y0, y1, y2, z, y4, rfl, rfl, M7, P7, R7, Q7, B7, V7, by omega⟩
      case measure => simp [intOf]
    · go_wp2_with fail
      refine (unfix_at B m c' (Hd.wid 4) 6 (Hd.rest t 4) _ (by have := HM3.out.1; omega) HM3.out.2 rfl (wid_le 4) (by have h1 := HM3.out.1; have h2 : Hd.off 4 + Hd.wid 4 ≤ 28 := (by decide); omega) HBY.out).mono ?_
      rintro e W6 ⟨z, A6, c6, rfl, HY6, hz0, hz1, HO6, HB6⟩
      have R6 := Lib.hid (HR5.out.since HB6.out)
      have n4 := R6.out.nums.c4
      have f4 := R6.out.free 4
      have B7 := Lib.hid ((below_chain HB.out HB6.out).setCell (p := ⟨w.heap.size + 1, 4, none⟩) (by simp) (.int .u64 z))
      have R7 := Lib.hid (R6.out.s4 z)
      have Q7 := Lib.hid ((HR4.out.since HB6.out).else_ (setCell_else W6 ⟨w.heap.size + 1, 4, none⟩ (.int .u64 z)) (by simp))
      have P7 : Hid (Bytes (W6.setCell ⟨w.heap.size + 1, 4, none⟩ (.int .u64 z)) (W6.setCell ⟨w.heap.size + 1, 4, none⟩ (.int .u64 z)).heap.size A6 (m - Hd.wid 4) (Hd.rest t 5)) :=
        (HO6.out.kept (setCell_else W6 ⟨w.heap.size + 1, 4, none⟩ (.int .u64 z)) (fun b hb => by have := HR5.out.lt; simp at hb; omega)).bytes
      have M7 : Hid (m - Hd.wid 4 + Hd.off 5 = 28 ∧ m - Hd.wid 4 ≤ c6) := ⟨by have h1 := HM3.out.1; have h2 : Hd.off 4 + Hd.wid 4 ≤ 28 := (by decide); show m - Hd.wid 4 + (Hd.off 4 + Hd.wid 4) = 28; omega, HO6.out.cap⟩
      have V7 : Hid ((1 ≤ 5 → y0 = (v0 : Int)) ∧ (2 ≤ 5 → y1 = (v1 : Int) ∧ 0 ≤ y1 ∧ y1 ≤ 18446744073709551615) ∧ (3 ≤ 5 → y2 = (v2 : Int)) ∧ (4 ≤ 5 → y3 = (v3 : Int))) := ⟨fun _ => HV.out.1 (by omega), fun _ => HV.out.2.1 (by omega), fun _ => HV.out.2.2.1 (by omega), fun _ => HV.out.2.2.2 (by omega)⟩
      clear x0 x1 x2 x3 x4
      go_wp2_with fail
      go_roundw
      case rel => exact ⟨5, 5, _, _, _, y0, y1, y2, y3, z, rfl, rfl, M7, P7, R7, Q7, B7, V7, by omega⟩
      case measure => simp [intOf]
    · obtain ⟨n0, n1, n2, n3, n4⟩ := HR5.out.nums
      obtain ⟨q0, q1, q2, q3⟩ := HR4.out.at_
      have f0 := HR4.out.free 0
      have f1 := HR4.out.free 1
      have f2 := HR4.out.free 2
      have f3 := HR4.out.free 3
      have E0 : Hid (y0 = ((Hd.headOf t).k : Int)) := by rw [Hd.headOf_parts, ← V0.out]; exact HV.out.1 (by omega)
      have E1 : Hid (y1 = ((Hd.headOf t).a : Int)) := by rw [Hd.headOf_parts, ← V1.out]; exact (HV.out.2.1 (by omega)).1
      have E2 : Hid (y2 = ((Hd.headOf t).s : Int)) := by rw [Hd.headOf_parts, ← V2.out]; exact HV.out.2.2.1 (by omega)
      have E3 : Hid (y3 = ((Hd.headOf t).g : Int)) := by rw [Hd.headOf_parts, ← V3.out]; exact HV.out.2.2.2 (by omega)
      have b0 : 0 ≤ y0 ∧ y0 ≤ 255 := by have := HV.out.1 (by omega); have := L0.out; omega
      have b1 := (HV.out.2.1 (by omega)).2
      have b2 : 0 ≤ y2 ∧ y2 ≤ 1099511627775 := by have := HV.out.2.2.1 (by omega); have := L2.out; omega
      have b3 : 0 ≤ y3 ∧ y3 ≤ 16777215 := by have := HV.out.2.2.2 (by omega); have := L3.out; omega
      obtain ⟨b00, b01⟩ := b0
      obtain ⟨b10, b11⟩ := b1
      obtain ⟨b20, b21⟩ := b2
      obtain ⟨b30, b31⟩ := b3
      clear x0 x1 x2 x3 x4 HV
      go_wp2_with fail
      have S9 := Lib.hid (HB.out.grown (put_else wr w.heap.size (.int .i64 y0) (.int .u64 y1) (.int .i64 y2) (.int .i64 y3)) HB.out.size (fun q hq => by rw [← Option.some.inj hq]; exact Nat.le_refl _))
      have R9 := Lib.hid (HR4.out.put y0 y1 y2 y3)
      obtain ⟨W9, HW9⟩ : ∃ W9, Hid (W9 = ((((wr.setCell ⟨w.heap.size, 0, none⟩ (.int .i64 y0)).setCell ⟨w.heap.size, 1, none⟩ (.int .u64 y1)).setCell ⟨w.heap.size, 2, none⟩ (.int .i64 y2)).setCell ⟨w.heap.size, 3, none⟩ (.int .i64 y3))) := ⟨_, rfl⟩
      rw [← HW9.out] at S9 R9 ⊢
      obtain ⟨r0, r1, r2, r3⟩ := R9.out.at_
      exact bodyPost_ret (v := .agg #[.int .i64 y0, .int .u64 y1, .int .i64 y2, .int .i64 y3]) (by simp [results, Tryz.results103, go_sem, r0, r1, r2, r3]) rfl ⟨y0, y1, y2, y3, rfl, E0, E1, E2, E3, b00, b01, b10, b11, b20, b21, b30, b31, S9⟩
end Go.Proofs.YthgkdnegnecnjaaGreatDoor

/- What a call of Lay leaves, whether it goes well or not, in one form; for regions that draw their order. Conditions: what the listed variables hold; the slices' cells. -/
set_option linter.unusedVariables false
set_option linter.unusedSimpArgs false
set_option maxRecDepth 20000
namespace Go.Proofs.YthgkdnegnecnjaaGreatDoor
open Go.RowKit

def hN (K A S G : Int) : Hd.H := ⟨K.toNat, A.toNat, S.toNat, G.toNat⟩
/-- What Lay answers. -/
def layO (bs : List Nat) (K A S G : Int) : Option (List Nat) := if dataB (bs.length : Int) = true ∧ mayB K A S G = true then some (Hd.page bs (hN K A S G)) else none
theorem layO_yes {bs : List Nat} {K A S G : Int} (h1 : dataB (bs.length : Int) = true) (h2 : mayB K A S G = true) : layO bs K A S G = some (Hd.page bs (hN K A S G)) := if_pos ⟨h1, h2⟩
theorem layO_no {bs : List Nat} {K A S G : Int} (h : ¬(dataB (bs.length : Int) = true ∧ mayB K A S G = true)) : layO bs K A S G = none := if_neg h
theorem hN_ok {K A S G : Int} (h : mayB K A S G = true) (a0 : 0 ≤ A) (a1 : A ≤ 18446744073709551615) : Hd.Ok (hN K A S G) := by
  have b := mayB_out h
  exact ⟨by show 1 ≤ S.toNat; omega, by show S.toNat ≤ _; omega, by show G.toNat ≤ _; omega, by show (K.toNat = 1 ∨ K.toNat = 2) ∨ (K.toNat = 3 ∨ K.toNat = 4) ∧ A.toNat = 0; omega, by show A.toNat < _; omega⟩
/-- The bytes that were answered, or none. -/
def OutS (base : Nat) (o : Option (List Nat)) (v : Value) (w : World) : Prop := match o with
  | some ps => ∃ A n c, v = .slice A n c ∧ Own w base A n c ps
  | none => v = .slice none 0 0
/-- The error: none, or that it may not be. -/
def OutE (o : Option (List Nat)) (v : Value) (w : World) : Prop := match o with
  | some _ => v = .nilIface
  | none => Bad w v
/-- The document's own: a number. -/
def RefE (o : Option (List Nat)) (v : Value) (_ : World) : Prop := v = .int .i64 (if o.isSome then 0 else 2)
def OutT (E : Option (List Nat) → Value → World → Prop) (base : Nat) (o : Option (List Nat)) (v : Value) (w : World) : Prop := ∃ x y, v = .tuple #[x, y] ∧ OutS base o x w ∧ E o y w
theorem outS_later {base : Nat} {o : Option (List Nat)} {v : Value} {w w' : World} (h : OutS base o v w) (hb : Later w w') : OutS base o v w' := by
  cases o with
  | none => exact h
  | some ps =>
    obtain ⟨A, n, c, e, ho⟩ := h
    exact ⟨A, n, c, e, ho.since hb⟩
theorem outE_later {o : Option (List Nat)} {v : Value} {w w' : World} (h : OutE o v w) (hb : Later w w') : OutE o v w' := by
  cases o with
  | none => exact Bad.since h hb
  | some ps => exact h
theorem refE_later {o : Option (List Nat)} {v : Value} {w w' : World} (h : RefE o v w) (hb : Later w w') : RefE o v w' := h
theorem outT_later {E : Option (List Nat) → Value → World → Prop} (hE : ∀ (o : Option (List Nat)) (v : Value) (w w' : World), E o v w → Later w w' → E o v w') {base : Nat} {o : Option (List Nat)} {v : Value} {w w' : World} (h : OutT E base o v w) (hb : Later w w') : OutT E base o v w' := by
  obtain ⟨x, y, e, h1, h2⟩ := h
  exact ⟨x, y, e, outS_later h1 hb, hE _ _ _ _ h2 hb⟩
theorem outTE_later {base : Nat} {o : Option (List Nat)} {v : Value} {w w' : World} (h : OutT OutE base o v w) (hb : Later w w') : OutT OutE base o v w' := outT_later (E := OutE) (fun _ _ _ _ h k => outE_later h k) h hb
theorem outTR_later {base : Nat} {o : Option (List Nat)} {v : Value} {w w' : World} (h : OutT RefE base o v w) (hb : Later w w') : OutT RefE base o v w' := outT_later (E := RefE) (fun _ _ _ _ h k => refE_later h k) h hb
theorem OutS.elder {base base' : Nat} {o : Option (List Nat)} {v : Value} {w : World} (h : OutS base o v w) (hb : base' ≤ base) : OutS base' o v w := by
  cases o with
  | none => exact h
  | some ps =>
    obtain ⟨A, n, c, e, ho⟩ := h
    exact ⟨A, n, c, e, ho.elder hb⟩
theorem OutT.elder {E : Option (List Nat) → Value → World → Prop} {base base' : Nat} {o : Option (List Nat)} {v : Value} {w : World} (h : OutT E base o v w) (hb : base' ≤ base) : OutT E base' o v w := by
  obtain ⟨x, y, e, h1, h2⟩ := h
  exact ⟨x, y, e, h1.elder hb, h2⟩
theorem OutS.slice {base : Nat} {o : Option (List Nat)} {v : Value} {w : World} (h : OutS base o v w) : ∃ A n c, v = .slice A n c ∧ Own w base A n c (o.getD []) := by
  cases o with
  | none => exact ⟨none, 0, 0, h, Own.none_⟩
  | some ps => exact h
theorem run_load_head {W : World} {g : Nat} {K A S G : Int} (h : HeadAt W g K A S G) : (Instr.loadAt 42 (.pointer (some ⟨g, 0, none⟩))).run Tryz.prog W = .ok (.agg #[.int .i64 K, .int .u64 A, .int .i64 S, .int .i64 G]) W := by
  obtain ⟨c0, c1, c2, c3⟩ := h
  go_simp
theorem run_store_head {W : World} {g : Nat} {K0 A0 S0 G0 : Int} (h : Row4 W g K0 A0 S0 G0) (K A S G : Int) : (Instr.storeAt 42 (.pointer (some ⟨g, 0, none⟩)) (.agg #[.int .i64 K, .int .u64 A, .int .i64 S, .int .i64 G])).run Tryz.prog W = .ok () ((((W.setCell ⟨g, 0, none⟩ (.int .i64 K)).setCell ⟨g, 1, none⟩ (.int .u64 A)).setCell ⟨g, 2, none⟩ (.int .i64 S)).setCell ⟨g, 3, none⟩ (.int .i64 G)) := by
  obtain ⟨c0, c1, c2, c3⟩ := h.at_
  have f0 := h.free 0
  have f1 := h.free 1
  have f2 := h.free 2
  have f3 := h.free 3
  go_simp
/-- Operation number 6 turns block g alone; all others nothing that was there. -/
def Six (g : Nat) (j : Nat) (x y : World) : Prop := (j = 6 → x.grownBy y (some g) ∧ ∃ K A S G, Row4 y g K A S G) ∧ (j ≠ 6 → Later x y)
theorem six_later {g j : Nat} {x y : World} (hj : j ≠ 6) (h : Later x y) : Six g j x y := ⟨fun e => absurd e hj, fun _ => h⟩
theorem later_grown {x y : World} (row : Option Nat) (h : Later x y) : x.grownBy y row := ⟨h.os, h.tape, h.output, h.size, fun k hk _ => h.block k hk⟩
theorem six_grown {g j : Nat} {x y : World} (h : Six g j x y) : x.grownBy y (some g) := by
  by_cases hj : j = 6
  · exact (h.1 hj).1
  · exact later_grown _ (h.2 hj)
def SixI (w0 : World) (g : Nat) (w : World) : Prop := w0.grownBy w (some g) ∧ ∃ K A S G, Row4 w g K A S G
theorem six_inv {g j : Nat} {w0 x y : World} (h : SixI w0 g x) (k : Six g j x y) : SixI w0 g y := by
  refine ⟨grownBy_trans h.1 (six_grown k), ?_⟩
  by_cases hj : j = 6
  · exact (k.1 hj).2
  · obtain ⟨K, A, S, G, hr⟩ := h.2
    exact ⟨K, A, S, G, hr.since (k.2 hj)⟩
theorem sixI_bytes {w0 w W : World} {A : Option Addr} {n : Nat} {bs : List Nat} (hA : Bytes w0 w0.heap.size A n bs) (hb : Below w0.heap.size w0 w) (h : SixI w w0.heap.size W) : Bytes W W.heap.size A n bs := by
  have h1 := hb.grown h.1 hb.size (fun q hq => by rw [← Option.some.inj hq]; exact Nat.le_refl _)
  exact hA.since h1
/-- What the eight operations of 'a list's beginning, copied; a head; how it stands' leave. -/
def F8 (base g : Nat) (A : Option Addr) (n c N : Nat) (ds : List Nat) (K A' S G : Int) (i : Nat) (v : Value) (w : World) : Prop := match i with
  | 0 => v = .slice A n c
  | 1 => v = .int .i64 (N : Int)
  | 2 => v = .slice A N c
  | 3 => ∃ B m, v = .slice B N m ∧ Own w base B N m ds
  | 4 => v = .agg #[.int .i64 K, .int .u64 A', .int .i64 S, .int .i64 G]
  | 5 => ∃ B m, v = .slice B N m ∧ Own w base B N m ds
  | 6 => Row4 w g K A' S G
  | 7 => v = .int .i64 1
  | _ => True
theorem f8_stays {base g : Nat} (hg : g < base) {A : Option Addr} {n c N : Nat} {ds : List Nat} {K A' S G : Int} {i j : Nat} {v : Value} {w w' : World} (hij : i ≠ j) (h : F8 base g A n c N ds K A' S G i v w) (hR : Six g j w w') : F8 base g A n c N ds K A' S G i v w' := by
  have own : (∃ B m, v = .slice B N m ∧ Own w base B N m ds) → ∃ B m, v = .slice B N m ∧ Own w' base B N m ds := fun ⟨B, m, e, ho⟩ => ⟨B, m, e, ho.kept (six_grown hR) (fun b hb => by rw [← Option.some.inj hb]; exact hg)⟩
  match i with
  | 0 => exact h
  | 1 => exact h
  | 2 => exact h
  | 3 => exact own h
  | 4 => exact h
  | 5 => exact own h
  | 6 => exact Row4.since h (hR.2 (fun e => hij e.symm))
  | 7 => exact h
  | _ + 8 => trivial
theorem lay_any (A : Option Addr) (n c : Nat) (bs : List Nat) (K A' S G : Int) (w : World) (hT : Tabs w) (hW : Wid w) (hn : n ≤ 900) (hA : Bytes w w.heap.size A n bs) (a0 : 0 ≤ A') (a1 : A' ≤ 18446744073709551615) :
    Calls Tryz.prog 58 #[.slice A n c, .agg #[.int .i64 K, .int .u64 A', .int .i64 S, .int .i64 G]] w fun e w' => ∃ v, e = .returned v ∧ OutT OutE w.heap.size (layO bs K A' S G) v w' ∧ Hid (Below w.heap.size w w') := by
  by_cases h : dataB (bs.length : Int) = true ∧ mayB K A' S G = true
  · rw [layO_yes h.1 h.2]
    have b := mayB_out h.2
    have hd : 128 ≤ (n : Int) ∧ (n : Int) ≤ 256 := by have := of_decide_eq_true h.1; rwa [hA.len] at this
    refine (lay_yes A n c bs K A' S G (hN K A' S G) w hT hW (by omega) (by omega) hA h.2 (by show K = (K.toNat : Int); omega) (by show A' = (A'.toNat : Int); omega) (by show S = (S.toNat : Int); omega) (by show G = (G.toNat : Int); omega) ⟨a0, a1⟩).mono ?_
    rintro e w' ⟨B, m, c', rfl, ho, hb⟩
    exact ⟨_, rfl, ⟨_, _, rfl, ⟨_, _, _, rfl, ho.out⟩, rfl⟩, hb⟩
  · rw [layO_no h]
    rw [hA.len] at h
    refine (lay_no A n c K A' S G w (by omega) h).mono ?_
    rintro e w' ⟨x, rfl, hb, hw⟩
    exact ⟨_, rfl, ⟨_, _, rfl, rfl, hb.out⟩, hw⟩
end Go.Proofs.YthgkdnegnecnjaaGreatDoor

/- The contract of head.Read. Conditions: what the listed variables hold; the slice's cells; at most 900 bytes. -/
set_option linter.unusedVariables false
set_option linter.unusedSimpArgs false
set_option maxRecDepth 20000
namespace Go.Proofs.YthgkdnegnecnjaaGreatDoor
open Go.RowKit

/-- What a call of Read leaves. -/
def ROut (w : World) (r : Hd.Rd) (e : Ending) (w' : World) : Prop := match r with
  | .torn => e = .returned (.tuple #[.slice none 0 0, .agg #[.int .i64 0, .int .u64 0, .int .i64 0, .int .i64 0], .int .i64 2]) ∧ Hid (Below w.heap.size w w')
  | .erased => e = .returned (.tuple #[.slice none 0 0, .agg #[.int .i64 0, .int .u64 0, .int .i64 0, .int .i64 0], .int .i64 0]) ∧ Hid (Below w.heap.size w w')
  | .valid ds h => ∃ (A : Option Addr) (n c : Nat) (K A' S G : Int), e = .returned (.tuple #[.slice A n c, .agg #[.int .i64 K, .int .u64 A', .int .i64 S, .int .i64 G], .int .i64 1]) ∧ Hid (Own w' w.heap.size A n c ds) ∧ Hid (K = (h.k : Int) ∧ A' = (h.a : Int) ∧ S = (h.s : Int) ∧ G = (h.g : Int)) ∧ Hid (Below w.heap.size w w')
theorem reads_size {bs : List Nat} (h : ¬ Hd.fits (bs.length - 28)) : Hd.Reads bs .torn := by
  refine ⟨?_, fun k => h k.1⟩
  rintro ⟨ds, hd, k, f, rfl⟩
  rw [Hd.page_len, Nat.add_sub_cancel] at h
  exact h f
theorem hN_eq {h : Hd.H} {K A S G : Int} (hK : K = (h.k : Int)) (hA : A = (h.a : Int)) (hS : S = (h.s : Int)) (hG : G = (h.g : Int)) : hN K A S G = h := by
  subst hK hA hS hG
  cases h
  simp [hN]
theorem mayB_of {h : Hd.H} {K A S G : Int} (hK : K = (h.k : Int)) (hA : A = (h.a : Int)) (hS : S = (h.s : Int)) (hG : G = (h.g : Int)) (k : Hd.Ok h) : mayB K A S G = true := by
  have h1 := k.seq0
  have h2 := k.seq1
  have h3 := k.gen1
  have h4 := k.kind
  exact mayB_yes ⟨by omega, by omega, by omega, by omega, by omega⟩
theorem reads_torn {bs : List Nat} {n : Nat} {K A S G : Int} (hl : bs.length = n + 28) (f : Hd.fits n) (hb : ∀ b ∈ bs, b < 256) (hnb : blankB bs = false) (hK : K = ((Hd.headOf (bs.drop n)).k : Int)) (hA : A = ((Hd.headOf (bs.drop n)).a : Int)) (hS : S = ((Hd.headOf (bs.drop n)).s : Int)) (hG : G = ((Hd.headOf (bs.drop n)).g : Int))
    (h : ∀ ps, layO (bs.take n) K A S G = some ps → ps ≠ bs) : Hd.Reads bs .torn := by
  refine ⟨fun hp => ?_, fun k => ?_⟩
  · obtain ⟨k, e⟩ := (Hd.page_iff hl f hb).1 hp
    have hn : (bs.take n).length = n := by rw [List.length_take]; omega
    refine h _ (layO_yes ?_ (mayB_of hK hA hS hG k)) ?_
    · rw [hn]; exact dataB_yes (by have := f.1; omega) (by have := f.2; omega)
    · rw [hN_eq hK hA hS hG]; exact e
  · rw [blankB_iff.2 k.2] at hnb; cases hnb
theorem reads_valid {bs : List Nat} {n : Nat} {K A S G : Int} (hl : bs.length = n + 28) (f : Hd.fits n) (hK : K = ((Hd.headOf (bs.drop n)).k : Int)) (hA : A = ((Hd.headOf (bs.drop n)).a : Int)) (hS : S = ((Hd.headOf (bs.drop n)).s : Int)) (hG : G = ((Hd.headOf (bs.drop n)).g : Int)) (hA1 : A ≤ 18446744073709551615)
    (h : layO (bs.take n) K A S G = some bs) : Hd.Reads bs (.valid (bs.take n) (Hd.headOf (bs.drop n))) := by
  have hn : (bs.take n).length = n := by rw [List.length_take]; omega
  unfold layO at h
  split at h
  · next hh =>
    have hok := hN_ok hh.2 (by omega) hA1
    rw [hN_eq hK hA hS hG] at hok h
    exact ⟨hok, by rw [hn]; exact f, (Option.some.inj h).symm⟩
  · cases h
theorem row4_put4 {w : World} {g : Nat} {B : Nat} {K A S G : Int} (h : Row4 w g K A S G) (hB : B ≤ g) (K' A' S' G' : Int) : Row4 ((((w.setCell ⟨g, 0, none⟩ (.int .i64 K')).setCell ⟨g, 1, none⟩ (.int .u64 A')).setCell ⟨g, 2, none⟩ (.int .i64 S')).setCell ⟨g, 3, none⟩ (.int .i64 G')) g K' A' S' G' ∧ Below B w ((((w.setCell ⟨g, 0, none⟩ (.int .i64 K')).setCell ⟨g, 1, none⟩ (.int .u64 A')).setCell ⟨g, 2, none⟩ (.int .i64 S')).setCell ⟨g, 3, none⟩ (.int .i64 G')) :=
  ⟨h.put K' A' S' G', (Below.refl B w).grown (put_else w g _ _ _ _) (Nat.le_trans hB (Nat.le_of_lt h.lt)) (fun q hq => by rw [← Option.some.inj hq]; exact hB)⟩
set_option maxHeartbeats 2000000 in
theorem read_size (A : Option Addr) (n c : Nat) (bs : List Nat) (w : World) (hn : n ≤ 900) (hA : Bytes w w.heap.size A n bs) (h : ¬ Hd.fits (n - 28)) :
    Calls Tryz.prog 67 #[.slice A n c] w (ROut w .torn) := by
  have S1 := Lib.hid (since_alloc (Below.refl w.heap.size w) (.cells #[.int .i64 0, .int .u64 0, .int .i64 0, .int .i64 0] 42))
  have R1 := Lib.hid (row4_new w 0 0 0 0)
  have HD : Hid (dataB ((n : Int) - 28) = false) := dataB_no fun hh => h ⟨by omega, by omega⟩
  clear h hA
  go_enter Tryz.func67, Tryz.ntmps67
  go_wp2_with fail
  refine (maybedata_any _ _).mono ?_
  rw [HD.out]
  rintro e W2 ⟨rfl, hb2⟩
  have S2 := Lib.hid (S1.out.trans (hb2.out.mono (by simp)))
  have R2 := Lib.hid (R1.out.since hb2.out)
  obtain ⟨q0, q1, q2, q3⟩ := R2.out.at_
  have f0 := R2.out.free 0
  have f1 := R2.out.free 1
  have f2 := R2.out.free 2
  have f3 := R2.out.free 3
  clear S1 R1 hb2
  go_wp2_with fail
  obtain ⟨r9, s9⟩ := row4_put4 (B := w.heap.size) R2.out (Nat.le_refl _) 0 0 0 0
  obtain ⟨W9, HW9⟩ : ∃ W9, Hid (W9 = ((((W2.setCell ⟨w.heap.size, 0, none⟩ (.int .i64 0)).setCell ⟨w.heap.size, 1, none⟩ (.int .u64 0)).setCell ⟨w.heap.size, 2, none⟩ (.int .i64 0)).setCell ⟨w.heap.size, 3, none⟩ (.int .i64 0))) := ⟨_, rfl⟩
  rw [← HW9.out] at r9 s9 ⊢
  obtain ⟨r0, r1, r2, r3⟩ := r9.at_
  exact bodyPost_ret (v := .tuple #[.slice none 0 0, .agg #[.int .i64 0, .int .u64 0, .int .i64 0, .int .i64 0], .int .i64 2]) (by simp [results, Tryz.results67, go_sem, r0, r1, r2, r3]) rfl ⟨rfl, S2.out.trans s9⟩
set_option maxHeartbeats 2000000 in
theorem read_blank (A : Option Addr) (n c : Nat) (bs : List Nat) (w : World) (hn : n ≤ 900) (hA : Bytes w w.heap.size A n bs) (h : Hd.fits (n - 28)) (hbl : blankB bs = true) :
    Calls Tryz.prog 67 #[.slice A n c] w (ROut w .erased) := by
  have S1 := Lib.hid (since_alloc (Below.refl w.heap.size w) (.cells #[.int .i64 0, .int .u64 0, .int .i64 0, .int .i64 0] 42))
  have R1 := Lib.hid (row4_new w 0 0 0 0)
  have HD : Hid (dataB ((n : Int) - 28) = true) := dataB_yes (by have := h.1; omega) (by have := h.2; omega)
  have HBL := Lib.hid hbl
  have HA := Lib.hid hA
  clear h hA hbl
  go_enter Tryz.func67, Tryz.ntmps67
  go_wp2_with fail
  refine (maybedata_any _ _).mono ?_
  rw [HD.out]
  rintro e W2 ⟨rfl, hb2⟩
  have S2 := Lib.hid (S1.out.trans (hb2.out.mono (by simp)))
  have R2 := Lib.hid (R1.out.since hb2.out)
  clear S1 R1 hb2
  go_wp2_with fail
  refine (isblank_any A n c bs _ hn (HA.out.since S2.out)).mono ?_
  rw [HBL.out]
  rintro e W3 ⟨rfl, hb3⟩
  have S3 := Lib.hid (below_chain S2.out hb3.out)
  have R3 := Lib.hid (R2.out.since hb3.out)
  obtain ⟨q0, q1, q2, q3⟩ := R3.out.at_
  have f0 := R3.out.free 0
  have f1 := R3.out.free 1
  have f2 := R3.out.free 2
  have f3 := R3.out.free 3
  clear S2 R2 hb3
  go_wp2_with fail
  obtain ⟨r9, s9⟩ := row4_put4 (B := w.heap.size) R3.out (Nat.le_refl _) 0 0 0 0
  obtain ⟨W9, HW9⟩ : ∃ W9, Hid (W9 = ((((W3.setCell ⟨w.heap.size, 0, none⟩ (.int .i64 0)).setCell ⟨w.heap.size, 1, none⟩ (.int .u64 0)).setCell ⟨w.heap.size, 2, none⟩ (.int .i64 0)).setCell ⟨w.heap.size, 3, none⟩ (.int .i64 0))) := ⟨_, rfl⟩
  rw [← HW9.out] at r9 s9 ⊢
  obtain ⟨r0, r1, r2, r3⟩ := r9.at_
  exact bodyPost_ret (v := .tuple #[.slice none 0 0, .agg #[.int .i64 0, .int .u64 0, .int .i64 0, .int .i64 0], .int .i64 0]) (by simp [results, Tryz.results67, go_sem, r0, r1, r2, r3]) rfl ⟨rfl, S3.out.trans s9⟩
set_option maxHeartbeats 8000000 in
theorem read_page (A : Option Addr) (n c N : Nat) (bs : List Nat) (w : World) (hT : Tabs w) (hW : Wid w) (hN : n = N + 28) (hc : n ≤ c) (hA : Bytes w w.heap.size A n bs) (h : Hd.fits N) (hbl : blankB bs = false) :
    Calls Tryz.prog 67 #[.slice A n c] w fun e w' => ∃ r, Hd.Reads bs r ∧ ROut w r e w' := by
  have S1 := Lib.hid (since_alloc (Below.refl w.heap.size w) (.cells #[.int .i64 0, .int .u64 0, .int .i64 0, .int .i64 0] 42))
  have R1 := Lib.hid (row4_new w 0 0 0 0)
  have HD : Hid (dataB (N : Int) = true) := dataB_yes (by have := h.1; omega) (by have := h.2; omega)
  have HBL := Lib.hid hbl
  have HA := Lib.hid hA
  have HT := Lib.hid hT
  have HW := Lib.hid hW
  have HF := Lib.hid h
  have hN1 : N ≤ 256 := h.2
  have HL : Hid (bs.length = N + 28) := hA.len.trans hN
  have HC := Lib.hid hc
  have HN := Lib.hid hN
  have e28 : (n : Int) - 28 = (N : Int) := by omega
  have hNn : N ≤ n := by omega
  have hn9 : n ≤ 900 := by omega
  clear h hA hbl hT hW hc hN
  go_enter Tryz.func67, Tryz.ntmps67
  go_wp2_with fail
  refine (maybedata_any _ _).mono ?_
  rw [HD.out]
  rintro e W2 ⟨rfl, hb2⟩
  have S2 := Lib.hid (S1.out.trans (hb2.out.mono (by simp)))
  have R2 := Lib.hid (R1.out.since hb2.out)
  clear S1 R1 hb2 e28
  go_wp2_with fail
  refine (isblank_any A n c bs _ (by omega) (HA.out.since S2.out)).mono ?_
  rw [HBL.out]
  rintro e W3 ⟨rfl, hb3⟩
  have S3 := Lib.hid (below_chain S2.out hb3.out)
  have R3 := Lib.hid (R2.out.since hb3.out)
  clear S2 R2 hb3
  have hs1 := slice_from A n c N (by omega)
  rw [show n - N = 28 by have := HN.out; omega] at hs1
  obtain ⟨A5, HA5⟩ : ∃ A5 : Option Addr, Hid (A5 = if c = N then A else A.map (·.add (N * 1))) := ⟨_, rfl⟩
  rw [← HA5.out] at hs1
  have HB5 : Hid (Bytes W3 W3.heap.size A5 28 (bs.drop N)) := by
    have := (HA.out.since S3.out).rest (k := N) (c := c) (by omega) HC.out
    rw [← HA5.out, show n - N = 28 by have := HN.out; omega] at this
    exact this
  go_wp2_with fail
  refine (headof_any A5 (c - N) (bs.drop N) _ (HW.out.since S3.out) (by have := HC.out; have := HN.out; omega) HB5.out).mono ?_
  rintro e W4 ⟨K, A2, S, G, rfl, HK, HAA, HS, HG, k0, k1, ha0, ha1, s0, s1, g0, g1, hb4⟩
  have S4 := Lib.hid (below_chain S3.out hb4.out)
  have R4 := Lib.hid (R3.out.since hb4.out)
  clear S3 R3 hb4 HB5 HA5 hs1
  have S5 := Lib.hid (since_alloc S4.out (.cells #[.int .i64 K, .int .u64 A2, .int .i64 S, .int .i64 G] 42))
  have R5 := Lib.hid (R4.out.since (later_alloc W4 (.cells #[.int .i64 K, .int .u64 A2, .int .i64 S, .int .i64 G] 42)))
  have HLT := Lib.hid R4.out.lt
  have H5 := Lib.hid (headAt_new W4 K A2 S G 42)
  obtain ⟨g6, HG6⟩ : ∃ g, Hid (g = W4.heap.size) := ⟨_, rfl⟩
  go_wp2_with fail
  obtain ⟨W0, HW0⟩ : ∃ W0 : World, Hid (W0 = (W4.alloc (.cells #[.int .i64 K, .int .u64 A2, .int .i64 S, .int .i64 G] 42)).drew) := ⟨_, rfl⟩
  have S0 : Hid (Below w.heap.size w W0) := by rw [HW0.out]; exact S5.out.drew
  have R0 : Hid (Row4 W0 w.heap.size 0 0 0 0) := by rw [HW0.out]; exact ⟨R5.out.row⟩
  have H6 : Hid (HeadAt W0 W4.heap.size K A2 S G) := by rw [HW0.out]; exact ⟨H5.out.k, H5.out.a, H5.out.s, H5.out.g⟩
  have HT0 := Lib.hid (HT.out.since S0.out)
  have HW1 := Lib.hid (HW.out.since S0.out)
  have HB0 := Lib.hid (HA.out.since S0.out)
  have HBN := Lib.hid (HB0.out.first hNn)
  obtain ⟨o, HO⟩ : ∃ o, Hid (o = layO (bs.take N) K A2 S G) := ⟨_, rfl⟩
  clear S4 R4 S5 R5 H5 HG6 HD
  refine region_of_steps2 (by kernel_rfl) (fact2Of [.is (.slice A n c), .is (.int .i64 (N : Int)), .is (.slice A N c), .is (.agg #[.int .i64 K, .int .u64 A2, .int .i64 S, .int .i64 G]), .that (OutT OutE W0.heap.size o) (fun _ _ _ h k => outTE_later h k), .that (OutT OutE W0.heap.size o) (fun _ _ _ h k => outTE_later h k), .that (OutS W0.heap.size o) (fun _ _ _ h k => outS_later h k), .that (OutE o) (fun _ _ _ h k => outE_later h k), .that (OutS W0.heap.size o) (fun _ _ _ h k => outS_later h k), .that (OutE o) (fun _ _ _ h k => outE_later h k)]) (deadOf []) Calm (fun W => Below W0.heap.size W0 W ∧ W0.heap.size ≤ W.heap.size) (by kernel_rfl)
    (fun i j v w w' hm hd hn h hR => fact2_calm _ i j v w w' h hR) (fun j w w' h k => calm_inv h k) ⟨by rw [HW0.out]; exact Below.refl _ _, by rw [HW0.out]; exact Nat.le_refl _⟩ ?_ ?_
  · refine Steps2.cons ?_ (Steps2.cons ?_ (Steps2.cons ?_ (Steps2.cons ?_ (Steps2.cons ?_ (Steps2.cons ?_ (Steps2.cons ?_ (Steps2.cons ?_ (Steps2.cons ?_ (Steps2.cons ?_ (Steps2.nil))))))))))
    · intro listed a W H hw hl hd
      have t0 : a.tmps.getD 0 undef = .slice A n c := (H.old 0 (by kernel_rfl)).trans rfl
      exact step2_value (i := 0) rfl rfl (run_op_move rfl t0) (calm_refl _) rfl
    · intro listed a W H hw hl hd
      have t5 : a.tmps.getD 5 undef = .int .i64 (N : Int) := (H.old 5 (by kernel_rfl)).trans rfl
      exact step2_value (i := 1) rfl rfl (run_op_move rfl t5) (calm_refl _) rfl
    · intro listed a W H hw hl hd
      have t24 : a.tmps.getD 24 undef = .slice A n c := H.get 0 24 (by kernel_rfl) (dep_of hd 0 (by kernel_rfl)) (alive_none (by kernel_rfl))
      have t25 : a.tmps.getD 25 undef = .int .i64 (N : Int) := H.get 1 25 (by kernel_rfl) (dep_of hd 1 (by kernel_rfl)) (alive_none (by kernel_rfl))
      exact step2_value (i := 2) rfl rfl (run_op_slice rfl (by show (Instr.sliceAt 58 (a.tmps.getD 24 undef) none (some (a.tmps.getD 25 undef)) none).run _ _ = _; rw [t24, t25]; rw [run_sliceAt_slice (h := under24)]; exact slice_to A n c N (by omega) HC.out W)) (calm_refl _) rfl
    · intro listed a W H hw hl hd
      have t6 : a.tmps.getD 6 undef = .pointer (some ⟨W4.heap.size, 0, none⟩) := (H.old 6 (by kernel_rfl)).trans rfl
      exact step2_value (i := 3) rfl rfl (run_op_load rfl t6 (run_load_head (H6.out.since hw.1))) (calm_refl _) rfl
    · intro listed a W H hw hl hd
      have t26 : a.tmps.getD 26 undef = .slice A N c := H.get 2 26 (by kernel_rfl) (dep_of hd 2 (by kernel_rfl)) (alive_none (by kernel_rfl))
      have t27 : a.tmps.getD 27 undef = .agg #[.int .i64 K, .int .u64 A2, .int .i64 S, .int .i64 G] := H.get 3 27 (by kernel_rfl) (dep_of hd 3 (by kernel_rfl)) (alive_none (by kernel_rfl))
      refine step2_call (i := 4) rfl rfl (run_op_call (vs := #[.slice A N c, .agg #[.int .i64 K, .int .u64 A2, .int .i64 S, .int .i64 G]]) Tryz.func58 (by kernel_rfl) (by kernel_rfl) rfl (by simp only [List.map_toArray, List.map_cons, List.map_nil]; show #[a.tmps.getD 26 undef, a.tmps.getD 27 undef] = _; rw [t26, t27])) ?_
      refine (lay_any A N c (bs.take N) K A2 S G W (HT0.out.since hw.1) (HW1.out.since hw.1) (by omega) (HBN.out.since hw.1) ha0 ha1).mono ?_
      rw [← HO.out]
      rintro e W2 ⟨v, rfl, ho, hb⟩
      exact ⟨_, rfl, calm_later hb.out, ho.elder hw.2⟩
    · intro listed a W H hw hl hd
      have T28 : (OutT OutE W0.heap.size o) (a.tmps.getD 28 undef) W := H.get 4 28 (by kernel_rfl) (dep_of hd 4 (by kernel_rfl)) (alive_none (by kernel_rfl))
      exact step2_value (i := 5) rfl rfl (run_op_move rfl rfl) (calm_refl _) T28
    · intro listed a W H hw hl hd
      have T23 : (OutT OutE W0.heap.size o) (a.tmps.getD 23 undef) W := H.get 5 23 (by kernel_rfl) (dep_of hd 5 (by kernel_rfl)) (alive_none (by kernel_rfl))
      obtain ⟨x29, y29, e29, s29, z29⟩ := T23
      exact step2_value (i := 6) rfl rfl (run_op_extract rfl e29 rfl) (calm_refl _) s29
    · intro listed a W H hw hl hd
      have T23 : (OutT OutE W0.heap.size o) (a.tmps.getD 23 undef) W := H.get 5 23 (by kernel_rfl) (dep_of hd 5 (by kernel_rfl)) (alive_none (by kernel_rfl))
      obtain ⟨x30, y30, e30, s30, z30⟩ := T23
      exact step2_value (i := 7) rfl rfl (run_op_extract rfl e30 rfl) (calm_refl _) z30
    · intro listed a W H hw hl hd
      have T29 : (OutS W0.heap.size o) (a.tmps.getD 29 undef) W := H.get 6 29 (by kernel_rfl) (dep_of hd 6 (by kernel_rfl)) (alive_none (by kernel_rfl))
      exact step2_value (i := 8) rfl rfl (run_op_assign rfl rfl) (calm_refl _) T29
    · intro listed a W H hw hl hd
      have T30 : (OutE o) (a.tmps.getD 30 undef) W := H.get 7 30 (by kernel_rfl) (dep_of hd 7 (by kernel_rfl)) (alive_none (by kernel_rfl))
      exact step2_value (i := 9) rfl rfl (run_op_assign rfl rfl) (calm_refl _) T30
  · intro a W hdef hsz hw hall hact
    have t7 : OutS W0.heap.size o (a.tmps.getD 7 undef) W := hall 8 _ rfl (by kernel_rfl)
    have t8 : OutE o (a.tmps.getD 8 undef) W := hall 9 _ rfl (by kernel_rfl)
    have S7 := Lib.hid (S0.out.trans (hw.1.mono S0.out.size))
    have R7 := Lib.hid (R0.out.since hw.1)
    have H7 := Lib.hid (H6.out.since hw.1)
    have HB7 := Lib.hid (HB0.out.since hw.1)
    obtain ⟨u, hu⟩ : ∃ u : Nat → Value, ∀ k, a.tmps.getD k undef = u k := ⟨_, fun _ => rfl⟩
    simp only [hu] at hact t7 t8
    have hact' : a = ([24, 25, 26, 27, 28, 23, 29, 30, 7, 8] : List Nat).foldl (fun b k => b.put (some k) (u k)) _ := hact
    rcases o with _ | ps
    · obtain ⟨x8, h8⟩ := Bad.ne t8
      have h7 : u 7 = .slice none 0 0 := t7
      simp only [List.foldl, h7, h8] at hact'
      simp only [Act.put, List.setIfInBounds_toArray, List.set_cons_succ, List.set_cons_zero] at hact'
      have HACT := Lib.hid hact'
      have HR : Hid (Hd.Reads bs .torn) := reads_torn HL.out HF.out HA.out.lt256 HBL.out HK.out HAA.out HS.out HG.out (fun ps hp => by rw [← HO.out] at hp; cases hp)
      clear hu hact hact' t7 t8 h7 h8 hall hdef hsz
      rw [HACT.out]
      obtain ⟨q0, q1, q2, q3⟩ := R7.out.at_
      have f0 := R7.out.free 0
      have f1 := R7.out.free 1
      have f2 := R7.out.free 2
      have f3 := R7.out.free 3
      go_wp2_with fail
      obtain ⟨r9, s9⟩ := row4_put4 (B := w.heap.size) R7.out (Nat.le_refl _) 0 0 0 0
      obtain ⟨W9, HW9⟩ : ∃ W9, Hid (W9 = ((((W.setCell ⟨w.heap.size, 0, none⟩ (.int .i64 0)).setCell ⟨w.heap.size, 1, none⟩ (.int .u64 0)).setCell ⟨w.heap.size, 2, none⟩ (.int .i64 0)).setCell ⟨w.heap.size, 3, none⟩ (.int .i64 0))) := ⟨_, rfl⟩
      rw [← HW9.out] at r9 s9 ⊢
      obtain ⟨r0, r1, r2, r3⟩ := r9.at_
      exact bodyPost_ret (v := .tuple #[.slice none 0 0, .agg #[.int .i64 0, .int .u64 0, .int .i64 0, .int .i64 0], .int .i64 2]) (by simp [results, Tryz.results67, go_sem, r0, r1, r2, r3]) rfl ⟨.torn, HR.out, rfl, S7.out.trans s9⟩
    · obtain ⟨A7, n7, c7, h7, ho7⟩ := t7
      have h8 : u 8 = .nilIface := t8
      simp only [List.foldl, h7, h8] at hact'
      simp only [Act.put, List.setIfInBounds_toArray, List.set_cons_succ, List.set_cons_zero] at hact'
      have HACT := Lib.hid hact'
      have O7 := Lib.hid ho7
      clear hu hact hact' h7 h8 ho7 t8 hall hdef hsz
      rw [HACT.out]
      by_cases hsame : ps = bs
      · have HE : Hid (sameB ps bs = true) := decide_eq_true hsame
        have HR : Hid (Hd.Reads bs (.valid (bs.take N) (Hd.headOf (bs.drop N)))) := reads_valid HL.out HF.out HK.out HAA.out HS.out HG.out ha1 (by rw [← HO.out, hsame])
        clear hsame
        go_wp2_with fail
        refine (equal_any A7 A n7 c7 n c ps bs _ O7.out.bytes HB7.out).mono ?_
        rw [HE.out]
        rintro e W8 ⟨rfl, hb8⟩
        have S8 := Lib.hid (below_chain S7.out hb8.out)
        have R8 := Lib.hid (R7.out.since hb8.out)
        have H8 := Lib.hid (H7.out.since hb8.out)
        clear hb8 S7 R7 H7
        go_wp2_with fail
        obtain ⟨W9, HW9⟩ : ∃ W9 : World, Hid (W9 = W8.drew) := ⟨_, rfl⟩
        have S9 : Hid (Below w.heap.size w W9) := by rw [HW9.out]; exact S8.out.drew
        have R9 : Hid (Row4 W9 w.heap.size 0 0 0 0) := by rw [HW9.out]; exact ⟨R8.out.row⟩
        have H9 : Hid (HeadAt W9 W4.heap.size K A2 S G) := by rw [HW9.out]; exact ⟨H8.out.k, H8.out.a, H8.out.s, H8.out.g⟩
        clear S8 R8 H8
        have HAN := Lib.hid (HA.out.first hNn)
        have HG9 : Hid (w.heap.size < W9.heap.size) := R9.out.lt
        refine region_of_steps2 (by kernel_rfl) (F8 W9.heap.size w.heap.size A n c N (bs.take N) K A2 S G) (fun _ => none) (Six w.heap.size) (SixI W9 w.heap.size) (by kernel_rfl)
          (fun i j v x y hij hd hn h hR => f8_stays HG9.out hij h hR) (fun j x y h k => six_inv h k) ⟨by rw [HW9.out]; exact World.grownBy.refl _ _, 0, 0, 0, 0, by rw [← HW9.out]; exact R9.out⟩ ?_ ?_
        · refine Steps2.cons ?_ (Steps2.cons ?_ (Steps2.cons ?_ (Steps2.cons ?_ (Steps2.cons ?_ (Steps2.cons ?_ (Steps2.cons ?_ (Steps2.cons ?_ (Steps2.nil))))))))
          · intro listed a W H hw hl hd
            have t0 : a.tmps.getD 0 undef = .slice A n c := (H.old 0 (by kernel_rfl)).trans rfl
            exact step2_value (i := 0) rfl rfl (run_op_move rfl t0) (six_later (by decide) (later_refl _)) rfl
          · intro listed a W H hw hl hd
            have t5 : a.tmps.getD 5 undef = .int .i64 (N : Int) := (H.old 5 (by kernel_rfl)).trans rfl
            exact step2_value (i := 1) rfl rfl (run_op_move rfl t5) (six_later (by decide) (later_refl _)) rfl
          · intro listed a W H hw hl hd
            have t40 : a.tmps.getD 40 undef = .slice A n c := H.get 0 40 (by kernel_rfl) (dep_of hd 0 (by kernel_rfl)) (fun j hj => by cases hj)
            have t41 : a.tmps.getD 41 undef = .int .i64 (N : Int) := H.get 1 41 (by kernel_rfl) (dep_of hd 1 (by kernel_rfl)) (fun j hj => by cases hj)
            exact step2_value (i := 2) rfl rfl (run_op_slice rfl (by show (Instr.sliceAt 58 (a.tmps.getD 40 undef) none (some (a.tmps.getD 41 undef)) none).run _ _ = _; rw [t40, t41]; rw [run_sliceAt_slice (h := under24)]; exact slice_to A n c N hNn HC.out W)) (six_later (by decide) (later_refl _)) rfl
          · intro listed a W H hw hl hd
            have t42 : a.tmps.getD 42 undef = .slice A N c := H.get 2 42 (by kernel_rfl) (dep_of hd 2 (by kernel_rfl)) (fun j hj => by cases hj)
            have hby := sixI_bytes HAN.out S9.out hw
            refine step2_call (i := 3) rfl rfl (run_op_call (vs := #[.slice A N c]) Tryz.func100 (by kernel_rfl) (by kernel_rfl) rfl (by simp only [List.map_toArray, List.map_cons, List.map_nil]; show #[a.tmps.getD 42 undef] = _; rw [t42])) ?_
            refine (clone_any A N c (bs.take N) W (by omega) hby).mono ?_
            rintro e W2 ⟨B, n2, c2, rfl, ho, hb⟩
            obtain rfl : N = n2 := by rw [← ho.len, HAN.out.len]
            exact ⟨_, rfl, six_later (by decide) hb, B, c2, rfl, ho.elder hw.1.size⟩
          · intro listed a W H hw hl hd
            have t6 : a.tmps.getD 6 undef = .pointer (some ⟨W4.heap.size, 0, none⟩) := (H.old 6 (by kernel_rfl)).trans rfl
            exact step2_value (i := 4) rfl rfl (run_op_load rfl t6 (run_load_head (H9.out.else_ hw.1 (by have := HLT.out; omega)))) (six_later (by decide) (later_refl _)) rfl
          · intro listed a W H hw hl hd
            obtain ⟨B, m, e, ho⟩ := (show ∃ B m, a.tmps.getD 43 undef = .slice B N m ∧ Own W W9.heap.size B N m (bs.take N) from H.get 3 43 (by kernel_rfl) (dep_of hd 3 (by kernel_rfl)) (fun j hj => by cases hj))
            exact step2_value (i := 5) rfl rfl (run_op_assign rfl e) (six_later (by decide) (later_refl _)) ⟨B, m, rfl, ho⟩
          · intro listed a W H hw hl hd
            have t3 : a.tmps.getD 3 undef = .pointer (some ⟨w.heap.size, 0, none⟩) := (H.old 3 (by kernel_rfl)).trans rfl
            have t44 : a.tmps.getD 44 undef = .agg #[.int .i64 K, .int .u64 A2, .int .i64 S, .int .i64 G] := H.get 4 44 (by kernel_rfl) (dep_of hd 4 (by kernel_rfl)) (fun j hj => by cases hj)
            obtain ⟨K0, A0, S0, G0, hrow⟩ := hw.2
            exact step2_done (i := 6) rfl rfl rfl (run_op_store rfl t3 t44 (run_store_head hrow K A2 S G)) ⟨fun _ => ⟨put_else W w.heap.size _ _ _ _, K, A2, S, G, hrow.put K A2 S G⟩, fun h => absurd rfl h⟩ (hrow.put K A2 S G)
          · intro listed a W H hw hl hd
            exact step2_value (i := 7) rfl rfl (run_op_assign rfl rfl) (six_later (by decide) (later_refl _)) rfl
        · intro a W hdef hsz hw hall hact
          obtain ⟨B, m, e2, ho2⟩ := (show ∃ B m, a.tmps.getD 2 undef = .slice B N m ∧ Own W W9.heap.size B N m (bs.take N) from hall 5 _ rfl rfl)
          have row : Row4 W w.heap.size K A2 S G := hall 6 _ rfl rfl
          have e4 : a.tmps.getD 4 undef = .int .i64 1 := hall 7 _ rfl rfl
          obtain ⟨u, hu⟩ : ∃ u : Nat → Value, ∀ k, a.tmps.getD k undef = u k := ⟨_, fun _ => rfl⟩
          simp only [hu] at hact e2 e4
          have hact' : a = ([40, 41, 42, 43, 44, 2, 4] : List Nat).foldl (fun b k => b.put (some k) (u k)) _ := hact
          simp only [List.foldl, e2, e4] at hact'
          simp only [Act.put, List.setIfInBounds_toArray, List.set_cons_succ, List.set_cons_zero] at hact'
          have HACT := Lib.hid hact'
          have S10 := Lib.hid (S9.out.grown hw.1 S9.out.size (fun q hq => by rw [← Option.some.inj hq]; exact Nat.le_refl _))
          have O10 := Lib.hid (ho2.elder (Nat.le_of_lt HG9.out))
          have HE := Lib.hid (⟨HK.out, HAA.out, HS.out, HG.out⟩ : K = ((Hd.headOf (bs.drop N)).k : Int) ∧ A2 = ((Hd.headOf (bs.drop N)).a : Int) ∧ S = ((Hd.headOf (bs.drop N)).s : Int) ∧ G = ((Hd.headOf (bs.drop N)).g : Int))
          clear hu hact hact' e2 e4 ho2 hall hdef hsz
          rw [HACT.out]
          obtain ⟨r0, r1, r2, r3⟩ := row.at_
          go_wp2_with fail
          exact bodyPost_ret (v := .tuple #[.slice B N m, .agg #[.int .i64 K, .int .u64 A2, .int .i64 S, .int .i64 G], .int .i64 1]) (by simp [results, Tryz.results67, go_sem, r0, r1, r2, r3]) rfl ⟨_, HR.out, B, N, m, K, A2, S, G, rfl, O10, HE, S10⟩
      · have HE : Hid (sameB ps bs = false) := decide_eq_false hsame
        have HR : Hid (Hd.Reads bs .torn) := reads_torn HL.out HF.out HA.out.lt256 HBL.out HK.out HAA.out HS.out HG.out (fun qs hp => by rw [← HO.out] at hp; rw [← Option.some.inj hp]; exact hsame)
        clear hsame
        go_wp2_with fail
        refine (equal_any A7 A n7 c7 n c ps bs _ O7.out.bytes HB7.out).mono ?_
        rw [HE.out]
        rintro e W8 ⟨rfl, hb8⟩
        have S8 := Lib.hid (below_chain S7.out hb8.out)
        have R8 := Lib.hid (R7.out.since hb8.out)
        clear hb8 S7 R7
        obtain ⟨q0, q1, q2, q3⟩ := R8.out.at_
        have f0 := R8.out.free 0
        have f1 := R8.out.free 1
        have f2 := R8.out.free 2
        have f3 := R8.out.free 3
        go_wp2_with fail
        obtain ⟨r9, s9⟩ := row4_put4 (B := w.heap.size) R8.out (Nat.le_refl _) 0 0 0 0
        obtain ⟨W9, HW9⟩ : ∃ W9, Hid (W9 = ((((W8.setCell ⟨w.heap.size, 0, none⟩ (.int .i64 0)).setCell ⟨w.heap.size, 1, none⟩ (.int .u64 0)).setCell ⟨w.heap.size, 2, none⟩ (.int .i64 0)).setCell ⟨w.heap.size, 3, none⟩ (.int .i64 0))) := ⟨_, rfl⟩
        rw [← HW9.out] at r9 s9 ⊢
        obtain ⟨r0, r1, r2, r3⟩ := r9.at_
        exact bodyPost_ret (v := .tuple #[.slice none 0 0, .agg #[.int .i64 0, .int .u64 0, .int .i64 0, .int .i64 0], .int .i64 2]) (by simp [results, Tryz.results67, go_sem, r0, r1, r2, r3]) rfl ⟨.torn, HR.out, rfl, S8.out.trans s9⟩
theorem read_any (A : Option Addr) (n c : Nat) (bs : List Nat) (w : World) (hT : Tabs w) (hW : Wid w) (hn : n ≤ 900) (hc : n ≤ c) (hA : Bytes w w.heap.size A n bs) :
    Calls Tryz.prog 67 #[.slice A n c] w fun e w' => ∃ r, Hd.Reads bs r ∧ ROut w r e w' := by
  by_cases h : Hd.fits (n - 28)
  · by_cases hb : blankB bs = true
    · exact (read_blank A n c bs w hn hA h hb).mono fun e w' he => ⟨.erased, ⟨by rw [hA.len]; exact h, blankB_iff.1 hb⟩, he⟩
    · exact read_page A n c (n - 28) bs w hT hW (by have := h.1; omega) hc hA h (by simpa using hb)
  · exact (read_size A n c bs w hn hA h).mono fun e w' he => ⟨.torn, reads_size (by rw [hA.len]; exact h), he⟩
theorem read_as (r : Hd.Rd) (A : Option Addr) (n c : Nat) (bs : List Nat) (w : World) (hT : Tabs w) (hW : Wid w) (hn : n ≤ 900) (hc : n ≤ c) (hA : Bytes w w.heap.size A n bs) (hr : Hd.Reads bs r) :
    Calls Tryz.prog 67 #[.slice A n c] w (ROut w r) :=
  (read_any A n c bs w hT hW hn hc hA).mono fun e w' ⟨r', hr', he⟩ => by rw [hr.one hr']; exact he
/-- Bytes that are a page, with the numbers of its head. -/
theorem read_valid (ds : List Nat) (h : Hd.H) (K A' S G : Int) (hh : K = (h.k : Int) ∧ A' = (h.a : Int) ∧ S = (h.s : Int) ∧ G = (h.g : Int)) (A : Option Addr) (n c : Nat) (bs : List Nat) (w : World) (hT : Tabs w) (hW : Wid w) (hn : n ≤ 900) (hc : n ≤ c) (hA : Bytes w w.heap.size A n bs) (hr : Hd.Reads bs (.valid ds h)) :
    Calls Tryz.prog 67 #[.slice A n c] w fun e w' => ∃ B m c', e = .returned (.tuple #[.slice B m c', .agg #[.int .i64 K, .int .u64 A', .int .i64 S, .int .i64 G], .int .i64 1]) ∧ Hid (Own w' w.heap.size B m c' ds) ∧ Hid (Below w.heap.size w w') := by
  refine (read_as _ A n c bs w hT hW hn hc hA hr).mono ?_
  rintro e w' ⟨B, m, c', K2, A2, S2, G2, rfl, ho, he, hb⟩
  obtain ⟨k1, k2, k3, k4⟩ := he.out
  refine ⟨B, m, c', ?_, ho, hb⟩
  rw [k1, k2, k3, k4, hh.1, hh.2.1, hh.2.2.1, hh.2.2.2]
/-- Bytes that are none: what state they are in. -/
theorem read_none (x : Int) (A : Option Addr) (n c : Nat) (bs : List Nat) (w : World) (hT : Tabs w) (hW : Wid w) (hn : n ≤ 900) (hc : n ≤ c) (hA : Bytes w w.heap.size A n bs) (hr : (x = 2 ∧ Hd.Reads bs .torn) ∨ (x = 0 ∧ Hd.Reads bs .erased)) :
    Calls Tryz.prog 67 #[.slice A n c] w fun e w' => e = .returned (.tuple #[.slice none 0 0, .agg #[.int .i64 0, .int .u64 0, .int .i64 0, .int .i64 0], .int .i64 x]) ∧ Hid (Below w.heap.size w w') := by
  rcases hr with ⟨rfl, hr⟩ | ⟨rfl, hr⟩
  · exact read_as _ A n c bs w hT hW hn hc hA hr
  · exact read_as _ A n c bs w hT hW hn hc hA hr
end Go.Proofs.YthgkdnegnecnjaaGreatDoor

/- Heads compared; what Lay leaves, taken apart. Conditions: the cells. -/
set_option linter.unusedVariables false
set_option linter.unusedSimpArgs false
set_option maxRecDepth 20000
namespace Go.Proofs.YthgkdnegnecnjaaGreatDoor
open Go.RowKit

/-- Two heads, as the program has them, are the same. -/
def headB (K A S G K' A' S' G' : Int) : Bool := decide (K = K' ∧ A = A' ∧ S = S' ∧ G = G')
theorem run_eql_head (K A S G K' A' S' G' : Int) (w : World) : (binOp .eql 42 (.agg #[.int .i64 K, .int .u64 A, .int .i64 S, .int .i64 G]) (.agg #[.int .i64 K', .int .u64 A', .int .i64 S', .int .i64 G'])).run Tryz.prog w = .ok (.bool (headB K A S G K' A' S' G')) w := by
  unfold headB
  by_cases hK : K = K' <;> by_cases hA : A = A' <;> by_cases hS : S = S' <;> by_cases hG : G = G' <;> go_simp <;> simp [hK, hA, hS, hG]
theorem run_neq_head (K A S G K' A' S' G' : Int) (w : World) : (binOp .neq 42 (.agg #[.int .i64 K, .int .u64 A, .int .i64 S, .int .i64 G]) (.agg #[.int .i64 K', .int .u64 A', .int .i64 S', .int .i64 G'])).run Tryz.prog w = .ok (.bool (!headB K A S G K' A' S' G')) w := by
  unfold headB
  by_cases hK : K = K' <;> by_cases hA : A = A' <;> by_cases hS : S = S' <;> by_cases hG : G = G' <;> go_simp <;> simp [hK, hA, hS, hG]
theorem headB_self (K A S G : Int) : headB K A S G K A S G = true := decide_eq_true ⟨rfl, rfl, rfl, rfl⟩
theorem layO_may {bs : List Nat} {K A S G : Int} (h : dataB (bs.length : Int) = true) : layO bs K A S G = if mayB K A S G = true then some (Hd.page bs (hN K A S G)) else none := by
  unfold layO
  by_cases h2 : mayB K A S G = true
  · rw [if_pos ⟨h, h2⟩, if_pos h2]
  · rw [if_neg (fun hh => h2 hh.2), if_neg h2]
/-- What Lay leaves, opened, where the head may be; where it may not. -/
theorem out_yes {base : Nat} {ps : List Nat} {v : Value} {w : World} (h : OutT OutE base (some ps) v w) : ∃ A n c, v = .tuple #[.slice A n c, .nilIface] ∧ Own w base A n c ps := by
  obtain ⟨x, y, e, ⟨A, n, c, hx, ho⟩, hy⟩ := h
  refine ⟨A, n, c, ?_, ho⟩
  rw [e, hx, show y = .nilIface from hy]
theorem out_no {base : Nat} {v : Value} {w : World} (h : OutT OutE base none v w) : ∃ x, v = .tuple #[.slice none 0 0, .iface 111 x] ∧ Bad w (.iface 111 x) := by
  obtain ⟨x, y, e, hx, hy⟩ := h
  obtain ⟨z, hz⟩ := Bad.ne hy
  refine ⟨z, ?_, hz ▸ hy⟩
  rw [e, hz, show x = .slice none 0 0 from hx]
end Go.Proofs.YthgkdnegnecnjaaGreatDoor
