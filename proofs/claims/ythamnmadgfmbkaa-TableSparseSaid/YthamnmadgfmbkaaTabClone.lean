/- slices.Clone, Grow, Concat of entries. Conditions: the rows' cells; at most 120 entries in all, one row at most. -/
import Derived.Test.YthamnmadgfmbkaaTabSeek2
import Derived.Test.YthamnmadgfmbkaaTabInsert
set_option linter.unusedVariables false
set_option linter.unusedSimpArgs false
namespace Go.Proofs.Ythamnmadgfmbkaa
open Go.RowKit

theorem row_empty_k {α : Type} {K : Kind α} {base : Nat} (W : World) (hb : base ≤ W.heap.size) : K.Row (W.alloc (.cells #[] K.T)) base (some ⟨W.heap.size, 0, none⟩) 0 0 [] :=
  ⟨World.ownsRow_lit W #[] 0 hb (by unfold maxLen; omega) (by simp), fun v hv => by cases hv⟩
set_option maxHeartbeats 1000000 in
theorem cloneE_any (ad : Addr) (n c : Nat) (l : List E) (w : World) (hn : n ≤ 8000) (hA : entK.Lie w w.heap.size (some ad) n l) :
    Calls Try.prog 31 #[.slice (some ad) n c] w (fun e w' => ∃ A' c', e = .returned (.slice A' n c') ∧ Hid (entK.Row w' w.heap.size A' n c' l) ∧ Hid (Below w.heap.size w w')) := by
  have hS := since_alloc (Below.refl w.heap.size w) (.cells #[] 32)
  obtain ⟨A2, c2, W2, hr, ho, hb, _⟩ := Kind.append_g (K := entK) (c' := c) hS (row_empty_k (K := entK) w (Nat.le_refl _)) (hA.since hS) (by omega)
  rw [Nat.zero_add] at hr ho
  rw [List.nil_append] at ho
  have R := Lib.hid hr
  have HO := Lib.hid ho
  have HB := Lib.hid hb
  clear hr ho hb hA hS
  have heq : ∀ W : World, (binOp .eql 27 (.slice (some ad) n c) (.slice none 0 0)).run Try.prog W = .ok (.bool false) W := fun W => Lib.run_eql_slice_nil W _ _ _ _ _ _ _ Try.underlying27
  go_enter Try.func31, Try.ntmps31
  go_wp2_with (at_builtin; refine wpList_append_run rfl (.tmp 5) (.tmp 6) 27 rfl rfl rfl R.out ?_)
  go_ret
  exact ⟨_, _, rfl, HO, HB⟩
/-- Grow(nil, m). -/
def GrowOut (w : World) (e : Ending) (w' : World) : Prop := ∃ A c, e = .returned (.slice A 0 c) ∧ Hid (entK.Row w' w.heap.size A 0 c []) ∧ Hid (Below w.heap.size w w')
theorem growE_none (w : World) : Calls Try.prog 41 #[.slice none 0 0, .int .i64 0] w (GrowOut w) := by
  have S0 := Lib.hid (Below.refl w.heap.size w)
  go_enter Try.func41, Try.ntmps41
  go_wp2_with fail
  go_ret
  exact ⟨_, _, rfl, Kind.Row.none_, S0⟩
theorem growE_some (m : Nat) (h0 : 0 < m) (hm : m ≤ 8000) (w : World) : Calls Try.prog 41 #[.slice none 0 0, .int .i64 (m : Int)] w (GrowOut w) := by
  obtain ⟨c2, W1, r1, hR, hB⟩ := Kind.grow_nil (K := entK) (base := w.heap.size) (w := w) entK_zero (m := m) (tn := 3) (ty := 27) (kn := .i64) (Nat.le_refl _) h0 hm Try.underlying3
  obtain ⟨b, HBN⟩ : ∃ b, Hid (w.heap.size = b) := ⟨_, rfl⟩
  rw [HBN.out] at r1
  have hR' := hR
  rw [show (some (⟨w.heap.size, 0, none⟩ : Addr)) = some ⟨b, 0, none⟩ by rw [HBN.out]] at hR'
  have hcap := hR'.cap
  have HR := Lib.hid (hR'.first (i := 0) (Nat.zero_le _))
  have HB := Lib.hid hB
  have R := Lib.hid r1
  have hl1 : ∀ W : World, (Instr.slice 27 (.slice (some ⟨b, 0, none⟩) m c2) none (some (.int .i64 0)) none).run Try.prog W = .ok (.slice (some ⟨b, 0, none⟩) 0 c2) W := fun W => entK.slice_to (some ⟨b, 0, none⟩) m c2 0 (Nat.zero_le _) hcap W
  have i0 : (0 : Int) < (m : Int) := by omega
  have i1 : ¬ ((m : Int) < 0) := by omega
  have i2 : (m : Int) - 0 = (m : Int) := by omega
  clear r1 hR hB hR'
  go_enter Try.func41, Try.ntmps41
  go_wp2_with (at_builtin; refine Lib.wpList_append_run _ rfl (.tmp 20) (.tmp 21) 27 3 rfl _ _ rfl rfl _ _ R.out ?_)
  go_ret
  exact ⟨_, _, rfl, HR, HB⟩
section
variable {w : World} {base g h cA r c n : Nat} {l : List E} {fp : Nat → Prop} {v : Value} {m d : Int}
set_option maxHeartbeats 4000000 in
theorem concat_none (A : Option Addr) (cA : Nat) (w : World) : Calls Try.prog 32 #[.slice A 0 cA] w (GivesE w []) := by
  have C := Lib.hid (growE_none w)
  go_enter Try.func32, Try.ntmps32
  go_wp2_with fail
  go_loopw [3, 11] (fun t3 t11 wr => t3 = .int .i64 0 ∧ t11 = .int .i64 0 ∧ Hid (wr = w)) (fun t3 t11 _ => 0)
  case atStart => exact ⟨rfl, rfl, rfl⟩
  case round =>
    obtain ⟨rfl, rfl, hw⟩ := hrel
    have hw' := hw.out
    subst hw'
    go_wp2_with fail
    refine C.out.mono ?_
    rintro e W1 ⟨A1, c1, rfl, hR, hB⟩
    go_wp2_with fail
    go_loopw [6, 27] (fun t6 t27 wr => t6 = .slice A1 0 c1 ∧ t27 = .int .i64 0 ∧ Hid (wr = W1)) (fun t6 t27 _ => 0)
    case atStart => exact ⟨rfl, rfl, rfl⟩
    case round =>
      obtain ⟨rfl, rfl, hw⟩ := hrel
      have hw' := hw.out
      subst hw'
      go_wp2_with fail
      go_ret
      exact ⟨_, _, _, rfl, hR, hB⟩
set_option maxHeartbeats 4000000 in
theorem concat_one (h0 : 0 < l.length) (hl : l.length ≤ 120) (k : TOne w base fp l h cA r c) : Calls Try.prog 32 #[.slice (some ⟨h, 0, none⟩) 1 cA] w (GivesE w l) := by
  have hc := k.c0
  have HC := Lib.hid hc
  have HK := Lib.hid k
  obtain ⟨n, HN⟩ : ∃ n, Hid (l.length = n) := ⟨_, rfl⟩
  have C := Lib.hid (growE_some l.length h0 (by omega) w)
  rw [HN.out] at hc C h0 hl HC
  have n0 : ¬ ((n : Int) < 0) := by omega
  clear k
  go_enter Try.func32, Try.ntmps32
  go_wp2_with fail
  go_loopw [3, 11] (fun t3 t11 wr => ((t3 = .int .i64 0 ∧ t11 = .int .i64 0) ∨ (t3 = .int .i64 n ∧ t11 = .int .i64 1)) ∧ Hid (wr = w)) (fun t3 t11 _ => 1 - (intOf t11).toNat)
  case atStart => exact ⟨Or.inl ⟨rfl, rfl⟩, rfl⟩
  case round =>
    obtain ⟨hq, hw⟩ := hrel
    have hw' := hw.out
    subst hw'
    rcases hq with ⟨rfl, rfl⟩ | ⟨rfl, rfl⟩
    · go_wp2_with fail
      go_roundw
      case rel => exact ⟨Or.inr ⟨rfl, rfl⟩, (trivial : True)⟩
      case measure => simp [intOf]
    · go_wp2_with fail
      refine C.out.mono ?_
      rintro e W1 ⟨A1, c1, rfl, hR, hB⟩
      have K1 := Lib.hid (HK.out.since hB.out)
      obtain ⟨A2, c2, W2, hr, ho, hb2, _⟩ := Kind.append_g (K := entK) (c' := c) hB.out hR.out K1.out.row.lie (by rw [HN.out]; omega)
      rw [Nat.zero_add, HN.out] at hr ho
      rw [List.nil_append] at ho
      have R := Lib.hid hr
      have HO := Lib.hid ho
      have HB := Lib.hid hb2
      have c1' := K1.out.c0
      rw [HN.out] at c1'
      clear hr ho hb2 hB hR C hc
      go_wp2_with fail
      go_loopw [6, 27] (fun t6 t27 wr => (t6 = .slice A1 0 c1 ∧ t27 = .int .i64 0 ∧ Hid (wr = W1)) ∨ (t6 = .slice A2 n c2 ∧ t27 = .int .i64 1 ∧ Hid (wr = W2))) (fun t6 t27 _ => 1 - (intOf t27).toNat)
      case atStart => exact Or.inl ⟨rfl, rfl, rfl⟩
      case round =>
        rcases hrel with ⟨rfl, rfl, hw⟩ | ⟨rfl, rfl, hw⟩
        · have hw' := hw.out
          subst hw'
          go_wp2_with (at_builtin; refine wpList_append_run rfl (.tmp 31) (.tmp 32) 27 rfl rfl rfl R.out ?_)
          go_roundw
          case rel => exact Or.inr ⟨rfl, rfl, (trivial : True)⟩
          case measure => simp [intOf]
        · have hw' := hw.out
          subst hw'
          go_wp2_with fail
          go_ret
          exact ⟨_, _, _, rfl, HO, HB⟩
theorem concat_any (hl : l.length ≤ 120) (k : TIn w base fp l v) : Calls Try.prog 32 #[v] w (GivesE w l) := by
  rcases k with ⟨rfl, A, cA, rfl, hr, hf⟩ | ⟨h0, h, cA, r, c, rfl, ho⟩
  · exact concat_none A cA w
  · exact concat_one h0 hl ho
end
end Go.Proofs.Ythamnmadgfmbkaa
