/- The landed back: New, and what only tells. Conditions: the back's cells. -/
import Derived.Test.YtiojnpoefbnjoaaBackLead
import Derived.BigQuiet
set_option linter.unusedVariables false
set_option linter.unusedSimpArgs false
namespace Go.Proofs.Ytiojnpoefbnjoaa
open Go.RowKit

set_option maxHeartbeats 2000000 in
theorem bknew_any (x : Int) (w : World) : Calls Try.prog 7 #[.int .i64 x] w (NewBk w (if mayBk x = true then some (freshBk x.toNat) else none)) := by
  by_cases h1 : x < 1
  · rw [if_neg (by unfold mayBk; simp; omega)]
    go_enter Try.func7, Try.ntmps7
    go_wp2_with fail
    go_ret
    exact ⟨rfl, Below.refl _ _⟩
  by_cases h2 : 256 < x
  · rw [if_neg (by unfold mayBk; simp; omega)]
    go_enter Try.func7, Try.ntmps7
    go_wp2_with fail
    go_ret
    exact ⟨rfl, Below.refl _ _⟩
  · rw [if_pos (by unfold mayBk; simp; omega)]
    obtain ⟨n, rfl⟩ : ∃ n : Nat, x = (n : Int) := ⟨x.toNat, by omega⟩
    rw [Int.toNat_natCast]
    have hw := fresh_bkw (n := n) (by omega) (by omega)
    obtain ⟨W1, hM, hB, hR⟩ := Kind.made (K := ownK) own_made_ n (n : Int) rfl (by omega) w w.heap.size (Nat.le_refl _)
    have h3 := hB.size
    have hlt : w.heap.size < W1.heap.size := (hR.row.lt w.heap.size rfl).2
    have HB2 : Hid (Below w.heap.size w (W1.alloc (.cells #[.slice (some ⟨w.heap.size, 0, none⟩) n n] 59))) := hB.alloc h3 _
    have HA : Hid (BkAt (W1.alloc (.cells #[.slice (some ⟨w.heap.size, 0, none⟩) n n] 59)) w.heap.size (fun b => w.heap.size ≤ b ∧ b < W1.heap.size + 1) W1.heap.size (freshBk n)) := by
      have hlen : (freshBk n).length = n := List.length_replicate
      have hsz : (W1.alloc (.cells #[.slice (some ⟨w.heap.size, 0, none⟩) n n] 59)).heap.size = W1.heap.size + 1 := by simp
      refine ⟨hw, ⟨h3, Nat.lt_succ_self _⟩, fun b hb => hb.1, fun b hb => by rw [hsz]; exact hb.2, ⟨w.heap.size, 0, none⟩, ⟨h3, ?_, ?_⟩, Nat.le_refl _, by show w.heap.size < _; omega⟩
      · rw [hlen]; exact heap_alloc_new W1 _
      · rw [hlen]
        refine Kind.Row.same (hR.since ((Below.refl _ _).alloc (Nat.le_refl _) _)) ?_
        unfold freshBk
        rw [List.map_replicate]; rfl
    have i0 : (1 : Int) ≤ (n : Int) := by omega
    have i1 : (n : Int) ≤ 256 := by omega
    have hM' : (Instr.makeSlice 57 (.int .i64 (n : Int)) (.int .i64 (n : Int))).run Try.prog w = .ok (.slice (some ⟨w.heap.size, 0, none⟩) n n) W1 := hM
    clear hM hB hR hw h3 hlt
    go_enter Try.func7, Try.ntmps7
    go_wp2_with fail
    go_ret
    exact ⟨_, _, rfl, HA.out, HB2.out⟩
section
variable {w : World} {base g : Nat} {fp : Nat → Prop} {s : Bk} {ab : Addr}
theorem of_no {p : Int} (h : p < 0 ∨ (s.length : Int) ≤ p) : ofBk s p = none := if_pos h
set_option maxHeartbeats 2000000 in
theorem bkof_any (p : Int) (hD : BkAt w base fp g s) : Calls Try.prog 14 #[.pointer (some ⟨g, 0, none⟩), .int .i64 p] w (BkOf w (ofBk s p)) := by
  obtain ⟨ab, hR, hI⟩ := hD.ex
  have hs := hD.wf.n2
  have S0 := Lib.hid (Below.refl w.heap.size w)
  have C1 := Lib.hid (bkhas_any p hR hs)
  by_cases hx : p < 0 ∨ (s.length : Int) ≤ p
  · rw [hasOB_no hx] at C1
    have HR := Lib.hid (of_no hx)
    clear hx hR hs hD hI
    go_enter Try.func14, Try.ntmps14
    go_wp2_with fail
    refine C1.out.mono ?_
    rintro e w' ⟨rfl, rfl⟩
    go_wp2_with fail
    go_ret2
    exact ⟨by rw [HR.out]; rfl, S0⟩
  · obtain ⟨k, rfl⟩ : ∃ k : Nat, p = (k : Int) := ⟨p.toNat, by omega⟩
    have hk : k < s.length := by omega
    rw [hasOB_at hk] at C1
    have CK := hR.block hk
    have c0 := hR.c0
    have d0 := CK.c0
    have d1 := CK.c1
    rw [of_at hk]
    obtain ⟨o, HO⟩ : ∃ o, Hid (s.getD k none = o) := ⟨_, rfl⟩
    rw [HO.out] at d0 d1 ⊢
    obtain ⟨b, HBo⟩ : ∃ b, Hid (o.isSome = b) := ⟨_, rfl⟩
    obtain ⟨a, HAo⟩ : ∃ a, Hid (o.getD 0 = a) := ⟨_, rfl⟩
    rw [HBo.out] at d0
    rw [HAo.out] at d1
    obtain ⟨z, HZ⟩ : ∃ z : Nat, Hid (s.length = z) := ⟨_, rfl⟩
    rw [HZ.out] at c0 hs hk
    obtain ⟨W1, HW1⟩ : ∃ W1, Hid (W1 = w.alloc (.cells #[.bool b, .int .u64 a] 66)) := ⟨_, rfl⟩
    have L1 : Hid (Below w.heap.size w W1) := by rw [HW1.out]; exact (Below.refl _ _).alloc (Nat.le_refl _) _
    have e0 : W1.cell? ⟨w.heap.size, 0, none⟩ = some (.bool b) := by rw [HW1.out, cell_new]; rfl
    have e1 : W1.cell? ⟨w.heap.size, 1, none⟩ = some (.int .u64 a) := by rw [HW1.out, cell_new]; rfl
    have i0 : (0 : Int) ≤ (k : Int) := by omega
    have i1 : (k : Int) < (z : Int) := by omega
    clear hx hR hD hI CK HO HZ
    go_enter Try.func14, Try.ntmps14
    go_wp2_with fail
    refine C1.out.mono ?_
    rintro e w' ⟨rfl, rfl⟩
    go_wp2_with fail
    go_quiet (fail)
    go_wp2_with fail
    go_ret2
    refine ⟨?_, ?_⟩
    · rw [HBo.out, HAo.out]; rfl
    · rw [← HW1.out]; exact Lib.hid (below_drewN L1.out _)
theorem idx_zero : ((List.range 0).filter fun k => (s.getD k none).isSome).map (fun (k : Nat) => (k : Int)) = [] := rfl
def idxBk (s : Bk) (n : Nat) : List Int := ((List.range n).filter fun k => (s.getD k none).isSome).map fun (k : Nat) => (k : Int)
theorem idxBk_yes {n : Nat} (h : (s.getD n none).isSome = true) : idxBk s (n + 1) = idxBk s n ++ [(n : Int)] := by
  unfold idxBk
  rw [List.range_succ, List.filter_append, List.map_append]
  simp only [List.filter_cons, List.filter_nil, h, if_true, List.map_cons, List.map_nil]
theorem idxBk_no {n : Nat} (h : (s.getD n none).isSome = false) : idxBk s (n + 1) = idxBk s n := by
  unfold idxBk
  rw [List.range_succ, List.filter_append, List.map_append]
  simp only [List.filter_cons, List.filter_nil, h, List.map_nil, List.append_nil]
  simp
theorem idxBk_len (s : Bk) (n : Nat) : (idxBk s n).length ≤ n := by
  unfold idxBk
  rw [List.length_map]
  exact Nat.le_trans (List.length_filter_le _ _) (by rw [List.length_range]; exact Nat.le_refl _)
theorem pages_idx (s : Bk) : pagesBk s = idxBk s s.length := rfl
set_option maxHeartbeats 2000000 in
theorem bkpages_any (hD : BkAt w base fp g s) : Calls Try.prog 15 #[.pointer (some ⟨g, 0, none⟩)] w (GivesI w (pagesBk s)) := by
  obtain ⟨ab, hR, hI⟩ := hD.ex
  have hs := hD.wf.n2
  have S0 := Lib.hid (Below.refl w.heap.size w)
  have c0 := hR.c0
  have HREP := Lib.hid hR
  rw [pages_idx]
  obtain ⟨z, HZ⟩ : ∃ z : Nat, Hid (s.length = z) := ⟨_, rfl⟩
  rw [HZ.out] at c0 hs ⊢
  clear hR hD hI
  go_enter Try.func15, Try.ntmps15
  go_wp2_with fail
  go_loopw [3, 13] (fun t3 t13 wr => ∃ (k m : Nat) (A3 : Option Addr) (c3 : Nat), t13 = .int .i64 k ∧ k ≤ z ∧ t3 = .slice A3 m c3 ∧ Hid (intK.Row wr w.heap.size A3 m c3 (idxBk s k)) ∧ Hid (Below w.heap.size w wr)) (fun _ t13 _ => z - (intOf t13).toNat)
  case atStart => exact ⟨0, 0, none, 0, rfl, Nat.zero_le _, rfl, Kind.Row.none_, S0⟩
  case round =>
    obtain ⟨k, m, A3, c3, rfl, hk, rfl, HR, HB⟩ := hrel
    by_cases hlt : k < z
    · have CK := (HREP.out.since HB.out).block (k := k) (by rw [HZ.out]; exact hlt)
      have d0 := CK.c0
      have d1 := CK.c1
      obtain ⟨o, HO⟩ : ∃ o, Hid (s.getD k none = o) := ⟨_, rfl⟩
      rw [HO.out] at d0 d1
      obtain ⟨b, HBo⟩ : ∃ b, Hid (o.isSome = b) := ⟨_, rfl⟩
      obtain ⟨a, HAo⟩ : ∃ a, Hid (o.getD 0 = a) := ⟨_, rfl⟩
      rw [HBo.out] at d0
      rw [HAo.out] at d1
      have i0 : (0 : Int) ≤ (k : Int) := by omega
      have i1 : (k : Int) < (z : Int) := by omega
      have hm : m ≤ k := by rw [← HR.out.len]; exact idxBk_len _ _
      obtain ⟨W1, HW1⟩ : ∃ W1, Hid (W1 = wr.alloc (.cells #[.bool b, .int .u64 a] 66)) := ⟨_, rfl⟩
      have L1 : Hid (Below wr.heap.size wr W1) := by rw [HW1.out]; exact (Below.refl _ _).alloc (Nat.le_refl _) _
      have e0 : (wr.alloc (.cells #[.bool b, .int .u64 a] 66)).cell? ⟨wr.heap.size, 0, none⟩ = some (.bool b) := by rw [cell_new]; rfl
      have hsz : (wr.alloc (.cells #[.bool b, .int .u64 a] 66)).heap.size = wr.heap.size + 1 := by simp
      have B2 := Lib.hid (below_chain HB.out L1.out)
      have R2 := Lib.hid (HR.out.since L1.out)
      clear CK
      cases hb : b with
      | true =>
        have HF : Hid (idxBk s (k + 1) = idxBk s k ++ [(k : Int)]) := idxBk_yes (by rw [HO.out, HBo.out, hb])
        subst hb
        obtain ⟨A4, c4, W4, hr4, ho4, hb4, _⟩ := Kind.append_one (K := intK) B2.out R2.out (k : Int) ⟨by omega, by omega⟩ #[.int .i64 (k : Int)] rfl (by omega)
        have R4 := Lib.hid (ho4.same HF.out.symm)
        have B4 := Lib.hid hb4
        rw [HW1.out, hsz] at hr4
        have HR4 := Lib.hid hr4
        clear ho4 hb4 hr4 hsz
        go_wp2_with (at_builtin; refine wpList_append_run rfl (.tmp 20) (.tmp 22) 44 rfl rfl rfl HR4.out ?_)
        go_roundw
        case rel => exact ⟨k + 1, m + 1, A4, c4, by go_num, by omega, rfl, R4, B4⟩
        case measure => simp [intOf]; omega
      | false =>
        have HF : Hid (idxBk s (k + 1) = idxBk s k) := idxBk_no (by rw [HO.out, HBo.out, hb])
        have R3 := Lib.hid (R2.out.same HF.out.symm)
        subst hb
        go_wp2_with fail
        rw [← HW1.out]
        go_roundw
        case rel => exact ⟨k + 1, m, A3, c3, by go_num, by omega, rfl, R3, B2⟩
        case measure => simp [intOf]; omega
    · obtain rfl : k = z := by omega
      go_wp2_with fail
      go_ret
      exact ⟨A3, m, c3, rfl, HR, HB⟩
def ranF (s : Bk) (lo hi : Int) (j : Nat) : Option Int := if lo ≤ (j : Int) ∧ (j : Int) < hi then s.getD j none else none
def ranTo (s : Bk) (lo hi : Int) (k : Nat) : List Int := (List.range k).filterMap (ranF s lo hi)
theorem range_to (s : Bk) (lo hi : Int) : rangeBk s lo hi = ranTo s lo hi s.length := rfl
theorem fm_range {α : Type} (f : Nat → Option α) (a : Nat) : ∀ d, (∀ j, a ≤ j → j < a + d → f j = none) → (List.range (a + d)).filterMap f = (List.range a).filterMap f
  | 0, _ => rfl
  | d + 1, h => by
    rw [show a + (d + 1) = (a + d) + 1 from rfl, List.range_succ, List.filterMap_append, fm_range f a d fun j h1 h2 => h j h1 (by omega)]
    simp [h (a + d) (by omega) (by omega)]
theorem ranTo_next (lo hi : Int) (k : Nat) : ranTo s lo hi (k + 1) = ranTo s lo hi k ++ (ranF s lo hi k).toList := by
  unfold ranTo
  rw [List.range_succ, List.filterMap_append]
  cases h : ranF s lo hi k <;> simp [h]
theorem ranTo_end {lo hi : Int} {k : Nat} (h : hi ≤ (k : Int) ∨ s.length ≤ k) : ranTo s lo hi k = ranTo s lo hi s.length := by
  have hz : ∀ j : Nat, (hi ≤ (j : Int) ∨ s.length ≤ j) → ranF s lo hi j = none := fun j hj => by
    unfold ranF
    split
    · rename_i h1
      rcases hj with h2 | h2
      · omega
      · rw [List.getD_eq_getElem?_getD, List.getElem?_eq_none h2]; rfl
    · rfl
  unfold ranTo
  by_cases hk : k ≤ s.length
  · obtain ⟨d, e⟩ := Nat.exists_eq_add_of_le hk
    rw [e]
    refine (fm_range _ k d fun j h1 h2 => hz j ?_).symm
    rcases h with h | h
    · exact Or.inl (by omega)
    · exact Or.inr (by omega)
  · obtain ⟨d, e⟩ := Nat.exists_eq_add_of_le (Nat.le_of_not_le hk)
    rw [e]
    exact fm_range _ s.length d fun j h1 h2 => hz j (Or.inr h1)
theorem ranTo_start {lo hi : Int} {x : Nat} (h : (x : Int) ≤ lo ∨ x = 0) : ranTo s lo hi x = [] := by
  have h0 := fm_range (ranF s lo hi) 0 x fun j _ h2 => by
    unfold ranF
    rw [if_neg]
    rintro ⟨h3, _⟩
    omega
  rw [Nat.zero_add] at h0
  exact h0
theorem ranTo_len (lo hi : Int) (k : Nat) : (ranTo s lo hi k).length ≤ k := by
  unfold ranTo
  exact Nat.le_trans (List.length_filterMap_le _ _) (by rw [List.length_range]; exact Nat.le_refl _)
theorem max_ofB (ts : Array TypeId) (ty : TypeId) (p q m : Int) (h : (q ≤ p ∧ m = p) ∨ (p ≤ q ∧ m = q)) (w : World) : (Builtin.max_ ts ty #[.int .i64 p, .int .i64 q]).run Try.prog w = .ok (.int .i64 m) w := by
  simp only [Builtin.max_]
  rcases h with ⟨h1, rfl⟩ | ⟨h1, rfl⟩ <;> simp [Builtin.max2] <;> omega
theorem min_ofB (ts : Array TypeId) (ty : TypeId) (p q m : Int) (h : (q ≤ p ∧ m = q) ∨ (p ≤ q ∧ m = p)) (w : World) : (Builtin.min_ ts ty #[.int .i64 p, .int .i64 q]).run Try.prog w = .ok (.int .i64 m) w := by
  simp only [Builtin.min_]
  rcases h with ⟨h1, rfl⟩ | ⟨h1, rfl⟩ <;> simp [Builtin.min2] <;> omega
set_option maxHeartbeats 4000000 in
theorem bkrange_any (lo hi : Int) (hD : BkAt w base fp g s) : Calls Try.prog 16 #[.pointer (some ⟨g, 0, none⟩), .int .i64 lo, .int .i64 hi] w (GivesW w (rangeBk s lo hi)) := by
  obtain ⟨ab, hR, hI⟩ := hD.ex
  have hs := hD.wf.n2
  have HWF := Lib.hid hD.wf
  have S0 := Lib.hid (Below.refl w.heap.size w)
  have c0 := hR.c0
  have HREP := Lib.hid hR
  rw [range_to]
  obtain ⟨x0, HX0⟩ : ∃ x0 : Nat, Hid ((0 ≤ lo ∧ (x0 : Int) = lo) ∨ (lo ≤ 0 ∧ x0 = 0)) := by
    by_cases h : 0 ≤ lo
    · exact ⟨lo.toNat, Or.inl ⟨h, by omega⟩⟩
    · exact ⟨0, Or.inr ⟨by omega, rfl⟩⟩
  have hmx : ∀ ts ty w, (Builtin.max_ ts ty #[.int .i64 lo, .int .i64 0]).run Try.prog w = .ok (.int .i64 (x0 : Int)) w := fun ts ty w => max_ofB ts ty _ _ _ (by have := HX0.out; omega) w
  have HE : Hid (ranTo s lo hi x0 = []) := ranTo_start (by have := HX0.out; omega)
  obtain ⟨mn, HMN⟩ : ∃ mn : Int, Hid ((hi ≤ (s.length : Int) ∧ mn = hi) ∨ ((s.length : Int) ≤ hi ∧ mn = (s.length : Int))) := by
    by_cases h : hi ≤ (s.length : Int)
    · exact ⟨hi, Or.inl ⟨h, rfl⟩⟩
    · exact ⟨_, Or.inr ⟨by omega, rfl⟩⟩
  have hmn : ∀ ts ty w, (Builtin.min_ ts ty #[.int .i64 hi, .int .i64 (s.length : Int)]).run Try.prog w = .ok (.int .i64 mn) w := fun ts ty w => min_ofB ts ty _ _ _ (by have := HMN.out; omega) w
  have hmn1 : mn ≤ (s.length : Int) := by have := HMN.out; omega
  have HMN2 : Hid (∀ k : Nat, mn ≤ (k : Int) → ranTo s lo hi k = ranTo s lo hi s.length) := fun k hk => ranTo_end (by have := HMN.out; omega)
  have HMN3 : Hid (∀ k : Nat, x0 ≤ k → (k : Int) < mn → ranF s lo hi k = s.getD k none) := fun k h1 h2 => if_pos (by have := HMN.out; have := HX0.out; omega)
  obtain ⟨z, HZ⟩ : ∃ z : Nat, Hid (s.length = z) := ⟨_, rfl⟩
  rw [HZ.out] at c0 hs hmn hmn1 HMN2 ⊢
  have hx1 : (0 : Int) ≤ (x0 : Int) := by omega
  clear hR hD hI HMN HX0
  go_enter Try.func16, Try.ntmps16
  go_wp2_with (simp only [hmx])
  go_loopw [7, 8] (fun t7 t8 wr => ∃ (k m : Nat) (A3 : Option Addr) (c3 : Nat), t8 = .int .i64 k ∧ Hid (x0 ≤ k) ∧ t7 = .slice A3 m c3 ∧ Hid (wordK.Row wr w.heap.size A3 m c3 (ranTo s lo hi k)) ∧ Hid (Below w.heap.size w wr)) (fun _ t8 _ => z - (intOf t8).toNat)
  case atStart => exact ⟨x0, 0, none, 0, rfl, Nat.le_refl _, rfl, by rw [HE.out]; exact Kind.Row.none_, S0⟩
  case round =>
    obtain ⟨k, m, A3, c3, rfl, HK, rfl, HR, HB⟩ := hrel
    have c0 : wr.cell? ⟨g, 0, none⟩ = some (.slice (some ab) z z) := by
      have := (HREP.out.since HB.out).c0
      rw [HZ.out] at this
      exact this
    by_cases hlt : (k : Int) < mn
    · have hkz : k < z := by omega
      have CK := (HREP.out.since HB.out).block (k := k) (by rw [HZ.out]; exact hkz)
      have d0 := CK.c0
      have d1 := CK.c1
      have HF : Hid (ranF s lo hi k = s.getD k none) := HMN3.out k HK.out hlt
      obtain ⟨o, HO⟩ : ∃ o, Hid (s.getD k none = o) := ⟨_, rfl⟩
      rw [HO.out] at d0 d1
      obtain ⟨b, HBo⟩ : ∃ b, Hid (o.isSome = b) := ⟨_, rfl⟩
      obtain ⟨a, HAo⟩ : ∃ a, Hid (o.getD 0 = a) := ⟨_, rfl⟩
      rw [HBo.out] at d0
      rw [HAo.out] at d1
      have i0 : (0 : Int) ≤ (k : Int) := by omega
      have i1 : (k : Int) < (z : Int) := by omega
      have hm : m ≤ k := by rw [← HR.out.len]; exact ranTo_len _ _ _
      obtain ⟨W1, HW1⟩ : ∃ W1, Hid (W1 = wr.alloc (.cells #[.bool b, .int .u64 a] 66)) := ⟨_, rfl⟩
      have L1 : Hid (Below wr.heap.size wr W1) := by rw [HW1.out]; exact (Below.refl _ _).alloc (Nat.le_refl _) _
      have e0 : (wr.alloc (.cells #[.bool b, .int .u64 a] 66)).cell? ⟨wr.heap.size, 0, none⟩ = some (.bool b) := by rw [cell_new]; rfl
      have e1 : (wr.alloc (.cells #[.bool b, .int .u64 a] 66)).cell? ⟨wr.heap.size, 1, none⟩ = some (.int .u64 a) := by rw [cell_new]; rfl
      have hsz : (wr.alloc (.cells #[.bool b, .int .u64 a] 66)).heap.size = wr.heap.size + 1 := by simp
      have B2 := Lib.hid (below_chain HB.out L1.out)
      have R2 := Lib.hid (HR.out.since L1.out)
      clear CK
      cases hb : b with
      | true =>
        have HO2 : Hid (o = some a) := by
          have h1 := HBo.out
          have h2 := HAo.out
          cases o with
          | none => rw [hb] at h1; cases h1
          | some v => rw [show (some v).getD 0 = v from rfl] at h2; rw [h2]; rfl
        have HN : Hid (ranTo s lo hi (k + 1) = ranTo s lo hi k ++ [a]) := by
          show _ = _
          rw [ranTo_next, HF.out, HO.out, HO2.out]; rfl
        have hwf : wordK.wf a := HWF.out.wf k a (by rw [HO.out, HO2.out])
        subst hb
        obtain ⟨A4, c4, W4, hr4, ho4, hb4, _⟩ := Kind.append_one (K := wordK) B2.out R2.out a hwf #[.int .u64 a] rfl (by omega)
        have R4 := Lib.hid (ho4.same HN.out.symm)
        have B4 := Lib.hid hb4
        rw [HW1.out, hsz] at hr4
        have HR4 := Lib.hid hr4
        have HK2 : Hid (x0 ≤ k + 1) := Nat.le_succ_of_le HK.out
        clear ho4 hb4 hr4 hwf hsz
        go_wp2_with (first | simp only [hmn] | at_builtin; refine wpList_append_run rfl (.tmp 34) (.tmp 37) 41 rfl rfl rfl HR4.out ?_)
        go_roundw
        case rel => exact ⟨k + 1, m + 1, A4, c4, by go_num, HK2, rfl, R4, B4⟩
        case measure => simp [intOf]; omega
      | false =>
        have HO2 : Hid (o = none) := by
          have h1 := HBo.out
          cases o with
          | none => rfl
          | some v => rw [hb] at h1; cases h1
        have HN : Hid (ranTo s lo hi (k + 1) = ranTo s lo hi k) := by
          show _ = _
          rw [ranTo_next, HF.out, HO.out, HO2.out]; simp
        have R3 := Lib.hid (R2.out.same HN.out.symm)
        have HK2 : Hid (x0 ≤ k + 1) := Nat.le_succ_of_le HK.out
        subst hb
        go_wp2_with (simp only [hmn])
        rw [← HW1.out]
        go_roundw
        case rel => exact ⟨k + 1, m, A3, c3, by go_num, HK2, rfl, R3, B2⟩
        case measure => simp [intOf]; omega
    · have HQ : Hid (ranTo s lo hi k = ranTo s lo hi z) := HMN2.out k (by omega)
      rw [HQ.out] at HR
      go_wp2_with (simp only [hmn])
      go_ret
      exact ⟨A3, m, c3, rfl, HR, HB⟩
end
theorem bkof_nil (p : Int) (w : World) : Calls Try.prog 14 #[.pointer none, .int .i64 p] w (BkOf w none) := by
  have C1 := Lib.hid (bkhas_nil p w)
  have S0 := Lib.hid (Below.refl w.heap.size w)
  go_enter Try.func14, Try.ntmps14
  go_wp2_with fail
  refine C1.out.mono ?_
  rintro e w' ⟨rfl, rfl⟩
  go_wp2_with fail
  go_ret2
  exact ⟨rfl, S0⟩
theorem bkpages_nil (w : World) : Calls Try.prog 15 #[.pointer none] w fun e w' => e = .returned (.slice none 0 0) ∧ Hid (Below w.heap.size w w') := by
  have S0 := Lib.hid (Below.refl w.heap.size w)
  go_enter Try.func15, Try.ntmps15
  go_wp2_with fail
  go_ret
  exact ⟨rfl, S0⟩
end Go.Proofs.Ytiojnpoefbnjoaa
