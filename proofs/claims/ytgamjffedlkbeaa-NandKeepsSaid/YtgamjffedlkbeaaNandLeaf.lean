/- The chip's small helpers: width, has, hasPage, wrong, end; its methods that only tell. Conditions: the chip's cells. -/
import Derived.Test.YtgamjffedlkbeaaNandRep
set_option linter.unusedVariables false
set_option linter.unusedSimpArgs false
namespace Go.Proofs.Ytgamjffedlkbeaa
open Go.RowKit

section
variable {w : World} {base g : Nat} {fp : Nat → Prop} {s : Chip} {L : CL}
theorem wrong_new (st : ByteArray) (k : Int) (hk : 1 ≤ k) (w : World) (fp : Nat → Prop) (hf : ∀ b, fp b → b < w.heap.size) :
    Calls Try.prog 39 #[.string st, .int .i64 k] w fun e w' => ∃ v, e = .returned v ∧ ErrNew w fp w' k v ∧ Below w.heap.size w w' := by
  have h0 : (w.alloc (.cells #[.int .i64 k, .string st] 80)).cell? ⟨w.heap.size, 0, none⟩ = some (.int .i64 k) := by rw [cell_new]; rfl
  have h1 : (w.alloc (.cells #[.int .i64 k, .string st] 80)).cell? ⟨w.heap.size, 1, none⟩ = some (.string st) := by rw [cell_new]; rfl
  have HE : Hid (ErrNew w fp (w.alloc (.cells #[.int .i64 k, .string st] 80)) k (.iface 77 (.pointer (some ⟨w.heap.size, 0, none⟩)))) :=
    Or.inr ⟨hk, _, _, rfl, h0, h1, Nat.le_refl _, fun h => by have := hf _ h; omega⟩
  have HB : Hid (Below w.heap.size w (w.alloc (.cells #[.int .i64 k, .string st] 80))) := (Below.refl _ _).alloc (Nat.le_refl _) _
  clear h0 h1 hf
  go_enter Try.func39, Try.ntmps39
  go_wp2_with fail
  go_ret
  exact ⟨_, rfl, HE.out, HB.out⟩
theorem width_any (h : Rep w base fp g s L) : Calls Try.prog 28 #[.pointer (some ⟨g, 0, none⟩)] w fun e w' => e = .returned (.int .i64 ((s.ns : Int) + 28)) ∧ w = w' := by
  have hs := h.wf.ns2
  obtain ⟨c0, c1, c2, c3, c4, c5, c6, c7, c8⟩ := h.cells
  obtain ⟨z, HZ⟩ : ∃ z : Nat, Hid (s.ns = z) := ⟨_, rfl⟩
  rw [HZ.out] at c2 hs ⊢
  clear h c0 c1 c3 c4 c5 c6 c7 c8 HZ
  go_enter Try.func28, Try.ntmps28
  go_wp2_with fail
  go_ret
  exact ⟨rfl, rfl⟩
theorem has_any (b : Int) (h : Rep w base fp g s L) : Calls Try.prog 30 #[.pointer (some ⟨g, 0, none⟩), .int .i64 b] w fun e w' => e = .returned (.bool (s.has b)) ∧ w = w' := by
  have hs := h.wf.nb2
  obtain ⟨c0, c1, c2, c3, c4, c5, c6, c7, c8⟩ := h.cells
  have HH : Hid (s.has b = decide (0 ≤ b ∧ b < (s.nb : Int))) := rfl
  obtain ⟨z, HZ⟩ : ∃ z : Nat, Hid (s.nb = z) := ⟨_, rfl⟩
  rw [HZ.out] at c4 hs HH
  clear h c0 c1 c3 c2 c5 c6 c7 c8 HZ
  by_cases h0 : 0 ≤ b
  · by_cases h1 : b < (z : Int)
    · rw [show s.has b = true by rw [HH.out]; exact decide_eq_true ⟨h0, h1⟩]
      clear HH
      go_enter Try.func30, Try.ntmps30
      go_wp2_with fail
      go_ret
      exact ⟨rfl, rfl⟩
    · rw [show s.has b = false by rw [HH.out]; exact decide_eq_false fun h => h1 h.2]
      clear HH
      go_enter Try.func30, Try.ntmps30
      go_wp2_with fail
      go_ret
      exact ⟨rfl, rfl⟩
  · rw [show s.has b = false by rw [HH.out]; exact decide_eq_false fun h => h0 h.1]
    clear HH
    go_enter Try.func30, Try.ntmps30
    go_wp2_with fail
    go_ret
    exact ⟨rfl, rfl⟩
theorem has_nil (b : Int) (w : World) : Calls Try.prog 30 #[.pointer none, .int .i64 b] w fun e w' => e = .returned (.bool false) ∧ w = w' := by
  go_enter Try.func30, Try.ntmps30
  go_wp2_with fail
  go_ret
  exact ⟨rfl, rfl⟩
/-- Whether there is such a page. -/
def Chip.hasPage (s : Chip) (b p : Int) : Bool := decide (0 ≤ b ∧ b < (s.nb : Int) ∧ 0 ≤ p ∧ p < (s.np : Int))
theorem hasPage_any (b p : Int) (h : Rep w base fp g s L) : Calls Try.prog 32 #[.pointer (some ⟨g, 0, none⟩), .int .i64 b, .int .i64 p] w fun e w' => e = .returned (.bool (s.hasPage b p)) ∧ w = w' := by
  have HC := Lib.hid (has_any b h)
  have hs := h.wf.np2
  obtain ⟨c0, c1, c2, c3, c4, c5, c6, c7, c8⟩ := h.cells
  obtain ⟨z, HZ⟩ : ∃ z : Nat, Hid (s.np = z) := ⟨_, rfl⟩
  rw [HZ.out] at c1 hs
  clear h c0 c2 c3 c4 c5 c6 c7 c8
  by_cases hb : 0 ≤ b ∧ b < (s.nb : Int)
  · rw [show s.has b = true from decide_eq_true hb] at HC
    by_cases h0 : 0 ≤ p
    · by_cases h1 : p < (z : Int)
      · rw [show s.hasPage b p = true from decide_eq_true ⟨hb.1, hb.2, h0, by rw [HZ.out]; exact h1⟩]
        clear hb HZ
        go_enter Try.func32, Try.ntmps32
        go_wp2_with fail
        refine HC.out.mono ?_
        rintro e w' ⟨rfl, rfl⟩
        go_wp2_with fail
        go_ret
        exact ⟨rfl, rfl⟩
      · rw [show s.hasPage b p = false from decide_eq_false fun h => h1 (by rw [← HZ.out]; exact h.2.2.2)]
        clear hb HZ
        have hd : decide (p < (z : Int)) = false := decide_eq_false h1
        go_enter Try.func32, Try.ntmps32
        go_wp2_with fail
        refine HC.out.mono ?_
        rintro e w' ⟨rfl, rfl⟩
        go_wp2_with fail
        go_ret
        exact ⟨rfl, rfl⟩
    · rw [show s.hasPage b p = false from decide_eq_false fun h => h0 h.2.2.1]
      clear hb HZ
      go_enter Try.func32, Try.ntmps32
      go_wp2_with fail
      refine HC.out.mono ?_
      rintro e w' ⟨rfl, rfl⟩
      go_wp2_with fail
      go_ret
      exact ⟨rfl, rfl⟩
  · rw [show s.has b = false from decide_eq_false hb] at HC
    rw [show s.hasPage b p = false from decide_eq_false fun h => hb ⟨h.1, h.2.1⟩]
    clear hb HZ
    go_enter Try.func32, Try.ntmps32
    go_wp2_with fail
    refine HC.out.mono ?_
    rintro e w' ⟨rfl, rfl⟩
    go_wp2_with fail
    go_ret
    exact ⟨rfl, rfl⟩
theorem hasPage_nil (b p : Int) (w : World) : Calls Try.prog 32 #[.pointer none, .int .i64 b, .int .i64 p] w fun e w' => e = .returned (.bool false) ∧ w = w' := by
  have HC := Lib.hid (has_nil b w)
  go_enter Try.func32, Try.ntmps32
  go_wp2_with fail
  refine HC.out.mono ?_
  rintro e w' ⟨rfl, rfl⟩
  go_wp2_with fail
  go_ret
  exact ⟨rfl, rfl⟩
/- the methods that only tell -/
theorem on_any (hC : ChipAt w base fp g s) : Calls Try.prog 18 #[.pointer (some ⟨g, 0, none⟩)] w (SaysB w s.on) := by
  obtain ⟨L, h⟩ := hC
  obtain ⟨c0, c1, c2, c3, c4, c5, c6, c7, c8⟩ := h.cells
  clear h c0 c1 c3 c2 c4 c6 c7 c8
  go_enter Try.func18, Try.ntmps18
  go_wp2_with fail
  go_ret
  exact ⟨rfl, Below.refl _ _⟩
theorem on_nil : Calls Try.prog 18 #[.pointer none] w (SaysB w false) := by
  go_enter Try.func18, Try.ntmps18
  go_wp2_with fail
  go_ret
  exact ⟨rfl, Below.refl _ _⟩
theorem ops_any (hC : ChipAt w base fp g s) : Calls Try.prog 19 #[.pointer (some ⟨g, 0, none⟩)] w (SaysN w s.ops) := by
  obtain ⟨L, h⟩ := hC
  obtain ⟨c0, c1, c2, c3, c4, c5, c6, c7, c8⟩ := h.cells
  clear h c0 c1 c3 c2 c4 c5 c7 c8
  go_enter Try.func19, Try.ntmps19
  go_wp2_with fail
  go_ret
  exact ⟨rfl, Below.refl _ _⟩
theorem ops_nil : Calls Try.prog 19 #[.pointer none] w (SaysN w 0) := by
  go_enter Try.func19, Try.ntmps19
  go_wp2_with fail
  go_ret
  exact ⟨rfl, Below.refl _ _⟩
theorem misuse_any (hC : ChipAt w base fp g s) : Calls Try.prog 22 #[.pointer (some ⟨g, 0, none⟩)] w (SaysN w s.misuse) := by
  obtain ⟨L, h⟩ := hC
  obtain ⟨c0, c1, c2, c3, c4, c5, c6, c7, c8⟩ := h.cells
  clear h c0 c1 c3 c2 c4 c5 c6 c8
  go_enter Try.func22, Try.ntmps22
  go_wp2_with fail
  go_ret
  exact ⟨rfl, Below.refl _ _⟩
theorem programs_any (hC : ChipAt w base fp g s) : Calls Try.prog 24 #[.pointer (some ⟨g, 0, none⟩)] w (SaysN w s.programs) := by
  obtain ⟨L, h⟩ := hC
  obtain ⟨c0, c1, c2, c3, c4, c5, c6, c7, c8⟩ := h.cells
  clear h c0 c1 c3 c2 c4 c5 c6 c7
  go_enter Try.func24, Try.ntmps24
  go_wp2_with fail
  go_ret
  exact ⟨rfl, Below.refl _ _⟩
theorem blk_nth (s : Chip) (k : Nat) : s.blk (k : Int) = s.nth k := by unfold Chip.blk Chip.nth; rw [Int.toNat_natCast]
theorem next_any (b : Int) (hC : ChipAt w base fp g s) : Calls Try.prog 13 #[.pointer (some ⟨g, 0, none⟩), .int .i64 b] w (SaysN w (s.next b)) := by
  obtain ⟨L, h⟩ := hC
  have HC := Lib.hid (has_any b h)
  by_cases hb : 0 ≤ b ∧ b < (s.nb : Int)
  · have hh : s.has b = true := decide_eq_true hb
    obtain ⟨k, rfl⟩ : ∃ k : Nat, b = (k : Int) := ⟨b.toNat, by omega⟩
    have hk : k < s.nb := by omega
    obtain ⟨d0, d1, d2, d3, d4⟩ := h.block hk
    obtain ⟨c0, c1, c2, c3, c4, c5, c6, c7, c8⟩ := h.cells
    have HN : Hid ((L.at_ k).next = s.next (k : Int)) := by
      show _ = _
      unfold Chip.next
      rw [if_pos hh, blk_nth]
      exact (h.each k hk).next
    rw [← HN.out]
    rw [hh] at HC
    obtain ⟨n, HNB⟩ : ∃ n : Nat, Hid (s.nb = n) := ⟨_, rfl⟩
    rw [HNB.out] at c4 hk
    have i0 : (0 : Int) ≤ (k : Int) := by omega
    have i1 : (k : Int) < (n : Int) := by omega
    clear h hb hh d0 d2 d3 d4 c0 c1 c2 c3 c5 c6 c7 c8 HN
    go_enter Try.func13, Try.ntmps13
    go_wp2_with fail
    refine HC.out.mono ?_
    rintro e w' ⟨rfl, rfl⟩
    go_wp2_with fail
    go_ret
    exact ⟨rfl, Below.refl _ _⟩
  · have hh : s.has b = false := decide_eq_false hb
    rw [show s.next b = 0 by unfold Chip.next; rw [hh]; rfl]
    rw [hh] at HC
    clear h hb hh
    go_enter Try.func13, Try.ntmps13
    go_wp2_with fail
    refine HC.out.mono ?_
    rintro e w' ⟨rfl, rfl⟩
    go_wp2_with fail
    go_ret
    exact ⟨rfl, Below.refl _ _⟩
theorem wear_any (b : Int) (hC : ChipAt w base fp g s) : Calls Try.prog 17 #[.pointer (some ⟨g, 0, none⟩), .int .i64 b] w (SaysN w (s.wear b)) := by
  obtain ⟨L, h⟩ := hC
  have HC := Lib.hid (has_any b h)
  by_cases hb : 0 ≤ b ∧ b < (s.nb : Int)
  · have hh : s.has b = true := decide_eq_true hb
    obtain ⟨k, rfl⟩ : ∃ k : Nat, b = (k : Int) := ⟨b.toNat, by omega⟩
    have hk : k < s.nb := by omega
    obtain ⟨d0, d1, d2, d3, d4⟩ := h.block hk
    obtain ⟨c0, c1, c2, c3, c4, c5, c6, c7, c8⟩ := h.cells
    have HN : Hid ((L.at_ k).wear = s.wear (k : Int)) := by
      show _ = _
      unfold Chip.wear
      rw [if_pos hh, blk_nth]
      exact (h.each k hk).wear
    rw [← HN.out]
    rw [hh] at HC
    obtain ⟨n, HNB⟩ : ∃ n : Nat, Hid (s.nb = n) := ⟨_, rfl⟩
    rw [HNB.out] at c4 hk
    have i0 : (0 : Int) ≤ (k : Int) := by omega
    have i1 : (k : Int) < (n : Int) := by omega
    clear h hb hh d0 d1 d3 d4 c0 c1 c2 c3 c5 c6 c7 c8 HN
    go_enter Try.func17, Try.ntmps17
    go_wp2_with fail
    refine HC.out.mono ?_
    rintro e w' ⟨rfl, rfl⟩
    go_wp2_with fail
    go_ret
    exact ⟨rfl, Below.refl _ _⟩
  · have hh : s.has b = false := decide_eq_false hb
    rw [show s.wear b = 0 by unfold Chip.wear; rw [hh]; rfl]
    rw [hh] at HC
    clear h hb hh
    go_enter Try.func17, Try.ntmps17
    go_wp2_with fail
    refine HC.out.mono ?_
    rintro e w' ⟨rfl, rfl⟩
    go_wp2_with fail
    go_ret
    exact ⟨rfl, Below.refl _ _⟩
theorem marked_any (b : Int) (hC : ChipAt w base fp g s) : Calls Try.prog 23 #[.pointer (some ⟨g, 0, none⟩), .int .i64 b] w (SaysB w (s.marked b)) := by
  obtain ⟨L, h⟩ := hC
  have HC := Lib.hid (has_any b h)
  by_cases hb : 0 ≤ b ∧ b < (s.nb : Int)
  · have hh : s.has b = true := decide_eq_true hb
    obtain ⟨k, rfl⟩ : ∃ k : Nat, b = (k : Int) := ⟨b.toNat, by omega⟩
    have hk : k < s.nb := by omega
    obtain ⟨d0, d1, d2, d3, d4⟩ := h.block hk
    obtain ⟨c0, c1, c2, c3, c4, c5, c6, c7, c8⟩ := h.cells
    have HN : Hid ((L.at_ k).marked = s.marked (k : Int)) := by
      show _ = _
      unfold Chip.marked
      rw [hh, blk_nth]
      exact (h.each k hk).marked
    rw [← HN.out]
    rw [hh] at HC
    obtain ⟨n, HNB⟩ : ∃ n : Nat, Hid (s.nb = n) := ⟨_, rfl⟩
    rw [HNB.out] at c4 hk
    have i0 : (0 : Int) ≤ (k : Int) := by omega
    have i1 : (k : Int) < (n : Int) := by omega
    obtain ⟨v, HV⟩ : ∃ v : Bool, Hid ((L.at_ k).marked = v) := ⟨_, rfl⟩
    rw [HV.out] at d3 ⊢
    clear h hb hh d0 d1 d2 d4 c0 c1 c2 c3 c5 c6 c7 c8 HN HV
    go_enter Try.func23, Try.ntmps23
    go_wp2_with fail
    refine HC.out.mono ?_
    rintro e w' ⟨rfl, rfl⟩
    go_wp2_with fail
    go_ret
    exact ⟨rfl, Below.refl _ _⟩
  · have hh : s.has b = false := decide_eq_false hb
    rw [show s.marked b = false by unfold Chip.marked; rw [hh]; rfl]
    rw [hh] at HC
    clear h hb hh
    go_enter Try.func23, Try.ntmps23
    go_wp2_with fail
    refine HC.out.mono ?_
    rintro e w' ⟨rfl, rfl⟩
    go_wp2_with fail
    go_ret
    exact ⟨rfl, Below.refl _ _⟩
end
end Go.Proofs.Ytgamjffedlkbeaa
