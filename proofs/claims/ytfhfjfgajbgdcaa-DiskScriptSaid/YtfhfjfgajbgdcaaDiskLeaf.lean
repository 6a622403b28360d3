/- The landed disk's small helpers: wrong, has, Sectors, Size, find, Read, Firm, Waiting. Conditions: the disk's cells. -/
import Derived.Test.YtfhfjfgajbgdcaaDiskRep
import Derived.Test.YtfhfjfgajbgdcaaClone
set_option linter.unusedVariables false
set_option linter.unusedSimpArgs false
namespace Go.Proofs.Ytfhfjfgajbgdcaa
open Go.RowKit

section
variable {w : World} {base g : Nat} {fp : Nat → Prop} {s : RD} {L : DL} {La : List (List Nat)}
theorem dwrong_new (st : ByteArray) (k : Int) (hk : 1 ≤ k) (w : World) (fp : Nat → Prop) (hf : ∀ b, fp b → b < w.heap.size) :
    Calls Try.prog 37 #[.string st, .int .i64 k] w fun e w' => ∃ v, e = .returned v ∧ ErrNew w fp w' k v ∧ Below w.heap.size w w' := by
  have h0 : (w.alloc (.cells #[.int .i64 k, .string st] 88)).cell? ⟨w.heap.size, 0, none⟩ = some (.int .i64 k) := by rw [cell_new]; rfl
  have h1 : (w.alloc (.cells #[.int .i64 k, .string st] 88)).cell? ⟨w.heap.size, 1, none⟩ = some (.string st) := by rw [cell_new]; rfl
  have HE : Hid (ErrNew w fp (w.alloc (.cells #[.int .i64 k, .string st] 88)) k (.iface 85 (.pointer (some ⟨w.heap.size, 0, none⟩)))) :=
    Or.inr ⟨hk, _, _, rfl, h0, h1, Nat.le_refl _, fun h => by have := hf _ h; omega⟩
  have HB : Hid (Below w.heap.size w (w.alloc (.cells #[.int .i64 k, .string st] 88))) := (Below.refl _ _).alloc (Nat.le_refl _) _
  clear h0 h1 hf
  go_enter Try.func37, Try.ntmps37
  go_wp2_with fail
  go_ret
  exact ⟨_, rfl, HE.out, HB.out⟩
def hasO (s : RD) (x : Int) : Bool := decide (0 ≤ x ∧ x < (s.F.length : Int))
theorem dhas_any (b : Int) (h : DRep w base g s L La) : Calls Try.prog 27 #[.pointer (some ⟨g, 0, none⟩), .int .i64 b] w fun e w' => e = .returned (.bool (hasO s b)) ∧ w = w' := by
  have hs := h.core.few
  have c1 := h.core.c1
  have HH : Hid (hasO s b = decide (0 ≤ b ∧ b < (s.F.length : Int))) := rfl
  obtain ⟨z, HZ⟩ : ∃ z : Nat, Hid (s.F.length = z) := ⟨_, rfl⟩
  rw [HZ.out] at c1 hs HH
  clear h HZ
  by_cases h0 : 0 ≤ b
  · by_cases h1 : b < (z : Int)
    · rw [show hasO s b = true by rw [HH.out]; exact decide_eq_true ⟨h0, h1⟩]
      clear HH
      go_enter Try.func27, Try.ntmps27
      go_wp2_with fail
      go_ret
      exact ⟨rfl, rfl⟩
    · rw [show hasO s b = false by rw [HH.out]; exact decide_eq_false fun h => h1 h.2]
      clear HH
      go_enter Try.func27, Try.ntmps27
      go_wp2_with fail
      go_ret
      exact ⟨rfl, rfl⟩
  · rw [show hasO s b = false by rw [HH.out]; exact decide_eq_false fun h => h0 h.1]
    clear HH
    go_enter Try.func27, Try.ntmps27
    go_wp2_with fail
    go_ret
    exact ⟨rfl, rfl⟩
theorem dsectors_rep (h : DRep w base g s L La) : Calls Try.prog 18 #[.pointer (some ⟨g, 0, none⟩)] w fun e w' => e = .returned (.int .i64 (s.F.length : Int)) ∧ w = w' := by
  have hs := h.core.few
  have c1 := h.core.c1
  obtain ⟨z, HZ⟩ : ∃ z : Nat, Hid (s.F.length = z) := ⟨_, rfl⟩
  rw [HZ.out] at c1 hs ⊢
  clear h HZ
  go_enter Try.func18, Try.ntmps18
  go_wp2_with fail
  go_ret
  exact ⟨rfl, rfl⟩
theorem dsize_rep (h : DRep w base g s L La) : Calls Try.prog 26 #[.pointer (some ⟨g, 0, none⟩)] w fun e w' => e = .returned (.int .i64 (s.size : Int)) ∧ w = w' := by
  have c1 := h.core.c0
  obtain ⟨z, HZ⟩ : ∃ z : Nat, Hid (s.size = z) := ⟨_, rfl⟩
  rw [HZ.out] at c1 ⊢
  clear h HZ
  go_enter Try.func26, Try.ntmps26
  go_wp2_with fail
  go_ret
  exact ⟨rfl, rfl⟩
/- find -/
def findO (s : RD) (x : Int) (fits : Bool) : Int := if x < 0 ∨ (s.F.length : Int) ≤ x ∨ fits = false then 2 else if s.B.getD x.toNat false then 5 else 0
theorem findO_true (s : RD) (x : Int) : findO s x true = whyO s x := by simp [findO, whyO]
theorem findO_write (s : RD) (x : Int) (n : Nat) : findO s x (decide (n = s.size)) = writeO s x n := by
  unfold findO writeO
  by_cases h : n = s.size <;> simp [h]
set_option maxHeartbeats 2000000 in
theorem dfind_ok (st : ByteArray) (k : Nat) (h : DRep w base g s L La) (hk : k < s.F.length) (hb : s.B.getD k false = false) :
    Calls Try.prog 33 #[.pointer (some ⟨g, 0, none⟩), .string st, .int .i64 (k : Int), .bool true] w fun e w' => e = .returned (.tuple #[.pointer (some (L.ab.add (k * 3))), .nilIface]) ∧ w = w' := by
  have hs := h.core.few
  have c1 := h.core.c1
  have d2 := (h.core.sector hk).c2
  rw [h.core.bb k hk, hb] at d2
  have C1 := Lib.hid (dhas_any (k : Int) h)
  rw [show hasO s (k : Int) = true from decide_eq_true ⟨by omega, by omega⟩] at C1
  obtain ⟨z, HZ⟩ : ∃ z : Nat, Hid (s.F.length = z) := ⟨_, rfl⟩
  rw [HZ.out] at c1 hs hk
  obtain ⟨ad, HAD⟩ : ∃ ad, Hid (L.ab = ad) := ⟨_, rfl⟩
  rw [HAD.out] at c1 d2 ⊢
  have i0 : (0 : Int) ≤ (k : Int) := by omega
  have i1 : (k : Int) < (z : Int) := by omega
  clear h HZ hb
  go_enter Try.func33, Try.ntmps33
  go_wp2_with fail
  refine C1.out.mono ?_
  rintro e w' ⟨rfl, rfl⟩
  go_wp2_with fail
  go_ret2
  exact ⟨rfl, rfl⟩
set_option maxHeartbeats 2000000 in
theorem dfind_bad (st : ByteArray) (x : Int) (fits : Bool) (h : DRep w base g s L La) (hf : ∀ b, fp b → b < w.heap.size) (hq : findO s x fits ≠ 0) :
    Calls Try.prog 33 #[.pointer (some ⟨g, 0, none⟩), .string st, .int .i64 x, .bool fits] w fun e w' => ∃ v, e = .returned (.tuple #[.pointer none, v]) ∧ ErrNew w fp w' (findO s x fits) v ∧ Below w.heap.size w w' := by
  have C1 := Lib.hid (dhas_any x h)
  have CE := fun k hk => Lib.hid (dwrong_new st k hk w fp hf)
  have C2 := CE 2 (by omega)
  have C5 := CE 5 (by omega)
  clear CE
  by_cases h0 : 0 ≤ x ∧ x < (s.F.length : Int)
  · rw [show hasO s x = true from decide_eq_true h0] at C1
    cases fits with
    | false =>
      rw [show findO s x false = 2 from if_pos (Or.inr (Or.inr rfl))]
      clear h h0 hq hf C5
      go_enter Try.func33, Try.ntmps33
      go_wp2_with fail
      refine C1.out.mono ?_
      rintro e w' ⟨rfl, rfl⟩
      go_wp2_with fail
      refine C2.out.mono ?_
      rintro e W2 ⟨v, rfl, HE, HB⟩
      go_wp2_with fail
      go_ret2
      exact ⟨_, rfl, HE, HB⟩
    | true =>
      obtain ⟨k, rfl⟩ : ∃ k : Nat, x = (k : Int) := ⟨x.toNat, by omega⟩
      have hk : k < s.F.length := by omega
      have hV : findO s (k : Int) true = if s.B.getD k false then 5 else 0 := by
        unfold findO
        rw [if_neg (by simp; omega), Int.toNat_natCast]
      have hb : s.B.getD k false = true := by
        cases e : s.B.getD k false with
        | true => rfl
        | false => rw [hV, e] at hq; exact absurd rfl hq
      rw [show findO s (k : Int) true = 5 by rw [hV, hb]; rfl]
      have hs := h.core.few
      have c1 := h.core.c1
      have d2 := (h.core.sector hk).c2
      rw [h.core.bb k hk, hb] at d2
      obtain ⟨z, HZ⟩ : ∃ z : Nat, Hid (s.F.length = z) := ⟨_, rfl⟩
      rw [HZ.out] at c1 hs hk
      obtain ⟨ad, HAD⟩ : ∃ ad, Hid (L.ab = ad) := ⟨_, rfl⟩
      rw [HAD.out] at c1 d2
      have i0 : (0 : Int) ≤ (k : Int) := by omega
      have i1 : (k : Int) < (z : Int) := by omega
      clear h h0 hq hf C2 hV hb HZ HAD
      go_enter Try.func33, Try.ntmps33
      go_wp2_with fail
      refine C1.out.mono ?_
      rintro e w' ⟨rfl, rfl⟩
      go_wp2_with fail
      refine C5.out.mono ?_
      rintro e W2 ⟨v, rfl, HE, HB⟩
      go_wp2_with fail
      go_ret2
      exact ⟨_, rfl, HE, HB⟩
  · rw [show hasO s x = false from decide_eq_false h0] at C1
    rw [show findO s x fits = 2 from if_pos (by omega)]
    clear h h0 hq hf C5
    go_enter Try.func33, Try.ntmps33
    go_wp2_with fail
    refine C1.out.mono ?_
    rintro e w' ⟨rfl, rfl⟩
    go_wp2_with fail
    refine C2.out.mono ?_
    rintro e W2 ⟨v, rfl, HE, HB⟩
    go_wp2_with fail
    go_ret2
    exact ⟨_, rfl, HE, HB⟩
theorem dfind_nil (st : ByteArray) (x : Int) (fits : Bool) (w : World) : Calls Try.prog 33 #[.pointer none, .string st, .int .i64 x, .bool fits] w fun e w' => ∃ v, e = .returned (.tuple #[.pointer none, v]) ∧ ErrNew w (fun b => b < w.heap.size) w' 1 v ∧ Below w.heap.size w w' := by
  have C1 := Lib.hid (dwrong_new st 1 (by omega) w (fun b => b < w.heap.size) fun b h => h)
  go_enter Try.func33, Try.ntmps33
  go_wp2_with fail
  refine C1.out.mono ?_
  rintro e W2 ⟨v, rfl, HE, HB⟩
  go_wp2_with fail
  go_ret2
  exact ⟨_, rfl, HE, HB⟩
end
end Go.Proofs.Ytfhfjfgajbgdcaa
