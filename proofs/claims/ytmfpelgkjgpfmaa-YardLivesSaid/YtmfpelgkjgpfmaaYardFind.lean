/- The landed yard: find, findPage, findNeeded: a block, a page, or an error. Conditions: the yard's cells. -/
import Derived.Test.YtmfpelgkjgpfmaaYardWhichB
set_option linter.unusedVariables false
set_option linter.unusedSimpArgs false
namespace Go.Proofs.Ytmfpelgkjgpfmaa
open Go.RowKit

section
variable {w : World} {base g : Nat} {fp : Nat → Prop} {s : Yd} {L : YLo}
theorem hasY_at {k : Nat} (hk : k < s.S.length) : hasY s (k : Int) = true := decide_eq_true ⟨by omega, by omega⟩
theorem hasY_no {b : Int} (hw : YW s) (h : stY s b = 0) : hasY s b = false := decide_eq_false fun h2 => (stY_ne hw).2 ⟨b.toNat, by omega, by omega⟩ h
def findN (s : Yd) (b : Int) (xs : List Int) : Int := if stY s b = 0 then 2 else if xs.contains (stY s b) = true then 0 else 9
set_option maxHeartbeats 2000000 in
theorem yfind_ok (st : ByteArray) (k : Nat) (A : Option Addr) (n c : Nat) (xs : List Int) (h : YRep w base g s L) (hw : YW s) (hk : k < s.S.length) (hn : n ≤ 1000) (hA : intK.Lie w w.heap.size A n xs) (hx : xs.contains (s.S.getD k 0) = true) :
    Calls Try.prog 25 #[.pointer (some ⟨g, 0, none⟩), .string st, .int .i64 (k : Int), .slice A n c] w fun e w' => e = .returned (.tuple #[.pointer (some (L.ab.add (k * 3))), .nilIface]) ∧ w = w' := by
  have hs := hw.n32
  have c0 := h.c0
  have d0 := (h.block hk).c0
  have C1 := Lib.hid (yhas_any (k : Int) h hs)
  rw [hasY_at hk] at C1
  obtain ⟨y, HY⟩ : ∃ y, Hid (s.S.getD k 0 = y) := ⟨_, rfl⟩
  rw [HY.out] at d0 hx
  have C2 := Lib.hid (ycontains_any A n c xs y w hn hA)
  rw [hx] at C2
  obtain ⟨z, HZ⟩ : ∃ z : Nat, Hid (s.S.length = z) := ⟨_, rfl⟩
  rw [HZ.out] at c0 hs hk
  obtain ⟨ad, HAD⟩ : ∃ ad, Hid (L.ab = ad) := ⟨_, rfl⟩
  rw [HAD.out] at c0 d0 ⊢
  have i0 : (0 : Int) ≤ (k : Int) := by omega
  have i1 : (k : Int) < (z : Int) := by omega
  clear h hw HZ HAD HY hA hx hn
  go_enter Try.func25, Try.ntmps25
  go_wp2_with fail
  refine C1.out.mono ?_
  rintro e w' ⟨rfl, rfl⟩
  go_wp2_with fail
  refine C2.out.mono ?_
  rintro e w' ⟨rfl, rfl⟩
  go_wp2_with fail
  go_ret2
  exact ⟨rfl, rfl⟩
set_option maxHeartbeats 2000000 in
theorem yfind_bad (st : ByteArray) (b : Int) (A : Option Addr) (n c : Nat) (xs : List Int) (h : YRep w base g s L) (hw : YW s) (hf : ∀ b, fp b → b < w.heap.size) (hn : n ≤ 1000) (hA : intK.Lie w w.heap.size A n xs) (hx : findN s b xs ≠ 0) :
    Calls Try.prog 25 #[.pointer (some ⟨g, 0, none⟩), .string st, .int .i64 b, .slice A n c] w fun e w' => ∃ v, e = .returned (.tuple #[.pointer none, v]) ∧ ErrNew w fp w' (findN s b xs) v ∧ Below w.heap.size w w' := by
  have hs := hw.n32
  have C1 := Lib.hid (yhas_any b h hs)
  have CE := fun k hk => Lib.hid (ywrong_new st k hk w fp hf)
  have C2 := CE 2 (by omega)
  have C9 := CE 9 (by omega)
  clear CE
  by_cases h0 : stY s b = 0
  · rw [hasY_no hw h0] at C1
    rw [show findN s b xs = 2 from if_pos h0]
    clear h hw h0 hf hx hA C9
    go_enter Try.func25, Try.ntmps25
    go_wp2_with fail
    refine C1.out.mono ?_
    rintro e w' ⟨rfl, rfl⟩
    go_wp2_with fail
    refine C2.out.mono ?_
    rintro e W2 ⟨v, rfl, HE, HB⟩
    go_wp2_with fail
    go_ret2
    exact ⟨_, rfl, HE, HB⟩
  · have hxc : xs.contains (stY s b) = false := by
      refine Bool.eq_false_iff.2 fun h2 => hx ?_
      unfold findN
      rw [if_neg h0, if_pos h2]
    rw [show findN s b xs = 9 by unfold findN; rw [if_neg h0, hxc]; rfl]
    obtain ⟨k, rfl, hk⟩ := (stY_ne hw).1 h0
    rw [stY_at hk] at hxc
    have c0 := h.c0
    have d0 := (h.block hk).c0
    rw [hasY_at hk] at C1
    obtain ⟨y, HY⟩ : ∃ y, Hid (s.S.getD k 0 = y) := ⟨_, rfl⟩
    rw [HY.out] at d0 hxc
    have C3 := Lib.hid (ycontains_any A n c xs y w hn hA)
    rw [hxc] at C3
    obtain ⟨z, HZ⟩ : ∃ z : Nat, Hid (s.S.length = z) := ⟨_, rfl⟩
    rw [HZ.out] at c0 hs hk
    obtain ⟨ad, HAD⟩ : ∃ ad, Hid (L.ab = ad) := ⟨_, rfl⟩
    rw [HAD.out] at c0 d0
    have i0 : (0 : Int) ≤ (k : Int) := by omega
    have i1 : (k : Int) < (z : Int) := by omega
    clear h hw h0 hf hx hA C2 HZ HAD HY hxc
    go_enter Try.func25, Try.ntmps25
    go_wp2_with fail
    refine C1.out.mono ?_
    rintro e w' ⟨rfl, rfl⟩
    go_wp2_with fail
    refine C3.out.mono ?_
    rintro e w' ⟨rfl, rfl⟩
    go_wp2_with fail
    refine C9.out.mono ?_
    rintro e W2 ⟨v, rfl, HE, HB⟩
    go_wp2_with fail
    go_ret2
    exact ⟨_, rfl, HE, HB⟩
theorem yfind_nil (st : ByteArray) (b : Int) (A : Option Addr) (n c : Nat) (w : World) : Calls Try.prog 25 #[.pointer none, .string st, .int .i64 b, .slice A n c] w fun e w' => ∃ v, e = .returned (.tuple #[.pointer none, v]) ∧ ErrNew w (fun b => b < w.heap.size) w' 1 v ∧ Below w.heap.size w w' := by
  have C1 := Lib.hid (ywrong_new st 1 (by omega) w (fun b => b < w.heap.size) fun b h => h)
  go_enter Try.func25, Try.ntmps25
  go_wp2_with fail
  refine C1.out.mono ?_
  rintro e W2 ⟨v, rfl, HE, HB⟩
  go_wp2_with fail
  go_ret2
  exact ⟨_, rfl, HE, HB⟩
set_option maxHeartbeats 2000000 in
theorem yfindpage_ok (st : ByteArray) (k q : Nat) (h : YRep w base g s L) (hw : YW s) (hk : k < s.S.length) (hq : q < s.P) :
    Calls Try.prog 29 #[.pointer (some ⟨g, 0, none⟩), .string st, .int .i64 (k : Int), .int .i64 (q : Int)] w fun e w' => e = .returned (.tuple #[.pointer (some ((L.au k).add (q * 2))), .nilIface]) ∧ w = w' := by
  have hs := hw.n32
  have hp := hw.p8
  have c0 := h.c0
  have d2 := (h.block hk).c2
  have C1 := Lib.hid (yhas_any (k : Int) h hs)
  rw [hasY_at hk] at C1
  obtain ⟨z, HZ⟩ : ∃ z : Nat, Hid (s.S.length = z) := ⟨_, rfl⟩
  rw [HZ.out] at c0 hs hk
  obtain ⟨P, HP⟩ : ∃ P : Nat, Hid (s.P = P) := ⟨_, rfl⟩
  rw [HP.out] at d2 hp hq
  obtain ⟨ad, HAD⟩ : ∃ ad, Hid (L.ab = ad) := ⟨_, rfl⟩
  rw [HAD.out] at c0 d2
  obtain ⟨au, HAU⟩ : ∃ au, Hid (L.au k = au) := ⟨_, rfl⟩
  rw [HAU.out] at d2 ⊢
  have i0 : (0 : Int) ≤ (k : Int) := by omega
  have i1 : (k : Int) < (z : Int) := by omega
  have j0 : (0 : Int) ≤ (q : Int) := by omega
  have j1 : (q : Int) < (P : Int) := by omega
  clear h hw HZ HAD HP HAU
  go_enter Try.func29, Try.ntmps29
  go_wp2_with fail
  refine C1.out.mono ?_
  rintro e w' ⟨rfl, rfl⟩
  go_wp2_with fail
  go_ret2
  exact ⟨rfl, rfl⟩
set_option maxHeartbeats 2000000 in
theorem yfindpage_bad (st : ByteArray) (b p : Int) (h : YRep w base g s L) (hw : YW s) (hf : ∀ b, fp b → b < w.heap.size) (hx : ¬ pageY s b p) :
    Calls Try.prog 29 #[.pointer (some ⟨g, 0, none⟩), .string st, .int .i64 b, .int .i64 p] w fun e w' => ∃ v, e = .returned (.tuple #[.pointer none, v]) ∧ ErrNew w fp w' 2 v ∧ Below w.heap.size w w' := by
  have hs := hw.n32
  have hp := hw.p8
  have C1 := Lib.hid (yhas_any b h hs)
  have C2 := Lib.hid (ywrong_new st 2 (by omega) w fp hf)
  by_cases h0 : stY s b = 0
  · rw [hasY_no hw h0] at C1
    clear h hw h0 hf hx
    go_enter Try.func29, Try.ntmps29
    go_wp2_with fail
    refine C1.out.mono ?_
    rintro e w' ⟨rfl, rfl⟩
    go_wp2_with fail
    refine C2.out.mono ?_
    rintro e W2 ⟨v, rfl, HE, HB⟩
    go_wp2_with fail
    go_ret2
    exact ⟨_, rfl, HE, HB⟩
  · obtain ⟨k, rfl, hk⟩ := (stY_ne hw).1 h0
    have c0 := h.c0
    have d2 := (h.block hk).c2
    rw [hasY_at hk] at C1
    have hx2 : p < 0 ∨ (s.P : Int) ≤ p := by
      by_cases h1 : p < 0
      · exact Or.inl h1
      · exact Or.inr (Decidable.byContradiction fun h2 => hx ⟨h0, by omega, by omega⟩)
    obtain ⟨z, HZ⟩ : ∃ z : Nat, Hid (s.S.length = z) := ⟨_, rfl⟩
    rw [HZ.out] at c0 hs hk
    obtain ⟨P, HP⟩ : ∃ P : Nat, Hid (s.P = P) := ⟨_, rfl⟩
    rw [HP.out] at d2 hp hx2
    obtain ⟨ad, HAD⟩ : ∃ ad, Hid (L.ab = ad) := ⟨_, rfl⟩
    rw [HAD.out] at c0 d2
    have i0 : (0 : Int) ≤ (k : Int) := by omega
    have i1 : (k : Int) < (z : Int) := by omega
    clear h hw h0 hf hx HZ HAD HP
    by_cases h1 : p < 0
    · clear hx2
      go_enter Try.func29, Try.ntmps29
      go_wp2_with fail
      refine C1.out.mono ?_
      rintro e w' ⟨rfl, rfl⟩
      go_wp2_with fail
      refine C2.out.mono ?_
      rintro e W2 ⟨v, rfl, HE, HB⟩
      go_wp2_with fail
      go_ret2
      exact ⟨_, rfl, HE, HB⟩
    · have h2 : (P : Int) ≤ p := by omega
      clear hx2
      go_enter Try.func29, Try.ntmps29
      go_wp2_with fail
      refine C1.out.mono ?_
      rintro e w' ⟨rfl, rfl⟩
      go_wp2_with fail
      refine C2.out.mono ?_
      rintro e W2 ⟨v, rfl, HE, HB⟩
      go_wp2_with fail
      go_ret2
      exact ⟨_, rfl, HE, HB⟩
set_option maxHeartbeats 2000000 in
theorem yfindneeded_ok (st : ByteArray) (k q : Nat) (h : YRep w base g s L) (hw : YW s) (hk : k < s.S.length) (hq : q < s.P) (hN : (s.N.getD k []).getD q false = true) :
    Calls Try.prog 32 #[.pointer (some ⟨g, 0, none⟩), .string st, .int .i64 (k : Int), .int .i64 (q : Int)] w fun e w' => e = .returned (.tuple #[.pointer (some ((L.au k).add (q * 2))), .nilIface]) ∧ w = w' := by
  have C1 := Lib.hid (yfindpage_ok st k q h hw hk hq)
  have d0 := (h.use hk hq).c0
  rw [hN] at d0
  obtain ⟨pp, HPP⟩ : ∃ pp, Hid ((L.au k).add (q * 2) = pp) := ⟨_, rfl⟩
  rw [HPP.out] at C1 d0 ⊢
  clear h hw HPP hN
  go_enter Try.func32, Try.ntmps32
  go_wp2_with fail
  refine C1.out.mono ?_
  rintro e w' ⟨rfl, rfl⟩
  go_wp2_with fail
  go_ret2
  exact ⟨rfl, rfl⟩
def neededN (s : Yd) (b p : Int) : Int := if ¬ pageY s b p then 2 else if isN s b p = false then 8 else 0
set_option maxHeartbeats 2000000 in
theorem yfindneeded_bad (st : ByteArray) (b p : Int) (h : YRep w base g s L) (hw : YW s) (hf : ∀ b, fp b → b < w.heap.size) (hx : neededN s b p ≠ 0) :
    Calls Try.prog 32 #[.pointer (some ⟨g, 0, none⟩), .string st, .int .i64 b, .int .i64 p] w fun e w' => ∃ v, e = .returned (.tuple #[.pointer none, v]) ∧ ErrNew w fp w' (neededN s b p) v ∧ Below w.heap.size w w' := by
  by_cases hp : pageY s b p
  · have hN : isN s b p = false := by
      cases e : isN s b p with
      | false => rfl
      | true => exact absurd (by unfold neededN; rw [if_neg (not_not_intro hp), e]; rfl) hx
    rw [show neededN s b p = 8 by unfold neededN; rw [if_neg (not_not_intro hp), if_pos hN]]
    obtain ⟨k, q, rfl, hk, rfl, hq⟩ := page_at hw hp
    unfold isN at hN
    rw [Int.toNat_natCast, Int.toNat_natCast] at hN
    have C1 := Lib.hid (yfindpage_ok st k q h hw hk hq)
    have C8 := Lib.hid (ywrong_new st 8 (by omega) w fp hf)
    have d0 := (h.use hk hq).c0
    rw [hN] at d0
    obtain ⟨pp, HPP⟩ : ∃ pp, Hid ((L.au k).add (q * 2) = pp) := ⟨_, rfl⟩
    rw [HPP.out] at C1 d0
    clear h hw HPP hN hx hf hp
    go_enter Try.func32, Try.ntmps32
    go_wp2_with fail
    refine C1.out.mono ?_
    rintro e w' ⟨rfl, rfl⟩
    go_wp2_with fail
    refine C8.out.mono ?_
    rintro e W2 ⟨v, rfl, HE, HB⟩
    go_wp2_with fail
    go_ret2
    exact ⟨_, rfl, HE, HB⟩
  · rw [show neededN s b p = 2 from if_pos hp]
    have C1 := Lib.hid (yfindpage_bad (fp := fp) st b p h hw hf hp)
    clear h hw hf hx hp
    go_enter Try.func32, Try.ntmps32
    go_wp2_with fail
    refine C1.out.mono ?_
    rintro e W2 ⟨v, rfl, HE, HB⟩
    obtain ⟨xv, rfl⟩ := (HE.wrong (by decide)).ne
    have HE := Lib.hid HE
    have HB := Lib.hid HB
    go_wp2_with fail
    go_ret2
    exact ⟨_, rfl, HE.out, HB.out⟩
end
end Go.Proofs.Ytmfpelgkjgpfmaa
