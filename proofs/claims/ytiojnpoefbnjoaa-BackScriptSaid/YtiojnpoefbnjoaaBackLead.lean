/- The landed back: what its calls answer, and leave. Conditions: the back's cells. -/
import Derived.Test.YtiojnpoefbnjoaaBackSays
set_option linter.unusedVariables false
set_option linter.unusedSimpArgs false
namespace Go.Proofs.Ytiojnpoefbnjoaa
open Go.RowKit

theorem bkwrong_new (st : ByteArray) (k : Int) (hk : 1 ≤ k) (w : World) (fp : Nat → Prop) (hf : ∀ b, fp b → b < w.heap.size) :
    Calls Try.prog 26 #[.string st, .int .i64 k] w fun e w' => ∃ v, e = .returned v ∧ ErrNew w fp w' k v ∧ Below w.heap.size w w' := by
  have h0 : (w.alloc (.cells #[.int .i64 k, .string st] 73)).cell? ⟨w.heap.size, 0, none⟩ = some (.int .i64 k) := by rw [cell_new]; rfl
  have h1 : (w.alloc (.cells #[.int .i64 k, .string st] 73)).cell? ⟨w.heap.size, 1, none⟩ = some (.string st) := by rw [cell_new]; rfl
  have HE : Hid (ErrNew w fp (w.alloc (.cells #[.int .i64 k, .string st] 73)) k (.iface 70 (.pointer (some ⟨w.heap.size, 0, none⟩)))) :=
    Or.inr ⟨hk, _, _, rfl, h0, h1, Nat.le_refl _, fun h => by have := hf _ h; omega⟩
  have HB : Hid (Below w.heap.size w (w.alloc (.cells #[.int .i64 k, .string st] 73))) := (Below.refl _ _).alloc (Nat.le_refl _) _
  clear h0 h1 hf
  go_enter Try.func26, Try.ntmps26
  go_wp2_with fail
  go_ret
  exact ⟨_, rfl, HE.out, HB.out⟩
theorem bk_elder {w W1 W2 : World} {fp : Nat → Prop} {k : Int} {v : Value} (h : ErrNew W1 fp W2 k v) (hb : w.heap.size ≤ W1.heap.size) : ErrNew w fp W2 k v := by
  rcases h with h | ⟨h0, g, s, e, h1, h2, h3, h4⟩
  · exact Or.inl h
  · exact Or.inr ⟨h0, g, s, e, h1, h2, Nat.le_trans hb h3, h4⟩
def hasOB (s : Bk) (p : Int) : Bool := decide (0 ≤ p ∧ p < (s.length : Int))
theorem hasOB_at {s : Bk} {k : Nat} (hk : k < s.length) : hasOB s (k : Int) = true := decide_eq_true ⟨by omega, by omega⟩
theorem hasOB_no {s : Bk} {p : Int} (h : p < 0 ∨ (s.length : Int) ≤ p) : hasOB s p = false := decide_eq_false fun h2 => by omega
section
variable {w W1 W2 : World} {base g : Nat} {fp : Nat → Prop} {s : Bk} {ab : Addr}
theorem bk_err {r : Bk × Int} {q : Int} {v : Value} (hR : BkAt w base fp g s) (hr : r = (s, q)) (HE : ErrNew W1 fp W2 q v) (hB : Below w.heap.size w W1) (hB2 : Below W1.heap.size W1 W2) : BkLeads w base fp g r (.returned v) W2 := by
  subst hr
  exact ⟨v, fp, rfl, bk_elder HE hB.size, hR.since (below_chain hB hB2), Moves.of_below (below_chain hB hB2)⟩
theorem bk_ok {r : Bk × Int} {s' : Bk} (hR : BkAt w base fp g s) (hi : fp ab.block) (hr : r = (s', 0)) (h1 : BkRep W2 base g s' ab) (hw : BkW s') (ht : Turn fp w W2) : BkLeads w base fp g r (.returned .nilIface) W2 := by
  subst hr
  obtain ⟨h2, h3⟩ := bk_turned hR hi h1 hw ht
  exact ⟨_, fp, rfl, ErrNew.none_, h2, h3⟩
theorem bkhas_any (p : Int) (h : BkRep w base g s ab) (hs : s.length ≤ 256) : Calls Try.prog 27 #[.pointer (some ⟨g, 0, none⟩), .int .i64 p] w fun e w' => e = .returned (.bool (hasOB s p)) ∧ w = w' := by
  have c0 := h.c0
  have HH : Hid (hasOB s p = decide (0 ≤ p ∧ p < (s.length : Int))) := rfl
  obtain ⟨z, HZ⟩ : ∃ z : Nat, Hid (s.length = z) := ⟨_, rfl⟩
  rw [HZ.out] at c0 hs HH
  clear h HZ
  by_cases h0 : 0 ≤ p
  · by_cases h1 : p < (z : Int)
    · rw [show hasOB s p = true by rw [HH.out]; exact decide_eq_true ⟨h0, h1⟩]
      clear HH
      go_enter Try.func27, Try.ntmps27
      go_wp2_with fail
      go_ret
      exact ⟨rfl, rfl⟩
    · rw [show hasOB s p = false by rw [HH.out]; exact decide_eq_false fun h => h1 h.2]
      clear HH
      go_enter Try.func27, Try.ntmps27
      go_wp2_with fail
      go_ret
      exact ⟨rfl, rfl⟩
  · rw [show hasOB s p = false by rw [HH.out]; exact decide_eq_false fun h => h0 h.1]
    clear HH
    go_enter Try.func27, Try.ntmps27
    go_wp2_with fail
    go_ret
    exact ⟨rfl, rfl⟩
end
theorem bkhas_nil (p : Int) (w : World) : Calls Try.prog 27 #[.pointer none, .int .i64 p] w fun e w' => e = .returned (.bool false) ∧ w = w' := by
  go_enter Try.func27, Try.ntmps27
  go_wp2_with fail
  go_ret
  exact ⟨rfl, rfl⟩
section
variable {w W1 W2 : World} {base g : Nat} {fp : Nat → Prop} {s : Bk} {ab : Addr}
set_option maxHeartbeats 2000000 in
theorem bkfind_ok (st : ByteArray) (k : Nat) (h : BkRep w base g s ab) (hs : s.length ≤ 256) (hk : k < s.length) :
    Calls Try.prog 25 #[.pointer (some ⟨g, 0, none⟩), .string st, .int .i64 (k : Int)] w fun e w' => e = .returned (.tuple #[.pointer (some (ab.add (k * 2))), .nilIface]) ∧ w = w' := by
  have c0 := h.c0
  have C1 := Lib.hid (bkhas_any (k : Int) h hs)
  rw [hasOB_at hk] at C1
  obtain ⟨z, HZ⟩ : ∃ z : Nat, Hid (s.length = z) := ⟨_, rfl⟩
  rw [HZ.out] at c0 hs hk
  have i0 : (0 : Int) ≤ (k : Int) := by omega
  have i1 : (k : Int) < (z : Int) := by omega
  clear h HZ
  go_enter Try.func25, Try.ntmps25
  go_wp2_with fail
  refine C1.out.mono ?_
  rintro e w' ⟨rfl, rfl⟩
  go_wp2_with fail
  go_ret2
  exact ⟨rfl, rfl⟩
set_option maxHeartbeats 2000000 in
theorem bkfind_bad (st : ByteArray) (p : Int) (h : BkRep w base g s ab) (hs : s.length ≤ 256) (hf : ∀ b, fp b → b < w.heap.size) (hx : p < 0 ∨ (s.length : Int) ≤ p) :
    Calls Try.prog 25 #[.pointer (some ⟨g, 0, none⟩), .string st, .int .i64 p] w fun e w' => ∃ v, e = .returned (.tuple #[.pointer none, v]) ∧ ErrNew w fp w' 2 v ∧ Below w.heap.size w w' := by
  have C1 := Lib.hid (bkhas_any p h hs)
  have C2 := Lib.hid (bkwrong_new st 2 (by omega) w fp hf)
  rw [hasOB_no hx] at C1
  clear h hs hx hf
  go_enter Try.func25, Try.ntmps25
  go_wp2_with fail
  refine C1.out.mono ?_
  rintro e w' ⟨rfl, rfl⟩
  go_wp2_with fail
  refine C2.out.mono ?_
  rintro e W2 ⟨v, rfl, HE, HB⟩
  go_wp2_with fail
  go_ret2
  exact ⟨_, rfl, HE, HB⟩
end
theorem bkfind_nil (st : ByteArray) (p : Int) (w : World) : Calls Try.prog 25 #[.pointer none, .string st, .int .i64 p] w fun e w' => ∃ v, e = .returned (.tuple #[.pointer none, v]) ∧ ErrNew w (fun b => b < w.heap.size) w' 1 v ∧ Below w.heap.size w w' := by
  have C1 := Lib.hid (bkwrong_new st 1 (by omega) w (fun b => b < w.heap.size) fun b h => h)
  go_enter Try.func25, Try.ntmps25
  go_wp2_with fail
  refine C1.out.mono ?_
  rintro e W2 ⟨v, rfl, HE, HB⟩
  go_wp2_with fail
  go_ret2
  exact ⟨_, rfl, HE, HB⟩
section
variable {w W1 W2 : World} {base g : Nat} {fp : Nat → Prop} {s : Bk} {ab : Addr} {p a : Int} {k : Nat}
theorem set_no (h : p < 0 ∨ (s.length : Int) ≤ p) : setBk s p a = (s, 2) := if_pos h
theorem clear_no (h : p < 0 ∨ (s.length : Int) ≤ p) : clearBk s p = (s, 2) := if_pos h
theorem set_some (hk : k < s.length) (h : (s.getD k none).isSome = true) : setBk s (k : Int) a = (s, 9) := by
  unfold setBk
  rw [if_neg (by omega), Int.toNat_natCast, if_pos h]
theorem clear_none (hk : k < s.length) (h : (s.getD k none).isSome = false) : clearBk s (k : Int) = (s, 8) := by
  unfold clearBk
  rw [if_neg (by omega), Int.toNat_natCast, if_pos h]
set_option maxHeartbeats 2000000 in
theorem bkset_any (p a : Int) (h0 : 0 ≤ a) (h1 : a ≤ 18446744073709551615) (hD : BkAt w base fp g s) : Calls Try.prog 12 #[.pointer (some ⟨g, 0, none⟩), .int .i64 p, .int .u64 a] w (BkLeads w base fp g (setBk s p a)) := by
  obtain ⟨ab, hR, hI⟩ := hD.ex
  have hs := hD.wf.n2
  have HD := Lib.hid hD
  have HI := Lib.hid hI
  by_cases hx : p < 0 ∨ (s.length : Int) ≤ p
  · have C1 := fun st => Lib.hid (bkfind_bad st p hR hs hD.lt hx)
    have HR := Lib.hid (set_no (a := a) hx)
    clear hx hR hs hD hI
    go_enter Try.func12, Try.ntmps12
    go_wp2_with fail
    refine (C1 _).out.mono ?_
    rintro e W2 ⟨v, rfl, HE, HB⟩
    obtain ⟨xv, rfl⟩ := (HE.wrong (by decide)).ne
    have HE := Lib.hid HE
    have HB := Lib.hid HB
    go_wp2_with fail
    go_ret
    exact bk_err HD.out HR.out HE.out (Below.refl _ _) HB.out
  · obtain ⟨k, rfl⟩ : ∃ k : Nat, p = (k : Int) := ⟨p.toNat, by omega⟩
    have hk : k < s.length := by omega
    have C1 := fun st => Lib.hid (bkfind_ok st k hR hs hk)
    have CK := hR.block hk
    have d0 := CK.c0
    have d1 := CK.c1
    have f0 := CK.f0
    have hP := hR.put hk (some a)
    have hfp := HI.out
    obtain ⟨pp, HPP⟩ : ∃ pp, Hid (ab.add (k * 2) = pp) := ⟨_, rfl⟩
    have HPB : Hid (pp.block = ab.block) := by rw [← HPP.out]; exact addr_block _ _
    have HT : Hid (∀ v u, Turn fp w ((w.setCell pp v).setCell ⟨pp.block, pp.off + 1, none⟩ u)) := fun v u => (Turn.of_setCell (fp := fp) pp _ (by rw [HPB.out]; exact hfp)).trans (Turn.of_setCell (fp := fp) ⟨pp.block, pp.off + 1, none⟩ _ (by show fp pp.block; rw [HPB.out]; exact hfp)) (fun b hb => Or.inl hb)
    rw [HPP.out] at d0 d1 f0 hP
    simp only [HPP.out] at C1
    obtain ⟨⟨⟨u1, c1'⟩, f1'⟩, hP⟩ := hP
    have HP := Lib.hid hP
    cases ho : (s.getD k none).isSome with
    | true =>
      have C9 := fun st => Lib.hid (bkwrong_new st 9 (by omega) w fp hD.lt)
      have HR := Lib.hid (set_some (a := a) hk ho)
      rw [ho] at d0
      clear hx hR hs hD hI CK hk ho hP HP c1' f1' d1 hfp HT
      go_enter Try.func12, Try.ntmps12
      go_wp2_with fail
      refine (C1 _).out.mono ?_
      rintro e w' ⟨rfl, rfl⟩
      go_wp2_with fail
      refine (C9 _).out.mono ?_
      rintro e W2 ⟨v, rfl, HE, HB⟩
      have HE := Lib.hid HE
      have HB := Lib.hid HB
      go_wp2_with fail
      go_ret
      exact bk_err HD.out HR.out HE.out (Below.refl _ _) HB.out
    | false =>
      have HR := Lib.hid (set_at (a := a) hk (Option.not_isSome_iff_eq_none.1 (by rw [ho]; decide)))
      have HW : Hid (BkW (s.set k (some a))) := by
        have := bkw_setBk (p := (k : Int)) hD.wf h0 h1
        rw [HR.out] at this
        exact this
      rw [ho] at d0
      have c1' : (w.setCell pp (.bool true)).cell? ⟨pp.block, pp.off + 1, none⟩ = some u1 := c1'
      have f1' : (w.setCell pp (.bool true)).frozen? ⟨pp.block, pp.off + 1, none⟩ = false := f1'
      have HP : Hid (BkRep ((w.setCell pp (.bool true)).setCell ⟨pp.block, pp.off + 1, none⟩ (.int .u64 a)) base g (s.set k (some a)) ab) := hP
      clear hx hR hs hD hI CK hk ho hP d1 hfp
      go_enter Try.func12, Try.ntmps12
      go_wp2_with fail
      refine (C1 _).out.mono ?_
      rintro e w' ⟨rfl, rfl⟩
      go_wp2_with fail
      go_ret
      exact bk_ok HD.out HI.out HR.out HP.out HW.out (HT.out _ _)
set_option maxHeartbeats 2000000 in
theorem bkclear_any (p : Int) (hD : BkAt w base fp g s) : Calls Try.prog 10 #[.pointer (some ⟨g, 0, none⟩), .int .i64 p] w (BkLeads w base fp g (clearBk s p)) := by
  obtain ⟨ab, hR, hI⟩ := hD.ex
  have hs := hD.wf.n2
  have HD := Lib.hid hD
  have HI := Lib.hid hI
  by_cases hx : p < 0 ∨ (s.length : Int) ≤ p
  · have C1 := fun st => Lib.hid (bkfind_bad st p hR hs hD.lt hx)
    have HR := Lib.hid (clear_no hx)
    clear hx hR hs hD hI
    go_enter Try.func10, Try.ntmps10
    go_wp2_with fail
    refine (C1 _).out.mono ?_
    rintro e W2 ⟨v, rfl, HE, HB⟩
    obtain ⟨xv, rfl⟩ := (HE.wrong (by decide)).ne
    have HE := Lib.hid HE
    have HB := Lib.hid HB
    go_wp2_with fail
    go_ret
    exact bk_err HD.out HR.out HE.out (Below.refl _ _) HB.out
  · obtain ⟨k, rfl⟩ : ∃ k : Nat, p = (k : Int) := ⟨p.toNat, by omega⟩
    have hk : k < s.length := by omega
    have C1 := fun st => Lib.hid (bkfind_ok st k hR hs hk)
    have CK := hR.block hk
    have d0 := CK.c0
    have d1 := CK.c1
    have f0 := CK.f0
    have hP := hR.put hk none
    have hfp := HI.out
    obtain ⟨pp, HPP⟩ : ∃ pp, Hid (ab.add (k * 2) = pp) := ⟨_, rfl⟩
    have HPB : Hid (pp.block = ab.block) := by rw [← HPP.out]; exact addr_block _ _
    have HT : Hid (∀ v u, Turn fp w ((w.setCell pp v).setCell ⟨pp.block, pp.off + 1, none⟩ u)) := fun v u => (Turn.of_setCell (fp := fp) pp _ (by rw [HPB.out]; exact hfp)).trans (Turn.of_setCell (fp := fp) ⟨pp.block, pp.off + 1, none⟩ _ (by show fp pp.block; rw [HPB.out]; exact hfp)) (fun b hb => Or.inl hb)
    rw [HPP.out] at d0 d1 f0 hP
    simp only [HPP.out] at C1
    obtain ⟨⟨⟨u1, c1'⟩, f1'⟩, hP⟩ := hP
    have HP := Lib.hid hP
    cases ho : (s.getD k none).isSome with
    | false =>
      have C9 := fun st => Lib.hid (bkwrong_new st 8 (by omega) w fp hD.lt)
      have HR := Lib.hid (clear_none hk ho)
      rw [ho] at d0
      clear hx hR hs hD hI CK hk ho hP HP c1' f1' d1 hfp HT
      go_enter Try.func10, Try.ntmps10
      go_wp2_with fail
      refine (C1 _).out.mono ?_
      rintro e w' ⟨rfl, rfl⟩
      go_wp2_with fail
      refine (C9 _).out.mono ?_
      rintro e W2 ⟨v, rfl, HE, HB⟩
      have HE := Lib.hid HE
      have HB := Lib.hid HB
      go_wp2_with fail
      go_ret
      exact bk_err HD.out HR.out HE.out (Below.refl _ _) HB.out
    | true =>
      have HR := Lib.hid (clear_at hk ho)
      have HW : Hid (BkW (s.set k none)) := by
        have := bkw_clearBk (p := (k : Int)) hD.wf
        rw [HR.out] at this
        exact this
      rw [ho] at d0
      have c1' : (w.setCell pp (.bool false)).cell? ⟨pp.block, pp.off + 1, none⟩ = some u1 := c1'
      have f1' : (w.setCell pp (.bool false)).frozen? ⟨pp.block, pp.off + 1, none⟩ = false := f1'
      have HP : Hid (BkRep ((w.setCell pp (.bool false)).setCell ⟨pp.block, pp.off + 1, none⟩ (.int .u64 0)) base g (s.set k none) ab) := hP
      clear hx hR hs hD hI CK hk ho hP d1 hfp
      go_enter Try.func10, Try.ntmps10
      go_wp2_with fail
      refine (C1 _).out.mono ?_
      rintro e w' ⟨rfl, rfl⟩
      go_wp2_with fail
      go_ret
      exact bk_ok HD.out HI.out HR.out HP.out HW.out (HT.out _ _)
end
theorem bkset_nil (p a : Int) (w : World) : Calls Try.prog 12 #[.pointer none, .int .i64 p, .int .u64 a] w fun e w' => ∃ v, e = .returned v ∧ ErrAt (fun b => b < w.heap.size) w' 1 v ∧ Below w.heap.size w w' := by
  have C1 := fun st => Lib.hid (bkfind_nil st p w)
  go_enter Try.func12, Try.ntmps12
  go_wp2_with fail
  refine (C1 _).out.mono ?_
  rintro e W2 ⟨v, rfl, HE, HB⟩
  obtain ⟨xv, rfl⟩ := (HE.wrong (by decide)).ne
  have HE := Lib.hid HE
  have HB := Lib.hid HB
  go_wp2_with fail
  go_ret
  exact ⟨_, rfl, HE.out.at_, HB.out⟩
theorem bkclear_nil (p : Int) (w : World) : Calls Try.prog 10 #[.pointer none, .int .i64 p] w fun e w' => ∃ v, e = .returned v ∧ ErrAt (fun b => b < w.heap.size) w' 1 v ∧ Below w.heap.size w w' := by
  have C1 := fun st => Lib.hid (bkfind_nil st p w)
  go_enter Try.func10, Try.ntmps10
  go_wp2_with fail
  refine (C1 _).out.mono ?_
  rintro e W2 ⟨v, rfl, HE, HB⟩
  obtain ⟨xv, rfl⟩ := (HE.wrong (by decide)).ne
  have HE := Lib.hid HE
  have HB := Lib.hid HB
  go_wp2_with fail
  go_ret
  exact ⟨_, rfl, HE.out.at_, HB.out⟩
end Go.Proofs.Ytiojnpoefbnjoaa
