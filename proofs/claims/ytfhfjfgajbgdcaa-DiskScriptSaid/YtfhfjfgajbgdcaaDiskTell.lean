/- The landed disk: Read, Firm, Waiting. Conditions: the disk's cells. -/
import Derived.Test.YtfhfjfgajbgdcaaDiskLeaf
set_option linter.unusedVariables false
set_option linter.unusedSimpArgs false
namespace Go.Proofs.Ytfhfjfgajbgdcaa
open Go.RowKit

/-- What a call leaves that reads. -/
def DReads (w : World) (fp : Nat → Prop) (r : Int × List Nat) (e : Ending) (w' : World) : Prop :=
  ∃ v A n c, e = .returned (.tuple #[.slice A n c, v]) ∧ ErrNew w fp w' r.1 v ∧ Own w' w.heap.size A n c r.2 ∧ Below w.heap.size w w'
section
variable {w : World} {base g : Nat} {fp : Nat → Prop} {s : RD} {L : DL} {La : List (List Nat)}
theorem findO_why {s : RD} {x : Int} (h : whyO s x = 0) : ∃ k : Nat, x = (k : Int) ∧ k < s.F.length ∧ s.B.getD k false = false := by
  obtain ⟨k, rfl, hk⟩ := why_zero h
  refine ⟨k, rfl, hk, ?_⟩
  unfold whyO at h
  rw [if_neg (by omega), Int.toNat_natCast] at h
  cases e : s.B.getD k false with
  | false => rfl
  | true => rw [e] at h; cases h
set_option maxHeartbeats 2000000 in
theorem dread_rep (x : Int) (h : DRep w base g s L La) (hf : ∀ b, fp b → b < w.heap.size) : Calls Try.prog 23 #[.pointer (some ⟨g, 0, none⟩), .int .i64 x] w (DReads w fp (readO s x)) := by
  by_cases hw : whyO s x = 0
  · obtain ⟨k, rfl, hk, hb⟩ := findO_why hw
    have HR : Hid (readO s (k : Int) = (0, lastOf s k)) := by
      show _ = _
      unfold readO lastOf
      rw [if_pos hw, Int.toNat_natCast]
      rcases lastW (k : Int) s.W with _ | b <;> rfl
    have C1 := fun st => Lib.hid (dfind_ok st k h hk hb)
    have d1 := (h.core.sector hk).c1
    have ho := h.core.lb k hk
    rw [h.last k hk] at ho
    have hn : (L.sec k).l.n ≤ 256 := by rw [← ho.len, ← h.last k hk]; exact h.core.sizel k
    obtain ⟨A, n, c, HL⟩ : ∃ A n c, Hid ((L.sec k).l = (⟨A, n, c⟩ : SV)) := ⟨_, _, _, rfl⟩
    rw [HL.out] at d1 ho hn
    dsimp only at d1 ho hn
    have C2 := Lib.hid (clone8_any A n c (lastOf s k) w (by omega) ho.bytes)
    obtain ⟨p, HP⟩ : ∃ p, Hid (L.ab.add (k * 3) = p) := ⟨_, rfl⟩
    rw [HP.out] at d1
    have C1' := fun st => Lib.hid (HP.out ▸ (C1 st).out)
    clear h hk hb hw ho hf C1
    go_enter Try.func23, Try.ntmps23
    go_wp2_with fail
    refine (C1' _).out.mono ?_
    rintro e w' ⟨rfl, rfl⟩
    go_wp2_with fail
    refine C2.out.mono ?_
    rintro e W2 ⟨A2, n2, c2, rfl, HO, HB⟩
    have HO := Lib.hid HO
    have HB := Lib.hid HB
    go_wp2_with fail
    go_ret2
    rw [HR.out]
    exact ⟨_, _, _, _, rfl, ErrNew.none_, HO.out, HB.out⟩
  · have HR : Hid (readO s x = (whyO s x, [])) := if_neg hw
    have C1 := fun st => Lib.hid (dfind_bad (fp := fp) st x true h hf (by rw [findO_true]; exact hw))
    rw [findO_true] at C1
    obtain ⟨q, HQ⟩ : ∃ q, Hid (whyO s x = q) := ⟨_, rfl⟩
    rw [HQ.out] at C1 HR hw
    have HNZ := Lib.hid hw
    clear h hw hf
    go_enter Try.func23, Try.ntmps23
    go_wp2_with fail
    refine (C1 _).out.mono ?_
    rintro e W2 ⟨v, rfl, HE, HB⟩
    obtain ⟨xv, rfl⟩ := (HE.wrong HNZ.out).ne
    have HE := Lib.hid HE
    have HB := Lib.hid HB
    go_wp2_with fail
    go_ret2
    rw [HR.out]
    exact ⟨_, none, 0, 0, rfl, HE.out, Own.none_, HB.out⟩
set_option maxHeartbeats 2000000 in
theorem dfirm_rep (x : Int) (h : DRep w base g s L La) (hf : ∀ b, fp b → b < w.heap.size) : Calls Try.prog 12 #[.pointer (some ⟨g, 0, none⟩), .int .i64 x] w (DReads w fp (firmO s x)) := by
  by_cases hw : whyO s x = 0
  · obtain ⟨k, rfl, hk, hb⟩ := findO_why hw
    have HR : Hid (firmO s (k : Int) = (0, s.F.getD k [])) := by
      show _ = _
      unfold firmO
      rw [if_pos hw, Int.toNat_natCast]
    have C1 := fun st => Lib.hid (dfind_ok st k h hk hb)
    have d1 := (h.core.sector hk).c0
    have ho := h.core.fb k hk
    have hn : (L.sec k).f.n ≤ 256 := by rw [← ho.len]; exact h.core.sizes k
    obtain ⟨A, n, c, HL⟩ : ∃ A n c, Hid ((L.sec k).f = (⟨A, n, c⟩ : SV)) := ⟨_, _, _, rfl⟩
    rw [HL.out] at d1 ho hn
    dsimp only at d1 ho hn
    have C2 := Lib.hid (clone8_any A n c (s.F.getD k []) w (by omega) ho.bytes)
    obtain ⟨p, HP⟩ : ∃ p, Hid (L.ab.add (k * 3) = p) := ⟨_, rfl⟩
    rw [HP.out] at d1
    have C1' := fun st => Lib.hid (HP.out ▸ (C1 st).out)
    clear h hk hb hw ho hf C1
    go_enter Try.func12, Try.ntmps12
    go_wp2_with fail
    refine (C1' _).out.mono ?_
    rintro e w' ⟨rfl, rfl⟩
    go_wp2_with fail
    refine C2.out.mono ?_
    rintro e W2 ⟨A2, n2, c2, rfl, HO, HB⟩
    have HO := Lib.hid HO
    have HB := Lib.hid HB
    go_wp2_with fail
    go_ret2
    rw [HR.out]
    exact ⟨_, _, _, _, rfl, ErrNew.none_, HO.out, HB.out⟩
  · have HR : Hid (firmO s x = (whyO s x, [])) := if_neg hw
    have C1 := fun st => Lib.hid (dfind_bad (fp := fp) st x true h hf (by rw [findO_true]; exact hw))
    rw [findO_true] at C1
    obtain ⟨q, HQ⟩ : ∃ q, Hid (whyO s x = q) := ⟨_, rfl⟩
    rw [HQ.out] at C1 HR hw
    have HNZ := Lib.hid hw
    clear h hw hf
    go_enter Try.func12, Try.ntmps12
    go_wp2_with fail
    refine (C1 _).out.mono ?_
    rintro e W2 ⟨v, rfl, HE, HB⟩
    obtain ⟨xv, rfl⟩ := (HE.wrong HNZ.out).ne
    have HE := Lib.hid HE
    have HB := Lib.hid HB
    go_wp2_with fail
    go_ret2
    rw [HR.out]
    exact ⟨_, none, 0, 0, rfl, HE.out, Own.none_, HB.out⟩
theorem dread_nil (x : Int) : Calls Try.prog 23 #[.pointer none, .int .i64 x] w fun e w' => ∃ v, e = .returned (.tuple #[.slice none 0 0, v]) ∧ ErrAt (fun b => b < w.heap.size) w' 1 v ∧ Below w.heap.size w w' := by
  have C1 := fun st => Lib.hid (dfind_nil st x true w)
  go_enter Try.func23, Try.ntmps23
  go_wp2_with fail
  refine (C1 _).out.mono ?_
  rintro e W2 ⟨v, rfl, HE, HB⟩
  obtain ⟨xv, rfl⟩ := (HE.wrong (by decide)).ne
  have HE := Lib.hid HE
  have HB := Lib.hid HB
  go_wp2_with fail
  go_ret2
  exact ⟨_, rfl, HE.out.at_, HB.out⟩
set_option maxHeartbeats 4000000 in
theorem dwaiting_rep (h : DRep w base g s L La) : Calls Try.prog 11 #[.pointer (some ⟨g, 0, none⟩)] w (GivesI w (s.W.map (·.1))) := by
  have HD := Lib.hid h
  have hmany := h.wait.many
  have hfew := h.core.few
  have c2 := h.core.c2
  obtain ⟨n, HN⟩ : ∃ n, Hid (n = s.W.length) := ⟨_, rfl⟩
  rw [← HN.out] at hmany c2
  clear h
  go_enter Try.func11, Try.ntmps11
  go_wp2_with fail
  clear c2
  go_loopw [3, 13] (fun t3 t13 wr => ∃ (k c3 : Nat) (A3 : Option Addr) (us : List Int), t13 = .int .i64 k ∧ k ≤ n ∧ t3 = .slice A3 k c3 ∧ Hid (us = (s.W.take k).map Prod.fst) ∧ Hid (intK.Row wr w.heap.size A3 k c3 us) ∧ Hid (Below w.heap.size w wr)) (fun _ t13 _ => n - (intOf t13).toNat)
  case atStart => exact ⟨0, 0, none, [], rfl, Nat.zero_le _, rfl, rfl, Kind.Row.none_, Below.refl _ _⟩
  case round =>
    obtain ⟨k, c3, A3, us, rfl, hk, rfl, HU, HR, HB⟩ := hrel
    have D := HD.out.wait.since HB.out
    by_cases hlt : k < n
    · obtain ⟨ad, A1, n1, q1, e1, e2, e3, e4, e5, e6⟩ := D.wait (k := k) (by rw [← HN.out]; exact hlt)
      obtain ⟨hi0, hi1⟩ := HD.out.wait.ins k (by rw [← HN.out]; exact hlt)
      have HNX := Lib.hid (map_next (W := s.W) (k := k) (by rw [← HN.out]; exact hlt))
      obtain ⟨p, HP⟩ : ∃ p, Hid (p = (waitAt s.W k).1) := ⟨_, rfl⟩
      rw [← HP.out] at e3 HNX hi0 hi1
      have HWF : intK.wf p := by show _ ∧ _; omega
      have i0 : (0 : Int) ≤ (k : Int) := by omega
      have i1 : (k : Int) < (n : Int) := by omega
      have L1 := later_alloc wr (.cells #[.int .i64 p, .slice A1 n1 q1] 74)
      have S1 := below_chain HB.out L1
      have Q1 := HR.out.since L1
      obtain ⟨A9, c9, W9, hr9, ho9, hg9⟩ := Kind.append_one_b (K := intK) S1.size Q1 p HWF #[.int .i64 p] rfl (by omega)
      rw [show (wr.alloc (.cells #[.int .i64 p, .slice A1 n1 q1] 74)).heap.size = wr.heap.size + 1 by simp] at hr9
      have R9 := Lib.hid hr9
      have Q9 := Lib.hid ho9
      have S9 : Hid (Below w.heap.size w W9) := S1.grown hg9 S1.size (fun b hb => (Q1.row.lt b hb).1)
      have HU9 : Hid (us ++ [p] = (s.W.take (k + 1)).map Prod.fst) := by show _ = _; rw [HNX.out, HU.out]
      obtain ⟨LW, HLW⟩ : ∃ LW, Hid (L.AW = LW) := ⟨_, rfl⟩
      rw [HLW.out] at e1
      subst e1
      have HSL : Hid (L.AW = some ad) := HLW.out
      clear hr9 ho9 hg9 D e5 e6 S1 Q1 L1 hi0 hi1 HWF HLW
      rw [HSL.out]
      go_wp2_with (at_builtin; refine wpList_append_run rfl (.tmp 17) (.tmp 20) 22 rfl rfl rfl R9.out ?_)
      go_roundw
      case rel => exact ⟨k + 1, c9, A9, us ++ [p], by go_num, by omega, rfl, HU9, Q9, S9⟩
      case measure => simp [intOf]; omega
    · have HF : Hid (us = s.W.map Prod.fst) := by show _ = _; rw [HU.out, List.take_of_length_le (by have := HN.out; omega)]
      clear D
      go_wp2_with fail
      go_ret
      exact ⟨_, _, _, rfl, HR.out.same HF.out, HB⟩
end
end Go.Proofs.Ytfhfjfgajbgdcaa
