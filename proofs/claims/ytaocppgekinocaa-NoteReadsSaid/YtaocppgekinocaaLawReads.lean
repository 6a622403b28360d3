/- NoteReads answers true, for all bytes. Conditions: the slice's cells. -/
import Derived.Test.YtaocppgekinocaaRefRead
import Derived.Test.YtaocppgekinocaaLawTells
set_option linter.unusedVariables false
set_option linter.unusedSimpArgs false
namespace Go.Proofs.Ytaocppgekinocaa
open Go.RowKit Go.Sort

/- what the two Reads answer, in one form -/
def notesL (bs : List Nat) : List V := (readR bs).getD []
def codeR (bs : List Nat) : Nat := match readR bs with | none => 3 | some _ => 0
theorem read_uni (A : Option Addr) (n c : Nat) (bs : List Nat) (w : World) (hn : n ≤ 900) (hc : n ≤ c) (hA : Bytes w w.heap.size A n bs) :
    Calls Try.prog 23 #[.slice A n c] w fun e w' => ∃ A' n' c' v, e = .returned (.tuple #[.slice A' n' c', v]) ∧ Hid (OwnN w' w.heap.size A' n' c' (notesL bs)) ∧ Hid (ErrIs (codeR bs) w' v) ∧ Hid (Below w.heap.size w w') := by
  refine (read_any A n c bs w hn hc hA).mono ?_
  unfold notesL codeR
  rcases h : readR bs with _ | vs
  · rintro e w' ⟨v, rfl, hw, hb⟩
    exact ⟨none, 0, 0, v, rfl, OwnN.none_, Or.inr ⟨(by show 1 ≤ 3; omega), (show Wrong ((3 : Nat) : Int) w' v from hw.out)⟩, hb⟩
  · rintro e w' ⟨A', n', c', rfl, ho, hb⟩
    exact ⟨A', n', c', .nilIface, rfl, ho, Or.inl ⟨rfl, rfl⟩, hb⟩
theorem refread_uni (A : Option Addr) (n c : Nat) (bs : List Nat) (w : World) (hn : n ≤ 300) (hc : n ≤ c) (hA : Bytes w w.heap.size A n bs) :
    Calls Try.prog 24 #[.slice A n c] w fun e w' => ∃ A' n' c', e = .returned (.tuple #[.slice A' n' c', .int .i64 ((codeR bs : Nat) : Int)]) ∧ Hid (OwnN w' w.heap.size A' n' c' (notesL bs)) ∧ Hid (Below w.heap.size w w') := by
  refine (refread_any A n c bs w hn hc hA).mono ?_
  unfold notesL codeR
  rcases h : readR bs with _ | vs
  · rintro e w' ⟨rfl, hb⟩
    exact ⟨none, 0, 0, rfl, OwnN.none_, hb⟩
  · rintro e w' ⟨A', n', c', rfl, ho, hb⟩
    exact ⟨A', n', c', rfl, ho, hb⟩
theorem notesL_len {bs : List Nat} (hb : ∀ b ∈ bs, b < 256) : (notesL bs).length ≤ 85 := by
  unfold notesL
  rcases h : readR bs with _ | vs
  · simp
  · exact (readR_some hb h).2.2.2
set_option maxHeartbeats 8000000 in
theorem reads_law (A : Option Addr) (n c : Nat) (bs : List Nat) (w : World) (hn : n ≤ 9223372036854775807) (hc : n ≤ c) (hA : Bytes w w.heap.size A n bs) :
    Calls Try.prog 4 #[.slice A n c] w (SaysB w true) := by
  by_cases hgt : 300 < n
  · go_enter Try.func4, Try.ntmps4
    go_wp2_with fail
    refine (awake_any _).mono ?_
    rintro e W1 ⟨rfl, hb⟩
    go_wp2_with fail
    go_ret
    exact ⟨rfl, hb⟩
  · have HA := Lib.hid hA
    have HL := Lib.hid hA.len
    have HSM := Lib.hid hA.small
    have hlen := notesL_len hA.lt256
    obtain ⟨vs, HVS⟩ : ∃ vs, Hid (notesL bs = vs) := ⟨_, rfl⟩
    obtain ⟨cd, HCD⟩ : ∃ cd, Hid (codeR bs = cd) := ⟨_, rfl⟩
    have HVL : Hid (vs.length ≤ 85) := by rw [← HVS.out]; exact hlen
    clear hA hlen
    go_enter Try.func4, Try.ntmps4
    go_wp2_with fail
    refine (lend_any A n c bs _ (by omega) HA.out).mono ?_
    rintro e W1 ⟨rfl, hL⟩
    have LE := Lib.hid hL
    have LB := Lib.hid (hL.bytes hL.lt HL.out HSM.out)
    clear hL
    go_wp2_with fail
    refine (read_uni (some ⟨w.heap.size, 0, none⟩) n (n + 3) bs _ (by omega) (by omega) LB.out).mono ?_
    rw [HVS.out, HCD.out]
    rintro e W2 ⟨A2, n2, c2, v2, rfl, HO2, HE2, hb2⟩
    have LE2 := Lib.hid (LE.out.since hb2.out)
    have B2 := Lib.hid hb2.out
    clear hb2 LB
    go_wp2_with fail
    refine (refread_uni A n c bs _ (by omega) hc (HA.out.since LE2.out.below)).mono ?_
    rw [HVS.out, HCD.out]
    rintro e W3 ⟨A3, n3, c3, rfl, HO3, hb3⟩
    have LE3 := Lib.hid (LE2.out.since hb3.out)
    have B3 := Lib.hid (below_chain B2.out hb3.out)
    have O2 := Lib.hid (HO2.out.since hb3.out)
    have E2 := Lib.hid (HE2.out.since hb3.out)
    obtain rfl : n3 = n2 := by rw [← HO3.out.len, ← O2.out.len]
    have hn2 : n3 ≤ 85 := by rw [← O2.out.len]; exact HVL.out
    clear hb3 HO2 HE2 LE2 B2
    go_wp2_with fail
    refine (samenotes_since A2 A3 n3 c2 c3 vs _ (by omega) O2.out.notes HO3.out.notes).mono ?_
    rintro e W4 ⟨rfl, hb4⟩
    have B4 := Lib.hid (below_chain B3.out hb4.out)
    have O4 := Lib.hid (O2.out.since hb4.out)
    have E4 := Lib.hid (E2.out.since hb4.out)
    clear B3 O2 E2 HO3 LE3 hb4
    go_wp2_with fail
    refine (num_is E4.out).mono ?_
    rintro e W5 ⟨rfl, hw5⟩
    subst hw5
    clear E4
    go_wp2_with fail
    refine (overnotes_any A2 n3 c2 W1.heap.size vs _ (by omega) B4.out.size O4.out).mono ?_
    rintro e W6 ⟨rfl, hg6⟩
    have B6 := Lib.hid (B4.out.trans (O4.out.elsewhere hg6 (Nat.le_refl _) B4.out.size))
    have LE6 := Lib.hid (LE.out.since B6.out)
    have S6 := Lib.hid LE6.out.below
    clear hg6 O4 B4
    go_wp2_with fail
    refine (kept_since A n c bs w _ (by omega) LE6.out HL.out HSM.out (HA.out.since S6.out)).mono ?_
    rintro e W7 ⟨rfl, hb7⟩
    have S7 := Lib.hid (below_chain S6.out hb7)
    clear hb7
    go_wp2_with fail
    refine (awake_any _).mono ?_
    rintro e W8 ⟨rfl, hb8⟩
    have S8 := Lib.hid (below_chain S7.out hb8.out)
    go_wp2_with fail
    go_ret
    exact ⟨rfl, S8⟩
end Go.Proofs.Ytaocppgekinocaa
