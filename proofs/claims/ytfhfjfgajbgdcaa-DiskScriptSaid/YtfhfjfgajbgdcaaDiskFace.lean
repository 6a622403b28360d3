/- The contracts of the landed disk, as the statements' walks take them. Conditions: the disk is one; fewer than 1000 writes wait. -/
import Derived.Test.YtfhfjfgajbgdcaaDiskNew
set_option linter.unusedVariables false
set_option linter.unusedSimpArgs false
namespace Go.Proofs.Ytfhfjfgajbgdcaa
open Go.RowKit

/-- What a call leaves that turns the disk, and answers an error. -/
def DLeads (w : World) (base : Nat) (fp : Nat → Prop) (g : Nat) (r : RD × Int) (e : Ending) (w' : World) : Prop :=
  ∃ v fp', e = .returned v ∧ ErrNew w fp' w' r.2 v ∧ DiskAt w' base fp' g r.1 ∧ Moves w fp w' fp'
def DCrash (w : World) (base : Nat) (fp : Nat → Prop) (g : Nat) (r : RD × Nat) (e : Ending) (w' : World) : Prop :=
  ∃ fp', e = .returned (.int .i64 (r.2 : Int)) ∧ DiskAt w' base fp' g r.1 ∧ Moves w fp w' fp'
section
variable {w : World} {base g : Nat} {fp : Nat → Prop} {s : RD}
theorem dwrite_any (x : Int) (A : Option Addr) (n c : Nat) (bs : List Nat) (hD : DiskAt w base fp g s) (hm : s.W.length < 1000) (hA : Bytes w w.heap.size A n bs) (hs : ∀ b ∈ blk A, ¬ fp b) (hn : n ≤ 900) :
    Calls Try.prog 20 #[.pointer (some ⟨g, 0, none⟩), .int .i64 x, .slice A n c] w (DLeads w base fp g (afterWrite s x bs, writeO s x bs.length)) := by
  obtain ⟨L, La, h1, h2⟩ := hD.ex
  have hbl := hA.len
  by_cases hq : writeO s x n = 0
  · have hx : ∃ k : Nat, x = (k : Int) ∧ k < s.F.length ∧ s.B.getD k false = false ∧ n = s.size := by
      unfold writeO at hq
      by_cases h0 : x < 0 ∨ (s.F.length : Int) ≤ x ∨ n ≠ s.size
      · rw [if_pos h0] at hq; cases hq
      · rw [if_neg h0] at hq
        refine ⟨x.toNat, by omega, by omega, ?_, by omega⟩
        cases e : s.B.getD x.toNat false with
        | false => rfl
        | true => rw [e] at hq; cases hq
    obtain ⟨k, rfl, hk, hb, hsz⟩ := hx
    refine (dwrite_ok k A n c bs h1 hk hb hsz hA hm).mono ?_
    rintro e w' ⟨rfl, ⟨L', La', h3, h4⟩, h5⟩
    obtain ⟨fp', h6, h7⟩ := disk_turned hD h3.out (h4.out fp h2) (h5.out.mono fun b hb => Or.inl (by
      rcases hb with rfl | rfl | hb
      · exact hD.own
      · exact h2.s
      · exact h2.w b hb))
    rw [hbl, hq, show afterWrite s (k : Int) bs = { s with W := s.W ++ [((k : Int), bs)] } by unfold afterWrite; rw [hbl, hq, if_pos rfl]]
    exact ⟨_, fp', rfl, ErrNew.none_, h6, h7⟩
  · refine (dwrite_bad x A n c h1 hD.lt (by omega) hq).mono ?_
    rintro e w' ⟨v, rfl, h3, h4⟩
    rw [hbl, show afterWrite s x bs = s by unfold afterWrite; rw [hbl, if_neg hq]]
    exact ⟨v, fp, rfl, h3, hD.since h4, Moves.of_below h4⟩
theorem dcrash_any (AK : Option Addr) (nk ck : Nat) (keep : List Bool) (hD : DiskAt w base fp g s) (hm : s.W.length ≤ 1000) (hn : nk ≤ 9223372036854775807) (hK : boolK.Lie w w.heap.size AK nk keep) (hKf : 0 < nk → ∀ b ∈ blk AK, ¬ fp b) :
    Calls Try.prog 24 #[.pointer (some ⟨g, 0, none⟩), .slice AK nk ck] w (DCrash w base fp g (afterCrash s keep, crashN s keep)) := by
  obtain ⟨L, La, h1, h2⟩ := hD.ex
  have C1 := Lib.hid (dsettle_any AK nk ck keep h1 hn hK fun h0 b hb => ⟨fun e => hKf h0 b hb (by rw [e]; exact hD.own), fun e => hKf h0 b hb (by rw [e]; exact h2.s)⟩)
  have HD := Lib.hid hD
  have H2 := Lib.hid h2
  clear hD h1 h2 hK hKf
  go_enter Try.func24, Try.ntmps24
  go_wp2_with fail
  refine C1.out.mono ?_
  rintro e w' ⟨rfl, ⟨L', La', h3, h4⟩, h5⟩
  go_wp2_with fail
  go_ret
  obtain ⟨fp', h6, h7⟩ := disk_turned HD.out h3.out ((h4.out fp H2.out).mono fun b hb => Or.inl hb) (h5.out.mono fun b hb => Or.inl (by
      rcases hb with rfl | rfl
      · exact HD.out.own
      · exact H2.out.s))
  exact ⟨fp', rfl, h6, h7⟩
theorem lie_true (W : World) : boolK.Lie (W.alloc (.cells #[.bool true] 4)) (W.alloc (.cells #[.bool true] 4)).heap.size (some ⟨W.heap.size, 0, none⟩) 1 [true] := Kind.new1 (K := boolK) W true trivial _ rfl
theorem dflush_any (hD : DiskAt w base fp g s) (hm : s.W.length ≤ 1000) :
    Calls Try.prog 22 #[.pointer (some ⟨g, 0, none⟩)] w (DLeads w base fp g (afterCrash s [true], 0)) := by
  have L1 := later_alloc w (.cells #[.bool true] 4)
  have hD1 := hD.since L1
  obtain ⟨L, La, h1, h2⟩ := hD1.ex
  have hng : ¬ fp w.heap.size := fun h => by have := hD.lt _ h; omega
  have C1 := Lib.hid (dsettle_any (some ⟨w.heap.size, 0, none⟩) 1 1 [true] h1 (by omega) (lie_true w) fun h0 b hb => by
    have e : b = w.heap.size := by simpa [blk] using hb
    exact ⟨fun e2 => hng (by rw [← e, e2]; exact hD.own), fun e2 => hng (by rw [← e, e2]; exact h2.s)⟩)
  have HD := Lib.hid hD1
  have H2 := Lib.hid h2
  have HL := Lib.hid L1
  clear hD hD1 h1 h2 hng L1
  go_enter Try.func22, Try.ntmps22
  go_wp2_with fail
  refine C1.out.mono ?_
  rintro e w' ⟨rfl, ⟨L', La', h3, h4⟩, h5⟩
  go_wp2_with fail
  go_ret
  obtain ⟨fp', h6, h7⟩ := disk_turned HD.out h3.out ((h4.out fp H2.out).mono fun b hb => Or.inl hb) (h5.out.mono fun b hb => Or.inl (by
      rcases hb with rfl | rfl
      · exact HD.out.own
      · exact H2.out.s))
  exact ⟨_, fp', rfl, ErrNew.none_, h6, (Moves.of_below HL.out).trans h7⟩
theorem dread_any (x : Int) (hD : DiskAt w base fp g s) : Calls Try.prog 23 #[.pointer (some ⟨g, 0, none⟩), .int .i64 x] w (DReads w fp (readO s x)) := by
  obtain ⟨L, La, h1, h2⟩ := hD.ex
  exact dread_rep x h1 hD.lt
theorem dfirm_any (x : Int) (hD : DiskAt w base fp g s) : Calls Try.prog 12 #[.pointer (some ⟨g, 0, none⟩), .int .i64 x] w (DReads w fp (firmO s x)) := by
  obtain ⟨L, La, h1, h2⟩ := hD.ex
  exact dfirm_rep x h1 hD.lt
theorem dwaiting_any (hD : DiskAt w base fp g s) : Calls Try.prog 11 #[.pointer (some ⟨g, 0, none⟩)] w (GivesI w (s.W.map (·.1))) := by
  obtain ⟨L, La, h1, h2⟩ := hD.ex
  exact dwaiting_rep h1
theorem dsectors_any (hD : DiskAt w base fp g s) : Calls Try.prog 18 #[.pointer (some ⟨g, 0, none⟩)] w fun e w' => e = .returned (.int .i64 (s.F.length : Int)) ∧ Hid (Below w.heap.size w w') := by
  obtain ⟨L, La, h1, h2⟩ := hD.ex
  exact (dsectors_rep h1).mono fun e w' h => ⟨h.1, h.2 ▸ Below.refl _ _⟩
theorem dsize_any (hD : DiskAt w base fp g s) : Calls Try.prog 26 #[.pointer (some ⟨g, 0, none⟩)] w fun e w' => e = .returned (.int .i64 (s.size : Int)) ∧ Hid (Below w.heap.size w w') := by
  obtain ⟨L, La, h1, h2⟩ := hD.ex
  exact (dsize_rep h1).mono fun e w' h => ⟨h.1, h.2 ▸ Below.refl _ _⟩
theorem dflush_nil : Calls Try.prog 22 #[.pointer none] w fun e w' => ∃ v, e = .returned v ∧ ErrAt (fun b => b < w.heap.size) w' 1 v ∧ Below w.heap.size w w' := by
  have C1 := fun st => Lib.hid (dwrong_new st 1 (by omega) w (fun b => b < w.heap.size) fun b h => h)
  go_enter Try.func22, Try.ntmps22
  go_wp2_with fail
  refine (C1 _).out.mono ?_
  rintro e W2 ⟨v, rfl, HE, HB⟩
  have HE := Lib.hid HE
  have HB := Lib.hid HB
  go_wp2_with fail
  go_ret
  exact ⟨_, rfl, HE.out.at_, HB.out⟩
theorem dcrash_nil : Calls Try.prog 24 #[.pointer none, .slice none 0 0] w fun e w' => e = .returned (.int .i64 0) ∧ Hid (Below w.heap.size w w') := by
  go_enter Try.func24, Try.ntmps24
  go_wp2_with fail
  go_ret
  exact ⟨rfl, Below.refl _ _⟩
end
end Go.Proofs.Ytfhfjfgajbgdcaa
