/- The contracts of note.Fit, mayBePage, Lay. Conditions: the slices' cells; at most 100 notes. -/
import Derived.Test.YtaocppgekinocaaNoteLay
import Derived.Test.YtaocppgekinocaaWrong
set_option linter.unusedVariables false
set_option linter.unusedSimpArgs false
namespace Go.Proofs.Ytaocppgekinocaa
open Go.RowKit

/-- What Fit answers. -/
def FitM (x : Int) (vs : List V) (k : Nat) : Prop := (allB vs = true → Nt.Fits x (vs.map toN) k) ∧ (allB vs = false → k = 0)
theorem FitM.le {x : Int} {vs : List V} {k : Nat} (h : FitM x vs k) : k ≤ vs.length := by
  rcases e : allB vs
  · rw [h.2 e]; exact Nat.zero_le _
  · have := (h.1 e).1; rwa [List.length_map] at this
theorem FitM.one {x : Int} {vs : List V} {k m : Nat} (h : FitM x vs k) (g : FitM x vs m) : k = m := by
  rcases e : allB vs
  · rw [h.2 e, g.2 e]
  · exact (h.1 e).one (g.1 e)
theorem szL {vs : List V} {k : Nat} (hk : k ≤ vs.length) : Nt.sz (vs.map toN) k = (Pk.put k).length + (flatL (vs.take k)).length := by
  unfold Nt.sz Nt.encs flatL
  rw [List.length_append, ← List.map_take, List.length_map, List.length_take, Nat.min_eq_left hk]
def GivesN (w : World) (Q : Nat → Prop) (e : Ending) (w' : World) : Prop := ∃ k : Nat, e = .returned (.int .i64 (k : Int)) ∧ Hid (Q k) ∧ Hid (Below w.heap.size w w')
set_option maxHeartbeats 2000000 in
theorem fit_any (A : Option Addr) (n c : Nat) (x : Int) (vs : List V) (w : World) (hn : n ≤ 100) (hA : Notes w w.heap.size A n vs) :
    Calls Try.prog 16 #[.int .i64 x, .slice A n c] w (GivesN w (FitM x vs)) := by
  have HA := Lib.hid hA
  have HL := Lib.hid hA.len
  clear hA
  go_enter Try.func16, Try.ntmps16
  go_wp2_with fail
  refine (mayall_any A n c vs _ (by omega) HA.out).mono ?_
  rcases hok : allB vs
  · rintro e W1 ⟨rfl, hb⟩
    have HF : Hid (FitM x vs 0) := ⟨fun h => (by rw [hok] at h; cases h), fun _ => rfl⟩
    go_wp2_with fail
    go_ret
    exact ⟨0, rfl, HF, hb⟩
  · rintro e W1 ⟨rfl, hb⟩
    have HA1 := Lib.hid (HA.out.since hb.out)
    have HOK := Lib.hid hok
    have HFL := Lib.hid (flatL_len hok HA.out.all)
    have HPU : Hid (∀ j, j ≤ 200 → (Pk.put j).length ≤ 10) := fun j hj => Pk.put_len10 (by omega)
    clear hok HA
    go_wp2_with fail
    go_loopw [5, 13] (fun t5 t13 wr => ∃ (k h : Nat), t13 = .int .i64 k ∧ k ≤ n ∧ t5 = .int .i64 h ∧ h ≤ 1900 ∧ Hid (h = (flatL (vs.take k)).length) ∧ Hid (k = 0 ∨ (Nt.sz (vs.map toN) k : Int) ≤ x) ∧ Hid (Below w.heap.size w wr) ∧ Hid (Below W1.heap.size W1 wr)) (fun _ t13 _ => n - (intOf t13).toNat)
    case atStart => exact ⟨0, 0, rfl, Nat.zero_le _, rfl, by omega, by show _ = _; simp [flatL, Nt.flat], Or.inl rfl, hb, Below.refl _ _⟩
    case round =>
      obtain ⟨k, h, rfl, hk, rfl, hh, HH, HS, HB, HB1⟩ := hrel
      by_cases hlt : k < n
      · obtain ⟨ad, hA, hblk, hat⟩ := (HA1.out.since HB1.out).each k hlt
        have hwf := HA1.out.wf k
        have hkk := allB_at HOK.out (k := k) (by have := HL.out; omega)
        subst hA
        have HU2 := Lib.hid (flatL_snoc (vs := vs) (k := k) (by have := HL.out; omega))
        obtain ⟨v, HV⟩ : ∃ v, Hid (v = vs.getD k V.zero) := ⟨_, rfl⟩
        rw [← HV.out] at hat hwf hkk HU2
        have HWF := Lib.hid hwf
        have HKK := Lib.hid hkk
        have i0 : (0 : Int) ≤ (k : Int) := by omega
        have i1 : (k : Int) < (n : Int) := by omega
        obtain ⟨c0, c1, c2, c3, c4⟩ := hat
        clear hwf hkk
        go_wp2_with fail
        refine (laidone_any v _ HKK.out HWF.out).mono ?_
        rintro e W4 ⟨A4, n4, c4, rfl, ho4, hb4⟩
        have S4 := Lib.hid (below_chain (since_alloc HB.out _) hb4)
        have S41 := Lib.hid (below_chain (since_alloc HB1.out _) hb4)
        have hl4 : n4 ≤ 19 := by rw [← ho4.len]; exact Nt.enc_len _ (toN_ok HKK.out HWF.out)
        have HN4 : Hid (n4 = (Nt.enc (toN v)).length) := ho4.len.symm
        have hc4 := ho4.cap
        clear ho4 hb4
        go_wp2_with fail
        refine (laidnumber_any ((k : Int) + 1) (k + 1) _ (by show _ = _; omega) (by omega) (by omega)).mono ?_
        rintro e W5 ⟨A5, n5, c5, rfl, ho5, hb5⟩
        have S5 := Lib.hid (below_chain S4.out hb5)
        have S51 := Lib.hid (below_chain S41.out hb5)
        have HN5 : Hid (n5 = (Pk.put (k + 1)).length) := ho5.len.symm
        have hl5 : n5 ≤ 10 := by rw [HN5.out]; exact HPU.out _ (by omega)
        have hc5 := ho5.cap
        have HSZ : Hid (Nt.sz (vs.map toN) (k + 1) = h + n4 + n5) := by
          show _ = _
          rw [szL (by have := HL.out; omega), HU2.out, List.length_append, HH.out, HN4.out, HN5.out]; omega
        clear ho5 hb5
        by_cases hgt : x < (h : Int) + n4 + n5
        · have HF : Hid (FitM x vs k) := ⟨fun _ => ⟨by rw [List.length_map, HL.out]; exact hk, HS.out, Or.inr (by rw [HSZ.out]; omega)⟩, fun e => by rw [HOK.out] at e; cases e⟩
          go_wp2_with fail
          go_ret
          exact ⟨k, rfl, HF, S5⟩
        · have HS2 : Hid (k + 1 = 0 ∨ (Nt.sz (vs.map toN) (k + 1) : Int) ≤ x) := Or.inr (by rw [HSZ.out]; omega)
          have HH2 : Hid (h + n4 = (flatL (vs.take (k + 1))).length) := by show _ = _; rw [HU2.out, List.length_append, HH.out, HN4.out]
          have hh2 : h + n4 ≤ 1900 := by rw [HH2.out]; have := HFL.out (k + 1); have := HL.out; omega
          go_wp2_with fail
          go_roundw
          case rel => exact ⟨k + 1, h + n4, by go_num, by omega, by go_num, hh2, HH2, HS2, S5, S51⟩
          case measure => simp [intOf]; omega
      · have HF : Hid (FitM x vs n) := ⟨fun _ => ⟨by rw [List.length_map, HL.out]; exact Nat.le_refl _, by rw [show n = k by omega]; exact HS.out, Or.inl (by rw [List.length_map, HL.out])⟩, fun e => by rw [HOK.out] at e; cases e⟩
        go_wp2_with fail
        go_ret
        exact ⟨n, rfl, HF, HB⟩
def pageB (x : Int) : Bool := decide (128 ≤ x ∧ x ≤ 256)
theorem pageB_yes {x : Int} (h0 : 128 ≤ x) (h1 : x ≤ 256) : pageB x = true := decide_eq_true ⟨h0, h1⟩
theorem pageB_no {x : Int} (h : ¬(128 ≤ x ∧ x ≤ 256)) : pageB x = false := decide_eq_false h
theorem maybepage_any (x : Int) (w : World) : Calls Try.prog 30 #[.int .i64 x] w fun e w' => e = .returned (.bool (pageB x)) ∧ w = w' := by
  by_cases h0 : 128 ≤ x
  · by_cases h1 : x ≤ 256
    · rw [pageB_yes h0 h1]
      go_enter Try.func30, Try.ntmps30
      go_wp2
      go_ret
      exact ⟨by simp, rfl⟩
    · rw [pageB_no (fun h => h1 h.2)]
      go_enter Try.func30, Try.ntmps30
      go_wp2
      go_ret
      exact ⟨by simp, rfl⟩
  · rw [pageB_no (fun h => h0 h.1)]
    go_enter Try.func30, Try.ntmps30
    go_wp2
    go_ret
    exact ⟨by simp, rfl⟩
end Go.Proofs.Ytaocppgekinocaa
