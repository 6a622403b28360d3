/- The document's own disk: Crash. Conditions: the disk's blocks; what is kept lies elsewhere. -/
import Derived.Test.YtfhfjfgajbgdcaaRefDisk3
set_option linter.unusedVariables false
set_option linter.unusedSimpArgs false
namespace Go.Proofs.Ytfhfjfgajbgdcaa
open Go.RowKit

def keepB (keep : List Bool) (k : Nat) : Bool := decide (0 < keep.length) && keep.getD (k % keep.length) false
/-- What lasts of the first k writes, and how many. -/
def crashS (keep : List Bool) (W : List (Int × List Nat)) (F : List (List Nat)) : Nat → List (List Nat) × Nat
  | 0 => (F, 0)
  | k + 1 => if keepB keep k then ((crashS keep W F k).1.set (waitAt W k).1.toNat (waitAt W k).2, (crashS keep W F k).2 + 1) else crashS keep W F k
def afterCrash (s : RD) (keep : List Bool) : RD := { s with F := (crashS keep s.W s.F s.W.length).1, W := [] }
def crashN (s : RD) (keep : List Bool) : Nat := (crashS keep s.W s.F s.W.length).2
theorem crashS_len (keep : List Bool) (W : List (Int × List Nat)) (F : List (List Nat)) : ∀ k, (crashS keep W F k).1.length = F.length
  | 0 => rfl
  | k + 1 => by
    unfold crashS
    split
    · rw [List.length_set]; exact crashS_len keep W F k
    · exact crashS_len keep W F k
theorem rowA_some {α : Type} {K : Kind α} {w : World} {base n c : Nat} {A : Option Addr} {vs : List α} (h : K.Row w base A n c vs) (hn : 0 < n) : ∃ b, A = some ⟨b, 0, none⟩ ∧ b < w.heap.size := by
  rcases h.row.2 with ⟨_, h0⟩ | ⟨g, cap, cur, hv, hbg, hg, _⟩
  · omega
  · injection hv with e1 e2 e3
    exact ⟨g, e1, (Array.getElem?_eq_some_iff.1 hg).1⟩
/-- What Crash leaves. -/
def Crashed (w : World) (base g : Nat) (s : RD) (L : RL) (keep : List Bool) (e : Ending) (w' : World) : Prop := e = .returned (.int .i64 (crashN s keep)) ∧ (∃ L', Hid (RDisk w' base g (afterCrash s keep) L') ∧ Hid (∀ fp : Nat → Prop, L.In fp → L'.In fp)) ∧ Hid (Turn (fun b => b = g ∨ b ∈ blk L.AF) w w')
set_option maxHeartbeats 16000000 in
set_option maxRecDepth 20000 in
theorem refcrash_any (AK : Option Addr) (nk ck : Nat) (keep : List Bool) (g base : Nat) (s : RD) (L : RL) (w : World) (hD : RDisk w base g s L) (hnk : nk ≤ 9223372036854775807) (hK : boolK.Lie w w.heap.size AK nk keep) (hKf : 0 < nk → ∀ b ∈ blk AK, b ≠ g ∧ b ∉ blk L.AF) :
    Calls Try.prog 32 #[.pointer (some ⟨g, 0, none⟩), .slice AK nk ck] w (Crashed w base g s L keep) := by
  have HD := Lib.hid hD
  have HK := Lib.hid hK
  have HKF := Lib.hid hKf
  have hmany := hD.many
  obtain ⟨n, HN⟩ : ∃ n, Hid (n = s.W.length) := ⟨_, rfl⟩
  rw [← HN.out] at hmany
  have D0 : Hid (RDisk w base g { s with F := (crashS keep s.W s.F 0).1 } { L with vF := L.vF }) := hD
  clear hD hK hKf
  go_enter Try.func32, Try.ntmps32
  go_wp2_with fail
  go_loopw [5, 6] (fun t5 t6 wr => ∃ (k m : Nat) (vF : List SV), t6 = .int .i64 k ∧ k ≤ n ∧ t5 = .int .i64 m ∧ m ≤ k ∧ Hid (m = (crashS keep s.W s.F k).2) ∧ Hid (RDisk wr base g { s with F := (crashS keep s.W s.F k).1 } { L with vF := vF }) ∧ Hid (∀ v ∈ vF, v ∈ L.vF ∨ ∃ u ∈ L.vW, v = u.s) ∧ Hid (Turn (fun b => b = g ∨ b ∈ blk L.AF) w wr)) (fun _ t6 _ => n - (intOf t6).toNat)
  case atStart => exact ⟨0, 0, L.vF, rfl, Nat.zero_le _, rfl, Nat.le_refl _, rfl, D0, fun v hv => Or.inl hv, Turn.refl _ _⟩
  case round =>
    obtain ⟨k, m, vF, rfl, hk, rfl, hm, HM, HR, HV, HT⟩ := hrel
    obtain ⟨d0, d1, d2, d3⟩ := HR.out.cells
    dsimp only at d0 d1 d2 d3
    rw [← HN.out] at d1
    by_cases hlt : k < n
    · have i0 : (0 : Int) ≤ (k : Int) := by omega
      have i1 : (k : Int) < (n : Int) := by omega
      have HKK : Hid (boolK.Lie wr wr.heap.size AK nk keep) := Lie.at_block HK.out HT.out.size fun h0 b hb hlt => HT.out.block b hlt fun h => by
        rcases h with h | h
        · exact (HKF.out h0 b hb).1 h
        · exact (HKF.out h0 b hb).2 h
      obtain ⟨ad, A1, n1, q1, e1, e2, e3, e4, e5, e6⟩ := HR.out.wait' (k := k) (by show k < s.W.length; rw [← HN.out]; exact hlt)
      dsimp only at e1 e3 e5 e6
      have E6 := Lib.hid e6
      clear e6
      obtain ⟨p0, p1⟩ := HR.out.ins k (by show k < s.W.length; rw [← HN.out]; exact hlt)
      dsimp only at p0 p1
      have p0' : 0 ≤ (waitAt s.W k).1 := p0
      have hz := HR.out.sizew k
      dsimp only at hz
      obtain ⟨q, HQ⟩ : ∃ q : Nat, (waitAt s.W k).1 = (q : Int) := ⟨(waitAt s.W k).1.toNat, by omega⟩
      have hqF : q < (crashS keep s.W s.F k).1.length := by have : (waitAt s.W k).1 < _ := p1; omega
      have hfw := HR.out.few
      dsimp only at hfw
      obtain ⟨nF, HNF⟩ : ∃ nF, Hid (nF = (crashS keep s.W s.F k).1.length) := ⟨_, rfl⟩
      rw [← HNF.out] at hqF hfw d0
      obtain ⟨bF, eF, hbF⟩ := rowA_some HR.out.f (by show 0 < (crashS keep s.W s.F k).1.length; rw [← HNF.out]; omega)
      dsimp only at eF
      rw [show (s.W.getD k (0, [])).1 = (q : Int) from HQ] at e3
      have HST := Lib.hid (HR.out.set_f (bF := bF) eF (k := q) (by show q < (crashS keep s.W s.F k).1.length; rw [← HNF.out]; exact hqF) (v := ⟨A1, n1, q1⟩) e5 hz)
      dsimp only at HST
      have TST : Hid (Turn (fun b => b = g ∨ b ∈ blk L.AF) w (wr.setCell ⟨bF, q, none⟩ (.slice A1 n1 q1))) := HT.out.trans (Turn.of_setCell (fp := fun b => b = g ∨ b ∈ blk L.AF) ⟨bF, q, none⟩ _ (Or.inr (by rw [eF]; simp [blk]))) fun b hb => Or.inl hb
      have hff : wr.frozen? ⟨bF, q, none⟩ = false := by
        have := HR.out.f
        dsimp only at this
        rw [eF] at this
        exact this.row.frozenAt q
      obtain ⟨adF, A4, n4, q4, f1, f2, f3, f4⟩ := HR.out.sector (k := q) (by show q < (crashS keep s.W s.F k).1.length; rw [← HNF.out]; exact hqF)
      dsimp only at f1
      rw [eF] at f1
      obtain rfl := Option.some.inj f1
      rw [add_zero_addr] at f3
      rw [eF] at d0
      rw [e1] at d1
      have j0 : (0 : Int) ≤ (q : Int) := by omega
      have j1 : (q : Int) < (nF : Int) := by omega
      have HCR : Hid (keepB keep k = true → (crashS keep s.W s.F (k + 1)).1 = (crashS keep s.W s.F k).1.set q (waitAt s.W k).2 ∧ (crashS keep s.W s.F (k + 1)).2 = (crashS keep s.W s.F k).2 + 1) := fun h => by
        rw [crashS, if_pos h]
        dsimp only
        rw [HQ, Int.toNat_natCast]
        exact ⟨rfl, rfl⟩
      have HCN : Hid (keepB keep k = false → crashS keep s.W s.F (k + 1) = crashS keep s.W s.F k) := fun h => by
        rw [crashS, h]; rfl
      have HKL : Hid (keep.length = nk) := HK.out.len
      clear e5 hz p0 p1 f4 e2 f2
      by_cases hk0 : 0 < nk
      · obtain ⟨r, hr, HRM⟩ : ∃ r : Nat, r < nk ∧ Hid ((k : Int) % (nk : Int) = (r : Int)) := ⟨k % nk, Nat.mod_lt _ hk0, (Int.natCast_emod k nk).symm⟩
        obtain ⟨adK, x1, x2, x3⟩ := HKK.out.each r hr
        have x4 := boolK_at (b := keep.getD r false) x3
        rw [show r * boolK.k = r from Nat.mul_one r] at x4
        subst x1
        have HKB : Hid (keepB keep k = keep.getD r false) := by
          show _ = _
          unfold keepB
          have e : r = k % nk := by have := HRM.out; omega
          rw [HKL.out, ← e, decide_eq_true hk0, Bool.true_and]
        have r0 : (0 : Int) ≤ (r : Int) := by omega
        have r1 : (r : Int) < (nk : Int) := by omega
        have nk0 : (0 : Int) < (nk : Int) := by omega
        have nkz : ((nk : Int) == 0) = false := by simp; omega
        clear x3
        rcases hb : keep.getD r false with _ | _
        · rw [hb] at x4 HKB
          have HEQ := Lib.hid (HCN.out HKB.out)
          have HM2 : Hid (m = (crashS keep s.W s.F (k + 1)).2) := by show _ = _; rw [HEQ.out]; exact HM.out
          have HR2 : Hid (RDisk wr base g { s with F := (crashS keep s.W s.F (k + 1)).1 } { L with vF := vF }) := by rw [HEQ.out]; exact HR.out
          clear hb
          go_wp2_with (simp only [HRM.out])
          go_roundw
          case rel => exact ⟨k + 1, m, vF, by go_num, by omega, rfl, by omega, HM2, HR2, HV, HT⟩
          case measure => simp [intOf]; omega
        · rw [hb] at x4 HKB
          obtain ⟨h1, h2⟩ := HCR.out HKB.out
          have HM2 : Hid (m + 1 = (crashS keep s.W s.F (k + 1)).2) := by show _ = _; rw [h2, HM.out]
          have HR2 : Hid (RDisk (wr.setCell ⟨bF, q, none⟩ (.slice A1 n1 q1)) base g { s with F := (crashS keep s.W s.F (k + 1)).1 } { L with vF := vF.set q ⟨A1, n1, q1⟩ }) := by rw [h1]; exact HST.out
          obtain ⟨W9, HW9⟩ : ∃ W9, Hid (W9 = wr.setCell ⟨bF, q, none⟩ (.slice A1 n1 q1)) := ⟨_, rfl⟩
          clear hb h1 h2
          go_wp2_with (simp only [HRM.out])
          go_region
          rw [← HW9.out] at HR2 TST ⊢
          have HV3 : Hid (∀ v ∈ vF.set q ⟨A1, n1, q1⟩, v ∈ L.vF ∨ ∃ u ∈ L.vW, v = u.s) := fun v hv => by
            rcases List.mem_or_eq_of_mem_set hv with h | h
            · exact HV.out v h
            · exact Or.inr (by rw [h]; exact E6.out)
          have HR3 := Lib.hid (HR2.out.since ((Below.refl W9.heap.size W9).drew))
          have TS3 : Hid (Turn (fun b => b = g ∨ b ∈ blk L.AF) w W9.drew) := TST.out.trans (Turn.of_below (fp := fun _ => False) ((Below.refl W9.heap.size W9).drew)) fun b hb => hb.elim
          go_wp2_with fail
          go_roundw
          case rel => exact ⟨k + 1, m + 1, vF.set q ⟨A1, n1, q1⟩, by go_num, by omega, by go_num, by omega, HM2, HR3, HV3, TS3⟩
          case measure => simp [intOf]; omega
      · have hkz : nk = 0 := by omega
        have HKB : Hid (keepB keep k = false) := by
          show _ = _
          unfold keepB
          rw [HKL.out, hkz]; rfl
        have HEQ := Lib.hid (HCN.out HKB.out)
        have HM2 : Hid (m = (crashS keep s.W s.F (k + 1)).2) := by show _ = _; rw [HEQ.out]; exact HM.out
        have HR2 : Hid (RDisk wr base g { s with F := (crashS keep s.W s.F (k + 1)).1 } { L with vF := vF }) := by rw [HEQ.out]; exact HR.out
        have hnk0 : ¬ (0 : Int) < (nk : Int) := by omega
        go_wp2_with fail
        go_roundw
        case rel => exact ⟨k + 1, m, vF, by go_num, by omega, rfl, by omega, HM2, HR2, HV, HT⟩
        case measure => simp [intOf]; omega
    · have hkn : k = n := by omega
      subst hkn
      have f1 := HR.out.free 1
      have hend := HR.out.set_w (A := none) (c := 0) (vW := []) (W' := []) Kind.Row.none_ (fun i hi => absurd hi (Nat.not_lt_zero i)) (by show 0 ≤ 1000; omega) (fun i => by simp) (fun i hi => absurd hi (Nat.not_lt_zero i))
      have HEND : Hid (RDisk (wr.setCell ⟨g, 1, none⟩ (.slice none 0 0)) base g (afterCrash s keep) { L with vF := vF, AW := none, cW := 0, vW := [] }) := by
        show RDisk _ _ _ _ _
        unfold afterCrash
        rw [← HN.out]
        exact hend
      have TEND : Hid (Turn (fun b => b = g ∨ b ∈ blk L.AF) w (wr.setCell ⟨g, 1, none⟩ (.slice none 0 0))) := HT.out.trans (Turn.of_setCell (fp := fun b => b = g ∨ b ∈ blk L.AF) ⟨g, 1, none⟩ _ (Or.inl rfl)) fun b hb => Or.inl hb
      have HCNT : Hid (crashN s keep = m) := by show _ = _; unfold crashN; rw [← HN.out]; exact HM.out.symm
      clear hend
      go_wp2_with fail
      go_ret
      exact ⟨by rw [HCNT.out]; rfl, ⟨_, HEND, fun fp h => ⟨h.f, fun v hv b hb => by
        rcases HV.out v hv with h1 | ⟨u, h1, rfl⟩
        · exact h.vf v h1 b hb
        · exact h.vw u h1 b hb, fun b hb => (by cases hb), fun v hv => (by cases hv), h.b⟩⟩, TEND⟩
end Go.Proofs.Ytfhfjfgajbgdcaa
