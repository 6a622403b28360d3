/- NoteTells answers true, for all notes and sizes. Conditions: the notes' cells. -/
import Derived.Test.YtaocppgekinocaaRefNote
import Derived.Test.YtaocppgekinocaaNoteAwake
import Derived.Test.YtaocppgekinocaaNoteLend
import Derived.Lib.QuietBelow
import Derived.BigQuiet
set_option linter.unusedVariables false
set_option linter.unusedSimpArgs false
namespace Go.Proofs.Ytaocppgekinocaa
open Go.RowKit Go.Sort

theorem fits_some (ns : List Nt.N) (s : Int) : ∃ k, Nt.Fits s ns k := by
  have gen : ∀ k, k ≤ ns.length → (k = ns.length ∨ s < (Nt.sz ns (k + 1) : Int)) → ∃ m, Nt.Fits s ns m := by
    intro k
    induction k with
    | zero => intro h0 h1; exact ⟨0, h0, Or.inl rfl, h1⟩
    | succ k ih =>
      intro h0 h1
      by_cases h : (Nt.sz ns (k + 1) : Int) ≤ s
      · exact ⟨k + 1, h0, Or.inr h, h1⟩
      · exact ih (by omega) (Or.inr (by omega))
  exact gen ns.length (Nat.le_refl _) (Or.inl rfl)
theorem fit_some (x : Int) (vs : List V) : ∃ k, FitM x vs k := by
  rcases h : allB vs
  · exact ⟨0, fun e => (by rw [h] at e; cases e), fun _ => rfl⟩
  · obtain ⟨k, hk⟩ := fits_some (vs.map toN) x
    exact ⟨k, fun _ => hk, fun e => by rw [h] at e; cases e⟩
/- what the two Lays answer, in one form -/
def pageL (x : Int) (vs : List V) : List Nat := match layR x vs with | .inl _ => [] | .inr ps => ps
def codeL (x : Int) (vs : List V) : Nat := match layR x vs with | .inl k => k | .inr _ => 0
def ErrIs (k : Nat) (w : World) (v : Value) : Prop := (k = 0 ∧ v = .nilIface) ∨ (1 ≤ k ∧ Wrong (k : Int) w v)
theorem ErrIs.since {k : Nat} {w w' : World} {v : Value} (h : ErrIs k w v) (hb : Below w.heap.size w w') : ErrIs k w' v := by
  rcases h with h | ⟨h1, h2⟩
  · exact Or.inl h
  · exact Or.inr ⟨h1, h2.since hb⟩
theorem num_is {k : Nat} {w : World} {v : Value} (h : ErrIs k w v) : Calls Try.prog 13 #[v] w fun e w' => e = .returned (.int .i64 (k : Int)) ∧ w = w' := by
  rcases h with ⟨rfl, rfl⟩ | ⟨h1, h2⟩
  · exact num_nil w
  · exact num_wrong (k : Int) (by omega) v w h2
theorem layR_code {x : Int} {vs : List V} {k : Nat} (h : layR x vs = .inl k) : 1 ≤ k := by
  unfold layR at h
  split at h
  · split at h
    · cases h
    · injection h with h; omega
  · injection h with h; omega
theorem layR_len {x : Int} {vs : List V} {ps : List Nat} (h : layR x vs = .inr ps) : ps.length ≤ 256 := by
  unfold layR at h
  split at h
  · rename_i hc
    split at h
    · rename_i hf
      injection h with h
      subst h
      have hp : 128 ≤ x ∧ x ≤ 256 := of_decide_eq_true hc.1
      rw [Nt.page_len (by show (encL vs).length ≤ _; omega)]; omega
    · cases h
  · cases h
theorem pageL_len (x : Int) (vs : List V) : (pageL x vs).length ≤ 256 := by
  unfold pageL
  rcases h : layR x vs with k | ps
  · simp
  · exact layR_len h
theorem lay_uni (A : Option Addr) (n c : Nat) (x : Int) (vs : List V) (w : World) (hn : n ≤ 100) (hA : Notes w w.heap.size A n vs) :
    Calls Try.prog 10 #[.int .i64 x, .slice A n c] w fun e w' => ∃ A' n' c' v, e = .returned (.tuple #[.slice A' n' c', v]) ∧ Hid (Own w' w.heap.size A' n' c' (pageL x vs)) ∧ Hid (ErrIs (codeL x vs) w' v) ∧ Hid (Below w.heap.size w w') := by
  refine (lay_any A n c x vs w hn hA).mono ?_
  unfold pageL codeL
  rcases h : layR x vs with k | ps
  · rintro e w' ⟨v, rfl, hw, hb⟩
    exact ⟨none, 0, 0, v, rfl, Own.none_, Or.inr ⟨layR_code h, hw.out⟩, hb⟩
  · rintro e w' ⟨A', n', c', rfl, ho, hb⟩
    exact ⟨A', n', c', .nilIface, rfl, ho, Or.inl ⟨rfl, rfl⟩, hb⟩
theorem reflay_uni (A : Option Addr) (n c : Nat) (x : Int) (vs : List V) (w : World) (hn : n ≤ 100) (hA : Notes w w.heap.size A n vs) :
    Calls Try.prog 11 #[.int .i64 x, .slice A n c] w fun e w' => ∃ A' n' c', e = .returned (.tuple #[.slice A' n' c', .int .i64 ((codeL x vs : Nat) : Int)]) ∧ Hid (Own w' w.heap.size A' n' c' (pageL x vs)) ∧ Hid (Below w.heap.size w w') := by
  refine (reflay_any A n c x vs w hn hA).mono ?_
  unfold pageL codeL
  rcases h : layR x vs with k | ps
  · rintro e w' ⟨rfl, hb⟩
    exact ⟨none, 0, 0, rfl, Own.none_, hb⟩
  · rintro e w' ⟨A', n', c', rfl, ho, hb⟩
    exact ⟨A', n', c', rfl, ho, hb⟩
/- calls in worlds behind W -/
theorem regrown_says {P : Program} {f : FuncId} {args : Array Value} {W : World} {d : Nat} {os : Array Obj} {b : Bool} (h : Calls P f args (grow (redrawn W d) os) (SaysB (grow (redrawn W d) os) b)) :
    Calls P f args (grow (redrawn W d) os) fun e w'' => e = .returned (.bool b) ∧ ∃ p : Regrown, w'' = grow (redrawn W p.d) p.os := Calls.regrown_of (h.mono fun e w' h => ⟨h.1, h.2.out⟩)
theorem regrown_fitN {P : Program} {f : FuncId} {args : Array Value} {W : World} {d : Nat} {os : Array Obj} {x : Int} {vs : List V} {k : Nat} (hk : FitM x vs k) (h : Calls P f args (grow (redrawn W d) os) (GivesN (grow (redrawn W d) os) (FitM x vs))) :
    Calls P f args (grow (redrawn W d) os) fun e w'' => e = .returned (.int .i64 (k : Int)) ∧ ∃ p : Regrown, w'' = grow (redrawn W p.d) p.os := Calls.regrown_of (h.mono fun e w' ⟨m, he, hm, hb⟩ => ⟨by rw [he, hm.out.one hk], hb.out⟩)
set_option maxHeartbeats 8000000 in
theorem tells_law (A : Option Addr) (n c : Nat) (vs : List V) (x : Int) (w : World) (hn : n ≤ 9223372036854775807) (hc : n ≤ c) (hA : Notes w w.heap.size A n vs) :
    Calls Try.prog 3 #[.slice A n c, .int .i64 x] w (SaysB w true) := by
  by_cases hgt : 60 < n
  · go_enter Try.func3, Try.ntmps3
    go_wp2_with fail
    refine (awake_any _).mono ?_
    rintro e W1 ⟨rfl, hb⟩
    go_wp2_with fail
    go_ret
    exact ⟨rfl, hb⟩
  · have HA := Lib.hid hA
    have HL := Lib.hid hA.len
    have HWF := Lib.hid hA.all
    have HC := Lib.hid hc
    obtain ⟨ps, HPS⟩ : ∃ ps, Hid (pageL x vs = ps) := ⟨_, rfl⟩
    obtain ⟨cd, HCD⟩ : ∃ cd, Hid (codeL x vs = cd) := ⟨_, rfl⟩
    have HPL : Hid (ps.length ≤ 256) := by rw [← HPS.out]; exact pageL_len x vs
    obtain ⟨k0, hk0⟩ := fit_some x vs
    have HK0 := Lib.hid hk0
    obtain ⟨z0, HZ0⟩ : ∃ z0 : Nat, Hid (sizeM vs = z0) := ⟨_, rfl⟩
    have h60 : n ≤ 60 := by omega
    clear hA hk0
    go_enter Try.func3, Try.ntmps3
    go_wp2_with fail
    refine (lendnotes_any A n c vs _ (by omega) HA.out).mono ?_
    rintro e W1 ⟨rfl, hL⟩
    have LE := Lib.hid hL
    have HLT : Hid (w.heap.size < W1.heap.size) := hL.lt
    clear hL
    go_wp2_with fail
    refine (lay_uni (some ⟨w.heap.size, 0, none⟩) n (n + 3) x vs _ (by omega) (LE.out.notes HL.out HWF.out)).mono ?_
    rw [HPS.out, HCD.out]
    rintro e W2 ⟨A2, n2, c2, v2, rfl, HO2, HE2, hb2⟩
    have LE2 := Lib.hid (LE.out.since hb2.out)
    have B2 := Lib.hid hb2.out
    clear hb2
    go_wp2_with fail
    refine (reflay_uni A n c x vs _ (by omega) (HA.out.since LE2.out.below)).mono ?_
    rw [HPS.out, HCD.out]
    rintro e W3 ⟨A3, n3, c3, rfl, HO3, hb3⟩
    have LE3 := Lib.hid (LE2.out.since hb3.out)
    have B3 := Lib.hid (below_chain B2.out hb3.out)
    have O2 := Lib.hid (HO2.out.since hb3.out)
    have E2 := Lib.hid (HE2.out.since hb3.out)
    have S3 := Lib.hid LE3.out.below
    have N3 := Lib.hid (LE3.out.notes HL.out HWF.out)
    have M3 := Lib.hid (HA.out.since S3.out)
    obtain rfl : n3 = n2 := by rw [← HO3.out.len, ← O2.out.len]
    have hn2 : n3 ≤ 256 := by rw [← O2.out.len]; exact HPL.out
    clear hb3 HO2 HE2 LE2 B2
    have c1 := Lib.hid fun (d : Nat) (os : Array Obj) => Calls.regrown_of (same_since A2 A3 n3 c2 c3 ps (grow (redrawn W3 d) os) (by omega) (O2.out.bytes.since (below_regrown W3 d os)) (HO3.out.bytes.since (below_regrown W3 d os)))
    have c2' := Lib.hid fun (d : Nat) (os : Array Obj) => Calls.regrown_of ((num_is (E2.out.since (below_regrown W3 d os))).mono fun e w' h => ⟨h.1, h.2 ▸ Below.refl _ _⟩)
    have c3' := Lib.hid fun (d : Nat) (os : Array Obj) => Calls.regrown_of ((size_any (some ⟨w.heap.size, 0, none⟩) n (n + 3) vs (grow (redrawn W3 d) os) (by omega) (N3.out.since (below_regrown W3 d os))).mono fun e w' h => ⟨h.1, h.2.out⟩)
    have c4' := Lib.hid fun (d : Nat) (os : Array Obj) => Calls.regrown_of ((refsize_any A n c vs (grow (redrawn W3 d) os) (by omega) (M3.out.since (below_regrown W3 d os))).mono fun e w' h => ⟨h.1, h.2.out⟩)
    rw [HZ0.out] at c3' c4'
    have c5' := Lib.hid fun (d : Nat) (os : Array Obj) => regrown_fitN HK0.out (fit_any (some ⟨w.heap.size, 0, none⟩) n (n + 3) x vs (grow (redrawn W3 d) os) (by omega) (N3.out.since (below_regrown W3 d os)))
    have c6' := Lib.hid fun (d : Nat) (os : Array Obj) => regrown_fitN HK0.out (reffit_any A n c x vs (grow (redrawn W3 d) os) (by omega) hc (M3.out.since (below_regrown W3 d os)))
    obtain ⟨v0, HV0⟩ : ∃ v0, Hid (v0 = vs.getD 0 V.zero) := ⟨_, rfl⟩
    obtain ⟨b0, HB0⟩ : ∃ b0, Hid (okB v0 = b0) := ⟨_, rfl⟩
    have c7' := Lib.hid fun (d : Nat) (os : Array Obj) => regrown_says (may_any v0 (grow (redrawn W3 d) os))
    have c8' := Lib.hid fun (d : Nat) (os : Array Obj) => regrown_says (refmay_any v0 (grow (redrawn W3 d) os))
    rw [HB0.out] at c7' c8'
    rcases Nat.eq_zero_or_pos n with h0 | h0
    · subst h0
      go_wp2_with fail
      refine wp_region_quiet_below (by kernel_rfl) (by kernel_rfl) ?_
      repeat (go_big_quiet_step (first | (go_at_call 12; exact c1.out _ _) | (go_at_call 13; exact c2'.out _ _) | (go_at_call 14; exact c3'.out _ _) | (go_at_call 15; exact c4'.out _ _) | (go_at_call 16; exact c5'.out _ _) | (go_at_call 17; exact c6'.out _ _)))
      refine wpQuiet_nil ?_
      intro W4 hw'
      obtain ⟨⟨dq, osq⟩, hw''⟩ := hw'
      have T4 : Hid (Below W3.heap.size W3 W4) := by rw [hw'']; exact below_regrown W3 dq osq
      have O4 := Lib.hid (O2.out.since T4.out)
      have B4 := Lib.hid (below_chain B3.out T4.out)
      clear hw'' c1 c2' c3' c4' c5' c6' c7' c8' O2 B3 HO3 E2 N3 M3
      go_wp2_with fail
      refine (over_any A2 n3 c2 W1.heap.size ps _ (by omega) B4.out.size O4.out).mono ?_
      rintro e W5 ⟨rfl, hg5⟩
      have B5 := Lib.hid (B4.out.trans (O4.out.elsewhere hg5 (Nat.le_refl _) B4.out.size))
      have LE5 := Lib.hid (LE.out.since B5.out)
      have S5 := Lib.hid LE5.out.below
      clear hg5 O4 B4 T4
      go_wp2_with fail
      refine (keptnotes_any A 0 c vs w _ (by omega) LE5.out HL.out HWF.out (HA.out.since S5.out)).mono ?_
      rintro e W6 ⟨rfl, hb6⟩
      have S6 := Lib.hid (below_chain S5.out hb6.out)
      go_wp2_with fail
      refine (awake_any _).mono ?_
      rintro e W7 ⟨rfl, hb7⟩
      have S7 := Lib.hid (below_chain S6.out hb7.out)
      go_wp2_with fail
      go_ret
      exact ⟨rfl, S7⟩
    · obtain ⟨ad, had, hblk, hat⟩ := M3.out.each 0 h0
      subst had
      rw [Nat.zero_mul, add_none, ← HV0.out] at hat
      obtain ⟨q0, q1, q2, q3, q4⟩ := hat
      have i0 := cell_regrown q0
      have i1 := cell_regrown q1
      have i2 := cell_regrown q2
      have i3 := cell_regrown q3
      have i4 := cell_regrown q4
      have bz : ((n : Int) == 0) = false := by simp; omega
      clear q0 q1 q2 q3 q4
      go_wp2_with fail
      refine wp_region_quiet_below (by kernel_rfl) (by kernel_rfl) ?_
      repeat (go_big_quiet_step (first | (go_at_call 12; exact c1.out _ _) | (go_at_call 13; exact c2'.out _ _) | (go_at_call 14; exact c3'.out _ _) | (go_at_call 15; exact c4'.out _ _) | (go_at_call 16; exact c5'.out _ _) | (go_at_call 17; exact c6'.out _ _) | (go_at_call 18; exact c7'.out _ _) | (go_at_call 19; exact c8'.out _ _)))
      refine wpQuiet_nil ?_
      intro W4 hw'
      obtain ⟨⟨dq, osq⟩, hw''⟩ := hw'
      have T4 : Hid (Below W3.heap.size W3 W4) := by rw [hw'']; exact below_regrown W3 dq osq
      have O4 := Lib.hid (O2.out.since T4.out)
      have B4 := Lib.hid (below_chain B3.out T4.out)
      clear hw'' c1 c2' c3' c4' c5' c6' c7' c8' i0 i1 i2 i3 i4 O2 B3 HO3 E2 N3 M3
      go_wp2_with fail
      refine (over_any A2 n3 c2 W1.heap.size ps _ (by omega) B4.out.size O4.out).mono ?_
      rintro e W5 ⟨rfl, hg5⟩
      have B5 := Lib.hid (B4.out.trans (O4.out.elsewhere hg5 (Nat.le_refl _) B4.out.size))
      have LE5 := Lib.hid (LE.out.since B5.out)
      have S5 := Lib.hid LE5.out.below
      clear hg5 O4 B4 T4
      go_wp2_with fail
      refine (keptnotes_any (some ad) n c vs w _ (by omega) LE5.out HL.out HWF.out (HA.out.since S5.out)).mono ?_
      rintro e W6 ⟨rfl, hb6⟩
      have S6 := Lib.hid (below_chain S5.out hb6.out)
      go_wp2_with fail
      refine (awake_any _).mono ?_
      rintro e W7 ⟨rfl, hb7⟩
      have S7 := Lib.hid (below_chain S6.out hb7.out)
      go_wp2_with fail
      go_ret
      exact ⟨rfl, S7⟩
end Go.Proofs.Ytaocppgekinocaa
