/- What the takes of plain orders and replies do, as mathematics. No conditions. The statements' own awake: true. No conditions. -/
import Derived.Test.YtfidamiomnohcaaIdKA
import Derived.Test.YtfidamiomnohcaaFill
set_option linter.unusedVariables false
set_option linter.unusedSimpArgs false
set_option maxRecDepth 20000
namespace Go.Proofs.Ytfidamiomnohcaa
section
open Go.RowKit

def dirT (bs : List Nat) : Th := ⟨2, thB bs⟩
def clnT (bs : List Nat) : Th := ⟨1, thB bs⟩
theorem with_one (t : Th) (h : t.k ≠ 1) : withT [] [t] = [t] := by
  show stepT [] t = [t]
  unfold stepT
  rw [if_neg h]
  rfl
theorem with_clean (bs : List Nat) : withT [] [clnT bs] = [Th.zero, clnT bs] := by
  show stepT [] (clnT bs) = _
  unfold stepT
  rw [if_pos (show (clnT bs).k = 1 from rfl)]
  show insT [clnT bs] Th.zero = _
  have n1 : ¬ ltT (clnT bs) Th.zero := by
    rintro (h | ⟨h, _⟩)
    · exact absurd h (by show ¬ (1 : Int) < 0; decide)
    · exact absurd h (by show ¬ (1 : Int) = 0; decide)
  have n2 : ¬ clnT bs = Th.zero := fun h => absurd (congrArg Th.k h) (by show ¬ (1 : Int) = 0; decide)
  rw [insT_cons, if_neg n1, if_neg n2]
section
variable (s : IS) (a : Int) (bs : List Nat)
theorem take_dirty (h : (bs.length : Int) = s.size) : takeT s 1 a bs 0 1 0 [] false 0 = (putS s a [dirT bs], true) := by
  have hm : mayT s.size 1 bs.length 0 = true := by unfold mayT; rw [h]; simp
  have ha : ansT 1 0 ([] : List Nat).length false 0 = true := by decide
  have hb : behindT 1 bs (s.f a) 1 0 [] false = ([dirT bs], true) := by
    show (madeT 1 bs (s.f a), true) = _
    rw [show madeT 1 bs (s.f a) = withT [] [dirT bs] from rfl, with_one _ (by show ¬ (2 : Int) = 1; decide)]
  unfold takeT
  rw [ha, hm, hb]
  rfl
theorem take_fill (h : (bs.length : Int) = s.size) : takeT s 2 a bs 0 1 0 [] false 0 = (putS s a [Th.zero, clnT bs], true) := by
  have hm : mayT s.size 2 bs.length 0 = true := by unfold mayT; rw [h]; simp
  have ha : ansT 1 0 ([] : List Nat).length false 0 = true := by decide
  have hb : behindT 2 bs (s.f a) 1 0 [] false = ([Th.zero, clnT bs], true) := by
    show (madeT 2 bs (s.f a), true) = _
    rw [show madeT 2 bs (s.f a) = withT [] [clnT bs] from rfl, with_clean]
  unfold takeT
  rw [ha, hm, hb]
  rfl
theorem take_dark (h : (bs.length : Int) = s.size) : takeT s 1 a bs 0 4 4 [] false 0 = (putS s a (withT (s.f a) [dirT bs]), true) := by
  have hm : mayT s.size 1 bs.length 0 = true := by unfold mayT; rw [h]; simp
  have ha : ansT 4 4 ([] : List Nat).length false 0 = true := by decide
  have hb : behindT 1 bs (s.f a) 4 4 [] false = (withT (s.f a) [dirT bs], true) := by
    show (withT (s.f a) (madeT 1 bs (s.f a)), true) = _
    rw [show madeT 1 bs (s.f a) = withT [] [dirT bs] from rfl, with_one _ (by show ¬ (2 : Int) = 1; decide)]
  unfold takeT
  rw [ha, hm, hb]
  rfl
theorem take_read (d : Bool) : takeT s 3 a [] 0 2 0 bs d 0 = (if isT (s.f a) (readT d bs) then putS s a (withT [] [readT d bs]) else s, isT (s.f a) (readT d bs)) := by
  have hm : mayT s.size 3 ([] : List Nat).length 0 = true := by unfold mayT; simp
  have ha : ansT 2 0 bs.length d 0 = true := by unfold ansT; simp
  have hb : behindT 3 [] (s.f a) 2 0 bs d = (withT [] [readT d bs], isT (s.f a) (readT d bs)) := rfl
  unfold takeT
  rw [ha, hm, hb]
  rfl
theorem take_none : takeT s 3 a [] 0 4 8 [] false 0 = (if isNo (s.f a) then putS s a [Th.zero] else s, isNo (s.f a)) := by
  have hm : mayT s.size 3 ([] : List Nat).length 0 = true := by unfold mayT; simp
  have ha : ansT 4 8 ([] : List Nat).length false 0 = true := by decide
  have hb : behindT 3 [] (s.f a) 4 8 [] false = ([Th.zero], isNo (s.f a)) := by
    show ([Th.zero], (true && isNo (s.f a))) = _
    rw [Bool.true_and]
  unfold takeT
  rw [ha, hm, hb]
  rfl
theorem take_clean : takeT s 5 a [] 0 1 0 [] false 0 = (if isBlk (s.f a) then putS s a (cleanedT (s.f a)) else s, isBlk (s.f a)) := by
  have hm : mayT s.size 5 ([] : List Nat).length 0 = true := by unfold mayT; simp
  have ha : ansT 1 0 ([] : List Nat).length false 0 = true := by decide
  have hb : behindT 5 [] (s.f a) 1 0 [] false = (cleanedT (s.f a), isBlk (s.f a)) := by
    show (madeT 5 [] (s.f a), (false || isBlk (s.f a))) = _
    rw [Bool.false_or]; rfl
  unfold takeT
  rw [ha, hm, hb]
  rfl
theorem can_read (was : List Th) (d : Bool) : canT was 2 0 bs d 0 = isT was (readT d bs) := by
  unfold canT
  rw [show ansT 2 0 bs.length d 0 = true by unfold ansT; simp]
  rfl
theorem can_none (was : List Th) : canT was 4 8 [] false 0 = isNo was := by
  unfold canT
  rw [show ansT 4 8 ([] : List Nat).length false 0 = true by decide]
  show (true && (true && isNo was)) = _
  simp
end
theorem isT_one (t u : Th) : isT [t] u = decide (u = t) := by
  rw [Bool.eq_iff_iff, isT_iff (srt_one t), decide_eq_true_iff, List.mem_singleton]
theorem dir_ne_zero (bs : List Nat) : dirT bs ≠ Th.zero := fun h => absurd (congrArg Th.k h) (by show ¬ (2 : Int) = 0; decide)
theorem put_self (s : IS) (a : Int) (l : List Th) : (putS s a l).f a = l := upd_self ..
theorem put_size (s : IS) (a : Int) (l : List Th) : (putS s a l).size = s.size := rfl
/-- The statements' own first script. -/
structure Awk (D : List Nat) (s1 s2 s4 : IS) : Prop where
  t1 : takeT (newS 128) 3 0 [] 0 4 8 [] false 0 = (s1, true)
  t2 : takeT s1 1 1 D 0 1 0 [] false 0 = (s2, true)
  t3 : takeT s2 3 1 [] 0 4 8 [] false 0 = (s2, false)
  t4 : takeT s2 3 1 [] 0 2 0 D true 0 = (s4, true)
  k1 : s1.ks.length = 0
  k2 : s2.ks.length = 1
  k4 : s4.ks.length = 1
  l1 : ∀ a, (s1.f a).length ≤ 400
  l2 : ∀ a, (s2.f a).length ≤ 400
  z4 : s4.size = 128
theorem awk_math (D : List Nat) (hD : D.length = 128) : ∃ s1 s2 s4, Awk D s1 s2 s4 := by
  have e2 : ((newS 128).f 0) = [Th.zero] := rfl
  have len1 : ∀ (s : IS) (a : Int) (t : Th), (∀ y, (s.f y).length ≤ 400) → ∀ y, ((putS s a [t]).f y).length ≤ 400 := fun s a t h y => by
    show (upd s.f a [t] y).length ≤ 400
    by_cases e : y = a
    · subst e; rw [upd_self]; show 1 ≤ 400; decide
    · rw [upd_ne _ _ e]; exact h y
  have l0 : ∀ y, ((newS 128).f y).length ≤ 400 := fun y => by show 1 ≤ 400; decide
  have l1 := len1 (newS 128) 0 Th.zero l0
  have hno : isNo [Th.zero] = true := by decide
  have hnd : isNo [dirT D] = false := rfl
  have hbd : isBlk [dirT D] = true := rfl
  refine ⟨putS (newS 128) 0 [Th.zero], putS (putS (newS 128) 0 [Th.zero]) 1 [dirT D], putS (putS (putS (newS 128) 0 [Th.zero]) 1 [dirT D]) 1 [dirT D], ?_, ?_, ?_, ?_, rfl, rfl, rfl, l1, len1 _ _ _ l1, rfl⟩
  · rw [take_none, e2, hno]; rfl
  · exact take_dirty _ _ _ (by rw [hD]; rfl)
  · rw [take_none, put_self, hnd]; rfl
  · rw [take_read, put_self, show readT true D = dirT D from rfl, isT_one, decide_eq_true rfl, with_one _ (by show ¬ (2 : Int) = 1; decide)]
    rfl
theorem new_yes18 (size : Int) (h1 : 128 ≤ size) (h2 : size ≤ 256) (w : World) : Calls Try.prog 10 #[.int .i64 size] w fun e w' => ∃ o fp, e = .returned (.pointer (some ⟨o, 0, none⟩)) ∧ Hid (IdAt w' w.heap.size fp o (newS size)) ∧ Hid (Below w.heap.size w w') := by
  refine (new_any size w).mono ?_
  rintro e w' (⟨_, _, x⟩ | ⟨h, _⟩)
  · exact x
  · exact absurd ⟨h1, h2⟩ h
theorem new_no18 (size : Int) (h : ¬ (128 ≤ size ∧ size ≤ 256)) (w : World) : Calls Try.prog 10 #[.int .i64 size] w fun e w' => e = .returned (.pointer none) ∧ w' = w := by
  refine (new_any size w).mono ?_
  rintro e w' (⟨h1, h2, _⟩ | ⟨_, x⟩)
  · exact absurd ⟨h1, h2⟩ h
  · exact x
theorem take_at {w : World} {base o : Nat} {fp : Nat → Prop} {s : IS} (h : IdAt w base fp o s) (x : Om) (y : Rm) (bs rbs : List Nat) (p : IS × Bool) (ht : takeT s x.k x.a bs x.m y.k y.e rbs y.d y.zn = p) (hu : U64 x.a) (hb : Bytes w w.heap.size x.A x.n bs) (hr : Bytes w w.heap.size y.A y.n rbs) (hlen : (s.f x.a).length ≤ 400) (hks : s.ks.length ≤ 900) (hne : (x.k == 6 && y.k == 3) = false) :
    Calls Try.prog 18 #[.pointer (some ⟨o, 0, none⟩), ordV x, repV y] w (TakeOut w base fp o p) := by
  obtain ⟨L, hL⟩ := h
  rw [← ht]
  exact take_other hL x y bs rbs hu hb hr hlen hks hne
theorem can_at {w : World} {base o : Nat} {fp : Nat → Prop} {s : IS} (h : IdAt w base fp o s) (a : Int) (y : Rm) (rbs : List Nat) (b : Bool) (hc : canT (s.f a) y.k y.e rbs y.d y.zn = b) (hu : U64 a) (hr : Bytes w w.heap.size y.A y.n rbs) (hlen : (s.f a).length ≤ 400) :
    Calls Try.prog 15 #[.pointer (some ⟨o, 0, none⟩), .int .u64 a, repV y] w fun e w' => e = .returned (.bool b) ∧ Below w.heap.size w w' := by
  obtain ⟨L, hL⟩ := h
  rw [← hc]
  exact can_any hL a y rbs hu hr hlen
theorem may_at {w : World} {base o : Nat} {fp : Nat → Prop} {s : IS} (h : IdAt w base fp o s) (x : Om) (b : Bool) (hm : mayT s.size x.k x.n x.m = b) : Calls Try.prog 16 #[.pointer (some ⟨o, 0, none⟩), ordV x] w fun e w' => e = .returned (.bool b) ∧ Below w.heap.size w w' := by
  obtain ⟨L, hL⟩ := h
  rw [← hm]
  exact may_any hL x
theorem addrs_at {w : World} {base o : Nat} {fp : Nat → Prop} {s : IS} (h : IdAt w base fp o s) (hk : s.ks.length ≤ 12) : Calls Try.prog 21 #[.pointer (some ⟨o, 0, none⟩)] w (GivesW w s.ks) := by
  obtain ⟨L, hL⟩ := h
  exact addrs_any (sort_to pdq12 (by decide)) (by decide) hL hk
end

section
open Go.RowKit

theorem u64_0 : U64 0 := ⟨by decide, by decide⟩
theorem u64_1 : U64 1 := ⟨by decide, by decide⟩
set_option maxHeartbeats 8000000 in
theorem awake18_with (D : List Nat) (s1 s2 s4 : IS) (w : World) (HD : Hid (fillL 3 128 = D)) (HL : Hid (D.length = 128)) (HA : Hid (Awk D s1 s2 s4)) : Calls Try.prog 9 #[] w (SaysB w true) := by
  go_enter Try.func9, Try.ntmps9
  go_wp2_with fail
  refine (new_yes18 128 (by decide) (by decide) w).mono ?_
  rintro e W0 ⟨o, fp, rfl, hI, hB⟩
  have S0 := Lib.hid hB.out
  have I0 := Lib.hid hI.out
  clear hI hB
  go_wp2_with fail
  refine (take_at I0.out ⟨3, 0, none, 0, 0, 0⟩ ⟨4, 8, none, 0, 0, false, none, 0, 0⟩ [] [] _ HA.out.t1 u64_0 Bytes.none_ Bytes.none_ (by show 1 ≤ 400; decide) (by show 0 ≤ 900; decide) rfl).mono ?_
  rintro e W1 ⟨rfl, fp1, hI, hM⟩
  have S1 := Lib.hid (hM.out.below S0.out I0.out.ge S0.out.size)
  have I1 := Lib.hid hI.out
  clear hI hM S0 I0
  go_wp2_with fail
  refine (fill_any 3 128 W1 (by decide)).mono ?_
  rw [HD.out]
  rintro e W2 ⟨A2, n2, c2, rfl, hO, hB⟩
  obtain rfl : 128 = n2 := by rw [← hO.len, HL.out]
  have S2 := Lib.hid (below_chain S1.out hB)
  have I2 := Lib.hid (I1.out.since hB)
  have O2 := Lib.hid hO.bytes
  clear hO hB S1 I1
  go_wp2_with fail
  refine (take_at I2.out ⟨1, 1, A2, 128, c2, 0⟩ ⟨1, 0, none, 0, 0, false, none, 0, 0⟩ D [] _ HA.out.t2 u64_1 O2.out Bytes.none_ (HA.out.l1 _) (by rw [HA.out.k1]; decide) rfl).mono ?_
  rintro e W3 ⟨rfl, fp3, hI, hM⟩
  have S3 := Lib.hid (hM.out.below S2.out I2.out.ge S2.out.size)
  have I3 := Lib.hid hI.out
  clear hI hM S2 I2 O2
  go_wp2_with fail
  refine (take_at I3.out ⟨3, 1, none, 0, 0, 0⟩ ⟨4, 8, none, 0, 0, false, none, 0, 0⟩ [] [] _ HA.out.t3 u64_1 Bytes.none_ Bytes.none_ (HA.out.l2 _) (by rw [HA.out.k2]; decide) rfl).mono ?_
  rintro e W4 ⟨rfl, fp4, hI, hM⟩
  have S4 := Lib.hid (hM.out.below S3.out I3.out.ge S3.out.size)
  have I4 := Lib.hid hI.out
  clear hI hM S3 I3
  go_wp2_with fail
  refine (fill_any 3 128 W4 (by decide)).mono ?_
  rw [HD.out]
  rintro e W5 ⟨A5, n5, c5, rfl, hO, hB⟩
  obtain rfl : 128 = n5 := by rw [← hO.len, HL.out]
  have S5 := Lib.hid (below_chain S4.out hB)
  have I5 := Lib.hid (I4.out.since hB)
  have O5 := Lib.hid hO.bytes
  clear hO hB S4 I4
  go_wp2_with fail
  refine (take_at I5.out ⟨3, 1, none, 0, 0, 0⟩ ⟨2, 0, A5, 128, c5, true, none, 0, 0⟩ [] D _ HA.out.t4 u64_1 Bytes.none_ O5.out (HA.out.l2 _) (by rw [HA.out.k2]; decide) rfl).mono ?_
  rintro e W6 ⟨rfl, fp6, hI, hM⟩
  have S6 := Lib.hid (hM.out.below S5.out I5.out.ge S5.out.size)
  have I6 := Lib.hid hI.out
  clear hI hM S5 I5 O5
  go_wp2_with fail
  refine (may_at I6.out ⟨4, 0, none, 0, 0, 0⟩ true (by rw [HA.out.z4]; decide)).mono ?_
  rintro e W7 ⟨rfl, hB⟩
  have S7 := Lib.hid (below_chain S6.out hB)
  have I7 := Lib.hid (I6.out.since hB)
  clear hB S6 I6
  go_wp2_with fail
  refine (may_at I7.out ⟨0, 0, none, 0, 0, 0⟩ false (by rw [HA.out.z4]; decide)).mono ?_
  rintro e W8 ⟨rfl, hB⟩
  have S8 := Lib.hid (below_chain S7.out hB)
  have I8 := Lib.hid (I7.out.since hB)
  clear hB S7 I7
  go_wp2_with fail
  refine (addrs_at I8.out (by rw [HA.out.k4]; decide)).mono ?_
  rintro e W9 ⟨A9, n9, c9, rfl, hR, hB⟩
  obtain rfl : 1 = n9 := by rw [← hR.out.len, HA.out.k4]
  have S9 := Lib.hid (below_chain S8.out hB.out)
  clear hR hB S8 I8
  go_wp2_with fail
  refine (new_no18 1 (by decide) W9).mono ?_
  rintro e W10 ⟨rfl, rfl⟩
  go_wp2_with fail
  go_ret
  exact ⟨rfl, S9⟩
theorem awake18_any (w : World) : Calls Try.prog 9 #[] w (SaysB w true) := by
  obtain ⟨s1, s2, s4, h⟩ := awk_math (fillL 3 128) (fillL_len _ _)
  exact awake18_with _ s1 s2 s4 w rfl (fillL_len _ _) h
end
end Go.Proofs.Ytfidamiomnohcaa
