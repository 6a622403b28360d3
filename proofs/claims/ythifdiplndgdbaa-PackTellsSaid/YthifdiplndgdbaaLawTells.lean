/- PackTells answers true, for all bytes, numbers and counts. Conditions: the slice's cells. -/
import Derived.Test.YthifdiplndgdbaaRefGet
import Derived.Test.YthifdiplndgdbaaAwakePack
import Derived.Test.YthifdiplndgdbaaOver
set_option linter.unusedVariables false
set_option linter.unusedSimpArgs false
namespace Go.Proofs.Ythifdiplndgdbaa
open Go.RowKit

def valO (o : Option (Nat × List Nat)) : Nat := (o.map (·.1)).getD 0
def restO (o : Option (Nat × List Nat)) : List Nat := (o.map (·.2)).getD []
/-- What Get and Unfix leave, in one form. -/
theorem got_form {w w' : World} {o : Option (Nat × List Nat)} {e : Ending} (h : Got w o e w') :
    ∃ (y : Int) (A : Option Addr) (c : Nat), e = .returned (.tuple #[.int .u64 y, .slice A (restO o).length c, .bool o.isSome]) ∧ Hid (y = ((valO o : Nat) : Int)) ∧ (restO o).length ≤ 900 ∧ Hid (Own w' w.heap.size A (restO o).length c (restO o)) ∧ Hid (Below w.heap.size w w') := by
  cases o with
  | none =>
    obtain ⟨rfl, hb⟩ := h
    exact ⟨0, none, 0, rfl, rfl, by simp [restO], Own.none_, hb⟩
  | some p =>
    obtain ⟨v, r⟩ := p
    obtain ⟨y, A, n, c, rfl, hy, _, _, hn, ho, hb⟩ := h
    obtain rfl : r.length = n := ho.out.len
    exact ⟨y, A, c, rfl, hy, hn, ho, hb⟩
set_option maxHeartbeats 8000000 in
theorem tells_short (A : Option Addr) (n c : Nat) (bs : List Nat) (x m : Int) (v : Nat) (w : World) (hl : ¬ 40 < n) (hc : n ≤ c) (h0 : 0 ≤ x) (h1 : x ≤ 18446744073709551615) (HX : Hid (x = (v : Int)))
    (hm0 : -9223372036854775808 ≤ m) (hm1 : m ≤ 9223372036854775807) (hA : Bytes w w.heap.size A n bs) :
    Calls Try.prog 3 #[.slice A n c, .int .u64 x, .int .i64 m] w fun e w' => e = .returned (.bool true) ∧ Below w.heap.size w w' := by
  have HA := Lib.hid hA
  have HC := Lib.hid hc
  have HM := Lib.hid (And.intro hm0 hm1)
  have HP10 : Hid ((bs ++ Pk.put v).length ≤ 60) := by
    have := HX.out
    have := Pk.put_len10 (v := v) (by omega)
    show _ ≤ _
    rw [List.length_append, HA.out.len]; omega
  have HF8 : Hid ((bs ++ Pk.fix v (fixMany m)).length ≤ 60) := by
    have : fixMany m ≤ 8 := by unfold fixMany; split <;> omega
    show _ ≤ _
    rw [List.length_append, HA.out.len, Pk.fix_len]; omega
  obtain ⟨o1, HO1⟩ : ∃ o, Hid (o = Pk.get 0 0 bs) := ⟨_, rfl⟩
  obtain ⟨o2, HO2⟩ : ∃ o, Hid (o = unfixO bs n m) := ⟨_, rfl⟩
  obtain ⟨b1, HB1⟩ : ∃ b, Hid (b = o1.isSome) := ⟨_, rfl⟩
  obtain ⟨b2, HB2⟩ : ∃ b, Hid (b = o2.isSome) := ⟨_, rfl⟩
  obtain ⟨px, HPX⟩ : ∃ p, Hid (p = bs ++ Pk.put v) := ⟨_, rfl⟩
  obtain ⟨py, HPY⟩ : ∃ p, Hid (p = bs ++ Pk.fix v (fixMany m)) := ⟨_, rfl⟩
  obtain ⟨k1, HK1⟩ : ∃ k, Hid (k = (restO o1).length) := ⟨_, rfl⟩
  obtain ⟨k2, HK2⟩ : ∃ k, Hid (k = (restO o2).length) := ⟨_, rfl⟩
  rw [← HPX.out] at HP10
  rw [← HPY.out] at HF8
  clear hA hc hm0 hm1
  go_enter Try.func3, Try.ntmps3
  go_wp2_with fail
  refine (lend_any A n c bs _ (by omega) HA.out).mono ?_
  rintro e W1 ⟨rfl, hL⟩
  have L1 := Lib.hid hL
  clear hL
  go_wp2_with fail
  refine (put_any _ n (n + 3) bs x v _ h0 h1 HX (by omega) (L1.out.bytes L1.out.lt HA.out.len HA.out.small)).mono ?_
  rw [← HPX.out]
  rintro e W2 ⟨Ax, nx, cx, rfl, hox, hb2⟩
  have OX2 := Lib.hid hox
  have hnx : nx ≤ 60 := by rw [← OX2.out.len]; exact HP10.out
  have S2 := Lib.hid hb2
  have L2 := Lib.hid (L1.out.since hb2)
  clear hox hb2
  go_wp2_with fail
  refine (fix_any _ n (n + 3) bs x m v _ h0 h1 HX (by omega) (L2.out.bytes L2.out.lt HA.out.len HA.out.small)).mono ?_
  rw [← HPY.out]
  rintro e W3 ⟨Ay, ny, cy, rfl, hoy, hb3⟩
  have OY3 := Lib.hid hoy
  have hny : ny ≤ 60 := by rw [← OY3.out.len]; exact HF8.out
  have S3 := Lib.hid (below_chain S2.out hb3)
  have T3 := Lib.hid hb3
  have L3 := Lib.hid (L2.out.since hb3)
  clear hoy hb3
  go_wp2_with fail
  refine (get_any _ n (n + 3) bs _ (by omega) (by omega) (L3.out.bytes L3.out.lt HA.out.len HA.out.small)).mono ?_
  rw [← HO1.out]
  intro e W4 hgot
  obtain ⟨y4, Ar, cr, rfl, HY4, hk1, HR4, HB4⟩ := got_form hgot
  rw [← HB1.out]
  rw [← HK1.out] at hk1 HR4 ⊢
  have S4 := Lib.hid (below_chain S3.out HB4.out)
  have L4 := Lib.hid (L3.out.since HB4.out)
  clear hgot
  go_wp2_with fail
  refine (unfix_any _ n (n + 3) m bs _ (by omega) (by omega) (L4.out.bytes L4.out.lt HA.out.len HA.out.small)).mono ?_
  rw [← HO2.out]
  intro e W5 hgot
  obtain ⟨y5, As, cs, rfl, HY5, hk2, HR5, HB5⟩ := got_form hgot
  rw [← HB2.out]
  rw [← HK2.out] at hk2 HR5 ⊢
  have S5 := Lib.hid (below_chain S4.out HB5.out)
  have Q5 := Lib.hid (below_chain L1.out.below S5.out)
  clear hgot
  go_wp2_with fail
  refine (refget_any A n c bs _ (by omega) HC.out (HA.out.since Q5.out)).mono ?_
  rw [← HO1.out]
  intro e W6 hgot
  obtain ⟨y6, At, ct, rfl, HY6, _, HR6, HB6⟩ := got_form hgot
  rw [← HB1.out]
  rw [← HK1.out] at HR6 ⊢
  have hy46 : y4 = y6 := by rw [HY4.out, HY6.out]
  subst hy46
  have S6 := Lib.hid (below_chain S5.out HB6.out)
  have Q6 := Lib.hid (below_chain Q5.out HB6.out)
  clear hgot HY6
  go_wp2_with fail
  refine (refunfix_any A n c m bs _ (by omega) HC.out (HA.out.since Q6.out)).mono ?_
  rw [← HO2.out]
  intro e W7 hgot
  obtain ⟨y7, Av, cv, rfl, HY7, _, HR7, HB7⟩ := got_form hgot
  rw [← HB2.out]
  rw [← HK2.out] at HR7 ⊢
  have hy57 : y5 = y7 := by rw [HY5.out, HY7.out]
  subst hy57
  have S7 := Lib.hid (below_chain S6.out HB7.out)
  have Q7 := Lib.hid (below_chain Q6.out HB7.out)
  have T57 := Lib.hid (below_chain HB6.out HB7.out)
  have T47 := Lib.hid (below_chain HB5.out T57.out)
  have T37 := Lib.hid (below_chain HB4.out T47.out)
  have T27 := Lib.hid (below_chain T3.out T37.out)
  have OX7 := Lib.hid (OX2.out.since T27.out)
  have OY7 := Lib.hid (OY3.out.since T37.out)
  have OR7 := Lib.hid (HR4.out.since T47.out)
  have OS7 := Lib.hid (HR5.out.since T57.out)
  have OT7 := Lib.hid (HR6.out.since HB7.out)
  clear hgot HY7
  go_wp2_with fail
  refine (refput_any A n c bs x v _ h0 h1 HX (by omega) (HA.out.since Q7.out)).mono ?_
  rw [← HPX.out]
  rintro e W8 ⟨A8, n8, c8, rfl, ho8, hb8⟩
  obtain rfl : nx = n8 := by rw [← ho8.len, ← OX2.out.len]
  have O8 := Lib.hid ho8
  have T8 := Lib.hid hb8
  clear ho8 hb8
  go_wp2_with fail
  refine (same_since Ax A8 nx cx c8 px _ (by omega) (OX7.out.since T8.out).bytes O8.out.bytes).mono ?_
  rintro e W9 ⟨rfl, hb9⟩
  have T9 := Lib.hid (below_chain T8.out hb9)
  have Q9 := Lib.hid (below_chain Q7.out T9.out)
  clear hb9
  go_wp2_with fail
  refine (reffix_any A n c bs x m v _ h0 h1 HX (by omega) (HA.out.since Q9.out) HM.out.1 HM.out.2).mono ?_
  rw [← HPY.out]
  rintro e W10 ⟨A10, n10, c10, rfl, ho10, hb10⟩
  obtain rfl : ny = n10 := by rw [← ho10.len, ← OY3.out.len]
  have O10 := Lib.hid ho10
  have T10 := Lib.hid (below_chain T9.out hb10)
  clear ho10 hb10
  go_wp2_with fail
  refine (same_since Ay A10 ny cy c10 py _ (by omega) (OY7.out.since T10.out).bytes O10.out.bytes).mono ?_
  rintro e W11 ⟨rfl, hb11⟩
  have T11 := Lib.hid (below_chain T10.out hb11)
  clear hb11
  go_wp2_with fail
  refine (same_since Ar At k1 cr ct (restO o1) _ (by omega) (OR7.out.since T11.out).bytes (OT7.out.since T11.out).bytes).mono ?_
  rintro e W12 ⟨rfl, hb12⟩
  have T12 := Lib.hid (below_chain T11.out hb12)
  clear hb12
  go_wp2_with fail
  refine (same_since As Av k2 cs cv (restO o2) _ (by omega) (OS7.out.since T12.out).bytes (HR7.out.since T12.out).bytes).mono ?_
  rintro e W13 ⟨rfl, hb13⟩
  have T13 := Lib.hid (below_chain T12.out hb13)
  have S13 := Lib.hid (below_chain S7.out T13.out)
  have OX13 := Lib.hid (OX7.out.since T13.out)
  have OY13 := Lib.hid (OY7.out.since T13.out)
  have OR13 := Lib.hid (OR7.out.since T13.out)
  have OS13 := Lib.hid (OS7.out.since T13.out)
  have z12 : W1.heap.size ≤ W2.heap.size := S2.out.size
  have z23 : W2.heap.size ≤ W3.heap.size := T3.out.size
  have z34 : W3.heap.size ≤ W4.heap.size := HB4.out.size
  have z47 : W4.heap.size ≤ W7.heap.size := T47.out.size
  have z713 : W7.heap.size ≤ W13.heap.size := T13.out.size
  have HZ := Lib.hid (And.intro z12 (And.intro z23 (And.intro z34 (And.intro z47 z713))))
  clear hb13 z12 z23 z34 z47 z713
  go_wp2_with fail
  refine (over_any Ax nx cx W1.heap.size _ _ (by omega) (by have := HZ.out; omega) OX13.out).mono ?_
  rintro e W14 ⟨rfl, hg14⟩
  have S14 := Lib.hid (S13.out.trans (OX13.out.elsewhere hg14 (Nat.le_refl _) (by have := HZ.out; omega)))
  have OY14 := Lib.hid (OY13.out.kept hg14 (fun b hb => OX2.out.block_lt b hb))
  have OR14 := Lib.hid (OR13.out.kept hg14 (fun b hb => by have := OX2.out.block_lt b hb; have := HZ.out; omega))
  have OS14 := Lib.hid (OS13.out.kept hg14 (fun b hb => by have := OX2.out.block_lt b hb; have := HZ.out; omega))
  have z14 := Lib.hid hg14.size
  clear hg14
  go_wp2_with fail
  refine (over_any Ay ny cy W2.heap.size _ _ (by omega) (by have := HZ.out; have := z14.out; omega) OY14.out).mono ?_
  rintro e W15 ⟨rfl, hg15⟩
  have S15 := Lib.hid (S14.out.trans (OY14.out.elsewhere hg15 HZ.out.1 (by have := HZ.out; have := z14.out; omega)))
  have OR15 := Lib.hid (OR14.out.kept hg15 (fun b hb => OY3.out.block_lt b hb))
  have OS15 := Lib.hid (OS14.out.kept hg15 (fun b hb => by have := OY3.out.block_lt b hb; have := HZ.out; omega))
  have z15 := Lib.hid (Nat.le_trans z14.out hg15.size)
  clear hg15
  go_wp2_with fail
  refine (over_any Ar k1 cr W3.heap.size _ _ hk1 (by have := HZ.out; have := z15.out; omega) OR15.out).mono ?_
  rintro e W16 ⟨rfl, hg16⟩
  have S16 := Lib.hid (S15.out.trans (OR15.out.elsewhere hg16 (by have := HZ.out; omega) (by have := HZ.out; have := z15.out; omega)))
  have OS16 := Lib.hid (OS15.out.kept hg16 (fun b hb => HR4.out.block_lt b hb))
  have z16 := Lib.hid (Nat.le_trans z15.out hg16.size)
  clear hg16
  go_wp2_with fail
  refine (over_any As k2 cs W4.heap.size _ _ hk2 (by have := HZ.out; have := z16.out; omega) OS16.out).mono ?_
  rintro e W17 ⟨rfl, hg17⟩
  have S17 := Lib.hid (S16.out.trans (OS16.out.elsewhere hg17 (by have := HZ.out; omega) (by have := HZ.out; have := z16.out; omega)))
  have Q17 := Lib.hid (below_chain L1.out.below S17.out)
  clear hg17
  go_wp2_with fail
  refine (kept_since A n c bs w _ (by omega) (L1.out.since S17.out) HA.out.len HA.out.small (HA.out.since Q17.out)).mono ?_
  rintro e W18 ⟨rfl, hb18⟩
  have Q18 := Lib.hid (below_chain Q17.out hb18)
  clear hb18
  go_wp2_with fail
  refine (awake_any _).mono ?_
  rintro e W19 ⟨rfl, hb19⟩
  have Q19 := below_chain Q18.out hb19
  go_wp2_with fail
  go_ret
  exact ⟨rfl, Q19⟩
set_option maxHeartbeats 1000000 in
theorem tells_long (A : Option Addr) (n c : Nat) (x m : Int) (w : World) (hl : 40 < n) :
    Calls Try.prog 3 #[.slice A n c, .int .u64 x, .int .i64 m] w fun e w' => e = .returned (.bool true) ∧ Below w.heap.size w w' := by
  go_enter Try.func3, Try.ntmps3
  go_wp2_with fail
  refine (awake_any _).mono ?_
  rintro e W7 ⟨rfl, hb7⟩
  go_wp2_with fail
  go_ret
  exact ⟨rfl, hb7⟩
theorem tells_law (A : Option Addr) (n c : Nat) (bs : List Nat) (x m : Int) (hc : n ≤ c) (h0 : 0 ≤ x) (h1 : x ≤ 18446744073709551615) (hm0 : -9223372036854775808 ≤ m) (hm1 : m ≤ 9223372036854775807) (w : World) (hA : Bytes w w.heap.size A n bs) :
    Calls Try.prog 3 #[.slice A n c, .int .u64 x, .int .i64 m] w fun e w' => e = .returned (.bool true) ∧ Below w.heap.size w w' := by
  by_cases hl : 40 < n
  · exact tells_long A n c x m w hl
  · obtain ⟨v, hv⟩ := Int.eq_ofNat_of_zero_le h0
    exact tells_short A n c bs x m v w hl hc h0 h1 hv hm0 hm1 hA
end Go.Proofs.Ythifdiplndgdbaa
