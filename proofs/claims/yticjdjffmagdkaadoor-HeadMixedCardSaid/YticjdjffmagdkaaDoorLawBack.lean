/- HeadBack answers true, for all numbers and heads. Conditions: what the listed variables hold. -/
import Derived.Test.YticjdjffmagdkaaDoorHeadLaw
set_option linter.unusedVariables false
set_option linter.unusedSimpArgs false
namespace Go.Proofs.YticjdjffmagdkaaDoor
open Go.RowKit Go.Sort

theorem page_part {ds : List Nat} {h : Hd.H} (hb : ∀ b ∈ Hd.page ds h, b < 256) : ∀ b ∈ ds, b < 256 := fun b hd => hb b (by
  unfold Hd.page Hd.body
  exact List.mem_append.2 (Or.inl (List.mem_append.2 (Or.inl hd))))
theorem set_byte {us : List Nat} (hu : ∀ b ∈ us, b < 256) {j y : Nat} (hy : y < 256) : ∀ b ∈ us.set j y, b < 256 := fun b hb => by
  rcases List.mem_or_eq_of_mem_set hb with h | h
  · exact hu b h
  · rw [h]; exact hy
theorem back_math {ds : List Nat} {h : Hd.H} {p y : Nat} (f : Hd.fits ds.length) (hd : ∀ b ∈ ds, b < 256) (hp : p < ds.length + 28) (hy : y < 256) (hne : y ≠ (Hd.page ds h).getD p 0) : Hd.Reads ((Hd.page ds h).set p y) .torn := by
  have hlen := Hd.page_len ds h
  have hget : ∀ k, ((Hd.page ds h).set p y).getD k 0 = if p = k then y else (Hd.page ds h).getD k 0 := fun k => getD_set_ _ _ _ _ (by omega)
  refine ⟨?_, fun hk => ?_⟩
  · rintro ⟨ds', h', k', f', e⟩
    have hl := congrArg List.length e
    rw [List.length_set, hlen, Hd.page_len] at hl
    have hb' : ∀ b ∈ ds', b < 256 := page_part (by rw [← e]; exact set_byte (Hd.page_byte hd h) hy)
    have he : Hd.page ds h = Hd.page ds' h' := by
      refine Hd.two_pages (i := if p = ds.length + 22 then ds.length + 21 else p) hd hb' (by omega) (by split <;> omega) fun k h1 h2 => ?_
      rw [← e, hget, if_neg]
      intro hpk
      subst hpk
      split at h1 <;> split at h2 <;> omega
    have := hget p
    rw [if_pos rfl, e, ← he] at this
    exact hne this.symm
  · have hz : ∃ k, k < ds.length + 28 ∧ k ≠ p ∧ (Hd.page ds h).getD k 0 = 0 := by
      by_cases hp17 : p = ds.length + 17
      · exact ⟨ds.length + 17 + 1, by omega, by omega, Hd.page_zero _ _ 1 (by omega)⟩
      · exact ⟨ds.length + 17 + 0, by omega, by omega, Hd.page_zero _ _ 0 (by omega)⟩
    obtain ⟨k, k1, k2, k3⟩ := hz
    have hall := hk.2
    have e := hget k
    rw [if_neg (fun q => k2 q.symm), k3] at e
    have hkl : k < ((Hd.page ds h).set p y).length := by rw [List.length_set, hlen]; exact k1
    rw [List.getD_eq_getElem?_getD, List.getElem?_eq_getElem hkl] at e
    have := hall _ (List.getElem_mem hkl)
    simp only [Option.getD_some] at e
    omega
theorem set_same (us : List Nat) (p : Nat) : us.set p (us.getD p 0) = us := by
  by_cases hp : p < us.length
  · rw [List.getD_eq_getElem?_getD, List.getElem?_eq_getElem hp]; exact List.set_getElem_self hp
  · exact List.set_eq_of_length_le (by omega)
theorem xor_ne {a b : Nat} (hb : b ≠ 0) : a ^^^ b ≠ a := fun e => hb (by
  have := congrArg (fun z => a ^^^ z) e
  simpa [← Nat.xor_assoc] using this)
set_option maxHeartbeats 8000000 in
theorem back_law (x y K A S G z v : Int) (w : World) (hT : Tabs w) (hW : Wid w) (y0 : -9223372036854775808 ≤ y) (y1 : y ≤ 9223372036854775807) (a0 : 0 ≤ A) (a1 : A ≤ 18446744073709551615) (v0 : 0 ≤ v) (v1 : v ≤ 255) :
    Calls Tryd.prog 4 #[.int .i64 x, .int .i64 y, .agg #[.int .i64 K, .int .u64 A, .int .i64 S, .int .i64 G], .int .i64 z, .int .u8 v] w fun e w' => e = .returned (.bool true) ∧ Below w.heap.size w w' := by
  have HT := Lib.hid hT
  have HW := Lib.hid hW
  obtain ⟨q, N, hq, q0, q1, HN, N0, N1⟩ := size_of x
  have HQ := Lib.hid hq
  obtain ⟨b, HB⟩ : ∃ b, Hid (mayB K A S G = b) := ⟨_, rfl⟩
  obtain ⟨xs, HX⟩ : ∃ l, Hid (fillL y N = l) := ⟨_, rfl⟩
  have HXL : Hid (xs.length = N) := by rw [← HX.out]; exact fillL_len y N
  have HXB : Hid (∀ b ∈ xs, b < 256) := by rw [← HX.out]; exact fillL_byte y N
  have S1' := Lib.hid (since_alloc (Below.refl w.heap.size w) (.cells #[.int .i64 K, .int .u64 A, .int .i64 S, .int .i64 G] 25))
  have HH1 := Lib.hid (headAt_new w K A S G 25)
  clear hT hW hq
  go_enter Tryd.func4, Tryd.ntmps4
  go_wp2_with fail
  obtain ⟨W1, HW1⟩ : ∃ W1, Hid (W1 = w.alloc (.cells #[.int .i64 K, .int .u64 A, .int .i64 S, .int .i64 G] 25)) := ⟨_, rfl⟩
  rw [← HW1.out] at S1' HH1 ⊢
  clear HW1
  refine (low_any x 129 (by omega) (by omega) _).mono ?_
  rw [HQ.out]
  rintro e W2 ⟨rfl, rfl⟩
  go_wp2_with fail
  rw [HN.out]
  refine (fill_any y (N : Int) N _ rfl y0 y1 (by omega)).mono ?_
  rw [HX.out]
  rintro e W3 ⟨B1, n1, c1, rfl, ho1, hb3⟩
  obtain rfl : N = n1 := by rw [← ho1.len, HXL.out]
  have OX := Lib.hid ho1
  have S3 := Lib.hid (below_chain S1'.out hb3)
  have H3 := Lib.hid (HH1.out.since hb3)
  obtain ⟨k0, k1, k2, k3⟩ := H3.out
  clear ho1 hb3 S1' HH1
  go_wp2_with fail
  refine (lay_any B1 N c1 xs K A S G _ (HT.out.since S3.out) (HW.out.since S3.out) (by omega) OX.out.bytes a0 a1).mono ?_
  rw [layO_may (by rw [← HX.out]; exact fill_data N0 N1), HB.out]
  rintro e W4 ⟨v1', rfl, HV1, hb4⟩
  have O1 := Lib.hid HV1
  have S4 := Lib.hid (below_chain S3.out hb4.out)
  have OX4 := Lib.hid (OX.out.since hb4.out)
  have H4 := Lib.hid (H3.out.since hb4.out)
  have HZ3 : Hid (w.heap.size ≤ W3.heap.size) := S3.out.size
  clear HV1 hb4 S3 H3 OX k0 k1 k2 k3
  rcases b with _ | _
  · obtain ⟨e1, rfl, hp1⟩ := out_no O1.out
    clear O1 hp1
    obtain ⟨k0, k1, k2, k3⟩ := H4.out
    go_wp2_with fail
    refine (headmay_any _ _ _ _ _).mono ?_
    rw [HB.out]
    rintro e W5 ⟨rfl, hb5⟩
    have S5 := Lib.hid (below_chain S4.out hb5.out)
    clear k0 k1 k2 k3 hb5
    go_wp2_with fail
    refine (awake_any _ (HT.out.since S5.out) (HW.out.since S5.out)).mono ?_
    rintro e W6 ⟨rfl, hb6⟩
    have S6 := Lib.hid (below_chain S5.out hb6.out)
    go_wp2_with fail
    go_ret
    exact ⟨rfl, S6.out⟩
  · obtain ⟨D1, m1, d1, rfl, ho1⟩ := out_yes O1.out
    have hm1 : m1 = N + 28 := by rw [← ho1.len]; show (Hd.page xs (hN K A S G)).length = _; rw [Hd.page_len, HXL.out]
    subst hm1
    obtain ⟨g1, rfl, hg1, hg1b⟩ := own_at ho1 (by omega)
    have P4 : Hid (Own W4 W3.heap.size (some ⟨g1, 0, none⟩) (N + 28) d1 (Hd.page xs (hN K A S G))) := ho1
    have HOK := Lib.hid (hN_ok HB.out a0 a1)
    have HF : Hid (Hd.fits xs.length) := by rw [HXL.out]; exact ⟨N0, N1⟩
    have hmb := mayB_out HB.out
    have HE : Hid (K = ((hN K A S G).k : Int) ∧ A = ((hN K A S G).a : Int) ∧ S = ((hN K A S G).s : Int) ∧ G = ((hN K A S G).g : Int)) := ⟨by show K = (K.toNat : Int); omega, by show A = (A.toNat : Int); omega, by show S = (S.toNat : Int); omega, by show G = (G.toNat : Int); omega⟩
    have HG1 : Hid (w.heap.size ≤ g1) := Nat.le_trans HZ3.out hg1
    go_wp2_with fail
    refine (read_valid xs (hN K A S G) K A S G HE.out _ (N + 28) d1 _ _ (HT.out.since S4.out) (HW.out.since S4.out) (by omega) P4.out.cap P4.out.bytes (Hd.Reads.page HOK.out HF.out)).mono ?_
    rintro e W5 ⟨B5, m5, c5, rfl, HO5, hb5⟩
    obtain rfl : N = m5 := by rw [← HO5.out.len, HXL.out]
    have S5 := Lib.hid (since_alloc (below_chain S4.out hb5.out) (.cells #[.int .i64 K, .int .u64 A, .int .i64 S, .int .i64 G] 25))
    have P5 := Lib.hid ((P4.out.since hb5.out).since (later_alloc W5 (.cells #[.int .i64 K, .int .u64 A, .int .i64 S, .int .i64 G] 25)))
    have X5 := Lib.hid ((OX4.out.since hb5.out).since (later_alloc W5 (.cells #[.int .i64 K, .int .u64 A, .int .i64 S, .int .i64 G] 25)))
    have D5 := Lib.hid (HO5.out.since (later_alloc W5 (.cells #[.int .i64 K, .int .u64 A, .int .i64 S, .int .i64 G] 25)))
    have H5 := Lib.hid ((H4.out.since hb5.out).since (later_alloc W5 (.cells #[.int .i64 K, .int .u64 A, .int .i64 S, .int .i64 G] 25)))
    have J5 := Lib.hid (headAt_new W5 K A S G 25)
    clear hb5 S4 P4 OX4 HO5 H4 O1 ho1
    go_wp2_with fail
    refine (same_since B5 B1 N c5 c1 xs _ (by omega) D5.out.bytes X5.out.bytes).mono ?_
    rintro e W6 ⟨rfl, hb6⟩
    have S6 := Lib.hid (below_chain S5.out hb6)
    have P6 := Lib.hid (P5.out.since hb6)
    obtain ⟨k0, k1, k2, k3⟩ := H5.out.since hb6
    obtain ⟨j0, j1, j2, j3⟩ := J5.out.since hb6
    clear hb6 S5 P5 X5 D5 H5 J5
    have hne : ∀ W : World, (binOp .neq 25 (.agg #[.int .i64 K, .int .u64 A, .int .i64 S, .int .i64 G]) (.agg #[.int .i64 K, .int .u64 A, .int .i64 S, .int .i64 G])).run Tryd.prog W = .ok (.bool false) W := fun W => by
      have := run_neq_head K A S G K A S G W
      rwa [headB_self] at this
    go_wp2_with fail
    obtain ⟨p, HP, hpl⟩ : ∃ p : Nat, Hid (lowM z ((N : Int) + 28) = (p : Int)) ∧ p < N + 28 := by
      have h := lowM_bd z ((N : Int) + 28) (by omega)
      exact ⟨(lowM z ((N : Int) + 28)).toNat, by show _ = _; omega, by omega⟩
    refine (low_any z ((N : Int) + 28) (by omega) (by omega) _).mono ?_
    rw [HP.out]
    rintro e W7 ⟨rfl, rfl⟩
    clear k0 k1 k2 k3 j0 j1 j2 j3 hne
    obtain ⟨us, HUS⟩ : ∃ us, Hid (us = Hd.page xs (hN K A S G)) := ⟨_, rfl⟩
    rw [← HUS.out] at P6
    have cell1 := own_cell P6.out hpl
    have free1 := own_free P6.out p
    have hsm := P6.out.small p
    have HVN : Hid (v = (v.toNat : Int) ∧ v.toNat < 256) := ⟨by omega, by omega⟩
    obtain ⟨b1, HB1⟩ : ∃ b1 : Nat, Hid (us.getD p 0 = b1) := ⟨_, rfl⟩
    rw [HB1.out] at cell1 hsm
    obtain ⟨y1', HY1⟩ : ∃ y : Int, Hid (((b1 : Nat) : Int) = y) := ⟨_, rfl⟩
    rw [HY1.out] at cell1
    obtain ⟨y2, hy2⟩ : ∃ y2 : Int, bits .xor .u8 y1' v = y2 := ⟨_, rfl⟩
    have HY2 : Hid (y2 = ((b1 ^^^ v.toNat : Nat) : Int) ∧ b1 ^^^ v.toNat < 256) := by
      refine ⟨?_, Crc.xor_lt_256 hsm HVN.out.2⟩
      rw [← hy2, ← HY1.out, HVN.out.1, Int.toNat_natCast]
      exact u8_xor_nat _ _ hsm HVN.out.2
    obtain ⟨hs1, hg1'⟩ := own_set P6.out p y2 _ HY2.out.1 HY2.out.2
    have P7 := Lib.hid hs1
    have S7 := Lib.hid (S6.out.grown hg1' S6.out.size (fun q hq => by rw [← Option.some.inj hq]; exact HG1.out))
    have i0 : (0 : Int) ≤ (p : Int) := by omega
    have i1 : (p : Int) < (N : Int) + 28 := by omega
    clear hs1 hg1' hsm S6 P6
    by_cases hv : v = 0
    · subst hv
      have HSAME : Hid (us.set p (b1 ^^^ (0 : Int).toNat) = Hd.page xs (hN K A S G)) := by
        show us.set p (b1 ^^^ 0) = _
        rw [Nat.xor_zero, ← HB1.out, set_same]; exact HUS.out
      rw [HSAME.out] at P7
      go_wp2_with fail
      refine (read_valid xs (hN K A S G) K A S G HE.out _ (N + 28) d1 _ _ (HT.out.since S7.out) (HW.out.since S7.out) (by omega) P7.out.cap P7.out.bytes (Hd.Reads.page HOK.out HF.out)).mono ?_
      rintro e W8 ⟨B8, m8, c8, rfl, HO8, hb8⟩
      have S8 := Lib.hid (since_alloc (below_chain S7.out hb8.out) (.cells #[.int .i64 K, .int .u64 A, .int .i64 S, .int .i64 G] 25))
      clear hb8 HO8 P7 S7
      go_wp2_with fail
      refine (awake_any _ (HT.out.since S8.out) (HW.out.since S8.out)).mono ?_
      rintro e W9 ⟨rfl, hb9⟩
      have S9 := Lib.hid (below_chain S8.out hb9.out)
      go_wp2_with fail
      go_ret
      exact ⟨rfl, S9.out⟩
    · have HTORN : Hid (Hd.Reads (us.set p (b1 ^^^ v.toNat)) .torn) := by
        rw [HUS.out]
        refine back_math HF.out HXB.out (by rw [HXL.out]; exact hpl) HY2.out.2 ?_
        rw [← HUS.out, HB1.out]
        exact xor_ne (by omega)
      have bv : (v == 0) = false := by simpa using hv
      go_wp2_with fail
      refine (read_none 2 _ (N + 28) d1 _ _ (HT.out.since S7.out) (HW.out.since S7.out) (by omega) P7.out.cap P7.out.bytes (Or.inl ⟨rfl, HTORN.out⟩)).mono ?_
      rintro e W8 ⟨rfl, hb8⟩
      have S8 := Lib.hid (since_alloc (below_chain S7.out hb8.out) (.cells #[.int .i64 0, .int .u64 0, .int .i64 0, .int .i64 0] 25))
      clear hb8 P7 S7
      go_wp2_with fail
      refine (awake_any _ (HT.out.since S8.out) (HW.out.since S8.out)).mono ?_
      rintro e W9 ⟨rfl, hb9⟩
      have S9 := Lib.hid (below_chain S8.out hb9.out)
      go_wp2_with fail
      go_ret
      exact ⟨rfl, S9.out⟩
end Go.Proofs.YticjdjffmagdkaaDoor
