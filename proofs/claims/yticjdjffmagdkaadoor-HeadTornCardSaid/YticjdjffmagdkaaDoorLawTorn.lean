/- HeadTorn answers true, for all numbers and heads. Conditions: what the listed variables hold. -/
import Derived.Test.YticjdjffmagdkaaDoorHeadLaw
set_option linter.unusedVariables false
set_option linter.unusedSimpArgs false
namespace Go.Proofs.YticjdjffmagdkaaDoor
open Go.RowKit Go.Sort

/-- What state bytes are in that are no page. -/
def StateOf (x : Int) (bs : List Nat) : Prop := (x = 2 ∧ Hd.Reads bs .torn) ∨ (x = 0 ∧ Hd.Reads bs .erased)
theorem state_of {bs : List Nat} {N : Nat} (hl : bs.length = N + 28) (f : Hd.fits N) (hp : ¬ Hd.Page bs) : StateOf (if blankB bs = true then 0 else 2) bs := by
  by_cases hb : blankB bs = true
  · rw [if_pos hb]
    exact Or.inr ⟨rfl, by rw [hl, Nat.add_sub_cancel]; exact f, blankB_iff.1 hb⟩
  · rw [if_neg hb]
    exact Or.inl ⟨rfl, hp, fun k => hb (blankB_iff.2 k.2)⟩
theorem torn_math {ds cs : List Nat} {h : Hd.H} {p : Nat} (f : Hd.fits ds.length) (hl : cs.length = ds.length + 28) (hp : p < ds.length + 28) (hc : ∀ j, j < ds.length + 28 → cs.getD j 0 = if p ≤ j then 255 else (Hd.page ds h).getD j 0) :
    ∃ x : Int, StateOf x cs ∧ ¬ x = 1 ∧ (p = 0 → x = 0) := by
  have hn : ¬ Hd.Page cs := by
    rintro ⟨ds', h', k', f', rfl⟩
    rw [Hd.page_len] at hl
    have e := hc (ds.length + 27) (by omega)
    rw [if_pos (by omega), show ds.length + 27 = ds'.length + 27 by omega, Hd.page_last] at e
    omega
  refine ⟨_, state_of hl f hn, by split <;> omega, fun hp0 => ?_⟩
  rw [if_pos]
  refine blankB_iff.2 fun b hb => ?_
  obtain ⟨i, hi, rfl⟩ := List.mem_iff_getElem.1 hb
  have e := hc i (by omega)
  rw [if_pos (by omega), List.getD_eq_getElem?_getD, List.getElem?_eq_getElem hi] at e
  exact e
theorem equal_math {vs : List Nat} {N v : Nat} (f : Hd.fits N) (hl : vs.length = N + 28) (hv : ∀ j, j < N + 28 → vs.getD j 0 = v) :
    (v = 255 ∧ StateOf 0 vs) ∨ (v ≠ 255 ∧ StateOf 2 vs) := by
  have hn : ¬ Hd.Page vs := by
    rintro ⟨ds', h', k', f', rfl⟩
    rw [Hd.page_len] at hl
    have e0 := hv (ds'.length + 17 + 0) (by omega)
    rw [Hd.page_zero _ _ 0 (by omega)] at e0
    have e1 := hv ds'.length (by omega)
    rw [Hd.page_kind k'] at e1
    rcases k'.kind with (h | h) | ⟨h | h, _⟩ <;> omega
  have hs := state_of hl f hn
  by_cases h : v = 255
  · left
    refine ⟨h, ?_⟩
    rwa [if_pos (blankB_iff.2 fun b hb => by
      obtain ⟨i, hi, rfl⟩ := List.mem_iff_getElem.1 hb
      have e := hv i (by omega)
      rw [List.getD_eq_getElem?_getD, List.getElem?_eq_getElem hi] at e
      exact e.trans h)] at hs
  · right
    refine ⟨h, ?_⟩
    rwa [if_neg (by
      have e := hv 0 (by omega)
      rw [blank_no (k := 0) (by omega) (by rw [e]; exact h)]; simp)] at hs
theorem read_state {x : Int} {bs : List Nat} (hs : StateOf x bs) (A : Option Addr) (n c : Nat) (w : World) (hT : Tabs w) (hW : Wid w) (hn : n ≤ 900) (hc : n ≤ c) (hA : Bytes w w.heap.size A n bs) :
    Calls Tryd.prog 12 #[.slice A n c] w fun e w' => e = .returned (.tuple #[.slice none 0 0, .agg #[.int .i64 0, .int .u64 0, .int .i64 0, .int .i64 0], .int .i64 x]) ∧ Hid (Below w.heap.size w w') := read_none x A n c bs w hT hW hn hc hA hs
set_option maxHeartbeats 8000000 in
theorem torn_law (x y K A S G z v : Int) (w : World) (hT : Tabs w) (hW : Wid w) (y0 : -9223372036854775808 ≤ y) (y1 : y ≤ 9223372036854775807) (a0 : 0 ≤ A) (a1 : A ≤ 18446744073709551615) (v0 : 0 ≤ v) (v1 : v ≤ 255) :
    Calls Tryd.prog 5 #[.int .i64 x, .int .i64 y, .agg #[.int .i64 K, .int .u64 A, .int .i64 S, .int .i64 G], .int .i64 z, .int .u8 v] w fun e w' => e = .returned (.bool true) ∧ Below w.heap.size w w' := by
  have HT := Lib.hid hT
  have HW := Lib.hid hW
  obtain ⟨q, N, hq, q0, q1, HN, N0, N1⟩ := size_of x
  have HQ := Lib.hid hq
  obtain ⟨b, HB⟩ : ∃ b, Hid (mayB K A S G = b) := ⟨_, rfl⟩
  obtain ⟨xs, HX⟩ : ∃ l, Hid (fillL y N = l) := ⟨_, rfl⟩
  have HXL : Hid (xs.length = N) := by rw [← HX.out]; exact fillL_len y N
  obtain ⟨o, HO⟩ : ∃ o, Hid (o = layO xs K A S G) := ⟨_, rfl⟩
  have HO2 : Hid (o = if b = true then some (Hd.page xs (hN K A S G)) else none) := by rw [HO.out, layO_may (by rw [← HX.out]; exact fill_data N0 N1), HB.out]; rfl
  have S1' := Lib.hid (since_alloc (Below.refl w.heap.size w) (.cells #[.int .i64 K, .int .u64 A, .int .i64 S, .int .i64 G] 25))
  have HH1 := Lib.hid (headAt_new w K A S G 25)
  clear hT hW hq
  go_enter Tryd.func5, Tryd.ntmps5
  go_wp2_with fail
  obtain ⟨W1, HW1⟩ : ∃ W1, Hid (W1 = w.alloc (.cells #[.int .i64 K, .int .u64 A, .int .i64 S, .int .i64 G] 25)) := ⟨_, rfl⟩
  rw [← HW1.out] at S1' HH1 ⊢
  clear HW1
  refine (low_any x 129 (by omega) (by omega) _).mono ?_
  rw [HQ.out]
  rintro e W2 ⟨rfl, rfl⟩
  go_wp2_with fail
  rw [HN.out]
  obtain ⟨W0, HDW0⟩ : ∃ W0, Hid (W0 = W1.drew) := ⟨_, rfl⟩
  have S0 : Hid (Below w.heap.size w W0) := by rw [HDW0.out]; exact S1'.out.drew
  have HH0 : Hid (HeadAt W0 w.heap.size K A S G) := by rw [HDW0.out]; exact ⟨HH1.out.k, HH1.out.a, HH1.out.s, HH1.out.g⟩
  have HT0 := Lib.hid (HT.out.since S0.out)
  have HW0 := Lib.hid (HW.out.since S0.out)
  refine region_of_steps2 (by kernel_rfl) (fact2Of [.is (.int .i64 y), .is (.int .i64 (N : Int)), .own W0.heap.size N xs, .is (.agg #[.int .i64 K, .int .u64 A, .int .i64 S, .int .i64 G]), .that (OutT OutE W0.heap.size o) (fun _ _ _ h k => outTE_later h k), .that (OutT OutE W0.heap.size o) (fun _ _ _ h k => outTE_later h k), .that (OutS W0.heap.size o) (fun _ _ _ h k => outS_later h k), .that (OutE o) (fun _ _ _ h k => outE_later h k), .that (OutS W0.heap.size o) (fun _ _ _ h k => outS_later h k), .that (OutE o) (fun _ _ _ h k => outE_later h k)]) (deadOf []) Calm (fun W => Below W0.heap.size W0 W ∧ W0.heap.size ≤ W.heap.size) (by kernel_rfl)
    (fun i j v w w' hm hd hn h hR => fact2_calm _ i j v w w' h hR) (fun j w w' h k => calm_inv h k) ⟨by rw [HDW0.out]; exact Below.refl _ _, by rw [HDW0.out]; exact Nat.le_refl _⟩ ?_ ?_
  · refine Steps2.cons ?_ (Steps2.cons ?_ (Steps2.cons ?_ (Steps2.cons ?_ (Steps2.cons ?_ (Steps2.cons ?_ (Steps2.cons ?_ (Steps2.cons ?_ (Steps2.cons ?_ (Steps2.cons ?_ (Steps2.nil))))))))))
    · intro listed a W H hw hl hd
      have t1 : a.tmps.getD 1 undef = .int .i64 y := (H.old 1 (by kernel_rfl)).trans rfl
      exact step2_value (i := 0) rfl rfl (run_op_move rfl t1) (calm_refl _) rfl
    · intro listed a W H hw hl hd
      have t0 : a.tmps.getD 0 undef = .int .i64 (N : Int) := (H.old 0 (by kernel_rfl)).trans rfl
      exact step2_value (i := 1) rfl rfl (run_op_move rfl t0) (calm_refl _) rfl
    · intro listed a W H hw hl hd
      have t25 : a.tmps.getD 25 undef = .int .i64 y := H.get 0 25 (by kernel_rfl) (dep_of hd 0 (by kernel_rfl)) (alive_none (by kernel_rfl))
      have t26 : a.tmps.getD 26 undef = .int .i64 (N : Int) := H.get 1 26 (by kernel_rfl) (dep_of hd 1 (by kernel_rfl)) (alive_none (by kernel_rfl))
      refine step2_call (i := 2) rfl rfl (run_op_call (vs := #[.int .i64 y, .int .i64 (N : Int)]) Tryd.func21 (by kernel_rfl) (by kernel_rfl) rfl (by simp only [List.map_toArray, List.map_cons, List.map_nil]; show #[a.tmps.getD 25 undef, a.tmps.getD 26 undef] = _; rw [t25, t26])) ?_
      refine (fill_any y (N : Int) N W rfl y0 y1 (by omega)).mono ?_
      rw [HX.out]
      rintro e W2 ⟨B, n2, c2, rfl, ho, hb⟩
      obtain rfl : N = n2 := by rw [← ho.len, ← HX.out, fillL_len]
      exact ⟨_, rfl, calm_later hb, B, c2, rfl, ho.elder hw.2⟩
    · intro listed a W H hw hl hd
      have t7 : a.tmps.getD 7 undef = .pointer (some ⟨w.heap.size, 0, none⟩) := (H.old 7 (by kernel_rfl)).trans rfl
      exact step2_value (i := 3) rfl rfl (run_op_load rfl t7 (run_load_head (HH0.out.since hw.1))) (calm_refl _) rfl
    · intro listed a W H hw hl hd
      obtain ⟨A27, q27, t27, o27⟩ := H.get 2 27 (by kernel_rfl) (dep_of hd 2 (by kernel_rfl)) (alive_none (by kernel_rfl))
      have t28 : a.tmps.getD 28 undef = .agg #[.int .i64 K, .int .u64 A, .int .i64 S, .int .i64 G] := H.get 3 28 (by kernel_rfl) (dep_of hd 3 (by kernel_rfl)) (alive_none (by kernel_rfl))
      refine step2_call (i := 4) rfl rfl (run_op_call (vs := #[.slice A27 N q27, .agg #[.int .i64 K, .int .u64 A, .int .i64 S, .int .i64 G]]) Tryd.func10 (by kernel_rfl) (by kernel_rfl) rfl (by simp only [List.map_toArray, List.map_cons, List.map_nil]; show #[a.tmps.getD 27 undef, a.tmps.getD 28 undef] = _; rw [t27, t28])) ?_
      refine (lay_any A27 N q27 xs K A S G W (HT0.out.since hw.1) (HW0.out.since hw.1) (by omega) o27.bytes a0 a1).mono ?_
      rw [← HO.out]
      rintro e W2 ⟨v, rfl, ho, hb⟩
      exact ⟨_, rfl, calm_later hb.out, ho.elder hw.2⟩
    · intro listed a W H hw hl hd
      have T29 : (OutT OutE W0.heap.size o) (a.tmps.getD 29 undef) W := H.get 4 29 (by kernel_rfl) (dep_of hd 4 (by kernel_rfl)) (alive_none (by kernel_rfl))
      exact step2_value (i := 5) rfl rfl (run_op_move rfl rfl) (calm_refl _) T29
    · intro listed a W H hw hl hd
      have T24 : (OutT OutE W0.heap.size o) (a.tmps.getD 24 undef) W := H.get 5 24 (by kernel_rfl) (dep_of hd 5 (by kernel_rfl)) (alive_none (by kernel_rfl))
      obtain ⟨x30, y30, e30, s30, z30⟩ := T24
      exact step2_value (i := 6) rfl rfl (run_op_extract rfl e30 rfl) (calm_refl _) s30
    · intro listed a W H hw hl hd
      have T24 : (OutT OutE W0.heap.size o) (a.tmps.getD 24 undef) W := H.get 5 24 (by kernel_rfl) (dep_of hd 5 (by kernel_rfl)) (alive_none (by kernel_rfl))
      obtain ⟨x31, y31, e31, s31, z31⟩ := T24
      exact step2_value (i := 7) rfl rfl (run_op_extract rfl e31 rfl) (calm_refl _) z31
    · intro listed a W H hw hl hd
      have T30 : (OutS W0.heap.size o) (a.tmps.getD 30 undef) W := H.get 6 30 (by kernel_rfl) (dep_of hd 6 (by kernel_rfl)) (alive_none (by kernel_rfl))
      exact step2_value (i := 8) rfl rfl (run_op_assign rfl rfl) (calm_refl _) T30
    · intro listed a W H hw hl hd
      have T31 : (OutE o) (a.tmps.getD 31 undef) W := H.get 7 31 (by kernel_rfl) (dep_of hd 7 (by kernel_rfl)) (alive_none (by kernel_rfl))
      exact step2_value (i := 9) rfl rfl (run_op_assign rfl rfl) (calm_refl _) T31
  · intro a W hdef hsz hw hall hact
    have t11 : OutS W0.heap.size o (a.tmps.getD 11 undef) W := hall 8 _ rfl (by kernel_rfl)
    have t12 : OutE o (a.tmps.getD 12 undef) W := hall 9 _ rfl (by kernel_rfl)
    obtain ⟨u, hu⟩ : ∃ u : Nat → Value, ∀ k, a.tmps.getD k undef = u k := ⟨_, fun _ => rfl⟩
    simp only [hu] at hact t11 t12
    have hact' : a = ([25, 26, 27, 28, 29, 24, 30, 31, 11, 12] : List Nat).foldl (fun b k => b.put (some k) (u k)) _ := hact
    have S3 := Lib.hid (S0.out.trans (hw.1.mono S0.out.size))
    have HW0W := Lib.hid hw.2
    rw [HO2.out] at t11 t12
    rcases b with _ | _
    · obtain ⟨x12, h12⟩ := Bad.ne t12
      have h11 : u 11 = .slice none 0 0 := t11
      simp only [List.foldl, h11, h12] at hact'
      simp only [Act.put, List.setIfInBounds_toArray, List.set_cons_succ, List.set_cons_zero] at hact'
      have HACT1 := Lib.hid hact'
      clear hu hact hact' t11 t12 h11 h12 hall hdef hsz
      rw [HACT1.out]
      clear HACT1
      go_wp2_with fail
      refine (awake_any _ (HT.out.since S3.out) (HW.out.since S3.out)).mono ?_
      rintro e W4 ⟨rfl, hb4⟩
      have S4 := Lib.hid (below_chain S3.out hb4.out)
      go_wp2_with fail
      go_ret
      exact ⟨rfl, S4.out⟩
    · obtain ⟨D1, m1, d1, h11, ho1⟩ := t11
      have h12 : u 12 = .nilIface := t12
      simp only [List.foldl, h11, h12] at hact'
      simp only [Act.put, List.setIfInBounds_toArray, List.set_cons_succ, List.set_cons_zero] at hact'
      have HACT1 := Lib.hid hact'
      clear hu hact hact' h11 h12 t12 hall hdef hsz
      rw [HACT1.out]
      clear HACT1
      have hm1 : m1 = N + 28 := by rw [← ho1.len]; show (Hd.page xs (hN K A S G)).length = _; rw [Hd.page_len, HXL.out]
      subst hm1
      obtain ⟨g1, rfl, hg1, hg1b⟩ := own_at ho1 (by omega)
      have O1 : Hid (Own W W0.heap.size (some ⟨g1, 0, none⟩) (N + 28) d1 (Hd.page xs (hN K A S G))) := ho1
      clear ho1 hw
      go_wp2_with fail
      obtain ⟨p, HP, hpl⟩ : ∃ p : Nat, Hid (lowM z ((N : Int) + 28) = (p : Int)) ∧ p < N + 28 := by
        have h := lowM_bd z ((N : Int) + 28) (by omega)
        exact ⟨(lowM z ((N : Int) + 28)).toNat, by show _ = _; omega, by omega⟩
      refine (low_any z ((N : Int) + 28) (by omega) (by omega) _).mono ?_
      rw [HP.out]
      rintro e W4 ⟨rfl, rfl⟩
      obtain ⟨W3, hr, hl3, hoz⟩ := zeros_any (N + 28) ((N : Int) + 28) (by omega) (by omega) W W.heap.size (Nat.le_refl _)
      have R3 := Lib.hid hr
      have O13 := Lib.hid (O1.out.since hl3)
      have OZ3 := Lib.hid hoz
      have S4 := Lib.hid (below_chain S3.out hl3)
      have hg12 : g1 ≠ W.heap.size := by omega
      obtain ⟨g2, HG2⟩ : ∃ g2, Hid (g2 = W.heap.size) := ⟨_, rfl⟩
      have HLT : Hid (w.heap.size ≤ g1 ∧ w.heap.size ≤ g2) := ⟨Nat.le_trans S0.out.size hg1, by rw [HG2.out]; exact S3.out.size⟩
      have HV : Hid (v = (v.toNat : Int) ∧ v.toNat < 256) := ⟨by omega, by omega⟩
      have hr' := R3.out
      clear hr hl3 hoz S1' HH1 HDW0 HH0 HT0 HW0 HO
      go_wp2_with fail
      rw [← HG2.out] at OZ3 hg12 ⊢
      have HPS : Hid ((Hd.page xs (hN K A S G)).length = N + 28) := by rw [Hd.page_len, HXL.out]; rfl
      clear hr' R3 O1
      go_loopw [14] (fun t14 wr => ∃ (i : Nat) (us vs : List Nat), t14 = .int .i64 i ∧ i ≤ N + 28 ∧ Hid (Own wr W0.heap.size (some ⟨g1, 0, none⟩) (N + 28) d1 us) ∧ Hid (Own wr g2 (some ⟨g2, 0, none⟩) (N + 28) (N + 28) vs) ∧ Hid (Below w.heap.size w wr) ∧
        Hid (∀ j, j < N + 28 → us.getD j 0 = if p ≤ j ∧ j < i then 255 else (Hd.page xs (hN K A S G)).getD j 0) ∧ Hid (∀ j, j < i → vs.getD j 0 = v.toNat)) (fun t14 _ => N + 28 - (intOf t14).toNat)
      case atStart =>
        exact ⟨0, _, _, rfl, Nat.zero_le _, O13, OZ3, S4, fun j hj => by rw [if_neg (by omega)], fun j hj => absurd hj (Nat.not_lt_zero _)⟩
      case round =>
        obtain ⟨i, us, vs, rfl, hi, HU, HVS, HB4, HUS, HVV⟩ := hrel
        by_cases hlt : i < N + 28
        · obtain ⟨u1, HU1⟩ : ∃ u : Value, Hid (u = .int .u8 ((us.getD i 0 : Nat) : Int)) := ⟨_, rfl⟩
          obtain ⟨u2, HU2⟩ : ∃ u : Value, Hid (u = .int .u8 ((vs.getD i 0 : Nat) : Int)) := ⟨_, rfl⟩
          have cell2 := own_cell HVS.out hlt
          rw [← HU2.out] at cell2
          have free2 := own_free HVS.out i
          obtain ⟨hs2, hg2⟩ := own_set HVS.out i v v.toNat HV.out.1 HV.out.2
          have HVS2 := Lib.hid hs2
          have HUO := Lib.hid (own_other HU.out hg2 hg12)
          have HB5 := Lib.hid (HB4.out.grown hg2 HB4.out.size (fun q hq => by rw [← Option.some.inj hq]; exact HLT.out.2))
          have cell1 := own_cell HUO.out hlt
          rw [← HU1.out] at cell1
          have free1 := own_free HUO.out i
          obtain ⟨hs1, hg1'⟩ := own_set HUO.out i 255 255 rfl (by omega)
          have HUS1 := Lib.hid hs1
          have HVS3 := Lib.hid (own_other HVS2.out hg1' (fun e => hg12 e.symm))
          have HB6 := Lib.hid (HB5.out.grown hg1' HB5.out.size (fun q hq => by rw [← Option.some.inj hq]; exact HLT.out.1))
          have HVN : Hid (∀ j, j < i + 1 → (vs.set i v.toNat).getD j 0 = v.toNat) := fun j hj => by
            rw [getD_set_ _ _ _ _ (by rw [HVS.out.len]; exact hlt)]
            by_cases e : i = j
            · rw [if_pos e]
            · rw [if_neg e]; exact HVV.out j (by omega)
          have i0 : (0 : Int) ≤ (i : Int) := by omega
          have i1 : (i : Int) < (N : Int) + 28 := by omega
          by_cases hpi : p ≤ i
          · have HUN : Hid (∀ j, j < N + 28 → (us.set i 255).getD j 0 = if p ≤ j ∧ j < i + 1 then 255 else (Hd.page xs (hN K A S G)).getD j 0) := fun j hj => by
              rw [getD_set_ _ _ _ _ (by rw [HU.out.len]; exact hlt)]
              by_cases e : i = j
              · rw [if_pos e, if_pos (by omega)]
              · rw [if_neg e, HUS.out j hj]
                by_cases h : p ≤ j ∧ j < i
                · rw [if_pos h, if_pos (by omega)]
                · rw [if_neg h, if_neg (by omega)]
            clear hs2 hg2 hs1 hg1'
            go_wp2_with fail
            go_roundw
            case rel => exact ⟨i + 1, _, _, by go_num, by omega, HUS1, HVS3, HB6, HUN, HVN⟩
            case measure => simp [intOf]; omega
          · have HUN : Hid (∀ j, j < N + 28 → us.getD j 0 = if p ≤ j ∧ j < i + 1 then 255 else (Hd.page xs (hN K A S G)).getD j 0) := fun j hj => by
              rw [HUS.out j hj]
              by_cases h : p ≤ j ∧ j < i
              · rw [if_pos h, if_pos (by omega)]
              · rw [if_neg h, if_neg (by omega)]
            clear hs2 hg2 hs1 hg1'
            go_wp2_with fail
            go_roundw
            case rel => exact ⟨i + 1, _, _, by go_num, by omega, HUO, HVS2, HB5, HUN, HVN⟩
            case measure => simp [intOf]; omega
        · have hi28 : i = N + 28 := by omega
          have hUL := HU.out.len
          have hVL := HVS.out.len
          have HF : Hid (Hd.fits xs.length) := by rw [HXL.out]; exact ⟨N0, N1⟩
          obtain ⟨x1, hs1, hx1, hx0⟩ := torn_math (h := hN K A S G) HF.out (by rw [hUL, HXL.out]) (by rw [HXL.out]; exact hpl) (fun j hj => by
            rw [HXL.out] at hj
            rw [HUS.out j hj]
            by_cases e : p ≤ j
            · rw [if_pos e, if_pos ⟨e, by omega⟩]
            · rw [if_neg e, if_neg (fun hh => e hh.1)])
          have hst := equal_math (v := v.toNat) (N := N) ⟨N0, N1⟩ hVL (fun j hj => HVV.out j (by omega))
          have HS1 := Lib.hid hs1
          have HX0 := Lib.hid hx0
          have bx1 : (x1 == 1) = false := by simpa using hx1
          subst hi28
          clear hs1 hx0 hUL hVL HUS HVV HF
          rcases hst with ⟨hv, hs2⟩ | ⟨hv, hs2⟩
          all_goals by_cases hp0 : p = 0
          · obtain rfl : v = 255 := by have := HV.out.1; omega
            subst hp0
            obtain rfl : x1 = 0 := HX0.out rfl
            have HS2 := Lib.hid hs2
            clear hs2 hv
            go_wp2_with fail
            refine (read_state HS1.out _ (N + 28) d1 _ (HT.out.since HB4.out) (HW.out.since HB4.out) (by omega) HU.out.cap HU.out.bytes).mono ?_
            rintro e W5 ⟨rfl, hb5⟩
            have S5 := Lib.hid (below_chain HB4.out hb5.out)
            have V5 := Lib.hid (HVS.out.since hb5.out)
            have S6 := Lib.hid (since_alloc S5.out (.cells #[.int .i64 0, .int .u64 0, .int .i64 0, .int .i64 0] 25))
            have V6 := Lib.hid (V5.out.since (later_alloc W5 (.cells #[.int .i64 0, .int .u64 0, .int .i64 0, .int .i64 0] 25)))
            clear hb5 HB4 HVS HU
            go_wp2_with fail
            refine (read_state HS2.out _ (N + 28) (N + 28) _ (HT.out.since S6.out) (HW.out.since S6.out) (by omega) V6.out.cap V6.out.bytes).mono ?_
            rintro e W7 ⟨rfl, hb7⟩
            have S7 := Lib.hid (S6.out.trans (hb7.out.mono (by have := S6.out.size; simp at this; simp; omega)))
            have S8 := Lib.hid (since_alloc S7.out (.cells #[.int .i64 0, .int .u64 0, .int .i64 0, .int .i64 0] 25))
            clear hb7 S5 S6 V5 V6
            go_wp2_with fail
            refine (awake_any _ (HT.out.since S8.out) (HW.out.since S8.out)).mono ?_
            rintro e W9 ⟨rfl, hb9⟩
            have S9 := Lib.hid (S8.out.trans (hb9.out.mono (by have := S8.out.size; simp at this; simp; omega)))
            go_wp2_with fail
            go_ret
            exact ⟨by simp, S9.out⟩
          · obtain rfl : v = 255 := by have := HV.out.1; omega
            have hpp : (0 : Int) < (p : Int) := by omega
            clear hp0
            have HS2 := Lib.hid hs2
            clear hs2 hv
            go_wp2_with fail
            refine (read_state HS1.out _ (N + 28) d1 _ (HT.out.since HB4.out) (HW.out.since HB4.out) (by omega) HU.out.cap HU.out.bytes).mono ?_
            rintro e W5 ⟨rfl, hb5⟩
            have S5 := Lib.hid (below_chain HB4.out hb5.out)
            have V5 := Lib.hid (HVS.out.since hb5.out)
            have S6 := Lib.hid (since_alloc S5.out (.cells #[.int .i64 0, .int .u64 0, .int .i64 0, .int .i64 0] 25))
            have V6 := Lib.hid (V5.out.since (later_alloc W5 (.cells #[.int .i64 0, .int .u64 0, .int .i64 0, .int .i64 0] 25)))
            clear hb5 HB4 HVS HU
            go_wp2_with fail
            refine (read_state HS2.out _ (N + 28) (N + 28) _ (HT.out.since S6.out) (HW.out.since S6.out) (by omega) V6.out.cap V6.out.bytes).mono ?_
            rintro e W7 ⟨rfl, hb7⟩
            have S7 := Lib.hid (S6.out.trans (hb7.out.mono (by have := S6.out.size; simp at this; simp; omega)))
            have S8 := Lib.hid (since_alloc S7.out (.cells #[.int .i64 0, .int .u64 0, .int .i64 0, .int .i64 0] 25))
            clear hb7 S5 S6 V5 V6
            go_wp2_with fail
            refine (awake_any _ (HT.out.since S8.out) (HW.out.since S8.out)).mono ?_
            rintro e W9 ⟨rfl, hb9⟩
            have S9 := Lib.hid (S8.out.trans (hb9.out.mono (by have := S8.out.size; simp at this; simp; omega)))
            go_wp2_with fail
            go_ret
            exact ⟨by simp; exact hx1, S9.out⟩
          · have bv : (v == 255) = false := by simp; omega
            subst hp0
            obtain rfl : x1 = 0 := HX0.out rfl
            have HS2 := Lib.hid hs2
            clear hs2 hv
            go_wp2_with fail
            refine (read_state HS1.out _ (N + 28) d1 _ (HT.out.since HB4.out) (HW.out.since HB4.out) (by omega) HU.out.cap HU.out.bytes).mono ?_
            rintro e W5 ⟨rfl, hb5⟩
            have S5 := Lib.hid (below_chain HB4.out hb5.out)
            have V5 := Lib.hid (HVS.out.since hb5.out)
            have S6 := Lib.hid (since_alloc S5.out (.cells #[.int .i64 0, .int .u64 0, .int .i64 0, .int .i64 0] 25))
            have V6 := Lib.hid (V5.out.since (later_alloc W5 (.cells #[.int .i64 0, .int .u64 0, .int .i64 0, .int .i64 0] 25)))
            clear hb5 HB4 HVS HU
            go_wp2_with fail
            refine (read_state HS2.out _ (N + 28) (N + 28) _ (HT.out.since S6.out) (HW.out.since S6.out) (by omega) V6.out.cap V6.out.bytes).mono ?_
            rintro e W7 ⟨rfl, hb7⟩
            have S7 := Lib.hid (S6.out.trans (hb7.out.mono (by have := S6.out.size; simp at this; simp; omega)))
            have S8 := Lib.hid (since_alloc S7.out (.cells #[.int .i64 0, .int .u64 0, .int .i64 0, .int .i64 0] 25))
            clear hb7 S5 S6 V5 V6
            go_wp2_with fail
            refine (awake_any _ (HT.out.since S8.out) (HW.out.since S8.out)).mono ?_
            rintro e W9 ⟨rfl, hb9⟩
            have S9 := Lib.hid (S8.out.trans (hb9.out.mono (by have := S8.out.size; simp at this; simp; omega)))
            go_wp2_with fail
            go_ret
            exact ⟨by simp, S9.out⟩
          · have bv : (v == 255) = false := by simp; omega
            have hpp : (0 : Int) < (p : Int) := by omega
            clear hp0
            have HS2 := Lib.hid hs2
            clear hs2 hv
            go_wp2_with fail
            refine (read_state HS1.out _ (N + 28) d1 _ (HT.out.since HB4.out) (HW.out.since HB4.out) (by omega) HU.out.cap HU.out.bytes).mono ?_
            rintro e W5 ⟨rfl, hb5⟩
            have S5 := Lib.hid (below_chain HB4.out hb5.out)
            have V5 := Lib.hid (HVS.out.since hb5.out)
            have S6 := Lib.hid (since_alloc S5.out (.cells #[.int .i64 0, .int .u64 0, .int .i64 0, .int .i64 0] 25))
            have V6 := Lib.hid (V5.out.since (later_alloc W5 (.cells #[.int .i64 0, .int .u64 0, .int .i64 0, .int .i64 0] 25)))
            clear hb5 HB4 HVS HU
            go_wp2_with fail
            refine (read_state HS2.out _ (N + 28) (N + 28) _ (HT.out.since S6.out) (HW.out.since S6.out) (by omega) V6.out.cap V6.out.bytes).mono ?_
            rintro e W7 ⟨rfl, hb7⟩
            have S7 := Lib.hid (S6.out.trans (hb7.out.mono (by have := S6.out.size; simp at this; simp; omega)))
            have S8 := Lib.hid (since_alloc S7.out (.cells #[.int .i64 0, .int .u64 0, .int .i64 0, .int .i64 0] 25))
            clear hb7 S5 S6 V5 V6
            go_wp2_with fail
            refine (awake_any _ (HT.out.since S8.out) (HW.out.since S8.out)).mono ?_
            rintro e W9 ⟨rfl, hb9⟩
            have S9 := Lib.hid (S8.out.trans (hb9.out.mono (by have := S8.out.size; simp at this; simp; omega)))
            go_wp2_with fail
            go_ret
            exact ⟨by simp; exact hx1, S9.out⟩
end Go.Proofs.YticjdjffmagdkaaDoor
