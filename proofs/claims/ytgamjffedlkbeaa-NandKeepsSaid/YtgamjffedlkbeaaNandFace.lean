/- The contracts of a chip: New, Read, Program, Erase, Mark, Boot, what it tells. Conditions: the chip's cells; fewer than a million operations. -/
import Derived.Test.YtgamjffedlkbeaaNandEnd
import Derived.Test.YtgamjffedlkbeaaClone
import Derived.Test.YtgamjffedlkbeaaCloneM
set_option linter.unusedVariables false
set_option linter.unusedSimpArgs false
namespace Go.Proofs.Ytgamjffedlkbeaa
open Go.RowKit

theorem run_load_mish {W : World} {g : Nat} {m : M} (h : RowM W g m) : (Instr.loadAt 45 (.pointer (some ⟨g, 0, none⟩))).run Try.prog W = .ok (mishV m) W := by
  obtain ⟨c0, c1, c2, c3⟩ := h.at_
  unfold mishV
  go_simp
theorem done_true {ops : Array Oper} {a0 a : Act} {F : Nat → Value → World → Prop} {dead : Nat → Option Nat} {listed : Array Bool} {w : World} (H : Holds2 ops a0 F dead listed a w) (i : Nat) (hi : i < ops.size) (h : listed.getD i false = true) : listed.getD i true = true := by
  have : i < listed.size := by rw [H.len]; exact hi
  simp [this] at h ⊢
  exact h
theorem getD_default {l : Array Bool} {i : Nat} (h : l.getD i false = true) : l.getD i true = true := by
  by_cases hi : i < l.size
  · simp [hi] at h ⊢; exact h
  · simp [hi]
section
variable {w : World} {base g : Nat} {fp : Nat → Prop} {s : Chip} {L : CL}
theorem why_le (s : Chip) (b p : Int) (l : Nat) : s.why b p l = 0 ∨ (s.on = false ∧ s.why b p l = 4) ∨ (s.on = true ∧ s.why b p l = 2) := by
  unfold Chip.why
  cases s.on with
  | false => exact Or.inr (Or.inl ⟨rfl, rfl⟩)
  | true =>
    rw [if_neg (by decide)]
    split
    · exact Or.inl rfl
    · exact Or.inr (Or.inr ⟨rfl, rfl⟩)
set_option maxHeartbeats 16000000 in
set_option maxRecDepth 20000 in
theorem erase_any (b : Int) (hC : ChipAt w base fp g s) (hops : s.ops < 1000000) :
    Calls Try.prog 14 #[.pointer (some ⟨g, 0, none⟩), .int .i64 b] w (Leads w base fp g (s.erase b)) := by
  obtain ⟨L, h⟩ := hC
  have HR := Lib.hid h
  have CH := Lib.hid (has_any b h)
  by_cases hw : s.why b 0 s.long ≠ 0
  · rw [Chip.erase_why hw]
    obtain ⟨kk, HKK⟩ : ∃ kk : Int, Hid (s.why b 0 s.long = kk) := ⟨_, rfl⟩
    rw [HKK.out]
    have HNZ : Hid (kk ≠ 0) := by show kk ≠ 0; rw [← HKK.out]; exact hw
    have HK : Hid ((s.on = false ∧ kk = 4) ∨ (s.on = true ∧ s.has b = false ∧ kk = 2)) := by
      rcases why_le s b 0 s.long with h1 | ⟨h1, h2⟩ | ⟨h1, h2⟩
      · exact absurd h1 hw
      · exact Or.inl ⟨h1, by rw [← HKK.out, h2]⟩
      · refine Or.inr ⟨h1, ?_, by rw [← HKK.out, h2]⟩
        cases hh : s.has b with
        | false => rfl
        | true =>
          have hb := of_decide_eq_true hh
          rw [Chip.why_ok h1 hb.1 hb.2 (by omega) (by have := h.wf.np1; omega) rfl] at h2; cases h2
    clear h hw HKK
    go_enter Try.func14, Try.ntmps14
    go_wp2_with fail
    refine CH.out.mono ?_
    rintro e w' ⟨rfl, rfl⟩
    go_wp2_with fail
    refine (begin_no _ _ (HR.out) kk HK.out).mono ?_
    rintro e Wb ⟨v, rfl, he, hb⟩
    have HB := Lib.hid hb
    have HE := Lib.hid he
    clear he hb
    rcases HE.out with ⟨h0, _⟩ | ⟨h0, ge, se, rfl, e1, e2, e3, e4⟩
    · exact absurd h0 HNZ.out
    have L9 := later_alloc Wb (.cells #[.int .i64 0, .int .i64 0, .int .i64 0, .int .u8 0] 45)
    have HE9 := Lib.hid (ErrNew.over HE.out (Moves.of_below (fp := fp) L9))
    have HB9 := Lib.hid (below_chain HB.out L9)
    clear L9 h0 e1 e2 e3 e4 HE HB
    unfold mishV M.zero
    dsimp only
    go_wp2_with fail
    go_ret
    exact ⟨_, fp, rfl, HE9.out, ⟨L, HR.out.since HB9.out⟩, Moves.of_below HB9.out⟩
  have hw0 : s.why b 0 s.long = 0 := by omega
  rw [Chip.erase_in hw0]
  obtain ⟨hon, b0, b1, _, _, _⟩ := Chip.why_zero hw0
  obtain ⟨k, rfl⟩ : ∃ k : Nat, b = (k : Int) := ⟨b.toNat, by omega⟩
  have hk : k < s.nb := by omega
  have hh : s.has (k : Int) = true := decide_eq_true ⟨b0, b1⟩
  rw [hh] at CH
  have HBW := Lib.hid (Chip.bef_wf h.wf)
  have HBM := Lib.hid h.befw
  obtain ⟨m, HM⟩ : ∃ m, Hid (s.bef = m) := ⟨_, rfl⟩
  rw [HM.out] at HBW HBM ⊢
  have HLT := Lib.hid h.lt
  have HONE : Hid (s.on = true ∧ s.ops < 1000000 ∧ k < s.nb ∧ s.Wf) := ⟨hon, hops, hk, h.wf⟩
  obtain ⟨r2, HR2⟩ : ∃ r2, Hid (s.tick.eraseIn m (k : Int) = r2) := ⟨_, rfl⟩
  obtain ⟨r3, HR3⟩ : ∃ r3, Hid (Chip.endIn r2 m = r3) := ⟨_, rfl⟩
  rw [HR2.out, HR3.out]
  obtain ⟨s2, code⟩ := r2
  obtain ⟨s3, codeE⟩ := r3
  clear h hw hw0 hon hops b0 b1 hk hh
  go_enter Try.func14, Try.ntmps14
  go_wp2_with fail
  refine CH.out.mono ?_
  rintro e w' ⟨rfl, rfl⟩
  go_wp2_with fail
  refine (begin_ok _ HR.out HONE.out.1 HONE.out.2.1).mono ?_
  rintro e Wb ⟨rfl, h1, m1⟩
  rw [HM.out]
  have H1 := Lib.hid h1
  have M1 := Lib.hid m1
  clear h1 m1
  unfold mishV
  go_wp2_with fail
  obtain ⟨s1, HS1⟩ : ∃ s1, Hid (s.tick = s1) := ⟨_, rfl⟩
  rw [HS1.out] at H1 HR2
  have HTK : Hid (s1.Tk ∧ s1.ops ≤ 1000000 ∧ k < s1.nb) := by
    rw [← HS1.out]
    exact ⟨HONE.out.2.2.2.tk, by show s.ops + 1 ≤ 1000000; have := HONE.out.2.1; omega, HONE.out.2.2.1⟩
  obtain ⟨gm, HG⟩ : ∃ gm : Nat, Hid (Wb.heap.size = gm) := ⟨_, rfl⟩
  obtain ⟨WB, HWB⟩ : ∃ W, Hid (W = Wb.alloc (.cells #[.int .i64 m.at_, .int .i64 m.kind, .int .i64 m.bytes, .int .u8 m.fill] 45)) := ⟨_, rfl⟩
  have L9 : Hid (Later Wb WB) := by rw [HWB.out]; exact later_alloc _ _
  have HMV : Hid (RowM WB gm m) := by rw [HWB.out, ← HG.out]; exact rowM_new Wb m
  have HGM : Hid (¬ fp gm) := fun hf => by have := H1.out.lt gm hf; have := HG.out; omega
  have HB := Lib.hid (H1.out.since L9.out)
  have HSZ := Lib.hid (Nat.le_trans M1.out.size (Below.size L9.out))
  have HMM := Lib.hid (M1.out.trans (Moves.of_below L9.out))
  have HCODE : Hid (0 ≤ code) := by
    have : (s1.eraseIn m (k : Int)).2 = code := by rw [HR2.out]
    show 0 ≤ code
    rw [← this]
    unfold Chip.eraseIn
    split
    · show (0 : Int) ≤ 6; decide
    · split
      · show (0 : Int) ≤ 5; decide
      · split <;> exact Int.le_refl _
  have CA : Hid (∀ W, Rep W base fp g s1 L → True → Calls Try.prog 36 #[.pointer (some ⟨g, 0, none⟩), mishV m, .int .i64 (k : Int)] W (fun e w' => e = .returned (.int .i64 code) ∧ (∃ L', Rep w' base fp g s2 L') ∧ Moves W fp w' fp)) := fun W hW _ => by
    have := erasein_any m HBM.out HBW.out.2.2 k hW HTK.out.1 HTK.out.2.1 HTK.out.2.2
    rw [HR2.out] at this
    exact this
  have CE : Hid (∀ (st : ByteArray) (L2 : CL) (W : World), Rep W base fp g s2 L2 → Calls Try.prog 33 #[.pointer (some ⟨g, 0, none⟩), .string st, mishV m, .int .i64 code] W (fun e w' => ∃ v, e = .returned v ∧ ErrNew W fp w' codeE v ∧ Rep w' base fp g s3 L2 ∧ Moves W fp w' fp)) := fun st L2 W hW => by
    have := end_any st m code HCODE.out hW
    rw [HR3.out] at this
    exact this
  rw [HG.out, ← HWB.out]
  clear L9 H1 M1 HG HWB HBW HBM HR HR2 HR3 HLT HTK CH HCODE HONE HM HS1
  obtain ⟨WD, HWD⟩ : ∃ W, Hid (W = WB.drew) := ⟨_, rfl⟩
  have HDL : Hid (Later WB WD) := by rw [HWD.out]; exact (Below.refl _ _).drew
  have HB3 := Lib.hid (HB.out.since HDL.out)
  have HMV3 := Lib.hid (HMV.out.since HDL.out)
  have HSZ3 := Lib.hid (Nat.le_trans HSZ.out (Below.size HDL.out))
  have HMM3 := Lib.hid (HMM.out.trans (Moves.of_below HDL.out))
  clear HB HMV HSZ HMM HDL
  have HB := HB3
  have HMV := HMV3
  have HSZ := HSZ3
  have HMM := HMM3
  clear HB3 HMV3 HSZ3 HMM3
  refine region_of_steps5 (by kernel_rfl) (fact2Of [.is (.pointer (some ⟨g, 0, none⟩)), .is (mishV m), .is (.pointer (some ⟨g, 0, none⟩)), .is (mishV m), .is (.int .i64 (k : Int)), .is (.int .i64 code), .that (ErrF w fp codeE) (errF_since _ _ _), .that (ErrF w fp codeE) (errF_since _ _ _)]) (deadOf []) (fun j a x y => EndR base fp g 5 6 s2 s3 j x y) (fun l a W => EndInv WD base fp g 5 6 s1 s2 s3 L l W) (by kernel_rfl)
    (fun i j v a x y hm hd hn _ h hR => facts_over (w0 := w) (k := codeE) _ 6 7 rfl rfl (by kernel_rfl) i h hR.moves)
    (fun listed j a x v y o ho hsz H h hs hl hR hv => endinv_step H (by kernel_rfl) (by decide) h hl hR)
    (by rw [← HWD.out]; exact endinv_start (by decide) (by decide) HB.out) ?_ ?_
  · refine Steps5.cons ?_ (Steps5.cons ?_ (Steps5.cons ?_ (Steps5.cons ?_ (Steps5.cons ?_ (Steps5.cons ?_ (Steps5.cons ?_ (Steps5.cons ?_ (Steps5.nil))))))))
    · intro listed a W H hw hl hd
      have t0 : a.tmps.getD 0 undef = .pointer (some ⟨g, 0, none⟩) := (H.old 0 (by kernel_rfl)).trans rfl
      exact step2_value (R := fun j x y => EndR base fp g 5 6 s2 s3 j x y) (i := 0) rfl rfl (run_op_move rfl t0) (endr_refl (by decide) (by decide)) rfl
    · intro listed a W H hw hl hd
      have t5 : a.tmps.getD 5 undef = .pointer (some ⟨gm, 0, none⟩) := (H.old 5 (by kernel_rfl)).trans rfl
      exact step2_value (R := fun j x y => EndR base fp g 5 6 s2 s3 j x y) (i := 1) rfl rfl (run_op_load rfl t5 (run_load_mish (HMV.out.over hw.moves HGM.out))) (endr_refl (by decide) (by decide)) rfl
    · intro listed a W H hw hl hd
      have t0 : a.tmps.getD 0 undef = .pointer (some ⟨g, 0, none⟩) := (H.old 0 (by kernel_rfl)).trans rfl
      exact step2_value (R := fun j x y => EndR base fp g 5 6 s2 s3 j x y) (i := 2) rfl rfl (run_op_move rfl t0) (endr_refl (by decide) (by decide)) rfl
    · intro listed a W H hw hl hd
      have t5 : a.tmps.getD 5 undef = .pointer (some ⟨gm, 0, none⟩) := (H.old 5 (by kernel_rfl)).trans rfl
      exact step2_value (R := fun j x y => EndR base fp g 5 6 s2 s3 j x y) (i := 3) rfl rfl (run_op_load rfl t5 (run_load_mish (HMV.out.over hw.moves HGM.out))) (endr_refl (by decide) (by decide)) rfl
    · intro listed a W H hw hl hd
      have t1 : a.tmps.getD 1 undef = .int .i64 (k : Int) := (H.old 1 (by kernel_rfl)).trans rfl
      exact step2_value (R := fun j x y => EndR base fp g 5 6 s2 s3 j x y) (i := 4) rfl rfl (run_op_move rfl t1) (endr_refl (by decide) (by decide)) rfl
    · intro listed a W H hw hl hd
      have t20 : a.tmps.getD 20 undef = .pointer (some ⟨g, 0, none⟩) := H.get 2 20 (by kernel_rfl) (dep_of hd 2 (by kernel_rfl)) (alive_none (by kernel_rfl))
      have t21 : a.tmps.getD 21 undef = mishV m := H.get 3 21 (by kernel_rfl) (dep_of hd 3 (by kernel_rfl)) (alive_none (by kernel_rfl))
      have t22 : a.tmps.getD 22 undef = .int .i64 (k : Int) := H.get 4 22 (by kernel_rfl) (dep_of hd 4 (by kernel_rfl)) (alive_none (by kernel_rfl))
      refine step2_call (R := fun j x y => EndR base fp g 5 6 s2 s3 j x y) (i := 5) rfl rfl (run_op_call (vs := #[.pointer (some ⟨g, 0, none⟩), mishV m, .int .i64 (k : Int)]) Try.func36 (by kernel_rfl) (by kernel_rfl) rfl (by simp only [List.map_toArray, List.map_cons, List.map_nil]; show #[a.tmps.getD 20 undef, a.tmps.getD 21 undef, a.tmps.getD 22 undef] = _; rw [t20, t21, t22])) ?_
      refine (CA.out W (hw.none_ hl (H.notyet hl (by kernel_rfl))) trivial).mono ?_
      rintro e W2 ⟨rfl, h2, m2⟩
      exact ⟨_, rfl, ⟨m2, fun _ => h2, fun e => absurd e (by decide), fun e => absurd rfl e⟩, rfl⟩
    · intro listed a W H hw hl hd
      have t18 : a.tmps.getD 18 undef = .pointer (some ⟨g, 0, none⟩) := H.get 0 18 (by kernel_rfl) (dep_of hd 0 (by kernel_rfl)) (alive_none (by kernel_rfl))
      have t19 : a.tmps.getD 19 undef = mishV m := H.get 1 19 (by kernel_rfl) (dep_of hd 1 (by kernel_rfl)) (alive_none (by kernel_rfl))
      have t23 : a.tmps.getD 23 undef = .int .i64 code := H.get 5 23 (by kernel_rfl) (dep_of hd 5 (by kernel_rfl)) (alive_none (by kernel_rfl))
      refine step2_call (R := fun j x y => EndR base fp g 5 6 s2 s3 j x y) (i := 6) rfl rfl (run_op_call (vs := #[.pointer (some ⟨g, 0, none⟩), .string { data := #[110, 97, 110, 100, 46, 69, 114, 97, 115, 101] }, mishV m, .int .i64 code]) Try.func33 (by kernel_rfl) (by kernel_rfl) rfl (by simp only [List.map_toArray, List.map_cons, List.map_nil]; show #[a.tmps.getD 18 undef, .string { data := #[110, 97, 110, 100, 46, 69, 114, 97, 115, 101] }, a.tmps.getD 19 undef, a.tmps.getD 23 undef] = _; rw [t18, t19, t23])) ?_
      obtain ⟨L2, h2⟩ := hw.one (done_true H 5 (by decide) (dep_of hd 5 (by kernel_rfl))) hl
      refine (CE.out _ L2 W h2).mono ?_
      rintro e W2 ⟨v, rfl, he, h3, m3⟩
      exact ⟨v, rfl, ⟨m3, fun e => absurd e (by decide), fun _ => ⟨L2, h3⟩, fun _ e => absurd rfl e⟩, he.mono_w (Nat.le_trans HSZ.out hw.moves.size)⟩
    · intro listed a W H hw hl hd
      have T24 : (ErrF w fp codeE) (a.tmps.getD 24 undef) W := H.get 6 24 (by kernel_rfl) (dep_of hd 6 (by kernel_rfl)) (alive_none (by kernel_rfl))
      exact step2_value (R := fun j x y => EndR base fp g 5 6 s2 s3 j x y) (i := 7) rfl rfl (run_op_assign rfl rfl) (endr_refl (by decide) (by decide)) T24
  · intro a WC listed hdef hsz hinv hall0 hall hact
    have HF := Lib.hid (hinv.both (getD_default (hall0 6 (by decide))))
    have HMF := Lib.hid (HMM.out.trans hinv.moves)
    have HEF := Lib.hid (hall 7 _ rfl (by kernel_rfl))
    obtain ⟨u, hu⟩ : ∃ u : Nat → Value, ∀ k, a.tmps.getD k undef = u k := ⟨_, fun _ => rfl⟩
    have HE2 : Hid (ErrNew w fp WC codeE (u 4)) := by
      have h := HEF.out
      rw [← hu 4]
      exact h
    simp only [hu] at hact
    have hact' : a = ([18, 19, 20, 21, 22, 23, 24, 4] : List Nat).foldl (fun b k => b.put (some k) (u k)) _ := hact
    simp only [List.foldl] at hact'
    simp only [Act.put, List.setIfInBounds_toArray, List.set_cons_succ, List.set_cons_zero] at hact'
    have HAC := Lib.hid hact'
    clear hu hact hact' hall hall0 hdef hsz hinv HEF HB HMV HSZ HMM CA CE
    obtain ⟨v9, HV9⟩ : ∃ v9, Hid (u 4 = v9) := ⟨_, rfl⟩
    rw [HV9.out] at HE2 HAC
    rw [HAC.out]
    go_wp2_with fail
    go_ret
    exact ⟨v9, fp, rfl, HE2.out, HF.out, HMF.out⟩
set_option maxHeartbeats 16000000 in
set_option maxRecDepth 20000 in
theorem program_any (b p : Int) (A : Option Addr) (n c : Nat) (raw : List Nat) (hC : ChipAt w base fp g s) (hA : Bytes w w.heap.size A n raw) (hc : n ≤ c) (hs : ∀ x ∈ blk A, ¬ fp x) (hops : s.ops < 1000000) :
    Calls Try.prog 10 #[.pointer (some ⟨g, 0, none⟩), .int .i64 b, .int .i64 p, .slice A n c] w (Leads w base fp g (s.program b p raw)) := by
  obtain ⟨L, h⟩ := hC
  have HR := Lib.hid h
  have CH := Lib.hid (hasPage_any b p h)
  have hAl := hA.len
  obtain ⟨z, HZ⟩ : ∃ z : Nat, Hid (s.ns + 28 = z) := ⟨_, rfl⟩
  have CW : Hid (Calls Try.prog 28 #[.pointer (some ⟨g, 0, none⟩)] w fun e w' => e = .returned (.int .i64 (z : Int)) ∧ w = w') := by
    have h1 := width_any h
    rwa [show (s.ns : Int) + 28 = (z : Int) by rw [← HZ.out]; omega] at h1
  by_cases hw : s.why b p raw.length ≠ 0
  · rw [Chip.program_why hw]
    obtain ⟨kk, HKK⟩ : ∃ kk : Int, Hid (s.why b p raw.length = kk) := ⟨_, rfl⟩
    rw [HKK.out]
    have HNZ : Hid (kk ≠ 0) := by show kk ≠ 0; rw [← HKK.out]; exact hw
    have HK4 : Hid (s.on = false ∨ (s.on = true ∧ kk = 2)) := by
      rcases why_le s b p raw.length with h1 | ⟨h1, h2⟩ | ⟨h1, h2⟩
      · exact absurd h1 hw
      · exact Or.inl h1
      · exact Or.inr ⟨h1, by rw [← HKK.out, h2]⟩
    have HKD : Hid (s.on = false → kk = 4) := fun e => by rw [← HKK.out, Chip.why_dark e]
    have HONX : Hid (s.hasPage b p = true → n = z → s.on = false) := fun h1 h2 => by
      cases ho : s.on with
      | false => rfl
      | true =>
        have hb := of_decide_eq_true h1
        exact absurd (Chip.why_ok ho hb.1 hb.2.1 hb.2.2.1 hb.2.2.2 (by show raw.length = s.ns + 28; have := HZ.out; omega)) hw
    have HKF : Hid (∀ fits, fits = false → (s.on = false ∧ kk = 4) ∨ (s.on = true ∧ fits = false ∧ kk = 2)) := fun fits hf => by
      rcases HK4.out with h1 | ⟨h1, h2⟩
      · exact Or.inl ⟨h1, HKD.out h1⟩
      · exact Or.inr ⟨h1, hf, h2⟩
    cases hp : s.hasPage b p with
    | false =>
      rw [hp] at CH
      clear h hw HKK HK4 HKD HONX hA hp hAl HZ
      go_enter Try.func10, Try.ntmps10
      go_wp2_with fail
      refine CH.out.mono ?_
      rintro e w' ⟨rfl, rfl⟩
      go_wp2_with fail
      refine (begin_no _ _ (HR.out) kk (HKF.out _ rfl)).mono ?_
      rintro e Wb ⟨v, rfl, he, hb⟩
      have HB := Lib.hid hb
      have HE := Lib.hid he
      clear he hb
      rcases HE.out with ⟨h0, _⟩ | ⟨h0, ge, se, rfl, e1, e2, e3, e4⟩
      · exact absurd h0 HNZ.out
      have L9 := later_alloc Wb (.cells #[.int .i64 0, .int .i64 0, .int .i64 0, .int .u8 0] 45)
      have HE9 := Lib.hid (ErrNew.over HE.out (Moves.of_below (fp := fp) L9))
      have HB9 := Lib.hid (below_chain HB.out L9)
      clear L9 h0 e1 e2 e3 e4 HE HB
      unfold mishV M.zero
      dsimp only
      go_wp2_with fail
      go_ret
      exact ⟨_, fp, rfl, HE9.out, ⟨L, HR.out.since HB9.out⟩, Moves.of_below HB9.out⟩
    | true =>
      rw [hp] at CH
      by_cases hn : n = z
      · have HK : Hid (s.on = false ∧ kk = 4) := ⟨HONX.out hp hn, HKD.out (HONX.out hp hn)⟩
        have hb9 : ((n : Int) == (z : Int)) = true := by simp; omega
        clear h hw HKK HK4 HKD HONX HKF hA hp hAl HZ hn
        go_enter Try.func10, Try.ntmps10
        go_wp2_with fail
        refine CH.out.mono ?_
        rintro e w' ⟨rfl, rfl⟩
        go_wp2_with fail
        refine CW.out.mono ?_
        rintro e w' ⟨rfl, rfl⟩
        go_wp2_with fail
        refine (begin_no _ _ (HR.out) kk (Or.inl HK.out)).mono ?_
        rintro e Wb ⟨v, rfl, he, hb⟩
        have HB := Lib.hid hb
        have HE := Lib.hid he
        clear he hb
        rcases HE.out with ⟨h0, _⟩ | ⟨h0, ge, se, rfl, e1, e2, e3, e4⟩
        · exact absurd h0 HNZ.out
        have L9 := later_alloc Wb (.cells #[.int .i64 0, .int .i64 0, .int .i64 0, .int .u8 0] 45)
        have HE9 := Lib.hid (ErrNew.over HE.out (Moves.of_below (fp := fp) L9))
        have HB9 := Lib.hid (below_chain HB.out L9)
        clear L9 h0 e1 e2 e3 e4 HE HB
        unfold mishV M.zero
        dsimp only
        go_wp2_with fail
        go_ret
        exact ⟨_, fp, rfl, HE9.out, ⟨L, HR.out.since HB9.out⟩, Moves.of_below HB9.out⟩
      · have hb9 : ((n : Int) == (z : Int)) = false := by simp; omega
        clear h hw HKK HK4 HKD HONX hA hp hAl HZ hn
        go_enter Try.func10, Try.ntmps10
        go_wp2_with fail
        refine CH.out.mono ?_
        rintro e w' ⟨rfl, rfl⟩
        go_wp2_with fail
        refine CW.out.mono ?_
        rintro e w' ⟨rfl, rfl⟩
        go_wp2_with fail
        refine (begin_no _ _ (HR.out) kk (HKF.out _ rfl)).mono ?_
        rintro e Wb ⟨v, rfl, he, hb⟩
        have HB := Lib.hid hb
        have HE := Lib.hid he
        clear he hb
        rcases HE.out with ⟨h0, _⟩ | ⟨h0, ge, se, rfl, e1, e2, e3, e4⟩
        · exact absurd h0 HNZ.out
        have L9 := later_alloc Wb (.cells #[.int .i64 0, .int .i64 0, .int .i64 0, .int .u8 0] 45)
        have HE9 := Lib.hid (ErrNew.over HE.out (Moves.of_below (fp := fp) L9))
        have HB9 := Lib.hid (below_chain HB.out L9)
        clear L9 h0 e1 e2 e3 e4 HE HB
        unfold mishV M.zero
        dsimp only
        go_wp2_with fail
        go_ret
        exact ⟨_, fp, rfl, HE9.out, ⟨L, HR.out.since HB9.out⟩, Moves.of_below HB9.out⟩
  have hw0 : s.why b p raw.length = 0 := by omega
  obtain ⟨hon, b0, b1, p0, p1, hl⟩ := Chip.why_zero hw0
  obtain ⟨k, rfl⟩ : ∃ k : Nat, b = (k : Int) := ⟨b.toNat, by omega⟩
  obtain ⟨q, rfl⟩ : ∃ q : Nat, p = (q : Int) := ⟨p.toNat, by omega⟩
  have hk : k < s.nb := by omega
  have hq : q < s.np := by omega
  rw [Chip.program_in hw0 (by unfold Chip.page; rw [blk_nth, Int.toNat_natCast]; exact h.wf.bytes k q hk hq)]
  have hh : s.hasPage (k : Int) (q : Int) = true := decide_eq_true ⟨b0, b1, p0, p1⟩
  rw [hh] at CH
  have hlz : s.long = z := HZ.out
  obtain rfl : n = z := by omega
  have hn1 : 1 ≤ n := by rw [← HZ.out]; omega
  obtain ⟨ad, rfl⟩ : ∃ ad, A = some ad := by
    obtain ⟨ad, e, _⟩ := hA.lies 0 hn1
    exact ⟨ad, e⟩
  have hb9 : ((n : Int) == (n : Int)) = true := by simp
  have HBW := Lib.hid (Chip.bef_wf h.wf)
  obtain ⟨m, HM⟩ : ∃ m, Hid (s.bef = m) := ⟨_, rfl⟩
  rw [HM.out] at HBW ⊢
  have HONE : Hid (s.on = true ∧ s.ops < 1000000 ∧ k < s.nb ∧ s.Wf ∧ q < s.np) := ⟨hon, hops, hk, h.wf, hq⟩
  have HAW : Hid (Bytes w w.heap.size (some ad) n raw ∧ (∀ x ∈ blk (some ad), ¬ fp x) ∧ n ≤ c) := ⟨hA, hs, hc⟩
  obtain ⟨r2, HR2⟩ : ∃ r2, Hid (s.tick.progIn m (k : Int) (q : Int) raw = r2) := ⟨_, rfl⟩
  obtain ⟨r3, HR3⟩ : ∃ r3, Hid (Chip.endIn r2 m = r3) := ⟨_, rfl⟩
  rw [HR2.out, HR3.out]
  obtain ⟨s2, code⟩ := r2
  obtain ⟨s3, codeE⟩ := r3
  clear h hw hw0 hon hops b0 b1 p0 p1 hl hk hq hh hlz hA hs
  go_enter Try.func10, Try.ntmps10
  go_wp2_with fail
  refine CH.out.mono ?_
  rintro e w' ⟨rfl, rfl⟩
  go_wp2_with fail
  refine CW.out.mono ?_
  rintro e w' ⟨rfl, rfl⟩
  go_wp2_with fail
  refine (begin_ok _ HR.out HONE.out.1 HONE.out.2.1).mono ?_
  rintro e Wb ⟨rfl, h1, m1⟩
  rw [HM.out]
  have H1 := Lib.hid h1
  have M1 := Lib.hid m1
  clear h1 m1
  unfold mishV
  go_wp2_with fail
  obtain ⟨s1, HS1⟩ : ∃ s1, Hid (s.tick = s1) := ⟨_, rfl⟩
  rw [HS1.out] at H1 HR2
  have HTK : Hid (s1.Tk ∧ s1.ops ≤ 1000000 ∧ k < s1.nb ∧ q < s1.np ∧ s1.ns + 28 = n) := by
    rw [← HS1.out]
    exact ⟨HONE.out.2.2.2.1.tk, by show s.ops + 1 ≤ 1000000; have := HONE.out.2.1; omega, HONE.out.2.2.1, HONE.out.2.2.2.2, HZ.out⟩
  obtain ⟨gm, HG⟩ : ∃ gm : Nat, Hid (Wb.heap.size = gm) := ⟨_, rfl⟩
  obtain ⟨WB, HWB⟩ : ∃ W, Hid (W = Wb.alloc (.cells #[.int .i64 m.at_, .int .i64 m.kind, .int .i64 m.bytes, .int .u8 m.fill] 45)) := ⟨_, rfl⟩
  have L9 : Hid (Later Wb WB) := by rw [HWB.out]; exact later_alloc _ _
  have HMV : Hid (RowM WB gm m) := by rw [HWB.out, ← HG.out]; exact rowM_new Wb m
  have HGM : Hid (¬ fp gm) := fun hf => by have := H1.out.lt gm hf; have := HG.out; omega
  have HB := Lib.hid (H1.out.since L9.out)
  have HSZ := Lib.hid (Nat.le_trans M1.out.size (Below.size L9.out))
  have HMM := Lib.hid (M1.out.trans (Moves.of_below L9.out))
  have HMM2 := Lib.hid HMM.out
  have HCODE : Hid (0 ≤ code) := by
    have : (s1.progIn m (k : Int) (q : Int) raw).2 = code := by rw [HR2.out]
    show 0 ≤ code
    rw [← this]
    unfold Chip.progIn
    split
    · show (0 : Int) ≤ 6; decide
    · split
      · show (0 : Int) ≤ 5; decide
      · split
        · show (0 : Int) ≤ 5; decide
        · split <;> exact Int.le_refl _
  have CA : Hid (∀ W, Rep W base fp g s1 L → Moves w fp W fp → Calls Try.prog 34 #[.pointer (some ⟨g, 0, none⟩), mishV m, .int .i64 (k : Int), .int .i64 (q : Int), .slice (some ad) n c] W (fun e w' => e = .returned (.int .i64 code) ∧ (∃ L', Rep w' base fp g s2 L') ∧ Moves W fp w' fp)) := fun W hW hm => by
    have := progin_any m HBW.out.1 HBW.out.2.1 HBW.out.2.2 k q n c ad raw hW HTK.out.1 HTK.out.2.1 HTK.out.2.2.1 HTK.out.2.2.2.1 HTK.out.2.2.2.2 (HAW.out.1.over HAW.out.2.1 hm) HAW.out.2.2 (HAW.out.2.1 _ (by simp [blk]))
    rw [HR2.out] at this
    exact this
  have CE : Hid (∀ (st : ByteArray) (L2 : CL) (W : World), Rep W base fp g s2 L2 → Calls Try.prog 33 #[.pointer (some ⟨g, 0, none⟩), .string st, mishV m, .int .i64 code] W (fun e w' => ∃ v, e = .returned v ∧ ErrNew W fp w' codeE v ∧ Rep w' base fp g s3 L2 ∧ Moves W fp w' fp)) := fun st L2 W hW => by
    have := end_any st m code HCODE.out hW
    rw [HR3.out] at this
    exact this
  rw [HG.out, ← HWB.out]
  clear L9 H1 M1 HG HWB HBW HR HR2 HR3 HTK CH CW HCODE HONE HM HS1 HAW HZ
  obtain ⟨WD, HWD⟩ : ∃ W, Hid (W = WB.drew) := ⟨_, rfl⟩
  have HDL : Hid (Later WB WD) := by rw [HWD.out]; exact (Below.refl _ _).drew
  have HB3 := Lib.hid (HB.out.since HDL.out)
  have HMV3 := Lib.hid (HMV.out.since HDL.out)
  have HSZ3 := Lib.hid (Nat.le_trans HSZ.out (Below.size HDL.out))
  have HMM3 := Lib.hid (HMM.out.trans (Moves.of_below HDL.out))
  clear HB HMV HSZ HMM HDL
  have HB := HB3
  have HMV := HMV3
  have HSZ := HSZ3
  have HMM := HMM3
  have HMMD := Lib.hid HMM.out
  clear HB3 HMV3 HSZ3 HMM3
  refine region_of_steps5 (by kernel_rfl) (fact2Of [.is (.pointer (some ⟨g, 0, none⟩)), .is (mishV m), .is (.pointer (some ⟨g, 0, none⟩)), .is (mishV m), .is (.int .i64 (k : Int)), .is (.int .i64 (q : Int)), .is (.slice (some ad) n c), .is (.int .i64 code), .that (ErrF w fp codeE) (errF_since _ _ _), .that (ErrF w fp codeE) (errF_since _ _ _)]) (deadOf []) (fun j a x y => EndR base fp g 7 8 s2 s3 j x y) (fun l a W => EndInv WD base fp g 7 8 s1 s2 s3 L l W) (by kernel_rfl)
    (fun i j v a x y hm hd hn _ h hR => facts_over (w0 := w) (k := codeE) _ 8 9 rfl rfl (by kernel_rfl) i h hR.moves)
    (fun listed j a x v y o ho hsz H h hs hl hR hv => endinv_step H (by kernel_rfl) (by decide) h hl hR)
    (by rw [← HWD.out]; exact endinv_start (by decide) (by decide) HB.out) ?_ ?_
  · refine Steps5.cons ?_ (Steps5.cons ?_ (Steps5.cons ?_ (Steps5.cons ?_ (Steps5.cons ?_ (Steps5.cons ?_ (Steps5.cons ?_ (Steps5.cons ?_ (Steps5.cons ?_ (Steps5.cons ?_ (Steps5.nil))))))))))
    · intro listed a W H hw hl hd
      have t0 : a.tmps.getD 0 undef = .pointer (some ⟨g, 0, none⟩) := (H.old 0 (by kernel_rfl)).trans rfl
      exact step2_value (R := fun j x y => EndR base fp g 7 8 s2 s3 j x y) (i := 0) rfl rfl (run_op_move rfl t0) (endr_refl (by decide) (by decide)) rfl
    · intro listed a W H hw hl hd
      have t9 : a.tmps.getD 9 undef = .pointer (some ⟨gm, 0, none⟩) := (H.old 9 (by kernel_rfl)).trans rfl
      exact step2_value (R := fun j x y => EndR base fp g 7 8 s2 s3 j x y) (i := 1) rfl rfl (run_op_load rfl t9 (run_load_mish (HMV.out.over hw.moves HGM.out))) (endr_refl (by decide) (by decide)) rfl
    · intro listed a W H hw hl hd
      have t0 : a.tmps.getD 0 undef = .pointer (some ⟨g, 0, none⟩) := (H.old 0 (by kernel_rfl)).trans rfl
      exact step2_value (R := fun j x y => EndR base fp g 7 8 s2 s3 j x y) (i := 2) rfl rfl (run_op_move rfl t0) (endr_refl (by decide) (by decide)) rfl
    · intro listed a W H hw hl hd
      have t9 : a.tmps.getD 9 undef = .pointer (some ⟨gm, 0, none⟩) := (H.old 9 (by kernel_rfl)).trans rfl
      exact step2_value (R := fun j x y => EndR base fp g 7 8 s2 s3 j x y) (i := 3) rfl rfl (run_op_load rfl t9 (run_load_mish (HMV.out.over hw.moves HGM.out))) (endr_refl (by decide) (by decide)) rfl
    · intro listed a W H hw hl hd
      have t1 : a.tmps.getD 1 undef = .int .i64 (k : Int) := (H.old 1 (by kernel_rfl)).trans rfl
      exact step2_value (R := fun j x y => EndR base fp g 7 8 s2 s3 j x y) (i := 4) rfl rfl (run_op_move rfl t1) (endr_refl (by decide) (by decide)) rfl
    · intro listed a W H hw hl hd
      have t2 : a.tmps.getD 2 undef = .int .i64 (q : Int) := (H.old 2 (by kernel_rfl)).trans rfl
      exact step2_value (R := fun j x y => EndR base fp g 7 8 s2 s3 j x y) (i := 5) rfl rfl (run_op_move rfl t2) (endr_refl (by decide) (by decide)) rfl
    · intro listed a W H hw hl hd
      have t3 : a.tmps.getD 3 undef = .slice (some ad) n c := (H.old 3 (by kernel_rfl)).trans rfl
      exact step2_value (R := fun j x y => EndR base fp g 7 8 s2 s3 j x y) (i := 6) rfl rfl (run_op_move rfl t3) (endr_refl (by decide) (by decide)) rfl
    · intro listed a W H hw hl hd
      have t32 : a.tmps.getD 32 undef = .pointer (some ⟨g, 0, none⟩) := H.get 2 32 (by kernel_rfl) (dep_of hd 2 (by kernel_rfl)) (alive_none (by kernel_rfl))
      have t33 : a.tmps.getD 33 undef = mishV m := H.get 3 33 (by kernel_rfl) (dep_of hd 3 (by kernel_rfl)) (alive_none (by kernel_rfl))
      have t34 : a.tmps.getD 34 undef = .int .i64 (k : Int) := H.get 4 34 (by kernel_rfl) (dep_of hd 4 (by kernel_rfl)) (alive_none (by kernel_rfl))
      have t35 : a.tmps.getD 35 undef = .int .i64 (q : Int) := H.get 5 35 (by kernel_rfl) (dep_of hd 5 (by kernel_rfl)) (alive_none (by kernel_rfl))
      have t36 : a.tmps.getD 36 undef = .slice (some ad) n c := H.get 6 36 (by kernel_rfl) (dep_of hd 6 (by kernel_rfl)) (alive_none (by kernel_rfl))
      refine step2_call (R := fun j x y => EndR base fp g 7 8 s2 s3 j x y) (i := 7) rfl rfl (run_op_call (vs := #[.pointer (some ⟨g, 0, none⟩), mishV m, .int .i64 (k : Int), .int .i64 (q : Int), .slice (some ad) n c]) Try.func34 (by kernel_rfl) (by kernel_rfl) rfl (by simp only [List.map_toArray, List.map_cons, List.map_nil]; show #[a.tmps.getD 32 undef, a.tmps.getD 33 undef, a.tmps.getD 34 undef, a.tmps.getD 35 undef, a.tmps.getD 36 undef] = _; rw [t32, t33, t34, t35, t36])) ?_
      refine (CA.out W (hw.none_ hl (H.notyet hl (by kernel_rfl))) (HMMD.out.trans hw.moves)).mono ?_
      rintro e W2 ⟨rfl, h2, m2⟩
      exact ⟨_, rfl, ⟨m2, fun _ => h2, fun e => absurd e (by decide), fun e => absurd rfl e⟩, rfl⟩
    · intro listed a W H hw hl hd
      have t30 : a.tmps.getD 30 undef = .pointer (some ⟨g, 0, none⟩) := H.get 0 30 (by kernel_rfl) (dep_of hd 0 (by kernel_rfl)) (alive_none (by kernel_rfl))
      have t31 : a.tmps.getD 31 undef = mishV m := H.get 1 31 (by kernel_rfl) (dep_of hd 1 (by kernel_rfl)) (alive_none (by kernel_rfl))
      have t37 : a.tmps.getD 37 undef = .int .i64 code := H.get 7 37 (by kernel_rfl) (dep_of hd 7 (by kernel_rfl)) (alive_none (by kernel_rfl))
      refine step2_call (R := fun j x y => EndR base fp g 7 8 s2 s3 j x y) (i := 8) rfl rfl (run_op_call (vs := #[.pointer (some ⟨g, 0, none⟩), .string { data := #[110, 97, 110, 100, 46, 80, 114, 111, 103, 114, 97, 109] }, mishV m, .int .i64 code]) Try.func33 (by kernel_rfl) (by kernel_rfl) rfl (by simp only [List.map_toArray, List.map_cons, List.map_nil]; show #[a.tmps.getD 30 undef, .string { data := #[110, 97, 110, 100, 46, 80, 114, 111, 103, 114, 97, 109] }, a.tmps.getD 31 undef, a.tmps.getD 37 undef] = _; rw [t30, t31, t37])) ?_
      obtain ⟨L2, h2⟩ := hw.one (done_true H 7 (by decide) (dep_of hd 7 (by kernel_rfl))) hl
      refine (CE.out _ L2 W h2).mono ?_
      rintro e W2 ⟨v, rfl, he, h3, m3⟩
      exact ⟨v, rfl, ⟨m3, fun e => absurd e (by decide), fun _ => ⟨L2, h3⟩, fun _ e => absurd rfl e⟩, he.mono_w (Nat.le_trans HSZ.out hw.moves.size)⟩
    · intro listed a W H hw hl hd
      have T38 : (ErrF w fp codeE) (a.tmps.getD 38 undef) W := H.get 8 38 (by kernel_rfl) (dep_of hd 8 (by kernel_rfl)) (alive_none (by kernel_rfl))
      exact step2_value (R := fun j x y => EndR base fp g 7 8 s2 s3 j x y) (i := 9) rfl rfl (run_op_assign rfl rfl) (endr_refl (by decide) (by decide)) T38
  · intro a WC listed hdef hsz hinv hall0 hall hact
    have HF := Lib.hid (hinv.both (getD_default (hall0 8 (by decide))))
    have HMF := Lib.hid (HMM.out.trans hinv.moves)
    have HEF := Lib.hid (hall 9 _ rfl (by kernel_rfl))
    obtain ⟨u, hu⟩ : ∃ u : Nat → Value, ∀ k, a.tmps.getD k undef = u k := ⟨_, fun _ => rfl⟩
    have HE2 : Hid (ErrNew w fp WC codeE (u 8)) := by
      have h := HEF.out
      rw [← hu 8]
      exact h
    simp only [hu] at hact
    have hact' : a = ([30, 31, 32, 33, 34, 35, 36, 37, 38, 8] : List Nat).foldl (fun b k => b.put (some k) (u k)) _ := hact
    simp only [List.foldl] at hact'
    simp only [Act.put, List.setIfInBounds_toArray, List.set_cons_succ, List.set_cons_zero] at hact'
    have HAC := Lib.hid hact'
    clear hu hact hact' hall hall0 hdef hsz hinv HEF HB HMV HSZ HMM CA CE
    obtain ⟨v9, HV9⟩ : ∃ v9, Hid (u 8 = v9) := ⟨_, rfl⟩
    rw [HV9.out] at HE2 HAC
    rw [HAC.out]
    go_wp2_with fail
    go_ret
    exact ⟨v9, fp, rfl, HE2.out, HF.out, HMF.out⟩
theorem Chip.mark_why {s : Chip} {b : Int} (h : s.why b 0 s.long ≠ 0) : s.mark b = (s, s.why b 0 s.long) := by
  unfold Chip.mark
  rw [if_pos h]
theorem Chip.read_why {s : Chip} {b p : Int} (h : s.why b p s.long ≠ 0) : s.read b p = (s, s.why b p s.long, []) := by
  unfold Chip.read
  rw [if_pos h]
set_option maxHeartbeats 16000000 in
set_option maxRecDepth 20000 in
theorem mark_any (b : Int) (hC : ChipAt w base fp g s) (hops : s.ops < 1000000) :
    Calls Try.prog 20 #[.pointer (some ⟨g, 0, none⟩), .int .i64 b] w (Leads w base fp g (s.mark b)) := by
  obtain ⟨L, h⟩ := hC
  have HR := Lib.hid h
  have CH := Lib.hid (has_any b h)
  by_cases hw : s.why b 0 s.long ≠ 0
  · rw [Chip.mark_why hw]
    obtain ⟨kk, HKK⟩ : ∃ kk : Int, Hid (s.why b 0 s.long = kk) := ⟨_, rfl⟩
    rw [HKK.out]
    have HNZ : Hid (kk ≠ 0) := by show kk ≠ 0; rw [← HKK.out]; exact hw
    have HK : Hid ((s.on = false ∧ kk = 4) ∨ (s.on = true ∧ s.has b = false ∧ kk = 2)) := by
      rcases why_le s b 0 s.long with h1 | ⟨h1, h2⟩ | ⟨h1, h2⟩
      · exact absurd h1 hw
      · exact Or.inl ⟨h1, by rw [← HKK.out, h2]⟩
      · refine Or.inr ⟨h1, ?_, by rw [← HKK.out, h2]⟩
        cases hh : s.has b with
        | false => rfl
        | true =>
          have hb := of_decide_eq_true hh
          rw [Chip.why_ok h1 hb.1 hb.2 (by omega) (by have := h.wf.np1; omega) rfl] at h2; cases h2
    clear h hw HKK
    go_enter Try.func20, Try.ntmps20
    go_wp2_with fail
    refine CH.out.mono ?_
    rintro e w' ⟨rfl, rfl⟩
    go_wp2_with fail
    refine (begin_no _ _ (HR.out) kk HK.out).mono ?_
    rintro e Wb ⟨v, rfl, he, hb⟩
    have HB := Lib.hid hb
    have HE := Lib.hid he
    clear he hb
    rcases HE.out with ⟨h0, _⟩ | ⟨h0, ge, se, rfl, e1, e2, e3, e4⟩
    · exact absurd h0 HNZ.out
    have L9 := later_alloc Wb (.cells #[.int .i64 0, .int .i64 0, .int .i64 0, .int .u8 0] 45)
    have HE9 := Lib.hid (ErrNew.over HE.out (Moves.of_below (fp := fp) L9))
    have HB9 := Lib.hid (below_chain HB.out L9)
    clear L9 h0 e1 e2 e3 e4 HE HB
    unfold mishV M.zero
    dsimp only
    go_wp2_with fail
    go_ret
    exact ⟨_, fp, rfl, HE9.out, ⟨L, HR.out.since HB9.out⟩, Moves.of_below HB9.out⟩
  have hw0 : s.why b 0 s.long = 0 := by omega
  rw [Chip.mark_in hw0]
  obtain ⟨hon, b0, b1, _, _, _⟩ := Chip.why_zero hw0
  obtain ⟨k, rfl⟩ : ∃ k : Nat, b = (k : Int) := ⟨b.toNat, by omega⟩
  have hk : k < s.nb := by omega
  have hh : s.has (k : Int) = true := decide_eq_true ⟨b0, b1⟩
  rw [hh] at CH
  obtain ⟨m, HM⟩ : ∃ m, Hid (s.bef = m) := ⟨_, rfl⟩
  rw [HM.out]
  obtain ⟨r3, HR3⟩ : ∃ r3, Hid (Chip.endIn (s.tick.markIn m (k : Int), 0) m = r3) := ⟨_, rfl⟩
  rw [HR3.out]
  have HONE : Hid (s.on = true ∧ s.ops < 1000000 ∧ k < s.nb) := ⟨hon, hops, hk⟩
  have i0 : (0 : Int) ≤ (k : Int) := by omega
  have hnb := h.wf.nb2
  clear h hw hw0 hon hops b0 b1 hh
  go_enter Try.func20, Try.ntmps20
  go_wp2_with fail
  refine CH.out.mono ?_
  rintro e w' ⟨rfl, rfl⟩
  go_wp2_with fail
  refine (begin_ok _ HR.out HONE.out.1 HONE.out.2.1).mono ?_
  rintro e Wb ⟨rfl, h1, m1⟩
  rw [HM.out]
  have L9 := later_alloc Wb (.cells #[.int .i64 m.at_, .int .i64 m.kind, .int .i64 m.bytes, .int .u8 m.fill] 45)
  have hB := h1.since L9
  have hMM := m1.trans (Moves.of_below (fp := fp) L9)
  have R9 := rowM_new Wb m
  have HGB : Hid (Wb.heap.size ≠ L.ab.block) := fun e => by have := h1.lt _ h1.fb; omega
  obtain ⟨s1, HS1⟩ : ∃ s1, Hid (s.tick = s1) := ⟨_, rfl⟩
  rw [HS1.out] at hB h1 HR3
  have hk1 : k < s1.nb := by rw [← HS1.out]; exact hk
  obtain ⟨u0, u1, u2, u3⟩ := R9.at_
  obtain ⟨c0, c1, c2, c3, c4, c5, c6, c7, c8⟩ := hB.cells
  obtain ⟨d1, d2, d3, d4⟩ := hB.cellsK hk1
  have f3 := hB.free5 k 3
  obtain ⟨nb, HNB⟩ : ∃ n : Nat, Hid (s1.nb = n) := ⟨_, rfl⟩
  have i1 : (k : Int) < (nb : Int) := by rw [← HNB.out]; omega
  rw [HNB.out] at c4
  have HBB := Lib.hid hB
  have HMM := Lib.hid hMM
  have HRV := Lib.hid R9
  have HSZ := Lib.hid hMM.size
  have HV : Hid (s1.markIn m (k : Int) = if m.kind = 2 then s1 else s1.setB (k : Int) { s1.nth k with marked := true }) := by
    show _ = _
    unfold Chip.markIn
    rw [blk_nth]
  have hmv := hB.mark_moves k 3 (.bool true)
  have HMV := Lib.hid hmv
  obtain ⟨L2, h2, a2, _, _⟩ := hB.setMarked hk1
  have H2 := Lib.hid h2
  have hgp : Wb.heap.size ≠ (L.ab.add (k * 5)).block := by rw [hB.pblock]; exact HGB.out
  have R3 := R9.other (j := (L.ab.add (k * 5)).off + 3) hgp (.bool true)
  obtain ⟨v0, v1, v2, v3⟩ := R3.at_
  by_cases hd : m.kind = 2
  · have hV := HV.out
    rw [if_pos hd] at hV
    rw [hV] at HR3
    have b2 : (m.kind != 2) = false := by simp; omega
    clear h1 m1 L9 hB hMM R9 c0 c1 c2 c3 c5 c6 c7 c8 d1 d2 d3 d4 hk hk1 hnb HV hV hmv h2 H2 HMV R3 v0 v1 v2 v3 hd
    unfold mishV
    go_wp2_with fail
    obtain ⟨WB, HWB⟩ : ∃ W, Hid (W = Wb.alloc (.cells #[.int .i64 m.at_, .int .i64 m.kind, .int .i64 m.bytes, .int .u8 m.fill] 45)) := ⟨_, rfl⟩
    rw [← HWB.out] at HBB HMM HSZ ⊢
    have CE := end_any ⟨#[110, 97, 110, 100, 46, 77, 97, 114, 107]⟩ m 0 (Int.le_refl 0) HBB.out
    unfold mishV at CE
    refine CE.mono ?_
    rintro e W2 ⟨v, rfl, he, h3, m3⟩
    rw [HR3.out] at he h3
    have HE := Lib.hid (he.mono_w HSZ.out)
    have H3 := Lib.hid h3
    have M3 := Lib.hid (HMM.out.trans m3)
    clear he h3 m3 CE
    go_wp2_with fail
    go_ret
    exact ⟨v, fp, rfl, HE.out, ⟨_, H3.out⟩, M3.out⟩
  · have hV := HV.out
    rw [if_neg hd] at hV
    rw [hV] at HR3
    have b2 : (m.kind != 2) = true := by simp; omega
    have HSZ2 := Lib.hid (Nat.le_trans hMM.size hmv.size)
    have HMM2 := Lib.hid (hMM.trans hmv)
    clear h1 m1 L9 hB hMM R9 c0 c1 c2 c3 c5 c6 c7 c8 d1 d2 d4 hk hk1 hnb HV hV hmv h2 HMV R3 hd HBB HMM HSZ
    unfold mishV
    go_wp2_with fail
    obtain ⟨WB, HWB⟩ : ∃ W, Hid (W = (Wb.alloc (.cells #[.int .i64 m.at_, .int .i64 m.kind, .int .i64 m.bytes, .int .u8 m.fill] 45)).setCell ⟨(L.ab.add (k * 5)).block, (L.ab.add (k * 5)).off + 3, none⟩ (.bool true)) := ⟨_, rfl⟩
    rw [← HWB.out] at H2 HMM2 HSZ2 ⊢
    have CE := end_any ⟨#[110, 97, 110, 100, 46, 77, 97, 114, 107]⟩ m 0 (Int.le_refl 0) H2.out
    unfold mishV at CE
    refine CE.mono ?_
    rintro e W2 ⟨v, rfl, he, h3, m3⟩
    rw [HR3.out] at he h3
    have HE := Lib.hid (he.mono_w HSZ2.out)
    have H3 := Lib.hid h3
    have M3 := Lib.hid (HMM2.out.trans m3)
    clear he h3 m3 CE
    go_wp2_with fail
    go_ret
    exact ⟨v, fp, rfl, HE.out, ⟨_, H3.out⟩, M3.out⟩
set_option maxHeartbeats 16000000 in
set_option maxRecDepth 20000 in
theorem read_any (b p : Int) (hC : ChipAt w base fp g s) (hops : s.ops < 1000000) :
    Calls Try.prog 15 #[.pointer (some ⟨g, 0, none⟩), .int .i64 b, .int .i64 p] w (Reads w base fp g (s.read b p)) := by
  obtain ⟨L, h⟩ := hC
  have HR := Lib.hid h
  have CH := Lib.hid (hasPage_any b p h)
  by_cases hw : s.why b p s.long ≠ 0
  · rw [Chip.read_why hw]
    obtain ⟨kk, HKK⟩ : ∃ kk : Int, Hid (s.why b p s.long = kk) := ⟨_, rfl⟩
    rw [HKK.out]
    have HNZ : Hid (kk ≠ 0) := by show kk ≠ 0; rw [← HKK.out]; exact hw
    have HK : Hid ((s.on = false ∧ kk = 4) ∨ (s.on = true ∧ s.hasPage b p = false ∧ kk = 2)) := by
      rcases why_le s b p s.long with h1 | ⟨h1, h2⟩ | ⟨h1, h2⟩
      · exact absurd h1 hw
      · exact Or.inl ⟨h1, by rw [← HKK.out, h2]⟩
      · refine Or.inr ⟨h1, ?_, by rw [← HKK.out, h2]⟩
        cases hh : s.hasPage b p with
        | false => rfl
        | true =>
          have hb := of_decide_eq_true hh
          rw [Chip.why_ok h1 hb.1 hb.2.1 hb.2.2.1 hb.2.2.2 rfl] at h2; cases h2
    clear h hw HKK
    go_enter Try.func15, Try.ntmps15
    go_wp2_with fail
    refine CH.out.mono ?_
    rintro e w' ⟨rfl, rfl⟩
    go_wp2_with fail
    refine (begin_no _ _ (HR.out) kk HK.out).mono ?_
    rintro e Wb ⟨v, rfl, he, hb⟩
    have HB := Lib.hid hb
    have HE := Lib.hid he
    clear he hb
    rcases HE.out with ⟨h0, _⟩ | ⟨h0, ge, se, rfl, e1, e2, e3, e4⟩
    · exact absurd h0 HNZ.out
    have L9 := later_alloc Wb (.cells #[.int .i64 0, .int .i64 0, .int .i64 0, .int .u8 0] 45)
    have HE9 := Lib.hid (ErrNew.over HE.out (Moves.of_below (fp := fp) L9))
    have HB9 := Lib.hid (below_chain HB.out L9)
    clear L9 h0 e1 e2 e3 e4 HE HB
    unfold mishV M.zero
    dsimp only
    go_wp2_with fail
    go_ret2
    exact ⟨_, none, 0, 0, fp, rfl, HE9.out, ⟨Own.none_, fun b hb => by cases hb⟩, ⟨L, HR.out.since HB9.out⟩, Moves.of_below HB9.out⟩
  have hw0 : s.why b p s.long = 0 := by omega
  rw [Chip.read_in hw0]
  obtain ⟨hon, b0, b1, p0, p1, _⟩ := Chip.why_zero hw0
  obtain ⟨k, rfl⟩ : ∃ k : Nat, b = (k : Int) := ⟨b.toNat, by omega⟩
  obtain ⟨q, rfl⟩ : ∃ q : Nat, p = (q : Int) := ⟨p.toNat, by omega⟩
  have hk : k < s.nb := by omega
  have hq : q < s.np := by omega
  have hh : s.hasPage (k : Int) (q : Int) = true := decide_eq_true ⟨b0, b1, p0, p1⟩
  rw [hh] at CH
  have HPG : Hid (s.page (k : Int) (q : Int) = (s.nth k).pg.getD q []) := by
    show _ = _
    unfold Chip.page
    rw [blk_nth, Int.toNat_natCast]
  obtain ⟨m, HM⟩ : ∃ m, Hid (s.bef = m) := ⟨_, rfl⟩
  rw [HM.out]
  obtain ⟨pl, HPL⟩ : ∃ pl, Hid ((if m.kind = 2 then [] else s.page (k : Int) (q : Int)) = pl) := ⟨_, rfl⟩
  obtain ⟨r3, HR3⟩ : ∃ r3, Hid (Chip.endIn (s.tick, 0) m = r3) := ⟨_, rfl⟩
  rw [HPL.out, HR3.out]
  have HONE : Hid (s.on = true ∧ s.ops < 1000000 ∧ k < s.nb ∧ q < s.np) := ⟨hon, hops, hk, hq⟩
  clear h hw hw0 hon hops b0 b1 p0 p1 hh hk hq
  go_enter Try.func15, Try.ntmps15
  go_wp2_with fail
  refine CH.out.mono ?_
  rintro e w' ⟨rfl, rfl⟩
  go_wp2_with fail
  refine (begin_ok _ HR.out HONE.out.1 HONE.out.2.1).mono ?_
  rintro e Wb ⟨rfl, h1, m1⟩
  rw [HM.out]
  have L9 := later_alloc Wb (.cells #[.int .i64 m.at_, .int .i64 m.kind, .int .i64 m.bytes, .int .u8 m.fill] 45)
  have hB := h1.since L9
  have hMM := m1.trans (Moves.of_below (fp := fp) L9)
  have R9 := rowM_new Wb m
  obtain ⟨u0, u1, u2, u3⟩ := R9.at_
  have HBB := Lib.hid hB
  have HMM := Lib.hid hMM
  have HSZ := Lib.hid hMM.size
  clear h1 m1 L9 hB hMM R9
  unfold mishV
  go_wp2_with fail
  obtain ⟨WB, HWB⟩ : ∃ W, Hid (W = Wb.alloc (.cells #[.int .i64 m.at_, .int .i64 m.kind, .int .i64 m.bytes, .int .u8 m.fill] 45)) := ⟨_, rfl⟩
  rw [← HWB.out] at HBB HMM HSZ ⊢
  clear u0 u1 u2 u3 HWB
  have CE := end_any ⟨#[110, 97, 110, 100, 46, 82, 101, 97, 100]⟩ m 0 (Int.le_refl 0) HBB.out
  unfold mishV at CE
  refine CE.mono ?_
  rintro e W2 ⟨v, rfl, he, h3, m3⟩
  have H3 := Lib.hid h3
  have M3 := Lib.hid (HMM.out.trans m3)
  have HE := Lib.hid (he.mono_w HSZ.out)
  clear he h3 m3 CE HBB HMM HSZ
  by_cases hd : m.kind = 2
  · have hpl := HPL.out
    rw [if_pos hd] at hpl
    subst hpl
    have hend : Chip.endIn (s.tick, 0) m = (s.tick.off, 4) := if_pos hd
    rw [hend] at H3 HE HR3
    dsimp only at H3 HE
    have hr3 := HR3.out
    subst hr3
    clear hend hd
    rcases HE.out with ⟨h0, _⟩ | ⟨h0, ge, se, rfl, e1, e2, e3, e4⟩
    · exact absurd h0 (show ¬ (4 : Int) = 0 by decide)
    clear h0 e1 e2 e3 e4
    go_wp2_with fail
    go_ret2
    exact ⟨_, none, 0, 0, fp, rfl, HE.out, ⟨Own.none_, fun b hb => by cases hb⟩, ⟨L, H3.out⟩, M3.out⟩
  · have HPL2 : Hid (s.page (k : Int) (q : Int) = pl) := by have := HPL.out; rwa [if_neg hd] at this
    have hend : Chip.endIn (s.tick, 0) m = (s.tick, 0) := if_neg hd
    rw [hend] at H3 HE HR3
    dsimp only at H3 HE
    have hr3 := HR3.out
    subst hr3
    clear HPL
    clear hend hd
    obtain rfl := HE.out.nil
    have HK2 : Hid (k < s.tick.nb ∧ q < s.tick.np) := HONE.out.2.2
    obtain ⟨r, cc, q1, q2, q3, q4, q5, q6, q7⟩ := H3.out.rawrow HK2.out.1
    obtain ⟨z, HZ⟩ : ∃ z : Nat, Hid (s.tick.ns + 28 = z) := ⟨_, rfl⟩
    have CP := page_any H3.out HK2.out.1 HK2.out.2 q1 q3
    rw [HZ.out] at CP q4 q7
    have CPG := Lib.hid CP
    have HSM : Hid (z ≤ 284) := by have := H3.out.wf.ns2; have := HZ.out; show z ≤ 284; omega
    have HRW : Hid (Bytes W2 W2.heap.size (some ⟨r, q * z, none⟩) z ((s.nth k).pg.getD q [])) := by
      have hl := H3.out.long HK2.out.1
      rw [HZ.out] at hl
      have hpl : (s.tick.nth k).pg.length = s.tick.np := H3.out.wf.pages k HK2.out.1
      have hqz := page_lt (z := z) HK2.out.2
      have h9 := (q7.bytes.rest (k := q * z) (c := cc) (by omega) q4).first (k := z) (by omega)
      rw [Chip.flat_page hl (by rw [hpl]; exact HK2.out.2)] at h9
      have hz1 : 0 < z := by rw [← HZ.out]; omega
      have e9 : (if cc = q * z then (some ⟨r, 0, none⟩ : Option Addr) else (some ⟨r, 0, none⟩ : Option Addr).map (·.add (q * z * 1))) = some ⟨r, q * z, none⟩ := by
        rw [if_neg (by omega), Nat.mul_one]
        show some ((⟨r, 0, none⟩ : Addr).add (q * z)) = _
        unfold Addr.add
        split
        · next h0 => rw [h0]
        · simp
      rw [e9] at h9
      exact h9
    clear q1 q2 q3 q4 q5 q6 q7 CP
    have hgo := HE.out
    clear hgo
    go_wp2_with fail
    refine CPG.out.mono ?_
    rintro e W3 ⟨rfl, nd, hnd⟩
    have L3 : Hid (Below W2.heap.size W2 W3) := by rw [hnd]; exact below_drewN (Below.refl _ _) nd
    clear hnd
    go_wp2_with fail
    refine (clone8_any _ z _ _ W3 (by have := HSM.out; omega) (HRW.out.since L3.out)).mono ?_
    rintro e W4 ⟨A4, n4, c4, rfl, ho, hb⟩
    have HO := Lib.hid ho
    have L4 := Lib.hid (below_chain L3.out hb)
    have HSZ4 : Hid (w.heap.size ≤ W3.heap.size) := Nat.le_trans M3.out.size (Below.size L3.out)
    clear ho hb
    go_wp2_with fail
    go_ret2
    refine ⟨_, A4, n4, c4, fp, rfl, ErrNew.none_, ⟨?_, ?_⟩, ⟨L, H3.out.since L4.out⟩, M3.out.trans (Moves.of_below L4.out)⟩
    · rw [← HPL2.out, HPG.out]; exact HO.out.elder HSZ4.out
    · intro b hb hf
      have h1 := HO.out.blk_ge b hb
      have h2 := H3.out.lt b hf
      have h3 : W2.heap.size ≤ W3.heap.size := Below.size L3.out
      omega
set_option maxHeartbeats 4000000 in
theorem erase_nil (b : Int) : Calls Try.prog 14 #[.pointer none, .int .i64 b] w fun e w' => ∃ v, e = .returned v ∧ ErrAt (fun b => b < w.heap.size) w' 1 v ∧ Below w.heap.size w w' := by
  have CH := Lib.hid (has_nil b w)
  · go_enter Try.func14, Try.ntmps14
    go_wp2_with fail
    refine CH.out.mono ?_
    rintro e w' ⟨rfl, rfl⟩
    go_wp2_with fail
    refine (begin_nil _ _ w).mono ?_
    rintro e Wb ⟨v, rfl, he, hb⟩
    have HB := Lib.hid hb
    rcases he with ⟨h0, _⟩ | ⟨h0, ge, se, rfl, e1, e2, e3⟩
    · exact absurd h0 (by decide)
    have L9 := later_alloc Wb (.cells #[.int .i64 0, .int .i64 0, .int .i64 0, .int .u8 0] 45)
    have HE9 : Hid (ErrAt (fun b => b < w.heap.size) (Wb.alloc (.cells #[.int .i64 0, .int .i64 0, .int .i64 0, .int .u8 0] 45)) 1 (.iface 77 (.pointer (some ⟨ge, 0, none⟩)))) := Or.inr ⟨by decide, ge, se, rfl, later_cell L9 e1, later_cell L9 e2, e3⟩
    have HB9 := Lib.hid (below_chain HB.out L9)
    clear L9 h0 e1 e2 e3 hb HB
    unfold mishV M.zero
    dsimp only
    go_wp2_with fail
    go_ret
    exact ⟨_, rfl, HE9.out, HB9.out⟩
set_option maxHeartbeats 4000000 in
theorem read_nil (b p : Int) : Calls Try.prog 15 #[.pointer none, .int .i64 b, .int .i64 p] w fun e w' => ∃ v, e = .returned (.tuple #[.slice none 0 0, v]) ∧ ErrAt (fun b => b < w.heap.size) w' 1 v ∧ Below w.heap.size w w' := by
  have CH := Lib.hid (hasPage_nil b p w)
  · go_enter Try.func15, Try.ntmps15
    go_wp2_with fail
    refine CH.out.mono ?_
    rintro e w' ⟨rfl, rfl⟩
    go_wp2_with fail
    refine (begin_nil _ _ w).mono ?_
    rintro e Wb ⟨v, rfl, he, hb⟩
    have HB := Lib.hid hb
    rcases he with ⟨h0, _⟩ | ⟨h0, ge, se, rfl, e1, e2, e3⟩
    · exact absurd h0 (by decide)
    have L9 := later_alloc Wb (.cells #[.int .i64 0, .int .i64 0, .int .i64 0, .int .u8 0] 45)
    have HE9 : Hid (ErrAt (fun b => b < w.heap.size) (Wb.alloc (.cells #[.int .i64 0, .int .i64 0, .int .i64 0, .int .u8 0] 45)) 1 (.iface 77 (.pointer (some ⟨ge, 0, none⟩)))) := Or.inr ⟨by decide, ge, se, rfl, later_cell L9 e1, later_cell L9 e2, e3⟩
    have HB9 := Lib.hid (below_chain HB.out L9)
    clear L9 h0 e1 e2 e3 hb HB
    unfold mishV M.zero
    dsimp only
    go_wp2_with fail
    go_ret2
    exact ⟨_, rfl, HE9.out, HB9.out⟩
end
end Go.Proofs.Ytgamjffedlkbeaa
