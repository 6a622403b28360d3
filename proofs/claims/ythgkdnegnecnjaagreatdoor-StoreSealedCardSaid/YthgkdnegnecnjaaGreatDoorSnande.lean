/- Texts of one layer, laid together. Conditions: as each one says. -/
import Derived.Test.YthgkdnegnecnjaaGreatDoorSbase
import Derived.Lib.SliceRun
import Derived.Test.YthgkdnegnecnjaaGreatDoorSnand
/- The contract of bytes.Clone: what it answers is new. Conditions: the slice's cells; at most 8000 bytes. -/
set_option linter.unusedVariables false
set_option linter.unusedSimpArgs false
set_option maxRecDepth 20000
namespace Go.Proofs.YthgkdnegnecnjaaGreatDoor
open Go.RowKit

theorem own_empty0 {base : Nat} (W : World) (hb : base ≤ W.heap.size) : Own (W.alloc (.cells #[] 5)) base (some ⟨W.heap.size, 0, none⟩) 0 0 [] :=
  ⟨World.ownsRow_lit W #[] 0 hb (by unfold maxLen; omega) (by simp), fun k => by simp⟩
set_option maxHeartbeats 1000000 in
theorem clone8_any (A : Option Addr) (n c : Nat) (bs : List Nat) (w : World) (hn : n ≤ 8000) (hA : Bytes w w.heap.size A n bs) :
    Calls Tryz.prog 100 #[.slice A n c] w (GivesBytes w bs) := by
  rcases A with _ | ad
  · have hn0 : bs = [] := by
      rcases Nat.eq_zero_or_pos n with h | h
      · exact List.eq_nil_of_length_eq_zero (hA.len.trans h)
      · obtain ⟨ad, h', _⟩ := hA.lies 0 h
        cases h'
    subst hn0
    clear hA
    have heq : ∀ W : World, (binOp .eql 58 (.slice none n c) (.slice none 0 0)).run Tryz.prog W = .ok (.bool true) W := fun W => Lib.run_eql_slice_nil W _ _ _ _ _ _ _ Tryz.underlying58
    go_enter Tryz.func100, Tryz.ntmps100
    go_wp2
    go_ret
    exact ⟨_, _, _, rfl, Own.none_, Below.refl _ _⟩
  · have hS := since_alloc (Below.refl w.heap.size w) (.cells #[] 5)
    obtain ⟨A2, c2, W2, hr, ho, hb⟩ := own_append (c' := c) hS (own_empty0 w (Nat.le_refl _)) (hA.since hS) (by omega)
    rw [Nat.zero_add] at hr ho
    rw [List.nil_append] at ho
    have R := Lib.hid hr
    have HO := Lib.hid ho
    have HB := Lib.hid hb
    clear hr ho hb hA hS
    have heq : ∀ W : World, (binOp .eql 58 (.slice (some ad) n c) (.slice none 0 0)).run Tryz.prog W = .ok (.bool false) W := fun W => Lib.run_eql_slice_nil W _ _ _ _ _ _ _ Tryz.underlying58
    go_enter Tryz.func100, Tryz.ntmps100
    go_wp2_with (at_builtin; refine wpList_append_run rfl (.tmp 5) (.tmp 6) 58 rfl rfl rfl R.out ?_)
    go_ret
    exact ⟨_, _, _, rfl, HO.out, HB.out⟩
end Go.Proofs.YthgkdnegnecnjaaGreatDoor

/- The contract of slices.Clone of mishaps: what it answers is new. Conditions: the slice's cells; at most 8000. -/
set_option linter.unusedVariables false
set_option linter.unusedSimpArgs false
set_option maxRecDepth 20000
namespace Go.Proofs.YthgkdnegnecnjaaGreatDoor
open Go.RowKit

theorem row_empty {α : Type} {K : Kind α} {base : Nat} (W : World) (hb : base ≤ W.heap.size) : K.Row (W.alloc (.cells #[] K.T)) base (some ⟨W.heap.size, 0, none⟩) 0 0 [] :=
  ⟨World.ownsRow_lit W #[] 0 hb (by unfold maxLen; omega) (by simp), fun v hv => by cases hv⟩
set_option maxHeartbeats 1000000 in
theorem cloneM_any (A : Option Addr) (n c : Nat) (ms : List M) (w : World) (hn : n ≤ 8000) (hA : mishK.Lie w w.heap.size A n ms) :
    Calls Tryz.prog 37 #[.slice A n c] w (GivesM w ms) := by
  rcases A with _ | ad
  · have hn0 : ms = [] := by
      rcases Nat.eq_zero_or_pos n with h | h
      · exact List.eq_nil_of_length_eq_zero (hA.len.trans h)
      · obtain ⟨ad, h', _⟩ := hA.each 0 h
        cases h'
    subst hn0
    clear hA
    have heq : ∀ W : World, (binOp .eql 23 (.slice none n c) (.slice none 0 0)).run Tryz.prog W = .ok (.bool true) W := fun W => Lib.run_eql_slice_nil W _ _ _ _ _ _ _ Tryz.underlying23
    go_enter Tryz.func37, Tryz.ntmps37
    go_wp2
    go_ret
    exact ⟨_, _, _, rfl, Kind.Row.none_, Below.refl _ _⟩
  · have hS := since_alloc (Below.refl w.heap.size w) (.cells #[] 74)
    obtain ⟨A2, c2, W2, hr, ho, hb, _⟩ := Kind.append_g (K := mishK) (c' := c) hS (row_empty (K := mishK) w (Nat.le_refl _)) (hA.since hS) (by omega)
    rw [Nat.zero_add] at hr ho
    rw [List.nil_append] at ho
    have R := Lib.hid hr
    have HO := Lib.hid ho
    have HB := Lib.hid hb
    clear hr ho hb hA hS
    have heq : ∀ W : World, (binOp .eql 23 (.slice (some ad) n c) (.slice none 0 0)).run Tryz.prog W = .ok (.bool false) W := fun W => Lib.run_eql_slice_nil W _ _ _ _ _ _ _ Tryz.underlying23
    go_enter Tryz.func37, Tryz.ntmps37
    go_wp2_with (at_builtin; refine wpList_append_run rfl (.tmp 5) (.tmp 6) 23 rfl rfl rfl R.out ?_)
    go_ret
    exact ⟨_, _, _, rfl, HO, HB⟩
end Go.Proofs.YthgkdnegnecnjaaGreatDoor

/- The contracts of a chip: New, Read, Program, Erase, Mark, Boot, what it tells. Conditions: the chip's cells; fewer than a million operations. -/
set_option linter.unusedVariables false
set_option linter.unusedSimpArgs false
set_option maxRecDepth 20000
namespace Go.Proofs.YthgkdnegnecnjaaGreatDoor
open Go.RowKit

theorem run_load_mish {W : World} {g : Nat} {m : M} (h : RowM W g m) : (Instr.loadAt 74 (.pointer (some ⟨g, 0, none⟩))).run Tryz.prog W = .ok (mishV m) W := by
  obtain ⟨c0, c1, c2, c3⟩ := h.at_
  unfold mishV
  go_simp
theorem ndone_true {ops : Array Oper} {a0 a : Act} {F : Nat → Value → World → Prop} {dead : Nat → Option Nat} {listed : Array Bool} {w : World} (H : Holds2 ops a0 F dead listed a w) (i : Nat) (hi : i < ops.size) (h : listed.getD i false = true) : listed.getD i true = true := by
  have : i < listed.size := by rw [H.len]; exact hi
  simp [this] at h ⊢
  exact h
theorem getD_default {l : Array Bool} {i : Nat} (h : l.getD i false = true) : l.getD i true = true := by
  by_cases hi : i < l.size
  · simp [hi] at h ⊢; exact h
  · simp [hi]
section
variable {w : World} {base g : Nat} {fp : Nat → Prop} {s : Chip} {L : CL}
theorem why_le (s : Chip) (b p : Int) (l : Nat) : s.why b p l = 0 ∨ (s.on = false ∧ s.why b p l = 4) ∨ (s.on = true ∧ s.why b p l = 2) := by
  unfold Chip.why
  cases s.on with
  | false => exact Or.inr (Or.inl ⟨rfl, rfl⟩)
  | true =>
    rw [if_neg (by decide)]
    split
    · exact Or.inl rfl
    · exact Or.inr (Or.inr ⟨rfl, rfl⟩)
set_option maxHeartbeats 16000000 in
set_option maxRecDepth 20000 in
theorem erase_any (b : Int) (hC : ChipAt w base fp g s) (hops : s.ops < 1000000) :
    Calls Tryz.prog 116 #[.pointer (some ⟨g, 0, none⟩), .int .i64 b] w (Leads w base fp g (s.erase b)) := by
  obtain ⟨L, h⟩ := hC
  have HR := Lib.hid h
  have CH := Lib.hid (has_any b h)
  by_cases hw : s.why b 0 s.long ≠ 0
  · rw [Chip.erase_why hw]
    obtain ⟨kk, HKK⟩ : ∃ kk : Int, Hid (s.why b 0 s.long = kk) := ⟨_, rfl⟩
    rw [HKK.out]
    have HNZ : Hid (kk ≠ 0) := by show kk ≠ 0; rw [← HKK.out]; exact hw
    have HK : Hid ((s.on = false ∧ kk = 4) ∨ (s.on = true ∧ s.has b = false ∧ kk = 2)) := by
      rcases why_le s b 0 s.long with h1 | ⟨h1, h2⟩ | ⟨h1, h2⟩
      · exact absurd h1 hw
      · exact Or.inl ⟨h1, by rw [← HKK.out, h2]⟩
      · refine Or.inr ⟨h1, ?_, by rw [← HKK.out, h2]⟩
        cases hh : s.has b with
        | false => rfl
        | true =>
          have hb := of_decide_eq_true hh
          rw [Chip.why_ok h1 hb.1 hb.2 (by omega) (by have := h.wf.np1; omega) rfl] at h2; cases h2
    clear h hw HKK
    go_enter Tryz.func116, Tryz.ntmps116
    go_wp2_with fail
    refine CH.out.mono ?_
    rintro e w' ⟨rfl, rfl⟩
    go_wp2_with fail
    refine (begin_no _ _ (HR.out) kk HK.out).mono ?_
    rintro e Wb ⟨v, rfl, he, hb⟩
    have HB := Lib.hid hb
    have HE := Lib.hid he
    clear he hb
    rcases HE.out with ⟨h0, _⟩ | ⟨h0, ge, se, rfl, e1, e2, e3, e4⟩
    · exact absurd h0 HNZ.out
    have L9 := later_alloc Wb (.cells #[.int .i64 0, .int .i64 0, .int .i64 0, .int .u8 0] 74)
    have HE9 := Lib.hid (ErrNew.over HE.out (Moves.of_below (fp := fp) L9))
    have HB9 := Lib.hid (below_chain HB.out L9)
    clear L9 h0 e1 e2 e3 e4 HE HB
    unfold mishV M.zero
    dsimp only
    go_wp2_with fail
    go_ret
    exact ⟨_, fp, rfl, HE9.out, ⟨L, HR.out.since HB9.out⟩, Moves.of_below HB9.out⟩
  have hw0 : s.why b 0 s.long = 0 := by omega
  rw [Chip.erase_in hw0]
  obtain ⟨hon, b0, b1, _, _, _⟩ := Chip.why_zero hw0
  obtain ⟨k, rfl⟩ : ∃ k : Nat, b = (k : Int) := ⟨b.toNat, by omega⟩
  have hk : k < s.nb := by omega
  have hh : s.has (k : Int) = true := decide_eq_true ⟨b0, b1⟩
  rw [hh] at CH
  have HBW := Lib.hid (Chip.bef_wf h.wf)
  have HBM := Lib.hid h.befw
  obtain ⟨m, HM⟩ : ∃ m, Hid (s.bef = m) := ⟨_, rfl⟩
  rw [HM.out] at HBW HBM ⊢
  have HLT := Lib.hid h.lt
  have HONE : Hid (s.on = true ∧ s.ops < 1000000 ∧ k < s.nb ∧ s.Wf) := ⟨hon, hops, hk, h.wf⟩
  obtain ⟨r2, HR2⟩ : ∃ r2, Hid (s.tick.eraseIn m (k : Int) = r2) := ⟨_, rfl⟩
  obtain ⟨r3, HR3⟩ : ∃ r3, Hid (Chip.endIn r2 m = r3) := ⟨_, rfl⟩
  rw [HR2.out, HR3.out]
  obtain ⟨s2, code⟩ := r2
  obtain ⟨s3, codeE⟩ := r3
  clear h hw hw0 hon hops b0 b1 hk hh
  go_enter Tryz.func116, Tryz.ntmps116
  go_wp2_with fail
  refine CH.out.mono ?_
  rintro e w' ⟨rfl, rfl⟩
  go_wp2_with fail
  refine (begin_ok _ HR.out HONE.out.1 HONE.out.2.1).mono ?_
  rintro e Wb ⟨rfl, h1, m1⟩
  rw [HM.out]
  have H1 := Lib.hid h1
  have M1 := Lib.hid m1
  clear h1 m1
  unfold mishV
  go_wp2_with fail
  obtain ⟨s1, HS1⟩ : ∃ s1, Hid (s.tick = s1) := ⟨_, rfl⟩
  rw [HS1.out] at H1 HR2
  have HTK : Hid (s1.Tk ∧ s1.ops ≤ 1000000 ∧ k < s1.nb) := by
    rw [← HS1.out]
    exact ⟨HONE.out.2.2.2.tk, by show s.ops + 1 ≤ 1000000; have := HONE.out.2.1; omega, HONE.out.2.2.1⟩
  obtain ⟨gm, HG⟩ : ∃ gm : Nat, Hid (Wb.heap.size = gm) := ⟨_, rfl⟩
  obtain ⟨WB, HWB⟩ : ∃ W, Hid (W = Wb.alloc (.cells #[.int .i64 m.at_, .int .i64 m.kind, .int .i64 m.bytes, .int .u8 m.fill] 74)) := ⟨_, rfl⟩
  have L9 : Hid (Later Wb WB) := by rw [HWB.out]; exact later_alloc _ _
  have HMV : Hid (RowM WB gm m) := by rw [HWB.out, ← HG.out]; exact rowM_new Wb m
  have HGM : Hid (¬ fp gm) := fun hf => by have := H1.out.lt gm hf; have := HG.out; omega
  have HB := Lib.hid (H1.out.since L9.out)
  have HSZ := Lib.hid (Nat.le_trans M1.out.size (Below.size L9.out))
  have HMM := Lib.hid (M1.out.trans (Moves.of_below L9.out))
  have HCODE : Hid (0 ≤ code) := by
    have : (s1.eraseIn m (k : Int)).2 = code := by rw [HR2.out]
    show 0 ≤ code
    rw [← this]
    unfold Chip.eraseIn
    split
    · show (0 : Int) ≤ 6; decide
    · split
      · show (0 : Int) ≤ 5; decide
      · split <;> exact Int.le_refl _
  have CA : Hid (∀ W, Rep W base fp g s1 L → True → Calls Tryz.prog 124 #[.pointer (some ⟨g, 0, none⟩), mishV m, .int .i64 (k : Int)] W (fun e w' => e = .returned (.int .i64 code) ∧ (∃ L', Rep w' base fp g s2 L') ∧ Moves W fp w' fp)) := fun W hW _ => by
    have := erasein_any m HBM.out HBW.out.2.2 k hW HTK.out.1 HTK.out.2.1 HTK.out.2.2
    rw [HR2.out] at this
    exact this
  have CE : Hid (∀ (st : ByteArray) (L2 : CL) (W : World), Rep W base fp g s2 L2 → Calls Tryz.prog 99 #[.pointer (some ⟨g, 0, none⟩), .string st, mishV m, .int .i64 code] W (fun e w' => ∃ v, e = .returned v ∧ ErrNew W fp w' codeE v ∧ Rep w' base fp g s3 L2 ∧ Moves W fp w' fp)) := fun st L2 W hW => by
    have := end_any st m code HCODE.out hW
    rw [HR3.out] at this
    exact this
  rw [HG.out, ← HWB.out]
  clear L9 H1 M1 HG HWB HBW HBM HR HR2 HR3 HLT HTK CH HCODE HONE HM HS1
  obtain ⟨WD, HWD⟩ : ∃ W, Hid (W = WB.drew) := ⟨_, rfl⟩
  have HDL : Hid (Later WB WD) := by rw [HWD.out]; exact (Below.refl _ _).drew
  have HB3 := Lib.hid (HB.out.since HDL.out)
  have HMV3 := Lib.hid (HMV.out.since HDL.out)
  have HSZ3 := Lib.hid (Nat.le_trans HSZ.out (Below.size HDL.out))
  have HMM3 := Lib.hid (HMM.out.trans (Moves.of_below HDL.out))
  clear HB HMV HSZ HMM HDL
  have HB := HB3
  have HMV := HMV3
  have HSZ := HSZ3
  have HMM := HMM3
  clear HB3 HMV3 HSZ3 HMM3
  refine region_of_steps5 (by kernel_rfl) (fact2Of [.is (.pointer (some ⟨g, 0, none⟩)), .is (mishV m), .is (.pointer (some ⟨g, 0, none⟩)), .is (mishV m), .is (.int .i64 (k : Int)), .is (.int .i64 code), .that (ErrF w fp codeE) (errF_since _ _ _), .that (ErrF w fp codeE) (errF_since _ _ _)]) (deadOf []) (fun j a x y => EndR base fp g 5 6 s2 s3 j x y) (fun l a W => EndInv WD base fp g 5 6 s1 s2 s3 L l W) (by kernel_rfl)
    (fun i j v a x y hm hd hn _ h hR => facts_over (w0 := w) (k := codeE) _ 6 7 rfl rfl (by kernel_rfl) i h hR.moves)
    (fun listed j a x v y o ho hsz H h hs hl hR hv => endinv_step H (by kernel_rfl) (by decide) h hl hR)
    (by rw [← HWD.out]; exact endinv_start (by decide) (by decide) HB.out) ?_ ?_
  · refine Steps5.cons ?_ (Steps5.cons ?_ (Steps5.cons ?_ (Steps5.cons ?_ (Steps5.cons ?_ (Steps5.cons ?_ (Steps5.cons ?_ (Steps5.cons ?_ (Steps5.nil))))))))
    · intro listed a W H hw hl hd
      have t0 : a.tmps.getD 0 undef = .pointer (some ⟨g, 0, none⟩) := (H.old 0 (by kernel_rfl)).trans rfl
      exact step2_value (R := fun j x y => EndR base fp g 5 6 s2 s3 j x y) (i := 0) rfl rfl (run_op_move rfl t0) (endr_refl (by decide) (by decide)) rfl
    · intro listed a W H hw hl hd
      have t5 : a.tmps.getD 5 undef = .pointer (some ⟨gm, 0, none⟩) := (H.old 5 (by kernel_rfl)).trans rfl
      exact step2_value (R := fun j x y => EndR base fp g 5 6 s2 s3 j x y) (i := 1) rfl rfl (run_op_load rfl t5 (run_load_mish (HMV.out.over hw.moves HGM.out))) (endr_refl (by decide) (by decide)) rfl
    · intro listed a W H hw hl hd
      have t0 : a.tmps.getD 0 undef = .pointer (some ⟨g, 0, none⟩) := (H.old 0 (by kernel_rfl)).trans rfl
      exact step2_value (R := fun j x y => EndR base fp g 5 6 s2 s3 j x y) (i := 2) rfl rfl (run_op_move rfl t0) (endr_refl (by decide) (by decide)) rfl
    · intro listed a W H hw hl hd
      have t5 : a.tmps.getD 5 undef = .pointer (some ⟨gm, 0, none⟩) := (H.old 5 (by kernel_rfl)).trans rfl
      exact step2_value (R := fun j x y => EndR base fp g 5 6 s2 s3 j x y) (i := 3) rfl rfl (run_op_load rfl t5 (run_load_mish (HMV.out.over hw.moves HGM.out))) (endr_refl (by decide) (by decide)) rfl
    · intro listed a W H hw hl hd
      have t1 : a.tmps.getD 1 undef = .int .i64 (k : Int) := (H.old 1 (by kernel_rfl)).trans rfl
      exact step2_value (R := fun j x y => EndR base fp g 5 6 s2 s3 j x y) (i := 4) rfl rfl (run_op_move rfl t1) (endr_refl (by decide) (by decide)) rfl
    · intro listed a W H hw hl hd
      have t20 : a.tmps.getD 20 undef = .pointer (some ⟨g, 0, none⟩) := H.get 2 20 (by kernel_rfl) (dep_of hd 2 (by kernel_rfl)) (alive_none (by kernel_rfl))
      have t21 : a.tmps.getD 21 undef = mishV m := H.get 3 21 (by kernel_rfl) (dep_of hd 3 (by kernel_rfl)) (alive_none (by kernel_rfl))
      have t22 : a.tmps.getD 22 undef = .int .i64 (k : Int) := H.get 4 22 (by kernel_rfl) (dep_of hd 4 (by kernel_rfl)) (alive_none (by kernel_rfl))
      refine step2_call (R := fun j x y => EndR base fp g 5 6 s2 s3 j x y) (i := 5) rfl rfl (run_op_call (vs := #[.pointer (some ⟨g, 0, none⟩), mishV m, .int .i64 (k : Int)]) Tryz.func124 (by kernel_rfl) (by kernel_rfl) rfl (by simp only [List.map_toArray, List.map_cons, List.map_nil]; show #[a.tmps.getD 20 undef, a.tmps.getD 21 undef, a.tmps.getD 22 undef] = _; rw [t20, t21, t22])) ?_
      refine (CA.out W (hw.none_ hl (H.notyet hl (by kernel_rfl))) trivial).mono ?_
      rintro e W2 ⟨rfl, h2, m2⟩
      exact ⟨_, rfl, ⟨m2, fun _ => h2, fun e => absurd e (by decide), fun e => absurd rfl e⟩, rfl⟩
    · intro listed a W H hw hl hd
      have t18 : a.tmps.getD 18 undef = .pointer (some ⟨g, 0, none⟩) := H.get 0 18 (by kernel_rfl) (dep_of hd 0 (by kernel_rfl)) (alive_none (by kernel_rfl))
      have t19 : a.tmps.getD 19 undef = mishV m := H.get 1 19 (by kernel_rfl) (dep_of hd 1 (by kernel_rfl)) (alive_none (by kernel_rfl))
      have t23 : a.tmps.getD 23 undef = .int .i64 code := H.get 5 23 (by kernel_rfl) (dep_of hd 5 (by kernel_rfl)) (alive_none (by kernel_rfl))
      refine step2_call (R := fun j x y => EndR base fp g 5 6 s2 s3 j x y) (i := 6) rfl rfl (run_op_call (vs := #[.pointer (some ⟨g, 0, none⟩), .string { data := #[110, 97, 110, 100, 46, 69, 114, 97, 115, 101] }, mishV m, .int .i64 code]) Tryz.func99 (by kernel_rfl) (by kernel_rfl) rfl (by simp only [List.map_toArray, List.map_cons, List.map_nil]; show #[a.tmps.getD 18 undef, .string { data := #[110, 97, 110, 100, 46, 69, 114, 97, 115, 101] }, a.tmps.getD 19 undef, a.tmps.getD 23 undef] = _; rw [t18, t19, t23])) ?_
      obtain ⟨L2, h2⟩ := hw.one (ndone_true H 5 (by decide) (dep_of hd 5 (by kernel_rfl))) hl
      refine (CE.out _ L2 W h2).mono ?_
      rintro e W2 ⟨v, rfl, he, h3, m3⟩
      exact ⟨v, rfl, ⟨m3, fun e => absurd e (by decide), fun _ => ⟨L2, h3⟩, fun _ e => absurd rfl e⟩, he.mono_w (Nat.le_trans HSZ.out hw.moves.size)⟩
    · intro listed a W H hw hl hd
      have T24 : (ErrF w fp codeE) (a.tmps.getD 24 undef) W := H.get 6 24 (by kernel_rfl) (dep_of hd 6 (by kernel_rfl)) (alive_none (by kernel_rfl))
      exact step2_value (R := fun j x y => EndR base fp g 5 6 s2 s3 j x y) (i := 7) rfl rfl (run_op_assign rfl rfl) (endr_refl (by decide) (by decide)) T24
  · intro a WC listed hdef hsz hinv hall0 hall hact
    have HF := Lib.hid (hinv.both (getD_default (hall0 6 (by decide))))
    have HMF := Lib.hid (HMM.out.trans hinv.moves)
    have HEF := Lib.hid (hall 7 _ rfl (by kernel_rfl))
    obtain ⟨u, hu⟩ : ∃ u : Nat → Value, ∀ k, a.tmps.getD k undef = u k := ⟨_, fun _ => rfl⟩
    have HE2 : Hid (ErrNew w fp WC codeE (u 4)) := by
      have h := HEF.out
      rw [← hu 4]
      exact h
    simp only [hu] at hact
    have hact' : a = ([18, 19, 20, 21, 22, 23, 24, 4] : List Nat).foldl (fun b k => b.put (some k) (u k)) _ := hact
    simp only [List.foldl] at hact'
    simp only [Act.put, List.setIfInBounds_toArray, List.set_cons_succ, List.set_cons_zero] at hact'
    have HAC := Lib.hid hact'
    clear hu hact hact' hall hall0 hdef hsz hinv HEF HB HMV HSZ HMM CA CE
    obtain ⟨v9, HV9⟩ : ∃ v9, Hid (u 4 = v9) := ⟨_, rfl⟩
    rw [HV9.out] at HE2 HAC
    rw [HAC.out]
    go_wp2_with fail
    go_ret
    exact ⟨v9, fp, rfl, HE2.out, HF.out, HMF.out⟩
set_option maxHeartbeats 16000000 in
set_option maxRecDepth 20000 in
theorem program_any (b p : Int) (A : Option Addr) (n c : Nat) (raw : List Nat) (hC : ChipAt w base fp g s) (hA : Bytes w w.heap.size A n raw) (hc : n ≤ c) (hs : ∀ x ∈ blk A, ¬ fp x) (hops : s.ops < 1000000) :
    Calls Tryz.prog 90 #[.pointer (some ⟨g, 0, none⟩), .int .i64 b, .int .i64 p, .slice A n c] w (Leads w base fp g (s.program b p raw)) := by
  obtain ⟨L, h⟩ := hC
  have HR := Lib.hid h
  have CH := Lib.hid (hasPage_any b p h)
  have hAl := hA.len
  obtain ⟨z, HZ⟩ : ∃ z : Nat, Hid (s.ns + 28 = z) := ⟨_, rfl⟩
  have CW : Hid (Calls Tryz.prog 38 #[.pointer (some ⟨g, 0, none⟩)] w fun e w' => e = .returned (.int .i64 (z : Int)) ∧ w = w') := by
    have h1 := width_any h
    rwa [show (s.ns : Int) + 28 = (z : Int) by rw [← HZ.out]; omega] at h1
  by_cases hw : s.why b p raw.length ≠ 0
  · rw [Chip.program_why hw]
    obtain ⟨kk, HKK⟩ : ∃ kk : Int, Hid (s.why b p raw.length = kk) := ⟨_, rfl⟩
    rw [HKK.out]
    have HNZ : Hid (kk ≠ 0) := by show kk ≠ 0; rw [← HKK.out]; exact hw
    have HK4 : Hid (s.on = false ∨ (s.on = true ∧ kk = 2)) := by
      rcases why_le s b p raw.length with h1 | ⟨h1, h2⟩ | ⟨h1, h2⟩
      · exact absurd h1 hw
      · exact Or.inl h1
      · exact Or.inr ⟨h1, by rw [← HKK.out, h2]⟩
    have HKD : Hid (s.on = false → kk = 4) := fun e => by rw [← HKK.out, Chip.why_dark e]
    have HONX : Hid (s.hasPage b p = true → n = z → s.on = false) := fun h1 h2 => by
      cases ho : s.on with
      | false => rfl
      | true =>
        have hb := of_decide_eq_true h1
        exact absurd (Chip.why_ok ho hb.1 hb.2.1 hb.2.2.1 hb.2.2.2 (by show raw.length = s.ns + 28; have := HZ.out; omega)) hw
    have HKF : Hid (∀ fits, fits = false → (s.on = false ∧ kk = 4) ∨ (s.on = true ∧ fits = false ∧ kk = 2)) := fun fits hf => by
      rcases HK4.out with h1 | ⟨h1, h2⟩
      · exact Or.inl ⟨h1, HKD.out h1⟩
      · exact Or.inr ⟨h1, hf, h2⟩
    cases hp : s.hasPage b p with
    | false =>
      rw [hp] at CH
      clear h hw HKK HK4 HKD HONX hA hp hAl HZ
      go_enter Tryz.func90, Tryz.ntmps90
      go_wp2_with fail
      refine CH.out.mono ?_
      rintro e w' ⟨rfl, rfl⟩
      go_wp2_with fail
      refine (begin_no _ _ (HR.out) kk (HKF.out _ rfl)).mono ?_
      rintro e Wb ⟨v, rfl, he, hb⟩
      have HB := Lib.hid hb
      have HE := Lib.hid he
      clear he hb
      rcases HE.out with ⟨h0, _⟩ | ⟨h0, ge, se, rfl, e1, e2, e3, e4⟩
      · exact absurd h0 HNZ.out
      have L9 := later_alloc Wb (.cells #[.int .i64 0, .int .i64 0, .int .i64 0, .int .u8 0] 74)
      have HE9 := Lib.hid (ErrNew.over HE.out (Moves.of_below (fp := fp) L9))
      have HB9 := Lib.hid (below_chain HB.out L9)
      clear L9 h0 e1 e2 e3 e4 HE HB
      unfold mishV M.zero
      dsimp only
      go_wp2_with fail
      go_ret
      exact ⟨_, fp, rfl, HE9.out, ⟨L, HR.out.since HB9.out⟩, Moves.of_below HB9.out⟩
    | true =>
      rw [hp] at CH
      by_cases hn : n = z
      · have HK : Hid (s.on = false ∧ kk = 4) := ⟨HONX.out hp hn, HKD.out (HONX.out hp hn)⟩
        have hb9 : ((n : Int) == (z : Int)) = true := by simp; omega
        clear h hw HKK HK4 HKD HONX HKF hA hp hAl HZ hn
        go_enter Tryz.func90, Tryz.ntmps90
        go_wp2_with fail
        refine CH.out.mono ?_
        rintro e w' ⟨rfl, rfl⟩
        go_wp2_with fail
        refine CW.out.mono ?_
        rintro e w' ⟨rfl, rfl⟩
        go_wp2_with fail
        refine (begin_no _ _ (HR.out) kk (Or.inl HK.out)).mono ?_
        rintro e Wb ⟨v, rfl, he, hb⟩
        have HB := Lib.hid hb
        have HE := Lib.hid he
        clear he hb
        rcases HE.out with ⟨h0, _⟩ | ⟨h0, ge, se, rfl, e1, e2, e3, e4⟩
        · exact absurd h0 HNZ.out
        have L9 := later_alloc Wb (.cells #[.int .i64 0, .int .i64 0, .int .i64 0, .int .u8 0] 74)
        have HE9 := Lib.hid (ErrNew.over HE.out (Moves.of_below (fp := fp) L9))
        have HB9 := Lib.hid (below_chain HB.out L9)
        clear L9 h0 e1 e2 e3 e4 HE HB
        unfold mishV M.zero
        dsimp only
        go_wp2_with fail
        go_ret
        exact ⟨_, fp, rfl, HE9.out, ⟨L, HR.out.since HB9.out⟩, Moves.of_below HB9.out⟩
      · have hb9 : ((n : Int) == (z : Int)) = false := by simp; omega
        clear h hw HKK HK4 HKD HONX hA hp hAl HZ hn
        go_enter Tryz.func90, Tryz.ntmps90
        go_wp2_with fail
        refine CH.out.mono ?_
        rintro e w' ⟨rfl, rfl⟩
        go_wp2_with fail
        refine CW.out.mono ?_
        rintro e w' ⟨rfl, rfl⟩
        go_wp2_with fail
        refine (begin_no _ _ (HR.out) kk (HKF.out _ rfl)).mono ?_
        rintro e Wb ⟨v, rfl, he, hb⟩
        have HB := Lib.hid hb
        have HE := Lib.hid he
        clear he hb
        rcases HE.out with ⟨h0, _⟩ | ⟨h0, ge, se, rfl, e1, e2, e3, e4⟩
        · exact absurd h0 HNZ.out
        have L9 := later_alloc Wb (.cells #[.int .i64 0, .int .i64 0, .int .i64 0, .int .u8 0] 74)
        have HE9 := Lib.hid (ErrNew.over HE.out (Moves.of_below (fp := fp) L9))
        have HB9 := Lib.hid (below_chain HB.out L9)
        clear L9 h0 e1 e2 e3 e4 HE HB
        unfold mishV M.zero
        dsimp only
        go_wp2_with fail
        go_ret
        exact ⟨_, fp, rfl, HE9.out, ⟨L, HR.out.since HB9.out⟩, Moves.of_below HB9.out⟩
  have hw0 : s.why b p raw.length = 0 := by omega
  obtain ⟨hon, b0, b1, p0, p1, hl⟩ := Chip.why_zero hw0
  obtain ⟨k, rfl⟩ : ∃ k : Nat, b = (k : Int) := ⟨b.toNat, by omega⟩
  obtain ⟨q, rfl⟩ : ∃ q : Nat, p = (q : Int) := ⟨p.toNat, by omega⟩
  have hk : k < s.nb := by omega
  have hq : q < s.np := by omega
  rw [Chip.program_in hw0 (by unfold Chip.page; rw [blk_nth, Int.toNat_natCast]; exact h.wf.bytes k q hk hq)]
  have hh : s.hasPage (k : Int) (q : Int) = true := decide_eq_true ⟨b0, b1, p0, p1⟩
  rw [hh] at CH
  have hlz : s.long = z := HZ.out
  obtain rfl : n = z := by omega
  have hn1 : 1 ≤ n := by rw [← HZ.out]; omega
  obtain ⟨ad, rfl⟩ : ∃ ad, A = some ad := by
    obtain ⟨ad, e, _⟩ := hA.lies 0 hn1
    exact ⟨ad, e⟩
  have hb9 : ((n : Int) == (n : Int)) = true := by simp
  have HBW := Lib.hid (Chip.bef_wf h.wf)
  obtain ⟨m, HM⟩ : ∃ m, Hid (s.bef = m) := ⟨_, rfl⟩
  rw [HM.out] at HBW ⊢
  have HONE : Hid (s.on = true ∧ s.ops < 1000000 ∧ k < s.nb ∧ s.Wf ∧ q < s.np) := ⟨hon, hops, hk, h.wf, hq⟩
  have HAW : Hid (Bytes w w.heap.size (some ad) n raw ∧ (∀ x ∈ blk (some ad), ¬ fp x) ∧ n ≤ c) := ⟨hA, hs, hc⟩
  obtain ⟨r2, HR2⟩ : ∃ r2, Hid (s.tick.progIn m (k : Int) (q : Int) raw = r2) := ⟨_, rfl⟩
  obtain ⟨r3, HR3⟩ : ∃ r3, Hid (Chip.endIn r2 m = r3) := ⟨_, rfl⟩
  rw [HR2.out, HR3.out]
  obtain ⟨s2, code⟩ := r2
  obtain ⟨s3, codeE⟩ := r3
  clear h hw hw0 hon hops b0 b1 p0 p1 hl hk hq hh hlz hA hs
  go_enter Tryz.func90, Tryz.ntmps90
  go_wp2_with fail
  refine CH.out.mono ?_
  rintro e w' ⟨rfl, rfl⟩
  go_wp2_with fail
  refine CW.out.mono ?_
  rintro e w' ⟨rfl, rfl⟩
  go_wp2_with fail
  refine (begin_ok _ HR.out HONE.out.1 HONE.out.2.1).mono ?_
  rintro e Wb ⟨rfl, h1, m1⟩
  rw [HM.out]
  have H1 := Lib.hid h1
  have M1 := Lib.hid m1
  clear h1 m1
  unfold mishV
  go_wp2_with fail
  obtain ⟨s1, HS1⟩ : ∃ s1, Hid (s.tick = s1) := ⟨_, rfl⟩
  rw [HS1.out] at H1 HR2
  have HTK : Hid (s1.Tk ∧ s1.ops ≤ 1000000 ∧ k < s1.nb ∧ q < s1.np ∧ s1.ns + 28 = n) := by
    rw [← HS1.out]
    exact ⟨HONE.out.2.2.2.1.tk, by show s.ops + 1 ≤ 1000000; have := HONE.out.2.1; omega, HONE.out.2.2.1, HONE.out.2.2.2.2, HZ.out⟩
  obtain ⟨gm, HG⟩ : ∃ gm : Nat, Hid (Wb.heap.size = gm) := ⟨_, rfl⟩
  obtain ⟨WB, HWB⟩ : ∃ W, Hid (W = Wb.alloc (.cells #[.int .i64 m.at_, .int .i64 m.kind, .int .i64 m.bytes, .int .u8 m.fill] 74)) := ⟨_, rfl⟩
  have L9 : Hid (Later Wb WB) := by rw [HWB.out]; exact later_alloc _ _
  have HMV : Hid (RowM WB gm m) := by rw [HWB.out, ← HG.out]; exact rowM_new Wb m
  have HGM : Hid (¬ fp gm) := fun hf => by have := H1.out.lt gm hf; have := HG.out; omega
  have HB := Lib.hid (H1.out.since L9.out)
  have HSZ := Lib.hid (Nat.le_trans M1.out.size (Below.size L9.out))
  have HMM := Lib.hid (M1.out.trans (Moves.of_below L9.out))
  have HMM2 := Lib.hid HMM.out
  have HCODE : Hid (0 ≤ code) := by
    have : (s1.progIn m (k : Int) (q : Int) raw).2 = code := by rw [HR2.out]
    show 0 ≤ code
    rw [← this]
    unfold Chip.progIn
    split
    · show (0 : Int) ≤ 6; decide
    · split
      · show (0 : Int) ≤ 5; decide
      · split
        · show (0 : Int) ≤ 5; decide
        · split <;> exact Int.le_refl _
  have CA : Hid (∀ W, Rep W base fp g s1 L → Moves w fp W fp → Calls Tryz.prog 117 #[.pointer (some ⟨g, 0, none⟩), mishV m, .int .i64 (k : Int), .int .i64 (q : Int), .slice (some ad) n c] W (fun e w' => e = .returned (.int .i64 code) ∧ (∃ L', Rep w' base fp g s2 L') ∧ Moves W fp w' fp)) := fun W hW hm => by
    have := progin_any m HBW.out.1 HBW.out.2.1 HBW.out.2.2 k q n c ad raw hW HTK.out.1 HTK.out.2.1 HTK.out.2.2.1 HTK.out.2.2.2.1 HTK.out.2.2.2.2 (HAW.out.1.over HAW.out.2.1 hm) HAW.out.2.2 (HAW.out.2.1 _ (by simp [blk]))
    rw [HR2.out] at this
    exact this
  have CE : Hid (∀ (st : ByteArray) (L2 : CL) (W : World), Rep W base fp g s2 L2 → Calls Tryz.prog 99 #[.pointer (some ⟨g, 0, none⟩), .string st, mishV m, .int .i64 code] W (fun e w' => ∃ v, e = .returned v ∧ ErrNew W fp w' codeE v ∧ Rep w' base fp g s3 L2 ∧ Moves W fp w' fp)) := fun st L2 W hW => by
    have := end_any st m code HCODE.out hW
    rw [HR3.out] at this
    exact this
  rw [HG.out, ← HWB.out]
  clear L9 H1 M1 HG HWB HBW HR HR2 HR3 HTK CH CW HCODE HONE HM HS1 HAW HZ
  obtain ⟨WD, HWD⟩ : ∃ W, Hid (W = WB.drew) := ⟨_, rfl⟩
  have HDL : Hid (Later WB WD) := by rw [HWD.out]; exact (Below.refl _ _).drew
  have HB3 := Lib.hid (HB.out.since HDL.out)
  have HMV3 := Lib.hid (HMV.out.since HDL.out)
  have HSZ3 := Lib.hid (Nat.le_trans HSZ.out (Below.size HDL.out))
  have HMM3 := Lib.hid (HMM.out.trans (Moves.of_below HDL.out))
  clear HB HMV HSZ HMM HDL
  have HB := HB3
  have HMV := HMV3
  have HSZ := HSZ3
  have HMM := HMM3
  have HMMD := Lib.hid HMM.out
  clear HB3 HMV3 HSZ3 HMM3
  refine region_of_steps5 (by kernel_rfl) (fact2Of [.is (.pointer (some ⟨g, 0, none⟩)), .is (mishV m), .is (.pointer (some ⟨g, 0, none⟩)), .is (mishV m), .is (.int .i64 (k : Int)), .is (.int .i64 (q : Int)), .is (.slice (some ad) n c), .is (.int .i64 code), .that (ErrF w fp codeE) (errF_since _ _ _), .that (ErrF w fp codeE) (errF_since _ _ _)]) (deadOf []) (fun j a x y => EndR base fp g 7 8 s2 s3 j x y) (fun l a W => EndInv WD base fp g 7 8 s1 s2 s3 L l W) (by kernel_rfl)
    (fun i j v a x y hm hd hn _ h hR => facts_over (w0 := w) (k := codeE) _ 8 9 rfl rfl (by kernel_rfl) i h hR.moves)
    (fun listed j a x v y o ho hsz H h hs hl hR hv => endinv_step H (by kernel_rfl) (by decide) h hl hR)
    (by rw [← HWD.out]; exact endinv_start (by decide) (by decide) HB.out) ?_ ?_
  · refine Steps5.cons ?_ (Steps5.cons ?_ (Steps5.cons ?_ (Steps5.cons ?_ (Steps5.cons ?_ (Steps5.cons ?_ (Steps5.cons ?_ (Steps5.cons ?_ (Steps5.cons ?_ (Steps5.cons ?_ (Steps5.nil))))))))))
    · intro listed a W H hw hl hd
      have t0 : a.tmps.getD 0 undef = .pointer (some ⟨g, 0, none⟩) := (H.old 0 (by kernel_rfl)).trans rfl
      exact step2_value (R := fun j x y => EndR base fp g 7 8 s2 s3 j x y) (i := 0) rfl rfl (run_op_move rfl t0) (endr_refl (by decide) (by decide)) rfl
    · intro listed a W H hw hl hd
      have t9 : a.tmps.getD 9 undef = .pointer (some ⟨gm, 0, none⟩) := (H.old 9 (by kernel_rfl)).trans rfl
      exact step2_value (R := fun j x y => EndR base fp g 7 8 s2 s3 j x y) (i := 1) rfl rfl (run_op_load rfl t9 (run_load_mish (HMV.out.over hw.moves HGM.out))) (endr_refl (by decide) (by decide)) rfl
    · intro listed a W H hw hl hd
      have t0 : a.tmps.getD 0 undef = .pointer (some ⟨g, 0, none⟩) := (H.old 0 (by kernel_rfl)).trans rfl
      exact step2_value (R := fun j x y => EndR base fp g 7 8 s2 s3 j x y) (i := 2) rfl rfl (run_op_move rfl t0) (endr_refl (by decide) (by decide)) rfl
    · intro listed a W H hw hl hd
      have t9 : a.tmps.getD 9 undef = .pointer (some ⟨gm, 0, none⟩) := (H.old 9 (by kernel_rfl)).trans rfl
      exact step2_value (R := fun j x y => EndR base fp g 7 8 s2 s3 j x y) (i := 3) rfl rfl (run_op_load rfl t9 (run_load_mish (HMV.out.over hw.moves HGM.out))) (endr_refl (by decide) (by decide)) rfl
    · intro listed a W H hw hl hd
      have t1 : a.tmps.getD 1 undef = .int .i64 (k : Int) := (H.old 1 (by kernel_rfl)).trans rfl
      exact step2_value (R := fun j x y => EndR base fp g 7 8 s2 s3 j x y) (i := 4) rfl rfl (run_op_move rfl t1) (endr_refl (by decide) (by decide)) rfl
    · intro listed a W H hw hl hd
      have t2 : a.tmps.getD 2 undef = .int .i64 (q : Int) := (H.old 2 (by kernel_rfl)).trans rfl
      exact step2_value (R := fun j x y => EndR base fp g 7 8 s2 s3 j x y) (i := 5) rfl rfl (run_op_move rfl t2) (endr_refl (by decide) (by decide)) rfl
    · intro listed a W H hw hl hd
      have t3 : a.tmps.getD 3 undef = .slice (some ad) n c := (H.old 3 (by kernel_rfl)).trans rfl
      exact step2_value (R := fun j x y => EndR base fp g 7 8 s2 s3 j x y) (i := 6) rfl rfl (run_op_move rfl t3) (endr_refl (by decide) (by decide)) rfl
    · intro listed a W H hw hl hd
      have t32 : a.tmps.getD 32 undef = .pointer (some ⟨g, 0, none⟩) := H.get 2 32 (by kernel_rfl) (dep_of hd 2 (by kernel_rfl)) (alive_none (by kernel_rfl))
      have t33 : a.tmps.getD 33 undef = mishV m := H.get 3 33 (by kernel_rfl) (dep_of hd 3 (by kernel_rfl)) (alive_none (by kernel_rfl))
      have t34 : a.tmps.getD 34 undef = .int .i64 (k : Int) := H.get 4 34 (by kernel_rfl) (dep_of hd 4 (by kernel_rfl)) (alive_none (by kernel_rfl))
      have t35 : a.tmps.getD 35 undef = .int .i64 (q : Int) := H.get 5 35 (by kernel_rfl) (dep_of hd 5 (by kernel_rfl)) (alive_none (by kernel_rfl))
      have t36 : a.tmps.getD 36 undef = .slice (some ad) n c := H.get 6 36 (by kernel_rfl) (dep_of hd 6 (by kernel_rfl)) (alive_none (by kernel_rfl))
      refine step2_call (R := fun j x y => EndR base fp g 7 8 s2 s3 j x y) (i := 7) rfl rfl (run_op_call (vs := #[.pointer (some ⟨g, 0, none⟩), mishV m, .int .i64 (k : Int), .int .i64 (q : Int), .slice (some ad) n c]) Tryz.func117 (by kernel_rfl) (by kernel_rfl) rfl (by simp only [List.map_toArray, List.map_cons, List.map_nil]; show #[a.tmps.getD 32 undef, a.tmps.getD 33 undef, a.tmps.getD 34 undef, a.tmps.getD 35 undef, a.tmps.getD 36 undef] = _; rw [t32, t33, t34, t35, t36])) ?_
      refine (CA.out W (hw.none_ hl (H.notyet hl (by kernel_rfl))) (HMMD.out.trans hw.moves)).mono ?_
      rintro e W2 ⟨rfl, h2, m2⟩
      exact ⟨_, rfl, ⟨m2, fun _ => h2, fun e => absurd e (by decide), fun e => absurd rfl e⟩, rfl⟩
    · intro listed a W H hw hl hd
      have t30 : a.tmps.getD 30 undef = .pointer (some ⟨g, 0, none⟩) := H.get 0 30 (by kernel_rfl) (dep_of hd 0 (by kernel_rfl)) (alive_none (by kernel_rfl))
      have t31 : a.tmps.getD 31 undef = mishV m := H.get 1 31 (by kernel_rfl) (dep_of hd 1 (by kernel_rfl)) (alive_none (by kernel_rfl))
      have t37 : a.tmps.getD 37 undef = .int .i64 code := H.get 7 37 (by kernel_rfl) (dep_of hd 7 (by kernel_rfl)) (alive_none (by kernel_rfl))
      refine step2_call (R := fun j x y => EndR base fp g 7 8 s2 s3 j x y) (i := 8) rfl rfl (run_op_call (vs := #[.pointer (some ⟨g, 0, none⟩), .string { data := #[110, 97, 110, 100, 46, 80, 114, 111, 103, 114, 97, 109] }, mishV m, .int .i64 code]) Tryz.func99 (by kernel_rfl) (by kernel_rfl) rfl (by simp only [List.map_toArray, List.map_cons, List.map_nil]; show #[a.tmps.getD 30 undef, .string { data := #[110, 97, 110, 100, 46, 80, 114, 111, 103, 114, 97, 109] }, a.tmps.getD 31 undef, a.tmps.getD 37 undef] = _; rw [t30, t31, t37])) ?_
      obtain ⟨L2, h2⟩ := hw.one (ndone_true H 7 (by decide) (dep_of hd 7 (by kernel_rfl))) hl
      refine (CE.out _ L2 W h2).mono ?_
      rintro e W2 ⟨v, rfl, he, h3, m3⟩
      exact ⟨v, rfl, ⟨m3, fun e => absurd e (by decide), fun _ => ⟨L2, h3⟩, fun _ e => absurd rfl e⟩, he.mono_w (Nat.le_trans HSZ.out hw.moves.size)⟩
    · intro listed a W H hw hl hd
      have T38 : (ErrF w fp codeE) (a.tmps.getD 38 undef) W := H.get 8 38 (by kernel_rfl) (dep_of hd 8 (by kernel_rfl)) (alive_none (by kernel_rfl))
      exact step2_value (R := fun j x y => EndR base fp g 7 8 s2 s3 j x y) (i := 9) rfl rfl (run_op_assign rfl rfl) (endr_refl (by decide) (by decide)) T38
  · intro a WC listed hdef hsz hinv hall0 hall hact
    have HF := Lib.hid (hinv.both (getD_default (hall0 8 (by decide))))
    have HMF := Lib.hid (HMM.out.trans hinv.moves)
    have HEF := Lib.hid (hall 9 _ rfl (by kernel_rfl))
    obtain ⟨u, hu⟩ : ∃ u : Nat → Value, ∀ k, a.tmps.getD k undef = u k := ⟨_, fun _ => rfl⟩
    have HE2 : Hid (ErrNew w fp WC codeE (u 8)) := by
      have h := HEF.out
      rw [← hu 8]
      exact h
    simp only [hu] at hact
    have hact' : a = ([30, 31, 32, 33, 34, 35, 36, 37, 38, 8] : List Nat).foldl (fun b k => b.put (some k) (u k)) _ := hact
    simp only [List.foldl] at hact'
    simp only [Act.put, List.setIfInBounds_toArray, List.set_cons_succ, List.set_cons_zero] at hact'
    have HAC := Lib.hid hact'
    clear hu hact hact' hall hall0 hdef hsz hinv HEF HB HMV HSZ HMM CA CE
    obtain ⟨v9, HV9⟩ : ∃ v9, Hid (u 8 = v9) := ⟨_, rfl⟩
    rw [HV9.out] at HE2 HAC
    rw [HAC.out]
    go_wp2_with fail
    go_ret
    exact ⟨v9, fp, rfl, HE2.out, HF.out, HMF.out⟩
theorem Chip.mark_why {s : Chip} {b : Int} (h : s.why b 0 s.long ≠ 0) : s.mark b = (s, s.why b 0 s.long) := by
  unfold Chip.mark
  rw [if_pos h]
theorem Chip.read_why {s : Chip} {b p : Int} (h : s.why b p s.long ≠ 0) : s.read b p = (s, s.why b p s.long, []) := by
  unfold Chip.read
  rw [if_pos h]
set_option maxHeartbeats 16000000 in
set_option maxRecDepth 20000 in
theorem mark_any (b : Int) (hC : ChipAt w base fp g s) (hops : s.ops < 1000000) :
    Calls Tryz.prog 91 #[.pointer (some ⟨g, 0, none⟩), .int .i64 b] w (Leads w base fp g (s.mark b)) := by
  obtain ⟨L, h⟩ := hC
  have HR := Lib.hid h
  have CH := Lib.hid (has_any b h)
  by_cases hw : s.why b 0 s.long ≠ 0
  · rw [Chip.mark_why hw]
    obtain ⟨kk, HKK⟩ : ∃ kk : Int, Hid (s.why b 0 s.long = kk) := ⟨_, rfl⟩
    rw [HKK.out]
    have HNZ : Hid (kk ≠ 0) := by show kk ≠ 0; rw [← HKK.out]; exact hw
    have HK : Hid ((s.on = false ∧ kk = 4) ∨ (s.on = true ∧ s.has b = false ∧ kk = 2)) := by
      rcases why_le s b 0 s.long with h1 | ⟨h1, h2⟩ | ⟨h1, h2⟩
      · exact absurd h1 hw
      · exact Or.inl ⟨h1, by rw [← HKK.out, h2]⟩
      · refine Or.inr ⟨h1, ?_, by rw [← HKK.out, h2]⟩
        cases hh : s.has b with
        | false => rfl
        | true =>
          have hb := of_decide_eq_true hh
          rw [Chip.why_ok h1 hb.1 hb.2 (by omega) (by have := h.wf.np1; omega) rfl] at h2; cases h2
    clear h hw HKK
    go_enter Tryz.func91, Tryz.ntmps91
    go_wp2_with fail
    refine CH.out.mono ?_
    rintro e w' ⟨rfl, rfl⟩
    go_wp2_with fail
    refine (begin_no _ _ (HR.out) kk HK.out).mono ?_
    rintro e Wb ⟨v, rfl, he, hb⟩
    have HB := Lib.hid hb
    have HE := Lib.hid he
    clear he hb
    rcases HE.out with ⟨h0, _⟩ | ⟨h0, ge, se, rfl, e1, e2, e3, e4⟩
    · exact absurd h0 HNZ.out
    have L9 := later_alloc Wb (.cells #[.int .i64 0, .int .i64 0, .int .i64 0, .int .u8 0] 74)
    have HE9 := Lib.hid (ErrNew.over HE.out (Moves.of_below (fp := fp) L9))
    have HB9 := Lib.hid (below_chain HB.out L9)
    clear L9 h0 e1 e2 e3 e4 HE HB
    unfold mishV M.zero
    dsimp only
    go_wp2_with fail
    go_ret
    exact ⟨_, fp, rfl, HE9.out, ⟨L, HR.out.since HB9.out⟩, Moves.of_below HB9.out⟩
  have hw0 : s.why b 0 s.long = 0 := by omega
  rw [Chip.mark_in hw0]
  obtain ⟨hon, b0, b1, _, _, _⟩ := Chip.why_zero hw0
  obtain ⟨k, rfl⟩ : ∃ k : Nat, b = (k : Int) := ⟨b.toNat, by omega⟩
  have hk : k < s.nb := by omega
  have hh : s.has (k : Int) = true := decide_eq_true ⟨b0, b1⟩
  rw [hh] at CH
  obtain ⟨m, HM⟩ : ∃ m, Hid (s.bef = m) := ⟨_, rfl⟩
  rw [HM.out]
  obtain ⟨r3, HR3⟩ : ∃ r3, Hid (Chip.endIn (s.tick.markIn m (k : Int), 0) m = r3) := ⟨_, rfl⟩
  rw [HR3.out]
  have HONE : Hid (s.on = true ∧ s.ops < 1000000 ∧ k < s.nb) := ⟨hon, hops, hk⟩
  have i0 : (0 : Int) ≤ (k : Int) := by omega
  have hnb := h.wf.nb2
  clear h hw hw0 hon hops b0 b1 hh
  go_enter Tryz.func91, Tryz.ntmps91
  go_wp2_with fail
  refine CH.out.mono ?_
  rintro e w' ⟨rfl, rfl⟩
  go_wp2_with fail
  refine (begin_ok _ HR.out HONE.out.1 HONE.out.2.1).mono ?_
  rintro e Wb ⟨rfl, h1, m1⟩
  rw [HM.out]
  have L9 := later_alloc Wb (.cells #[.int .i64 m.at_, .int .i64 m.kind, .int .i64 m.bytes, .int .u8 m.fill] 74)
  have hB := h1.since L9
  have hMM := m1.trans (Moves.of_below (fp := fp) L9)
  have R9 := rowM_new Wb m
  have HGB : Hid (Wb.heap.size ≠ L.ab.block) := fun e => by have := h1.lt _ h1.fb; omega
  obtain ⟨s1, HS1⟩ : ∃ s1, Hid (s.tick = s1) := ⟨_, rfl⟩
  rw [HS1.out] at hB h1 HR3
  have hk1 : k < s1.nb := by rw [← HS1.out]; exact hk
  obtain ⟨u0, u1, u2, u3⟩ := R9.at_
  obtain ⟨c0, c1, c2, c3, c4, c5, c6, c7, c8⟩ := hB.cells
  obtain ⟨d1, d2, d3, d4⟩ := hB.cellsK hk1
  have f3 := hB.free5 k 3
  obtain ⟨nb, HNB⟩ : ∃ n : Nat, Hid (s1.nb = n) := ⟨_, rfl⟩
  have i1 : (k : Int) < (nb : Int) := by rw [← HNB.out]; omega
  rw [HNB.out] at c4
  have HBB := Lib.hid hB
  have HMM := Lib.hid hMM
  have HRV := Lib.hid R9
  have HSZ := Lib.hid hMM.size
  have HV : Hid (s1.markIn m (k : Int) = if m.kind = 2 then s1 else s1.setB (k : Int) { s1.nth k with marked := true }) := by
    show _ = _
    unfold Chip.markIn
    rw [blk_nth]
  have hmv := hB.mark_moves k 3 (.bool true)
  have HMV := Lib.hid hmv
  obtain ⟨L2, h2, a2, _, _⟩ := hB.setMarked hk1
  have H2 := Lib.hid h2
  have hgp : Wb.heap.size ≠ (L.ab.add (k * 5)).block := by rw [hB.pblock]; exact HGB.out
  have R3 := R9.other (j := (L.ab.add (k * 5)).off + 3) hgp (.bool true)
  obtain ⟨v0, v1, v2, v3⟩ := R3.at_
  by_cases hd : m.kind = 2
  · have hV := HV.out
    rw [if_pos hd] at hV
    rw [hV] at HR3
    have b2 : (m.kind != 2) = false := by simp; omega
    clear h1 m1 L9 hB hMM R9 c0 c1 c2 c3 c5 c6 c7 c8 d1 d2 d3 d4 hk hk1 hnb HV hV hmv h2 H2 HMV R3 v0 v1 v2 v3 hd
    unfold mishV
    go_wp2_with fail
    obtain ⟨WB, HWB⟩ : ∃ W, Hid (W = Wb.alloc (.cells #[.int .i64 m.at_, .int .i64 m.kind, .int .i64 m.bytes, .int .u8 m.fill] 74)) := ⟨_, rfl⟩
    rw [← HWB.out] at HBB HMM HSZ ⊢
    have CE := end_any ⟨#[110, 97, 110, 100, 46, 77, 97, 114, 107]⟩ m 0 (Int.le_refl 0) HBB.out
    unfold mishV at CE
    refine CE.mono ?_
    rintro e W2 ⟨v, rfl, he, h3, m3⟩
    rw [HR3.out] at he h3
    have HE := Lib.hid (he.mono_w HSZ.out)
    have H3 := Lib.hid h3
    have M3 := Lib.hid (HMM.out.trans m3)
    clear he h3 m3 CE
    go_wp2_with fail
    go_ret
    exact ⟨v, fp, rfl, HE.out, ⟨_, H3.out⟩, M3.out⟩
  · have hV := HV.out
    rw [if_neg hd] at hV
    rw [hV] at HR3
    have b2 : (m.kind != 2) = true := by simp; omega
    have HSZ2 := Lib.hid (Nat.le_trans hMM.size hmv.size)
    have HMM2 := Lib.hid (hMM.trans hmv)
    clear h1 m1 L9 hB hMM R9 c0 c1 c2 c3 c5 c6 c7 c8 d1 d2 d4 hk hk1 hnb HV hV hmv h2 HMV R3 hd HBB HMM HSZ
    unfold mishV
    go_wp2_with fail
    obtain ⟨WB, HWB⟩ : ∃ W, Hid (W = (Wb.alloc (.cells #[.int .i64 m.at_, .int .i64 m.kind, .int .i64 m.bytes, .int .u8 m.fill] 74)).setCell ⟨(L.ab.add (k * 5)).block, (L.ab.add (k * 5)).off + 3, none⟩ (.bool true)) := ⟨_, rfl⟩
    rw [← HWB.out] at H2 HMM2 HSZ2 ⊢
    have CE := end_any ⟨#[110, 97, 110, 100, 46, 77, 97, 114, 107]⟩ m 0 (Int.le_refl 0) H2.out
    unfold mishV at CE
    refine CE.mono ?_
    rintro e W2 ⟨v, rfl, he, h3, m3⟩
    rw [HR3.out] at he h3
    have HE := Lib.hid (he.mono_w HSZ2.out)
    have H3 := Lib.hid h3
    have M3 := Lib.hid (HMM2.out.trans m3)
    clear he h3 m3 CE
    go_wp2_with fail
    go_ret
    exact ⟨v, fp, rfl, HE.out, ⟨_, H3.out⟩, M3.out⟩
set_option maxHeartbeats 16000000 in
set_option maxRecDepth 20000 in
theorem nread_any (b p : Int) (hC : ChipAt w base fp g s) (hops : s.ops < 1000000) :
    Calls Tryz.prog 66 #[.pointer (some ⟨g, 0, none⟩), .int .i64 b, .int .i64 p] w (Reads w base fp g (s.read b p)) := by
  obtain ⟨L, h⟩ := hC
  have HR := Lib.hid h
  have CH := Lib.hid (hasPage_any b p h)
  by_cases hw : s.why b p s.long ≠ 0
  · rw [Chip.read_why hw]
    obtain ⟨kk, HKK⟩ : ∃ kk : Int, Hid (s.why b p s.long = kk) := ⟨_, rfl⟩
    rw [HKK.out]
    have HNZ : Hid (kk ≠ 0) := by show kk ≠ 0; rw [← HKK.out]; exact hw
    have HK : Hid ((s.on = false ∧ kk = 4) ∨ (s.on = true ∧ s.hasPage b p = false ∧ kk = 2)) := by
      rcases why_le s b p s.long with h1 | ⟨h1, h2⟩ | ⟨h1, h2⟩
      · exact absurd h1 hw
      · exact Or.inl ⟨h1, by rw [← HKK.out, h2]⟩
      · refine Or.inr ⟨h1, ?_, by rw [← HKK.out, h2]⟩
        cases hh : s.hasPage b p with
        | false => rfl
        | true =>
          have hb := of_decide_eq_true hh
          rw [Chip.why_ok h1 hb.1 hb.2.1 hb.2.2.1 hb.2.2.2 rfl] at h2; cases h2
    clear h hw HKK
    go_enter Tryz.func66, Tryz.ntmps66
    go_wp2_with fail
    refine CH.out.mono ?_
    rintro e w' ⟨rfl, rfl⟩
    go_wp2_with fail
    refine (begin_no _ _ (HR.out) kk HK.out).mono ?_
    rintro e Wb ⟨v, rfl, he, hb⟩
    have HB := Lib.hid hb
    have HE := Lib.hid he
    clear he hb
    rcases HE.out with ⟨h0, _⟩ | ⟨h0, ge, se, rfl, e1, e2, e3, e4⟩
    · exact absurd h0 HNZ.out
    have L9 := later_alloc Wb (.cells #[.int .i64 0, .int .i64 0, .int .i64 0, .int .u8 0] 74)
    have HE9 := Lib.hid (ErrNew.over HE.out (Moves.of_below (fp := fp) L9))
    have HB9 := Lib.hid (below_chain HB.out L9)
    clear L9 h0 e1 e2 e3 e4 HE HB
    unfold mishV M.zero
    dsimp only
    go_wp2_with fail
    go_ret2
    exact ⟨_, none, 0, 0, fp, rfl, HE9.out, ⟨Own.none_, fun b hb => by cases hb⟩, ⟨L, HR.out.since HB9.out⟩, Moves.of_below HB9.out⟩
  have hw0 : s.why b p s.long = 0 := by omega
  rw [Chip.read_in hw0]
  obtain ⟨hon, b0, b1, p0, p1, _⟩ := Chip.why_zero hw0
  obtain ⟨k, rfl⟩ : ∃ k : Nat, b = (k : Int) := ⟨b.toNat, by omega⟩
  obtain ⟨q, rfl⟩ : ∃ q : Nat, p = (q : Int) := ⟨p.toNat, by omega⟩
  have hk : k < s.nb := by omega
  have hq : q < s.np := by omega
  have hh : s.hasPage (k : Int) (q : Int) = true := decide_eq_true ⟨b0, b1, p0, p1⟩
  rw [hh] at CH
  have HPG : Hid (s.page (k : Int) (q : Int) = (s.nth k).pg.getD q []) := by
    show _ = _
    unfold Chip.page
    rw [blk_nth, Int.toNat_natCast]
  obtain ⟨m, HM⟩ : ∃ m, Hid (s.bef = m) := ⟨_, rfl⟩
  rw [HM.out]
  obtain ⟨pl, HPL⟩ : ∃ pl, Hid ((if m.kind = 2 then [] else s.page (k : Int) (q : Int)) = pl) := ⟨_, rfl⟩
  obtain ⟨r3, HR3⟩ : ∃ r3, Hid (Chip.endIn (s.tick, 0) m = r3) := ⟨_, rfl⟩
  rw [HPL.out, HR3.out]
  have HONE : Hid (s.on = true ∧ s.ops < 1000000 ∧ k < s.nb ∧ q < s.np) := ⟨hon, hops, hk, hq⟩
  clear h hw hw0 hon hops b0 b1 p0 p1 hh hk hq
  go_enter Tryz.func66, Tryz.ntmps66
  go_wp2_with fail
  refine CH.out.mono ?_
  rintro e w' ⟨rfl, rfl⟩
  go_wp2_with fail
  refine (begin_ok _ HR.out HONE.out.1 HONE.out.2.1).mono ?_
  rintro e Wb ⟨rfl, h1, m1⟩
  rw [HM.out]
  have L9 := later_alloc Wb (.cells #[.int .i64 m.at_, .int .i64 m.kind, .int .i64 m.bytes, .int .u8 m.fill] 74)
  have hB := h1.since L9
  have hMM := m1.trans (Moves.of_below (fp := fp) L9)
  have R9 := rowM_new Wb m
  obtain ⟨u0, u1, u2, u3⟩ := R9.at_
  have HBB := Lib.hid hB
  have HMM := Lib.hid hMM
  have HSZ := Lib.hid hMM.size
  clear h1 m1 L9 hB hMM R9
  unfold mishV
  go_wp2_with fail
  obtain ⟨WB, HWB⟩ : ∃ W, Hid (W = Wb.alloc (.cells #[.int .i64 m.at_, .int .i64 m.kind, .int .i64 m.bytes, .int .u8 m.fill] 74)) := ⟨_, rfl⟩
  rw [← HWB.out] at HBB HMM HSZ ⊢
  clear u0 u1 u2 u3 HWB
  have CE := end_any ⟨#[110, 97, 110, 100, 46, 82, 101, 97, 100]⟩ m 0 (Int.le_refl 0) HBB.out
  unfold mishV at CE
  refine CE.mono ?_
  rintro e W2 ⟨v, rfl, he, h3, m3⟩
  have H3 := Lib.hid h3
  have M3 := Lib.hid (HMM.out.trans m3)
  have HE := Lib.hid (he.mono_w HSZ.out)
  clear he h3 m3 CE HBB HMM HSZ
  by_cases hd : m.kind = 2
  · have hpl := HPL.out
    rw [if_pos hd] at hpl
    subst hpl
    have hend : Chip.endIn (s.tick, 0) m = (s.tick.off, 4) := if_pos hd
    rw [hend] at H3 HE HR3
    dsimp only at H3 HE
    have hr3 := HR3.out
    subst hr3
    clear hend hd
    rcases HE.out with ⟨h0, _⟩ | ⟨h0, ge, se, rfl, e1, e2, e3, e4⟩
    · exact absurd h0 (show ¬ (4 : Int) = 0 by decide)
    clear h0 e1 e2 e3 e4
    go_wp2_with fail
    go_ret2
    exact ⟨_, none, 0, 0, fp, rfl, HE.out, ⟨Own.none_, fun b hb => by cases hb⟩, ⟨L, H3.out⟩, M3.out⟩
  · have HPL2 : Hid (s.page (k : Int) (q : Int) = pl) := by have := HPL.out; rwa [if_neg hd] at this
    have hend : Chip.endIn (s.tick, 0) m = (s.tick, 0) := if_neg hd
    rw [hend] at H3 HE HR3
    dsimp only at H3 HE
    have hr3 := HR3.out
    subst hr3
    clear HPL
    clear hend hd
    obtain rfl := HE.out.nil
    have HK2 : Hid (k < s.tick.nb ∧ q < s.tick.np) := HONE.out.2.2
    obtain ⟨r, cc, q1, q2, q3, q4, q5, q6, q7⟩ := H3.out.rawrow HK2.out.1
    obtain ⟨z, HZ⟩ : ∃ z : Nat, Hid (s.tick.ns + 28 = z) := ⟨_, rfl⟩
    have CP := npage_any H3.out HK2.out.1 HK2.out.2 q1 q3
    rw [HZ.out] at CP q4 q7
    have CPG := Lib.hid CP
    have HSM : Hid (z ≤ 284) := by have := H3.out.wf.ns2; have := HZ.out; show z ≤ 284; omega
    have HRW : Hid (Bytes W2 W2.heap.size (some ⟨r, q * z, none⟩) z ((s.nth k).pg.getD q [])) := by
      have hl := H3.out.long HK2.out.1
      rw [HZ.out] at hl
      have hpl : (s.tick.nth k).pg.length = s.tick.np := H3.out.wf.pages k HK2.out.1
      have hqz := page_lt (z := z) HK2.out.2
      have h9 := (q7.bytes.rest (k := q * z) (c := cc) (by omega) q4).first (k := z) (by omega)
      rw [Chip.flat_page hl (by rw [hpl]; exact HK2.out.2)] at h9
      have hz1 : 0 < z := by rw [← HZ.out]; omega
      have e9 : (if cc = q * z then (some ⟨r, 0, none⟩ : Option Addr) else (some ⟨r, 0, none⟩ : Option Addr).map (·.add (q * z * 1))) = some ⟨r, q * z, none⟩ := by
        rw [if_neg (by omega), Nat.mul_one]
        show some ((⟨r, 0, none⟩ : Addr).add (q * z)) = _
        unfold Addr.add
        split
        · next h0 => rw [h0]
        · simp
      rw [e9] at h9
      exact h9
    clear q1 q2 q3 q4 q5 q6 q7 CP
    have hgo := HE.out
    clear hgo
    go_wp2_with fail
    refine CPG.out.mono ?_
    rintro e W3 ⟨rfl, nd, hnd⟩
    have L3 : Hid (Below W2.heap.size W2 W3) := by rw [hnd]; exact below_drewN (Below.refl _ _) nd
    clear hnd
    go_wp2_with fail
    refine (clone8_any _ z _ _ W3 (by have := HSM.out; omega) (HRW.out.since L3.out)).mono ?_
    rintro e W4 ⟨A4, n4, c4, rfl, ho, hb⟩
    have HO := Lib.hid ho
    have L4 := Lib.hid (below_chain L3.out hb)
    have HSZ4 : Hid (w.heap.size ≤ W3.heap.size) := Nat.le_trans M3.out.size (Below.size L3.out)
    clear ho hb
    go_wp2_with fail
    go_ret2
    refine ⟨_, A4, n4, c4, fp, rfl, ErrNew.none_, ⟨?_, ?_⟩, ⟨L, H3.out.since L4.out⟩, M3.out.trans (Moves.of_below L4.out)⟩
    · rw [← HPL2.out, HPG.out]; exact HO.out.elder HSZ4.out
    · intro b hb hf
      have h1 := HO.out.blk_ge b hb
      have h2 := H3.out.lt b hf
      have h3 : W2.heap.size ≤ W3.heap.size := Below.size L3.out
      omega
set_option maxHeartbeats 4000000 in
theorem erase_nil (b : Int) : Calls Tryz.prog 116 #[.pointer none, .int .i64 b] w fun e w' => ∃ v, e = .returned v ∧ ErrAt (fun b => b < w.heap.size) w' 1 v ∧ Below w.heap.size w w' := by
  have CH := Lib.hid (has_nil b w)
  · go_enter Tryz.func116, Tryz.ntmps116
    go_wp2_with fail
    refine CH.out.mono ?_
    rintro e w' ⟨rfl, rfl⟩
    go_wp2_with fail
    refine (begin_nil _ _ w).mono ?_
    rintro e Wb ⟨v, rfl, he, hb⟩
    have HB := Lib.hid hb
    rcases he with ⟨h0, _⟩ | ⟨h0, ge, se, rfl, e1, e2, e3⟩
    · exact absurd h0 (by decide)
    have L9 := later_alloc Wb (.cells #[.int .i64 0, .int .i64 0, .int .i64 0, .int .u8 0] 74)
    have HE9 : Hid (ErrAt (fun b => b < w.heap.size) (Wb.alloc (.cells #[.int .i64 0, .int .i64 0, .int .i64 0, .int .u8 0] 74)) 1 (.iface 111 (.pointer (some ⟨ge, 0, none⟩)))) := Or.inr ⟨by decide, ge, se, rfl, later_cell L9 e1, later_cell L9 e2, e3⟩
    have HB9 := Lib.hid (below_chain HB.out L9)
    clear L9 h0 e1 e2 e3 hb HB
    unfold mishV M.zero
    dsimp only
    go_wp2_with fail
    go_ret
    exact ⟨_, rfl, HE9.out, HB9.out⟩
set_option maxHeartbeats 4000000 in
theorem read_nil (b p : Int) : Calls Tryz.prog 66 #[.pointer none, .int .i64 b, .int .i64 p] w fun e w' => ∃ v, e = .returned (.tuple #[.slice none 0 0, v]) ∧ ErrAt (fun b => b < w.heap.size) w' 1 v ∧ Below w.heap.size w w' := by
  have CH := Lib.hid (hasPage_nil b p w)
  · go_enter Tryz.func66, Tryz.ntmps66
    go_wp2_with fail
    refine CH.out.mono ?_
    rintro e w' ⟨rfl, rfl⟩
    go_wp2_with fail
    refine (begin_nil _ _ w).mono ?_
    rintro e Wb ⟨v, rfl, he, hb⟩
    have HB := Lib.hid hb
    rcases he with ⟨h0, _⟩ | ⟨h0, ge, se, rfl, e1, e2, e3⟩
    · exact absurd h0 (by decide)
    have L9 := later_alloc Wb (.cells #[.int .i64 0, .int .i64 0, .int .i64 0, .int .u8 0] 74)
    have HE9 : Hid (ErrAt (fun b => b < w.heap.size) (Wb.alloc (.cells #[.int .i64 0, .int .i64 0, .int .i64 0, .int .u8 0] 74)) 1 (.iface 111 (.pointer (some ⟨ge, 0, none⟩)))) := Or.inr ⟨by decide, ge, se, rfl, later_cell L9 e1, later_cell L9 e2, e3⟩
    have HB9 := Lib.hid (below_chain HB.out L9)
    clear L9 h0 e1 e2 e3 hb HB
    unfold mishV M.zero
    dsimp only
    go_wp2_with fail
    go_ret2
    exact ⟨_, rfl, HE9.out, HB9.out⟩
end
end Go.Proofs.YthgkdnegnecnjaaGreatDoor

/- The contract of New, where there is a chip. Conditions: the lists' cells. -/
set_option linter.unusedVariables false
set_option linter.unusedSimpArgs false
set_option maxRecDepth 20000
namespace Go.Proofs.YthgkdnegnecnjaaGreatDoor
open Go.RowKit

/-- A chip that is being made: its first i blocks have their bytes (all of one number each). -/
structure NRep (w : World) (base g i : Nat) (s : Chip) (L : CL) (bb : Nat) (xs : Nat → Nat) : Prop where
  row : w.heap[g]? = some (.cells (chipRow s L) 83 (0, 0))
  ab : L.ab = ⟨bb, 0, none⟩
  ms : mishK.Row w base L.AM s.ms.length L.cM s.ms
  bl : nblkK.Row w base (some ⟨bb, 0, none⟩) s.nb L.cB L.v
  done : ∀ k, k < i → Own w base (L.at_ k).a (L.at_ k).n (L.at_ k).c (List.replicate (s.np * (s.ns + 28)) (xs k)) ∧ (L.at_ k).next = 0 ∧ (L.at_ k).wear = 0 ∧ (L.at_ k).marked = false ∧ (L.at_ k).failed = false
  todo : ∀ k, i ≤ k → k < s.nb → L.at_ k = NBV.zero
  apart : ∀ j k, j < i → k < i → j ≠ k → ∀ x ∈ blk (L.at_ j).a, x ∉ blk (L.at_ k).a
section
variable {w w' W : World} {base g i bb : Nat} {s : Chip} {L : CL} {xs ys : Nat → Nat}
theorem NRep.since (h : NRep w base g i s L bb xs) (hb : Later w W) : NRep W base g i s L bb xs :=
  ⟨(hb.block g (Array.getElem?_eq_some_iff.1 h.row).1).trans h.row, h.ab, h.ms.since hb, h.bl.since hb, fun k hk => ⟨(h.done k hk).1.since hb, (h.done k hk).2⟩, h.todo, h.apart⟩
theorem NRep.congr (h : NRep w base g i s L bb xs) (e : ∀ k, k < i → xs k = ys k) : NRep w base g i s L bb ys :=
  ⟨h.row, h.ab, h.ms, h.bl, fun k hk => by rw [← e k hk]; exact h.done k hk, h.todo, h.apart⟩
theorem NRep.cells (h : NRep w base g i s L bb xs) : CellsC w g s L :=
  ⟨by rw [cell_of_row _ _ _ _ _ _ h.row]; rfl, by rw [cell_of_row _ _ _ _ _ _ h.row]; rfl, by rw [cell_of_row _ _ _ _ _ _ h.row]; rfl, by rw [cell_of_row _ _ _ _ _ _ h.row]; rfl, by rw [cell_of_row _ _ _ _ _ _ h.row]; rfl, by rw [cell_of_row _ _ _ _ _ _ h.row]; rfl, by rw [cell_of_row _ _ _ _ _ _ h.row]; rfl, by rw [cell_of_row _ _ _ _ _ _ h.row]; rfl, by rw [cell_of_row _ _ _ _ _ _ h.row]; rfl⟩
theorem NRep.place (h : NRep w base g i s L bb xs) (k : Nat) : L.ab.add (k * 5) = ⟨bb, k * 5, none⟩ := by
  rw [h.ab]
  unfold Addr.add
  split
  · next h0 => rw [h0]
  · simp
theorem NRep.block (h : NRep w base g i s L bb xs) {k : Nat} (hk : k < s.nb) : CellsB w (L.ab.add (k * 5)) (L.at_ k) := by
  obtain ⟨ad, e1, e2, e3⟩ := h.bl.lie.each k hk
  obtain rfl := Option.some.inj e1
  rw [h.ab]
  exact cellsB_of (v := L.at_ k) e3
theorem NRep.free5 (h : NRep w base g i s L bb xs) (k : Nat) : w.frozen? (L.ab.add (k * 5)) = false := by
  rw [h.place k]
  exact h.bl.row.frozenAt _
theorem NRep.not_own (h : NRep w base g i s L bb xs) {b' n c : Nat} {A : Option Addr} {bs : List Nat} (ho : Own w b' A n c bs) : ∀ x ∈ blk A, x ≠ g ∧ x ≠ bb ∧ x ∉ blk L.AM := fun x hx => by
  obtain ⟨cur, hc⟩ := ho.typed x hx
  refine ⟨fun e => ?_, fun e => ?_, fun e => ?_⟩
  · rw [e] at hc; exact absurd (other_type hc h.row) (by decide)
  · obtain ⟨c2, hc2⟩ := Row.typed h.bl bb (by simp [blk])
    rw [e] at hc; exact absurd (other_type hc hc2) (by rw [nblkK_T]; decide)
  · obtain ⟨c2, hc2⟩ := Row.typed h.ms x e
    exact absurd (other_type hc hc2) (by rw [mishK_T]; decide)
theorem NRep.bb_not (h : NRep w base g i s L bb xs) : bb ≠ g ∧ bb ∉ blk L.AM := by
  obtain ⟨c2, hc2⟩ := Row.typed h.bl bb (by simp [blk])
  refine ⟨fun e => ?_, fun e => ?_⟩
  · rw [e] at hc2; exact absurd (other_type hc2 h.row) (by rw [nblkK_T]; decide)
  · obtain ⟨c3, hc3⟩ := Row.typed h.ms bb e
    exact absurd (other_type hc2 hc3) (by rw [nblkK_T, mishK_T]; decide)
/-- One block more has its bytes. -/
theorem NRep.store {r N x : Nat} (h : NRep w base g i s L bb xs) (hi : i < s.nb) (hw : Later w W) (hN : N = s.np * (s.ns + 28)) (ho : Own W base (some ⟨r, 0, none⟩) N N (List.replicate N x)) (hr : w.heap.size ≤ r) :
    NRep (W.setCell (L.ab.add (i * 5)) (.slice (some ⟨r, 0, none⟩) N N)) base g (i + 1) s { L with v := L.v.set i ⟨some ⟨r, 0, none⟩, N, N, 0, 0, false, false⟩ } bb (fun k => if k = i then x else xs k) := by
  have h1 := h.since hw
  subst hN
  rw [h.place i]
  have hkb : ∀ b, b ≠ bb → (W.setCell ⟨bb, i * 5, none⟩ (.slice (some ⟨r, 0, none⟩) (s.np * (s.ns + 28)) (s.np * (s.ns + 28)))).heap[b]? = W.heap[b]? := fun b hb => setCell_heap W bb (i * 5) b _ hb
  have hat : ∀ k, k < s.nb → ({ L with v := L.v.set i ⟨some ⟨r, 0, none⟩, s.np * (s.ns + 28), s.np * (s.ns + 28), 0, 0, false, false⟩ } : CL).at_ k = if k = i then ⟨some ⟨r, 0, none⟩, s.np * (s.ns + 28), s.np * (s.ns + 28), 0, 0, false, false⟩ else L.at_ k := fun k hk => by
    unfold CL.at_
    by_cases e : k = i
    · subst e; rw [if_pos rfl]; exact getD_set_self (by rw [h.bl.len]; exact hk) _ _
    · rw [if_neg e]; exact getD_set_other (Ne.symm e) _ _
  have hz := h.todo i (Nat.le_refl _) hi
  refine ⟨(hkb g h1.bb_not.1.symm).trans h1.row, h.ab, Row.at_block h1.ms fun b hb => hkb b fun e => h1.bb_not.2 (e ▸ hb), ?_, fun k hk => ?_, fun k hk hk2 => ?_, fun j k hj hk hjk y hy => ?_⟩
  · have := Kind.Row.put h1.bl hi (r := 0) (by decide) (.slice (some ⟨r, 0, none⟩) (s.np * (s.ns + 28)) (s.np * (s.ns + 28))) (⟨some ⟨r, 0, none⟩, s.np * (s.ns + 28), s.np * (s.ns + 28), 0, 0, false, false⟩ : NBV) (by
      show bvCells _ = (bvCells (L.at_ i)).set 0 _
      rw [hz]; rfl) trivial
    exact this
  · rw [hat k (by omega)]
    by_cases e : k = i
    · rw [if_pos e, if_pos e]
      exact ⟨ho.at_block fun b hb => hkb b (h1.not_own ho b hb).2.1, rfl, rfl, rfl, rfl⟩
    · rw [if_neg e, if_neg e]
      have hd := h1.done k (by omega)
      exact ⟨hd.1.at_block fun b hb => hkb b (h1.not_own hd.1 b hb).2.1, hd.2⟩
  · rw [hat k hk2, if_neg (by omega)]
    exact h.todo k (by omega) hk2
  · rw [hat j (by omega)] at hy
    rw [hat k (by omega)]
    by_cases e1 : j = i
    · rw [if_pos e1] at hy
      rw [if_neg (by omega)]
      have hyr : y = r := by simpa [blk] using hy
      intro hy2
      have := (h.done k (by omega)).1.blk_lt y hy2
      omega
    · rw [if_neg e1] at hy
      by_cases e2 : k = i
      · rw [if_pos e2]
        intro hy2
        have hyr : y = r := by simpa [blk] using hy2
        have := (h.done j (by omega)).1.blk_lt y hy
        omega
      · rw [if_neg e2]
        exact h.apart j k (by omega) (by omega) hjk y hy
/-- All bytes of the last block are another one. -/
theorem NRep.fill {r N c x : Nat} (h : NRep w base g (i + 1) s L bb xs) (hN : N = s.np * (s.ns + 28)) (ha : (L.at_ i).a = some ⟨r, 0, none⟩) (hn : (L.at_ i).n = N) (hc : (L.at_ i).c = c) (ho : Own w' base (some ⟨r, 0, none⟩) N c (List.replicate N x)) (ht : Turn (fun b => b = r) w w') :
    NRep w' base g (i + 1) s L bb (fun k => if k = i then x else xs k) := by
  subst hN
  have hr := h.not_own (h.done i (by omega)).1 r (by rw [ha]; simp [blk])
  have hg : g < w.heap.size := (Array.getElem?_eq_some_iff.1 h.row).1
  refine ⟨(ht.block g hg fun e => hr.1 e.symm).trans h.row, h.ab, Row.at_block h.ms fun b hb => ht.block b (Row.blk_lt h.ms b hb) fun e => hr.2.2 (e ▸ hb), Row.at_block h.bl fun b hb => ht.block b (Row.blk_lt h.bl b hb) fun e => hr.2.1 (by rw [← e]; simpa [blk] using hb), fun k hk => ?_, h.todo, h.apart⟩
  by_cases e : k = i
  · rw [if_pos e, e, ha, hn, hc]
    have := (h.done i (by omega)).2
    exact ⟨ho, this⟩
  · rw [if_neg e]
    have hd := h.done k hk
    refine ⟨hd.1.at_block fun b hb => ht.block b (hd.1.blk_lt b hb) fun e2 => ?_, hd.2⟩
    exact h.apart k i hk (by omega) e b hb (by rw [ha, e2]; simp [blk])
/-- The chip that New makes, ahead of its marks. -/
theorem NRep.rep (h : NRep w base g s.nb s L bb xs) (hx : ∀ k, k < s.nb → xs k = 255) (hwf : s.Wf) (hbs : ∀ k, k < s.nb → s.nth k = ⟨s.filled 255, 0, 0, false, false⟩) (hbase : base ≤ g) : Rep w base (fun b => base ≤ b ∧ b < w.heap.size) g s L := by
  have hb : ∀ k, k < s.nb → BlkAt w base (L.at_ k) (s.nth k) := fun k hk => by
    obtain ⟨h1, h2, h3, h4, h5⟩ := h.done k hk
    rw [hbs k hk]
    refine ⟨?_, h2, h3, h4, h5⟩
    show Own w base _ _ _ (s.filled 255).flatten
    rw [Chip.filled_flat, ← hx k hk]; exact h1
  have hg : g < w.heap.size := (Array.getElem?_eq_some_iff.1 h.row).1
  refine ⟨hwf, h.row, h.ms, by rw [h.ab]; exact h.bl, hb, h.apart, ⟨hbase, hg⟩, fun b hm => ⟨Row.blk_ge h.ms b hm, Row.blk_lt h.ms b hm⟩, ?_, fun k hk b hm => ⟨(hb k hk).raw.blk_ge b hm, (hb k hk).raw.blk_lt b hm⟩, fun b hf => hf.1, fun b hf => hf.2⟩
  rw [h.ab]
  exact ⟨Row.blk_ge h.bl bb (by simp [blk]), Row.blk_lt h.bl bb (by simp [blk])⟩
end
namespace Chip
theorem fresh_nth {nb np ns : Nat} {marks : List Int} {ms : List M} {k : Nat} (hk : k < nb) : (fresh nb np ns marks ms).nth k = ⟨List.replicate np (List.replicate (ns + 28) 255), 0, 0, marks.contains (k : Int), false⟩ := by
  unfold nth fresh
  simp [List.getD_eq_getElem?_getD, hk]
theorem fresh_wf {nb np ns : Nat} {marks : List Int} {ms : List M} (h : mayNew nb np ns marks ms = true) (marks' : List Int) : (fresh nb np ns marks' ms).Wf := by
  unfold mayNew at h
  rw [Bool.and_eq_true, Bool.and_eq_true] at h
  have h1 := of_decide_eq_true h.1.1
  have hn : ∀ b, b < nb → (fresh nb np ns marks' ms).bs.getD b Blk.zero = ⟨List.replicate np (List.replicate (ns + 28) 255), 0, 0, marks'.contains (b : Int), false⟩ := fun b hb => fresh_nth hb
  refine ⟨by show 1 ≤ nb; omega, by show nb ≤ 32; omega, by show 1 ≤ np; omega, by show np ≤ 8; omega, by show 128 ≤ ns; omega, by show ns ≤ 256; omega, h.1.2, by simp [fresh], fun b hb => ?_, fun b p hb hp => ?_, fun b hb => ?_, fun b hb => ?_, Nat.le_refl _, Nat.le_refl _⟩
  · rw [hn b hb]; show (List.replicate np _).length = np; simp
  · rw [hn b hb]
    have hp' : p < np := hp
    show ((List.replicate np (List.replicate (ns + 28) 255)).getD p []).length = ns + 28
    rw [List.getD_eq_getElem?_getD, List.getElem?_replicate, if_pos hp']
    simp
  · rw [hn b hb]; exact Nat.zero_le _
  · rw [hn b hb]; exact Nat.zero_le _
theorem fresh_mark {nb np ns : Nat} {marks : List Int} {ms : List M} {k : Nat} (hk : k < nb) : (fresh nb np ns marks ms).setB (k : Int) { (fresh nb np ns marks ms).nth k with marked := true } = fresh nb np ns (marks ++ [(k : Int)]) ms := by
  rw [fresh_nth hk]
  unfold setB fresh
  simp only [Int.toNat_natCast]
  congr 1
  apply List.ext_getElem
  · simp
  · intro i h1 h2
    simp only [List.getElem_set, List.getElem_map, List.getElem_range]
    by_cases e : k = i
    · subst e; simp
    · rw [if_neg e]
      congr 1
      simp only [List.contains_eq_mem, List.mem_append, List.mem_singleton]
      have : ¬ (i : Int) = (k : Int) := by omega
      simp [this]
end Chip
theorem run_geo_blocks (g : Nat) (w : World) : (Instr.fieldAt 30 (.pointer (some ⟨g, 0, none⟩)) 0).run Tryz.prog w = .ok (.pointer (some ⟨g, 0, none⟩)) w := by go_simp
theorem run_geo_pages (g : Nat) (w : World) : (Instr.fieldAt 30 (.pointer (some ⟨g, 0, none⟩)) 1).run Tryz.prog w = .ok (.pointer (some ⟨g, 1, none⟩)) w := by go_simp
theorem run_chip_blocks (g : Nat) (w : World) : (Instr.fieldAt 83 (.pointer (some ⟨g, 0, none⟩)) 2).run Tryz.prog w = .ok (.pointer (some ⟨g, 4, none⟩)) w := by go_simp
theorem run_blk_raw (p : Addr) (w : World) : (Instr.fieldAt 85 (.pointer (some p)) 0).run Tryz.prog w = .ok (.pointer (some p)) w := by go_simp
theorem run_load_blks (p : Addr) (A : Option Addr) (n c : Nat) (w : World) (hc : w.cell? p = some (.slice A n c)) : (Instr.loadAt 81 (.pointer (some p))).run Tryz.prog w = .ok (.slice A n c) w := by go_simp
theorem run_index_blk (ad : Addr) (n c k : Nat) (hk : k < n) (w : World) : (Instr.indexAt 81 (.slice (some ad) n c) (.int .i64 (k : Int))).run Tryz.prog w = .ok (.pointer (some (ad.add (k * 5)))) w := by
  have i0 : (0 : Int) ≤ (k : Int) := by omega
  have i1 : (k : Int) < (n : Int) := by omega
  go_simp
theorem run_store_slice (p : Addr) (v u : Value) (A : Option Addr) (n c : Nat) (hv : v = .slice A n c) (w : World) (hc : w.cell? p = some u) (hf : w.frozen? p = false) : (Instr.storeAt 58 (.pointer (some p)) v).run Tryz.prog w = .ok () (w.setCell p v) := by
  subst hv
  go_simp
theorem run_mul_i64 (x y : Operand) (p q r : Int) (h : p * q = r) (h0 : 0 ≤ r) (h1 : r ≤ 1000000) (w : World) : (do eqGuard .mul 3 x y (.int .i64 p) (.int .i64 q); binOp .mul 3 (.int .i64 p) (.int .i64 q)).run Tryz.prog w = .ok (.int .i64 r) w := by
  subst h
  go_simp
  rw [IntKind.wrap_i64]; omega
/-- A geometry's three cells. -/
structure NGeoAt (w : World) (g : Nat) (nb np ns : Nat) : Prop where
  c0 : w.cell? ⟨g, 0, none⟩ = some (.int .i64 (nb : Int))
  c1 : w.cell? ⟨g, 1, none⟩ = some (.int .i64 (np : Int))
  c2 : w.cell? ⟨g, 2, none⟩ = some (.int .i64 (ns : Int))
theorem NGeoAt.since {w W : World} {g nb np ns : Nat} (h : NGeoAt w g nb np ns) (hb : Later w W) : NGeoAt W g nb np ns := ⟨later_cell hb h.c0, later_cell hb h.c1, later_cell hb h.c2⟩
theorem run_load_geo {g nb np ns : Nat} (w : World) (h : NGeoAt w g nb np ns) : (Instr.loadAt 30 (.pointer (some ⟨g, 0, none⟩))).run Tryz.prog w = .ok (.agg #[.int .i64 (nb : Int), .int .i64 (np : Int), .int .i64 (ns : Int)]) w := by
  obtain ⟨c0, c1, c2⟩ := h
  go_simp
theorem run_build_chip (a b c : Int) (A : Option Addr) (n k : Nat) (B : Option Addr) (m l : Nat) (W : World) : (Instr.build 83 #[(0, .agg #[.int .i64 a, .int .i64 b, .int .i64 c]), (1, .slice A n k), (2, .slice B m l), (3, .bool true)]).run Tryz.prog W = .ok (.agg #[.int .i64 a, .int .i64 b, .int .i64 c, .slice A n k, .slice B m l, .bool true, .int .i64 0, .int .i64 0, .int .i64 0]) W := by go_simp
theorem run_box_chip (a b c : Int) (A : Option Addr) (n k : Nat) (B : Option Addr) (m l : Nat) {W : World} : (Instr.box 83 (.agg #[.int .i64 a, .int .i64 b, .int .i64 c, .slice A n k, .slice B m l, .bool true, .int .i64 0, .int .i64 0, .int .i64 0])).run Tryz.prog W = .ok (.pointer (some ⟨W.heap.size, 0, none⟩)) (W.alloc (.cells #[.int .i64 a, .int .i64 b, .int .i64 c, .slice A n k, .slice B m l, .bool true, .int .i64 0, .int .i64 0, .int .i64 0] 83)) := by go_simp
theorem blk_made : ∃ i z, Tryz.prog.info? nblkK.T = some i ∧ i.zero = some z ∧ i.size = nblkK.k ∧ i.bytes ≤ 1000 ∧ z.cells = (nblkK.cv nblkK.dflt).toArray := by
  obtain ⟨i0, hi, hz0, hz1, hz2⟩ := info_parts infoBV
  exact ⟨i0, _, hi, hz0, hz1, by rw [hz2]; omega, rfl⟩
theorem width_cell (g ns : Nat) (w : World) (hs : ns ≤ 256) (c2 : w.cell? ⟨g, 2, none⟩ = some (.int .i64 (ns : Int))) : Calls Tryz.prog 38 #[.pointer (some ⟨g, 0, none⟩)] w fun e w' => e = .returned (.int .i64 ((ns : Int) + 28)) ∧ w = w' := by
  go_enter Tryz.func38, Tryz.ntmps38
  go_wp2_with fail
  go_ret
  exact ⟨rfl, rfl⟩
theorem maybe_yes (nb np ns : Nat) (w : World) (h : 1 ≤ nb ∧ nb ≤ 32 ∧ 1 ≤ np ∧ np ≤ 8 ∧ 128 ≤ ns ∧ ns ≤ 256) : Calls Tryz.prog 35 #[.agg #[.int .i64 (nb : Int), .int .i64 (np : Int), .int .i64 (ns : Int)]] w (SaysB w true) := by
  have HB : Hid (Below w.heap.size w (w.alloc (.cells #[.int .i64 (nb : Int), .int .i64 (np : Int), .int .i64 (ns : Int)] 30))) := later_alloc _ _
  have d1 : decide ((1 : Int) ≤ (nb : Int)) = true := by simp; omega
  have d2 : decide ((nb : Int) ≤ 32) = true := by simp; omega
  have d3 : decide ((1 : Int) ≤ (np : Int)) = true := by simp; omega
  have d4 : decide ((np : Int) ≤ 8) = true := by simp; omega
  have d5 : decide ((128 : Int) ≤ (ns : Int)) = true := by simp; omega
  have d6 : decide ((ns : Int) ≤ 256) = true := by simp; omega
  have j1 : (1 : Int) ≤ (nb : Int) := by omega
  have j2 : (nb : Int) ≤ 32 := by omega
  have j3 : (1 : Int) ≤ (np : Int) := by omega
  have j4 : (np : Int) ≤ 8 := by omega
  have j5 : (128 : Int) ≤ (ns : Int) := by omega
  have j6 : (ns : Int) ≤ 256 := by omega
  clear h
  go_enter Tryz.func35, Tryz.ntmps35
  go_wp2_with fail
  go_ret
  exact ⟨rfl, HB⟩
def CloneF (base : Nat) (ms : List M) (v : Value) (W : World) : Prop := ∃ A c, v = .slice A ms.length c ∧ mishK.Row W base A ms.length c ms
theorem cloneF_since (base : Nat) (ms : List M) (v : Value) (w w' : World) (h : CloneF base ms v w) (hb : Later w w') : CloneF base ms v w' := by
  obtain ⟨A, c, e, h1⟩ := h
  exact ⟨A, c, e, h1.since hb⟩
def MadeF (base lo nb : Nat) (v : Value) (W : World) : Prop := ∃ b, v = .slice (some ⟨b, 0, none⟩) nb nb ∧ lo ≤ b ∧ nblkK.Row W base (some ⟨b, 0, none⟩) nb nb (List.replicate nb NBV.zero)
theorem madeF_since (base lo nb : Nat) (v : Value) (w w' : World) (h : MadeF base lo nb v w) (hb : Later w w') : MadeF base lo nb v w' := by
  obtain ⟨b, e, h0, h1⟩ := h
  exact ⟨b, e, h0, h1.since hb⟩
def BuildF (base lo nb np ns : Nat) (ms : List M) (v : Value) (W : World) : Prop := ∃ A c b, v = .agg #[.int .i64 (nb : Int), .int .i64 (np : Int), .int .i64 (ns : Int), .slice A ms.length c, .slice (some ⟨b, 0, none⟩) nb nb, .bool true, .int .i64 0, .int .i64 0, .int .i64 0] ∧ lo ≤ b ∧ mishK.Row W base A ms.length c ms ∧ nblkK.Row W base (some ⟨b, 0, none⟩) nb nb (List.replicate nb NBV.zero)
theorem buildF_since (base lo nb np ns : Nat) (ms : List M) (v : Value) (w w' : World) (h : BuildF base lo nb np ns ms v w) (hb : Later w w') : BuildF base lo nb np ns ms v w' := by
  obtain ⟨A, c, b, e, h0, h1, h2⟩ := h
  exact ⟨A, c, b, e, h0, h1.since hb, h2.since hb⟩
def BoxF (base lo : Nat) (s : Chip) (v : Value) (W : World) : Prop := ∃ g L bb, v = .pointer (some ⟨g, 0, none⟩) ∧ base ≤ g ∧ lo ≤ bb ∧ NRep W base g 0 s L bb (fun _ => 255)
theorem boxF_since (base lo : Nat) (s : Chip) (v : Value) (w w' : World) (h : BoxF base lo s v w) (hb : Later w w') : BoxF base lo s v w' := by
  obtain ⟨g, L, bb, e, h0, h2, h1⟩ := h
  exact ⟨g, L, bb, e, h0, h2, h1.since hb⟩
theorem box_new {W : World} {base lo nb np ns : Nat} {ms : List M} {A : Option Addr} {c b : Nat} {s0 : Chip} (h1 : mishK.Row W base A ms.length c ms) (h2 : nblkK.Row W base (some ⟨b, 0, none⟩) nb nb (List.replicate nb NBV.zero)) (hs : s0 = Chip.fresh nb np ns [] ms) (hb : base ≤ W.heap.size) (hlo : lo ≤ b) :
    BoxF base lo s0 (.pointer (some ⟨W.heap.size, 0, none⟩)) (W.alloc (.cells #[.int .i64 (nb : Int), .int .i64 (np : Int), .int .i64 (ns : Int), .slice A ms.length c, .slice (some ⟨b, 0, none⟩) nb nb, .bool true, .int .i64 0, .int .i64 0, .int .i64 0] 83)) := by
  subst hs
  refine ⟨_, ⟨A, c, ⟨b, 0, none⟩, nb, List.replicate nb NBV.zero⟩, b, rfl, hb, hlo, heap_alloc_new W _, rfl, h1.since (later_alloc _ _), h2.since (later_alloc _ _), fun k hk => absurd hk (Nat.not_lt_zero k), fun k _ hk => ?_, fun j k hj => absurd hj (Nat.not_lt_zero j)⟩
  have hk' : k < nb := hk
  show (List.replicate nb NBV.zero).getD k NBV.zero = NBV.zero
  rw [List.getD_eq_getElem?_getD, List.getElem?_replicate, if_pos hk']; rfl
def RawF (base lo N : Nat) (v : Value) (W : World) : Prop := ∃ r, v = .slice (some ⟨r, 0, none⟩) N N ∧ Own W base (some ⟨r, 0, none⟩) N N (List.replicate N 0) ∧ lo ≤ r
theorem rawF_since (base lo N : Nat) (v : Value) (w w' : World) (h : RawF base lo N v w) (hb : Later w w') : RawF base lo N v w' := by
  obtain ⟨r, e, h1, h2⟩ := h
  exact ⟨r, e, h1.since hb, h2⟩
/-- The bytes of block i are made, zeros yet. -/
def StoredF (w0 WD : World) (g i N : Nat) (s : Chip) (L : CL) (bb : Nat) (v : Value) (W : World) : Prop := ∃ r L', L' = { L with v := L.v.set i ⟨some ⟨r, 0, none⟩, N, N, 0, 0, false, false⟩ } ∧ NRep W w0.heap.size g (i + 1) s L' bb (fun k => if k = i then 0 else 255) ∧ Below w0.heap.size w0 W ∧ WD.heap.size ≤ r ∧ Turn (fun b => b = bb) WD W
theorem storedF_since (w0 WD : World) (g i N : Nat) (s : Chip) (L : CL) (bb : Nat) (v : Value) (w w' : World) (h : StoredF w0 WD g i N s L bb v w) (hb : Later w w') : StoredF w0 WD g i N s L bb v w' := by
  obtain ⟨r, L', e, h1, h2, h3, h4⟩ := h
  exact ⟨r, L', e, h1.since hb, below_chain h2 hb, h3, h4.trans (Turn.of_below (fp := fun _ => False) hb) fun b hb => hb.elim⟩
theorem NGeoAt.keep {fq : Nat → Prop} {w W : World} {g nb np ns : Nat} (h : NGeoAt w g nb np ns) (ht : Turn fq w W) (hn : ¬ fq g) : NGeoAt W g nb np ns := by
  have hg : g < w.heap.size := World.block_lt_of_cell? w ⟨g, 0, none⟩ h.c0
  have e := ht.block g hg hn
  exact ⟨(same_cell e rfl).trans h.c0, (same_cell e rfl).trans h.c1, (same_cell e rfl).trans h.c2⟩
theorem NGeoAt.lt {w : World} {g nb np ns : Nat} (h : NGeoAt w g nb np ns) : g < w.heap.size := World.block_lt_of_cell? w ⟨g, 0, none⟩ h.c0
set_option maxHeartbeats 16000000 in
set_option maxRecDepth 20000 in
theorem new_yes (nb np ns : Nat) (Am : Option Addr) (nm cm : Nat) (marks : List Int) (As : Option Addr) (ms_ cs : Nat) (ms : List M) (w : World) (h : Chip.mayNew nb np ns marks ms = true)
    (hm : intK.Lie w w.heap.size Am nm marks) (hs : mishK.Lie w w.heap.size As ms_ ms) (hnm : nm ≤ 9223372036854775807) (hns_ : ms_ ≤ 9223372036854775807) :
    Calls Tryz.prog 13 #[.agg #[.int .i64 (nb : Int), .int .i64 (np : Int), .int .i64 (ns : Int)], .slice Am nm cm, .slice As ms_ cs] w
      (fun e w' => ∃ g fp, e = .returned (.pointer (some ⟨g, 0, none⟩)) ∧ ChipAt w' w.heap.size fp g (Chip.fresh nb np ns marks ms) ∧ Below w.heap.size w w') := by
  have HMAY := Lib.hid h
  have hlen := hs.len
  have hmlen := hm.len
  obtain ⟨hgeo, hmm, hmk⟩ : (1 ≤ nb ∧ nb ≤ 32 ∧ 1 ≤ np ∧ np ≤ 8 ∧ 128 ≤ ns ∧ ns ≤ 256) ∧ mayM ms = true ∧ ∀ m ∈ marks, 0 ≤ m ∧ m < (nb : Int) := by
    unfold Chip.mayNew at h
    rw [Bool.and_eq_true, Bool.and_eq_true] at h
    have h1 := of_decide_eq_true h.1.1
    refine ⟨by omega, h.1.2, fun m hm => ?_⟩
    have := List.all_eq_true.1 h.2 m hm
    exact of_decide_eq_true this
  have hms24 : ms_ ≤ 24 := by have := (mayM_out hmm).1; omega
  have HGEO := Lib.hid hgeo
  have HMK := Lib.hid hmk
  -- the geometry's own cells
  obtain ⟨W1, HW1⟩ : ∃ W, Hid (W = w.alloc (.cells #[.int .i64 (nb : Int), .int .i64 (np : Int), .int .i64 (ns : Int)] 30)) := ⟨_, rfl⟩
  have L1 : Hid (Later w W1) := by rw [HW1.out]; exact later_alloc _ _
  have hg1 : NGeoAt W1 w.heap.size nb np ns := by rw [HW1.out]; exact ⟨by rw [cell_new]; rfl, by rw [cell_new]; rfl, by rw [cell_new]; rfl⟩
  have HG1 := Lib.hid hg1
  have HS1 := Lib.hid (hs.since L1.out)
  have HM0 := Lib.hid hm
  obtain ⟨c0, c1, c2⟩ := hg1
  rw [HW1.out] at c0 c1 c2
  clear h hm hs hgeo hmk
  go_enter Tryz.func13, Tryz.ntmps13
  go_wp2_with fail
  rw [← HW1.out]
  clear c0 c1 c2
  refine (maybe_yes nb np ns W1 HGEO.out).mono ?_
  rintro e W2 ⟨rfl, hb2⟩
  have L2 := Lib.hid (later_trans _ _ _ L1.out hb2.out)
  have HG2 := Lib.hid (HG1.out.since hb2.out)
  have HS2 := Lib.hid (HS1.out.since hb2.out)
  clear hb2 HG1 HS1 L1 HW1
  go_wp2_with fail
  have C3 := may7_any As ms_ cs ms W2 hns_ HS2.out
  rw [hmm] at C3
  refine C3.mono ?_
  rintro e W3 ⟨rfl, hb3⟩
  have L3 := Lib.hid (later_trans _ _ _ L2.out hb3.out)
  have HG3 := Lib.hid (HG2.out.since hb3.out)
  have HS3 := Lib.hid (HS2.out.since hb3.out)
  clear hb3 HG2 HS2 L2 C3
  go_wp2_with fail
  obtain ⟨gg, HGG⟩ : ∃ gg : Nat, Hid (w.heap.size = gg) := ⟨_, rfl⟩
  rw [HGG.out] at HG3 ⊢
  obtain ⟨s0, HL⟩ : ∃ s0, Hid (s0 = Chip.fresh nb np ns [] ms) := ⟨_, rfl⟩
  have hnb32 : nb ≤ 32 := HGEO.out.2.1
  obtain ⟨WD, HWD⟩ : ∃ W, Hid (W = W3.drew) := ⟨_, rfl⟩
  have HDL : Hid (Later W3 WD) := by rw [HWD.out]; exact (Below.refl _ _).drew
  have LD := Lib.hid (later_trans _ _ _ L3.out HDL.out)
  have HG := Lib.hid (HG3.out.since HDL.out)
  have HMS := Lib.hid (HS3.out.since HDL.out)
  have HSZ : Hid (w.heap.size ≤ WD.heap.size) := Below.size LD.out
  clear HG3 HS3 HDL L3
  refine region_of_steps4 (by kernel_rfl) (fact2Of [.is (.agg #[.int .i64 (nb : Int), .int .i64 (np : Int), .int .i64 (ns : Int)]), .is (.slice As ms_ cs), .that (CloneF w.heap.size ms) (cloneF_since _ _), .is (.pointer (some ⟨gg, 0, none⟩)), .is (.int .i64 (nb : Int)), .that (MadeF w.heap.size WD.heap.size nb) (madeF_since _ _ _), .that (BuildF w.heap.size WD.heap.size nb np ns ms) (buildF_since _ _ _ _ _ _), .that (BoxF w.heap.size WD.heap.size s0) (boxF_since _ _ _), .that (BoxF w.heap.size WD.heap.size s0) (boxF_since _ _ _)]) (deadOf []) (Turns []) (TillAll [] WD) (by kernel_rfl)
    (fun i j v w w' hm hd hn hdd h hR => turns_stays _ _ [] [] (by kernel_rfl) i j v w w' hm hd hn hdd h hR) (fun listed j w w' h hl k => tillall_step h hl k) (fun listed => by rw [← HWD.out]; exact tillall_start _ _ _) ?_ ?_
  · refine Steps3.cons ?_ (Steps3.cons ?_ (Steps3.cons ?_ (Steps3.cons ?_ (Steps3.cons ?_ (Steps3.cons ?_ (Steps3.cons ?_ (Steps3.cons ?_ (Steps3.cons ?_ (Steps3.nil)))))))))
    · intro listed a W H hw hl hd
      have t3 : a.tmps.getD 3 undef = .pointer (some ⟨gg, 0, none⟩) := (H.old 3 (by kernel_rfl)).trans rfl
      exact step2_value (i := 0) rfl rfl (run_op_load rfl t3 (run_load_geo W (HG.out.since (hw (fun m hm => by cases hm))))) (turns_refl _) rfl
    · intro listed a W H hw hl hd
      have t2 : a.tmps.getD 2 undef = .slice As ms_ cs := (H.old 2 (by kernel_rfl)).trans rfl
      exact step2_value (i := 1) rfl rfl (run_op_move rfl t2) (turns_refl _) rfl
    · intro listed a W H hw hl hd
      have t20 : a.tmps.getD 20 undef = .slice As ms_ cs := H.get 1 20 (by kernel_rfl) (dep_of hd 1 (by kernel_rfl)) (alive_none (by kernel_rfl))
      refine step2_call (i := 2) rfl rfl (run_op_call (vs := #[.slice As ms_ cs]) Tryz.func37 (by kernel_rfl) (by kernel_rfl) rfl (by simp only [List.map_toArray, List.map_cons, List.map_nil]; show #[a.tmps.getD 20 undef] = _; rw [t20])) ?_
      refine (cloneM_any As ms_ cs ms W (by omega) ((HMS.out).since (hw (fun m hm => by cases hm)))).mono ?_
      rintro e W2 ⟨A, n, c, rfl, ho, hb⟩
      have hnl : ms.length = n := ho.out.len
      exact ⟨_, rfl, turns_later hb.out, A, c, by rw [hnl], by rw [hnl]; exact ho.out.elder (Nat.le_trans HSZ.out (Below.size (hw (fun m hm => by cases hm))))⟩
    · intro listed a W H hw hl hd
      have t3 : a.tmps.getD 3 undef = .pointer (some ⟨gg, 0, none⟩) := (H.old 3 (by kernel_rfl)).trans rfl
      exact step2_value (i := 3) rfl rfl (run_op_fieldAddr rfl t3 (run_geo_blocks gg W)) (turns_refl _) rfl
    · intro listed a W H hw hl hd
      have t22 : a.tmps.getD 22 undef = .pointer (some ⟨gg, 0, none⟩) := H.get 3 22 (by kernel_rfl) (dep_of hd 3 (by kernel_rfl)) (alive_none (by kernel_rfl))
      exact step2_value (i := 4) rfl rfl (run_op_load rfl t22 (nrun_load_int _ _ W (HG.out.since (hw (fun m hm => by cases hm))).c0)) (turns_refl _) rfl
    · intro listed a W H hw hl hd
      have t23 : a.tmps.getD 23 undef = .int .i64 (nb : Int) := H.get 4 23 (by kernel_rfl) (dep_of hd 4 (by kernel_rfl)) (alive_none (by kernel_rfl))
      obtain ⟨W2, hr, hb, ho⟩ := Kind.made nblkK blk_made nb (nb : Int) rfl (by omega) W w.heap.size (Nat.le_trans HSZ.out (Below.size (hw (fun m hm => by cases hm))))
      exact step2_value (i := 5) rfl rfl (run_op_makeSlice rfl t23 t23 hr) (turns_later hb) ⟨W.heap.size, rfl, Below.size (hw (fun m hm => by cases hm)), ho⟩
    · intro listed a W H hw hl hd
      have t19 : a.tmps.getD 19 undef = .agg #[.int .i64 (nb : Int), .int .i64 (np : Int), .int .i64 (ns : Int)] := H.get 0 19 (by kernel_rfl) (dep_of hd 0 (by kernel_rfl)) (alive_none (by kernel_rfl))
      have T21 : (CloneF w.heap.size ms) (a.tmps.getD 21 undef) W := H.get 2 21 (by kernel_rfl) (dep_of hd 2 (by kernel_rfl)) (alive_none (by kernel_rfl))
      have T24 : (MadeF w.heap.size WD.heap.size nb) (a.tmps.getD 24 undef) W := H.get 5 24 (by kernel_rfl) (dep_of hd 5 (by kernel_rfl)) (alive_none (by kernel_rfl))
      obtain ⟨A21, n21, e21, h21⟩ := T21
      obtain ⟨b24, e24, l24, h24⟩ := T24
      exact step2_value (i := 6) rfl rfl (run_op_buildS rfl (by simp only [List.map_toArray, List.map_cons, List.map_nil]; show (Instr.build 83 #[(0, a.tmps.getD 19 undef), (1, a.tmps.getD 21 undef), (2, a.tmps.getD 24 undef), (3, .bool true)]).run _ _ = _; rw [t19, e21, e24]; exact run_build_chip _ _ _ _ _ _ _ _ _ _)) (turns_refl _) ⟨A21, n21, b24, rfl, l24, h21, h24⟩
    · intro listed a W H hw hl hd
      have T25 : (BuildF w.heap.size WD.heap.size nb np ns ms) (a.tmps.getD 25 undef) W := H.get 6 25 (by kernel_rfl) (dep_of hd 6 (by kernel_rfl)) (alive_none (by kernel_rfl))
      obtain ⟨A21, n21, b24, e25, l24, h21, h24⟩ := T25
      exact step2_value (i := 7) rfl rfl (run_op_box rfl e25 (run_box_chip _ _ _ _ _ _ _ _ _)) (turns_later (later_alloc _ _)) (box_new h21 h24 HL.out (Nat.le_trans HSZ.out (Below.size (hw (fun m hm => by cases hm)))) l24)
    · intro listed a W H hw hl hd
      have T26 : (BoxF w.heap.size WD.heap.size s0) (a.tmps.getD 26 undef) W := H.get 7 26 (by kernel_rfl) (dep_of hd 7 (by kernel_rfl)) (alive_none (by kernel_rfl))
      exact step2_value (i := 8) rfl rfl (run_op_assign rfl rfl) (turns_refl _) T26
  · intro a WC listed hdef hsz hw hall hact
    have hLC : Later WD WC := hw (fun m hm => by cases hm)
    obtain ⟨g, LL, bb, e7, hg7, hlo7, h7⟩ := hall 8 _ rfl (by kernel_rfl)
    have e7' : a.tmps.getD 7 undef = .pointer (some ⟨g, 0, none⟩) := e7
    obtain ⟨u, hu⟩ : ∃ u : Nat → Value, ∀ k, a.tmps.getD k undef = u k := ⟨_, fun _ => rfl⟩
    simp only [hu] at hact
    have hact' : a = ([19, 20, 21, 22, 23, 24, 25, 26, 7] : List Nat).foldl (fun b k => b.put (some k) (u k)) _ := hact
    simp only [List.foldl] at hact'
    simp only [Act.put, List.setIfInBounds_toArray, List.set_cons_succ, List.set_cons_zero] at hact'
    have hu7 : u 7 = .pointer (some ⟨g, 0, none⟩) := by rw [← hu 7]; exact e7'
    rw [hu7] at hact'
    have HAC := Lib.hid hact'
    have HR := Lib.hid h7
    have HB := Lib.hid (later_trans _ _ _ LD.out hLC)
    have HGC := Lib.hid (HG.out.since hLC)
    have HGL : Hid (w.heap.size ≤ g) := hg7
    have HGB : Hid (gg < bb) := Nat.lt_of_lt_of_le HG.out.lt hlo7
    clear hu hu7 hact hact' hall hdef hsz hw e7 e7' h7 hLC HG HMS LD HSZ hg7 hlo7 HWD
    rw [HAC.out]
    clear HAC
    have c4 : WC.cell? ⟨g, 4, none⟩ = some (.slice (some LL.ab) nb LL.cB) := by
      have := HR.out.cells.c4
      rw [show s0.nb = nb by rw [HL.out]; rfl] at this; exact this
    go_wp2_with fail
    clear c4
    obtain ⟨z, HZZ⟩ : ∃ z : Nat, Hid (ns + 28 = z) := ⟨_, rfl⟩
    obtain ⟨N, HNN⟩ : ∃ N : Nat, Hid (np * z = N) := ⟨_, rfl⟩
    have hN8 : N ≤ 8000 := by
      have h1 : np * z ≤ 8 * 284 := Nat.mul_le_mul HGEO.out.2.2.2.1 (by have := HZZ.out; have := HGEO.out.2.2.2.2.2; omega)
      rw [HNN.out] at h1; omega
    have HNZ : Hid ((np : Int) * (z : Int) = (N : Int)) := by show _ = _; rw [← HNN.out]; simp
    have HN : Hid (N = s0.np * (s0.ns + 28)) := by show _ = _; rw [HL.out, ← HNN.out, ← HZZ.out]; rfl
    have hns256 : ns ≤ 256 := HGEO.out.2.2.2.2.2
    go_loopw [32] (fun t32 wr => ∃ (i : Nat) (L : CL), t32 = .int .i64 i ∧ i ≤ nb ∧ Hid (NRep wr w.heap.size g i s0 L bb (fun _ => 255)) ∧ Hid (Below w.heap.size w wr) ∧ Hid (NGeoAt wr gg nb np ns)) (fun t32 _ => nb - (intOf t32).toNat)
    case atStart => exact ⟨0, LL, rfl, Nat.zero_le _, HR, HB, HGC⟩
    clear HR HB HGC
    case round =>
      obtain ⟨Wa, rfl⟩ : ∃ Wa, Wa = wr := ⟨_, rfl⟩
      obtain ⟨i, L, rfl, hi, HR, HB, HGA⟩ := hrel
      have i0 : (0 : Int) ≤ (i : Int) := by omega
      by_cases hlt0 : i < nb
      · have i1 : (i : Int) < (nb : Int) := by omega
        go_wp2_with fail
        obtain ⟨WD, HWD⟩ : ∃ W, Hid (W = Wa.drew) := ⟨_, rfl⟩
        have HDL : Hid (Later Wa WD) := by rw [HWD.out]; exact (Below.refl _ _).drew
        have HR2 := Lib.hid (HR.out.since HDL.out)
        have HB2 := Lib.hid (below_chain HB.out HDL.out)
        have HG := Lib.hid (HGA.out.since HDL.out)
        clear HR HB HGA HDL
        have HR := HR2
        have HB := HB2
        clear HR2 HB2
        have HSNB : Hid (s0.nb = nb) := by rw [HL.out]; rfl
        have hlt : i < s0.nb := by rw [HSNB.out]; exact hlt0
        have HCC : Hid (∀ W, Later WD W → W.cell? ⟨g, 4, none⟩ = some (.slice (some L.ab) nb L.cB) ∧ W.cell? ⟨g, 2, none⟩ = some (.int .i64 (ns : Int))) := fun W hW => by
          obtain ⟨c0, c1, c2, c3, c4, c5, c6, c7, c8⟩ := (HR.out.since hW).cells
          rw [HSNB.out] at c4
          rw [show s0.ns = ns by rw [HL.out]; rfl] at c2
          exact ⟨c4, c2⟩
        refine region_of_steps4 (by kernel_rfl) (fact2Of [.is (.pointer (some ⟨g, 0, none⟩)), .is (.pointer (some ⟨g, 0, none⟩)), .is (.pointer (some ⟨g, 4, none⟩)), .is (.slice (some L.ab) nb L.cB), .is (.int .i64 (i : Int)), .is (.pointer (some ⟨gg, 1, none⟩)), .is (.int .i64 (np : Int)), .is (.pointer (some ⟨g, 0, none⟩)), .is (.int .i64 (z : Int)), .is (.int .i64 (N : Int)), .that (RawF w.heap.size WD.heap.size N) (rawF_since _ _ _), .is (.pointer (some (L.ab.add (i * 5)))), .is (.pointer (some (L.ab.add (i * 5)))), .that (StoredF w WD g i N s0 L bb) (storedF_since _ _ _ _ _ _ _ _)]) (deadOf [(10, 13)]) (Turns [13]) (TillAll [13] WD) (by kernel_rfl)
          (fun i j v w w' hm hd hn hdd h hR => turns_stays _ _ [13] [(10, 13)] (by kernel_rfl) i j v w w' hm hd hn hdd h hR) (fun listed j w w' h hl k => tillall_step h hl k) (fun listed => by rw [← HWD.out]; exact tillall_start _ _ _) ?_ ?_
        · refine Steps3.cons ?_ (Steps3.cons ?_ (Steps3.cons ?_ (Steps3.cons ?_ (Steps3.cons ?_ (Steps3.cons ?_ (Steps3.cons ?_ (Steps3.cons ?_ (Steps3.cons ?_ (Steps3.cons ?_ (Steps3.cons ?_ (Steps3.cons ?_ (Steps3.cons ?_ (Steps3.cons ?_ (Steps3.nil))))))))))))))
          · intro listed a W H hw hl hd
            have t7 : a.tmps.getD 7 undef = .pointer (some ⟨g, 0, none⟩) := (H.old 7 (by kernel_rfl)).trans rfl
            exact step2_value (i := 0) rfl rfl (run_op_move rfl t7) (turns_refl _) rfl
          · intro listed a W H hw hl hd
            have t35 : a.tmps.getD 35 undef = .pointer (some ⟨g, 0, none⟩) := H.get 0 35 (by kernel_rfl) (dep_of hd 0 (by kernel_rfl)) (alive_none (by kernel_rfl))
            exact step2_value (i := 1) rfl rfl (run_op_nilCheck rfl t35) (turns_refl _) rfl
          · intro listed a W H hw hl hd
            have t36 : a.tmps.getD 36 undef = .pointer (some ⟨g, 0, none⟩) := H.get 1 36 (by kernel_rfl) (dep_of hd 1 (by kernel_rfl)) (alive_none (by kernel_rfl))
            exact step2_value (i := 2) rfl rfl (run_op_fieldAddr rfl t36 (run_chip_blocks g W)) (turns_refl _) rfl
          · intro listed a W H hw hl hd
            have t37 : a.tmps.getD 37 undef = .pointer (some ⟨g, 4, none⟩) := H.get 2 37 (by kernel_rfl) (dep_of hd 2 (by kernel_rfl)) (alive_none (by kernel_rfl))
            exact step2_value (i := 3) rfl rfl (run_op_load rfl t37 (run_load_blks _ _ _ _ W (HCC.out W (hw (H.nothing 4 hl (by kernel_rfl)))).1)) (turns_refl _) rfl
          · intro listed a W H hw hl hd
            have t8 : a.tmps.getD 8 undef = .int .i64 (i : Int) := (H.old 8 (by kernel_rfl)).trans rfl
            exact step2_value (i := 4) rfl rfl (run_op_move rfl t8) (turns_refl _) rfl
          · intro listed a W H hw hl hd
            have t3 : a.tmps.getD 3 undef = .pointer (some ⟨gg, 0, none⟩) := (H.old 3 (by kernel_rfl)).trans rfl
            exact step2_value (i := 5) rfl rfl (run_op_fieldAddr rfl t3 (run_geo_pages gg W)) (turns_refl _) rfl
          · intro listed a W H hw hl hd
            have t40 : a.tmps.getD 40 undef = .pointer (some ⟨gg, 1, none⟩) := H.get 5 40 (by kernel_rfl) (dep_of hd 5 (by kernel_rfl)) (alive_none (by kernel_rfl))
            exact step2_value (i := 6) rfl rfl (run_op_load rfl t40 (nrun_load_int _ _ W (HG.out.since (hw (H.nothing 4 hl (by kernel_rfl)))).c1)) (turns_refl _) rfl
          · intro listed a W H hw hl hd
            have t7 : a.tmps.getD 7 undef = .pointer (some ⟨g, 0, none⟩) := (H.old 7 (by kernel_rfl)).trans rfl
            exact step2_value (i := 7) rfl rfl (run_op_move rfl t7) (turns_refl _) rfl
          · intro listed a W H hw hl hd
            have t42 : a.tmps.getD 42 undef = .pointer (some ⟨g, 0, none⟩) := H.get 7 42 (by kernel_rfl) (dep_of hd 7 (by kernel_rfl)) (alive_none (by kernel_rfl))
            refine step2_call (i := 8) rfl rfl (run_op_call (vs := #[.pointer (some ⟨g, 0, none⟩)]) Tryz.func38 (by kernel_rfl) (by kernel_rfl) rfl (by simp only [List.map_toArray, List.map_cons, List.map_nil]; show #[a.tmps.getD 42 undef] = _; rw [t42])) ?_
            refine (width_cell g ns W (by omega) (HCC.out W (hw (H.nothing 4 hl (by kernel_rfl)))).2).mono ?_
            rintro e W2 ⟨rfl, rfl⟩
            exact ⟨_, rfl, turns_later (later_refl _), by rw [← HZZ.out]; rfl⟩
          · intro listed a W H hw hl hd
            have t41 : a.tmps.getD 41 undef = .int .i64 (np : Int) := H.get 6 41 (by kernel_rfl) (dep_of hd 6 (by kernel_rfl)) (alive_none (by kernel_rfl))
            have t43 : a.tmps.getD 43 undef = .int .i64 (z : Int) := H.get 8 43 (by kernel_rfl) (dep_of hd 8 (by kernel_rfl)) (alive_none (by kernel_rfl))
            exact step2_value (i := 9) rfl rfl (run_op_bin rfl t41 t43 (run_mul_i64 _ _ _ _ _ HNZ.out (by omega) (by omega) _)) (turns_refl _) rfl
          · intro listed a W H hw hl hd
            have t44 : a.tmps.getD 44 undef = .int .i64 (N : Int) := H.get 9 44 (by kernel_rfl) (dep_of hd 9 (by kernel_rfl)) (alive_none (by kernel_rfl))
            have hWD := hw (H.nothing 4 hl (by kernel_rfl))
            obtain ⟨W2, hr, hb, ho⟩ := made_any N (N : Int) rfl (by omega) W
            exact step2_value (i := 10) rfl rfl (run_op_makeSlice rfl t44 t44 hr) (turns_later hb) ⟨W.heap.size, rfl, ho.elder (Nat.le_trans HB.out.size (Below.size hWD)), Below.size hWD⟩
          · intro listed a W H hw hl hd
            have t38 : a.tmps.getD 38 undef = .slice (some L.ab) nb L.cB := H.get 3 38 (by kernel_rfl) (dep_of hd 3 (by kernel_rfl)) (alive_none (by kernel_rfl))
            have t39 : a.tmps.getD 39 undef = .int .i64 (i : Int) := H.get 4 39 (by kernel_rfl) (dep_of hd 4 (by kernel_rfl)) (alive_none (by kernel_rfl))
            exact step2_value (i := 11) rfl rfl (run_op_index rfl t38 t39 (run_index_blk _ _ _ _ hlt0 W)) (turns_refl _) rfl
          · intro listed a W H hw hl hd
            have t46 : a.tmps.getD 46 undef = .pointer (some (L.ab.add (i * 5))) := H.get 11 46 (by kernel_rfl) (dep_of hd 11 (by kernel_rfl)) (alive_none (by kernel_rfl))
            exact step2_value (i := 12) rfl rfl (run_op_fieldAddr rfl t46 (run_blk_raw _ W)) (turns_refl _) rfl
          · intro listed a W H hw hl hd
            have t47 : a.tmps.getD 47 undef = .pointer (some (L.ab.add (i * 5))) := H.get 12 47 (by kernel_rfl) (dep_of hd 12 (by kernel_rfl)) (alive_none (by kernel_rfl))
            have T45 : (RawF w.heap.size WD.heap.size N) (a.tmps.getD 45 undef) W := H.get 10 45 (by kernel_rfl) (dep_of hd 10 (by kernel_rfl)) (alive_now (m := 13) (by kernel_rfl) (H.notyets 4 hl (by kernel_rfl)))
            obtain ⟨r45, e45, h45, r45le⟩ := T45
            have hWD := hw (H.nothing 4 hl (by kernel_rfl))
            have hc := (HR.out.since hWD).block (k := i) hlt
            have hfr := (HR.out.since hWD).free5 i
            exact step2_done (i := 13) rfl rfl rfl (run_op_store rfl t47 e45 (run_store_slice _ _ _ _ N N rfl W hc.c0 hfr)) (turns_here (by decide)) ⟨r45, _, rfl, HR.out.store hlt hWD HN.out h45 r45le, (below_chain HB.out hWD).setCell (by rw [(HR.out.since hWD).place i]; exact Row.blk_ge HR.out.bl bb (by simp [blk])) _, r45le, (Turn.of_below hWD).trans (Turn.of_setCell (fp := fun b => b = bb) _ _ (by show (L.ab.add (i * 5)).block = bb; rw [HR.out.place i])) fun b hb => Or.inl hb⟩
        · intro a WC listed hdef hsz hw hall hact
          obtain ⟨r, L', hL', h13, hb13, hr13, ht13⟩ := hall 13 _ rfl (by kernel_rfl)
          obtain ⟨u, hu⟩ : ∃ u : Nat → Value, ∀ k, a.tmps.getD k undef = u k := ⟨_, fun _ => rfl⟩
          simp only [hu] at hact
          have hact' : a = ([35, 36, 37, 38, 39, 40, 41, 42, 43, 44, 45, 46, 47] : List Nat).foldl (fun b k => b.put (some k) (u k)) _ := hact
          simp only [List.foldl] at hact'
          simp only [Act.put, List.setIfInBounds_toArray, List.set_cons_succ, List.set_cons_zero] at hact'
          have HAC := Lib.hid hact'
          have HR3 := Lib.hid h13
          have HB3 := Lib.hid hb13
          have HAT : Hid ((L'.at_ i).a = some ⟨r, 0, none⟩ ∧ (L'.at_ i).n = N ∧ (L'.at_ i).c = N) := by
            have hvl : L.v.length = s0.nb := HR.out.bl.len
            have e : L'.at_ i = ⟨some ⟨r, 0, none⟩, N, N, 0, 0, false, false⟩ := by
              rw [hL']
              exact getD_set_self (by rw [hvl]; exact hlt) _ _
            rw [e]; exact ⟨rfl, rfl, rfl⟩
          have HGN : Hid (NGeoAt WC gg nb np ns) := HG.out.keep ht13 (by show ¬ gg = bb; have := HGB.out; omega)
          have HRG : Hid (gg ≠ r ∧ w.heap.size ≤ r) := ⟨by have := HG.out.lt; omega, Nat.le_trans HB.out.size hr13⟩
          clear hu hact hact' hall hdef hsz hw h13 hb13 HR HB HG HWD hL' HCC hr13 ht13
          rw [HAC.out]
          clear HAC
          have hc4 := HR3.out.cells.c4
          rw [HSNB.out] at hc4
          have CF : Hid (Calls Tryz.prog 39 #[.pointer (some (L'.ab.add (i * 5))), .int .u8 255] WC (fun e w' => e = .returned (.tuple #[]) ∧ Own w' w.heap.size (some ⟨r, 0, none⟩) N N (List.replicate N 255) ∧ Turn (fun b => b = r) WC w')) := by
            obtain ⟨g0, _⟩ := HR3.out.block (k := i) hlt
            rw [HAT.out.1, HAT.out.2.1, HAT.out.2.2] at g0
            have hd := (HR3.out.done i (by omega)).1
            rw [HAT.out.1, HAT.out.2.1, HAT.out.2.2, ← HN.out] at hd
            have hne := (HR3.out.not_own hd r (by simp [blk])).2.1
            exact cfill_any _ r N N 255 w.heap.size _ WC (by decide) g0 hd (by rw [HR3.out.place i]; exact hne) hN8
          go_wp2_with fail
          clear hc4
          refine CF.out.mono ?_
          rintro e W4 ⟨rfl, ho4, ht4⟩
          have HR4 : Hid (NRep W4 w.heap.size g (i + 1) s0 L' bb (fun _ => 255)) := (HR3.out.fill HN.out HAT.out.1 HAT.out.2.1 HAT.out.2.2 ho4 ht4).congr fun k hk => by
            by_cases e : k = i
            · rw [if_pos e]
            · rw [if_neg e, if_neg e]
          have HB4 : Hid (Below w.heap.size w W4) := ht4.chain HB3.out (fun b hb => by rw [hb]; exact HRG.out.2) HB3.out.size
          have HG4 : Hid (NGeoAt W4 gg nb np ns) := HGN.out.keep ht4 HRG.out.1
          clear ho4 ht4 CF HR3 HB3 HGN HAT HRG HSNB hlt
          go_wp2_with fail
          go_roundw
          case rel => exact ⟨i + 1, L', by go_num, by omega, HR4, HB4, HG4⟩
          case measure => simp [intOf]; omega
      · have HNB : Hid (i = nb) := by show i = nb; omega
        obtain ⟨fp, HFP⟩ : ∃ fp : Nat → Prop, Hid (fp = fun b => w.heap.size ≤ b ∧ b < Wa.heap.size) := ⟨_, rfl⟩
        have HRP : Hid (Rep Wa w.heap.size fp g (Chip.fresh nb np ns (marks.take 0) ms) L) := by
          have h1 := HR.out
          have e1 : s0.nb = nb := by rw [HL.out]; rfl
          rw [HNB.out, ← e1] at h1
          have h2 := h1.rep (fun _ _ => rfl) (by rw [HL.out]; exact Chip.fresh_wf HMAY.out []) (fun k hk => by
            rw [HL.out] at hk ⊢
            have hk' : k < nb := hk
            rw [Chip.fresh_nth hk']; rfl) HGL.out
          rw [HFP.out, List.take_zero, ← HL.out]
          exact h2
        clear HR HGA HNB
        go_wp2_with fail
        go_loopw [58] (fun t58 wr => ∃ (j : Nat) (L : CL), t58 = .int .i64 j ∧ j ≤ nm ∧ Hid (Rep wr w.heap.size fp g (Chip.fresh nb np ns (marks.take j) ms) L) ∧ Hid (Below w.heap.size w wr)) (fun t58 _ => nm - (intOf t58).toNat)
        case atStart => exact ⟨0, L, rfl, Nat.zero_le _, HRP, HB⟩
        clear HRP HB
        case round =>
          obtain ⟨Wb, rfl⟩ : ∃ Wb, Wb = wr := ⟨_, rfl⟩
          obtain ⟨j, L, rfl, hj, HR, HB⟩ := hrel
          have j0 : (0 : Int) ≤ (j : Int) := by omega
          by_cases hltj : j < nm
          · have j1 : (j : Int) < (nm : Int) := by omega
            obtain ⟨ad, hAm, hblk, e3⟩ := (HM0.out.below HB.out).each j hltj
            have c0 := intAt_of (show intK.At Wb (ad.add (j * 1)) (marks.getD j 0) from e3)
            have hin : 0 ≤ marks.getD j 0 ∧ marks.getD j 0 < (nb : Int) := by
              rw [List.getD_eq_getElem?_getD, List.getElem?_eq_getElem (by omega)]
              exact HMK.out _ (List.getElem_mem _)
            have HTK : Hid (marks.take (j + 1) = marks.take j ++ [marks.getD j 0]) := by
              show _ = _
              rw [List.take_add_one, List.getD_eq_getElem?_getD, List.getElem?_eq_getElem (by omega)]; rfl
            obtain ⟨k, HK⟩ : ∃ k : Nat, Hid (marks.getD j 0 = (k : Int)) := ⟨(marks.getD j 0).toNat, by show _ = _; omega⟩
            rw [HK.out, Nat.mul_one] at c0
            rw [HK.out] at HTK hin
            have hk : k < nb := by omega
            have i0k : (0 : Int) ≤ (k : Int) := by omega
            have i1k : (k : Int) < (nb : Int) := by omega
            have CH := has_any (k : Int) HR.out
            rw [show (Chip.fresh nb np ns (marks.take j) ms).has (k : Int) = true from decide_eq_true hin] at CH
            have HCH := Lib.hid CH
            have hkf : k < (Chip.fresh nb np ns (marks.take j) ms).nb := hk
            obtain ⟨L2, h2, a2, _, _⟩ := HR.out.setMarked hkf
            rw [Chip.fresh_mark hk, ← HTK.out] at h2
            have H2 := Lib.hid h2
            have HB2 : Hid (Below w.heap.size w (Wb.setCell ⟨(L.ab.add (k * 5)).block, (L.ab.add (k * 5)).off + 3, none⟩ (.bool true))) := (HR.out.mark_moves k 3 (.bool true)).below HB.out HR.out.ge HB.out.size
            obtain ⟨d1, d2, d3, d4⟩ := HR.out.cellsK hkf
            have f3 := HR.out.free5 k 3
            have c4 : Wb.cell? ⟨g, 4, none⟩ = some (.slice (some L.ab) nb L.cB) := HR.out.cells.c4
            obtain ⟨uu, hu3⟩ : ∃ uu, Wb.cell? ⟨(L.ab.add (k * 5)).block, (L.ab.add (k * 5)).off + 3, none⟩ = some uu := ⟨_, d3⟩
            have hAm' := Lib.hid hAm
            subst hAm
            clear e3 hin CH h2 d1 d2 d4 HTK HK HR HB hblk hAm'
            go_wp2_with fail
            refine HCH.out.mono ?_
            rintro e W9 ⟨rfl, rfl⟩
            go_wp2_with fail
            go_roundw
            case rel => exact ⟨j + 1, L2, by go_num, by omega, H2, HB2⟩
            case measure => simp [intOf]; omega
          · have HF : Hid (Rep Wb w.heap.size fp g (Chip.fresh nb np ns marks ms) L) := by
              have h1 := HR.out
              rwa [List.take_of_length_le (by omega)] at h1
            go_wp2_with fail
            go_ret
            exact ⟨g, fp, rfl, ⟨L, HF.out⟩, HB.out⟩
end Go.Proofs.YthgkdnegnecnjaaGreatDoor
