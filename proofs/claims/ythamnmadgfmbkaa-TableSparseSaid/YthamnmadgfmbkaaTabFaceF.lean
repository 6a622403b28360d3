/- The landed table: From. Conditions: the table's cells. -/
import Derived.Test.YthamnmadgfmbkaaTabFaceP
set_option linter.unusedVariables false
set_option linter.unusedSimpArgs false
namespace Go.Proofs.Ythamnmadgfmbkaa
open Go.RowKit

theorem pick_next (d : Bool) (s : List E) {q : Nat} (hq : q < s.length) : pickT d (s.take (q + 1)) = pickT d (s.take q) ++ if ((s.getD q E.zero).dirty || !d) = true then [s.getD q E.zero] else [] := by
  unfold pickT
  rw [List.take_add_one, List.filter_append, List.getElem?_eq_getElem hq, List.getD_eq_getElem?_getD, List.getElem?_eq_getElem hq]
  simp only [Option.toList_some, Option.getD_some]
  congr 1
  by_cases h : (s[q].dirty || !d) = true
  · rw [if_pos h]; simp only [List.filter_cons, h, if_true, List.filter_nil]
  · rw [if_neg h]; simp only [List.filter_cons, h, if_false, List.filter_nil, Bool.false_eq_true]
/-- As many as are wanted. -/
theorem pick_full (d : Bool) (s : List E) (q : Nat) (x : Int) (h1 : x ≤ ((pickT d (s.take q)).length : Int)) (h2 : ((pickT d (s.take q)).length : Int) ≤ x ∨ (pickT d (s.take q)).length = 0) : (pickT d s).take x.toNat = pickT d (s.take q) := by
  have e : pickT d s = pickT d (s.take q) ++ pickT d (s.drop q) := by
    unfold pickT
    rw [← List.filter_append, List.take_append_drop]
  rw [e]
  have h3 : x.toNat = (pickT d (s.take q)).length := by
    rcases h2 with h2 | h2 <;> omega
  rw [h3, List.take_left]
theorem pick_end (d : Bool) (s : List E) (q : Nat) (x : Int) (h0 : s.length ≤ q) (h2 : ((pickT d (s.take q)).length : Int) ≤ x ∨ (pickT d (s.take q)).length = 0) : (pickT d s).take x.toNat = pickT d (s.take q) := by
  rw [List.take_of_length_le h0] at h2 ⊢
  exact List.take_of_length_le (by rcases h2 with h2 | h2 <;> omega)
section
variable {w : World} {base g h cA r c : Nat} {l : List E} {fp : Nat → Prop} {v : Value}
set_option maxHeartbeats 4000000 in
theorem tfrom_none (a x : Int) (d : Bool) (A : Option Addr) (cA : Nat) {m e : Int} (K : TCore w base fp g [] (.slice A 0 cA) m e) : Calls Try.prog 16 #[.pointer (some ⟨g, 0, none⟩), .int .u64 a, .int .i64 x, .bool d] w (GivesE w []) := by
  have HK := Lib.hid K
  have C := Lib.hid (tseek_any a srt_nil (by decide) K)
  rw [show aheadT [] a = 0 from rfl, show (getT [] a).isSome = false from rfl] at C
  unfold seekV at C
  clear K
  go_enter Try.func16, Try.ntmps16
  go_wp2_with fail
  refine C.out.mono ?_
  rintro e W1 ⟨rfl, hb⟩
  obtain ⟨o, HO⟩ : ∃ o, Hid (Obj.cells #[.int .i64 0, .int .i64 0] 54 = o) := ⟨_, rfl⟩
  have hb2 : Below W1.heap.size W1 (W1.alloc o) := (Below.refl _ _).alloc (Nat.le_refl _) _
  have S2 := Lib.hid (below_chain hb.out hb2)
  have c0 := (HK.out.since S2.out).c0
  rw [← HO.out] at S2
  clear hb hb2 C
  go_wp2_with fail
  rw [HO.out] at S2 ⊢
  go_loopw [9, 12] (fun t9 t12 wr => t9 = .slice none 0 0 ∧ t12 = .int .i64 0 ∧ Hid (wr = W1.alloc o)) (fun _ _ _ => 0)
  case atStart => exact ⟨rfl, rfl, rfl⟩
  case round =>
    obtain ⟨rfl, rfl, hw⟩ := hrel
    have hw' := hw.out
    subst hw'
    go_wp2_with fail
    go_ret
    exact ⟨_, _, _, rfl, Kind.Row.none_, S2⟩
set_option maxHeartbeats 16000000 in
set_option maxRecDepth 20000 in
theorem tfrom_one (a x : Int) (d : Bool) {m e : Int} (hs : Srt l) (hl : l.length ≤ 120) (hw : ∀ e ∈ l, EWf e) (h2 : -9223372036854775808 ≤ x) (h3 : x ≤ 9223372036854775807) (K : TCore w base fp g l (.slice (some ⟨h, 0, none⟩) 1 cA) m e) (o : TOne w base fp l h cA r c) :
    Calls Try.prog 16 #[.pointer (some ⟨g, 0, none⟩), .int .u64 a, .int .i64 x, .bool d] w (GivesE w (fromT l a x d)) := by
  have HK := Lib.hid K
  have HO := Lib.hid o
  have C := Lib.hid (tseek_any a hs hl K)
  have HKL := ahead_le l a
  have HFR := from_ahead hs a x d
  obtain ⟨k, HKK⟩ : ∃ k, Hid (aheadT l a = k) := ⟨_, rfl⟩
  obtain ⟨is, HIS⟩ : ∃ b, Hid ((getT l a).isSome = b) := ⟨_, rfl⟩
  rw [HKK.out, HIS.out] at C
  rw [HKK.out] at HKL HFR
  unfold seekV at C
  obtain ⟨n, HN⟩ : ∃ n, Hid (l.length = n) := ⟨_, rfl⟩
  obtain ⟨s, HSL⟩ : ∃ s, Hid (l.drop k = s) := ⟨_, rfl⟩
  obtain ⟨q, HQ⟩ : ∃ q, Hid (n - k = q) := ⟨_, rfl⟩
  have HSQ : Hid (s.length = q) := by show _ = _; rw [← HSL.out, ← HQ.out, List.length_drop, HN.out]
  have HWF : Hid (∀ e ∈ s, EWf e) := fun e he => hw e (by rw [← HSL.out] at he; exact List.mem_of_mem_drop he)
  rw [HSL.out] at HFR
  have HF := Lib.hid HFR
  rw [HN.out] at HKL
  have HQ8 : Hid (q ≤ 120) := by show _ ≤ _; rw [← HQ.out, ← HN.out]; omega
  have HKN := Lib.hid HKL
  obtain ⟨A8, HA8⟩ : ∃ A, Hid ((if c = k then some (⟨r, 0, none⟩ : Addr) else some ⟨r, k * 4, none⟩) = A) := ⟨_, rfl⟩
  have hcap : n ≤ c := by rw [← HN.out]; exact o.row.cap
  have HL8 : Hid (entK.Lie w w.heap.size A8 q s) := by
    have := o.row.lie.rest (k := k) (c := c) (by rw [HN.out]; exact HKL) o.row.cap
    rw [HSL.out, HN.out, HQ.out] at this
    rw [← HA8.out]
    simp only [Option.map_some, Kind.add_zero_k] at this
    exact this
  have hsl : ∀ W : World, (Instr.slice 27 (.slice (some ⟨r, 0, none⟩) n c) (some (.int .i64 (k : Int))) none none).run Try.prog W = .ok (.slice A8 q (c - k)) W := fun W => by
    have := entK.slice_from_at r n c k HKL hcap W
    rw [HQ.out] at this
    rw [← HA8.out]; exact this
  have k0 : (0 : Int) ≤ (k : Int) := by omega
  clear K o hs hl hw HFR HKL hcap
  go_enter Try.func16, Try.ntmps16
  go_wp2_with fail
  refine C.out.mono ?_
  rintro e W1 ⟨rfl, hb⟩
  obtain ⟨W2, HW2⟩ : ∃ W2, Hid (W2 = W1.alloc (.cells #[.int .i64 0, .int .i64 (k : Int)] 54)) := ⟨_, rfl⟩
  have hb2 : Below W1.heap.size W1 W2 := by rw [HW2.out]; exact (Below.refl _ _).alloc (Nat.le_refl _) _
  have P2 : Hid (RowPl W2 W1.heap.size 0 k) := by rw [HW2.out]; exact rowPl_new W1 0 k
  have S2 := Lib.hid (below_chain hb.out hb2)
  obtain ⟨b6, HB6⟩ : ∃ b, Hid (W1.heap.size = b) := ⟨_, rfl⟩
  have HB6W : Hid (w.heap.size ≤ b6) := by show _ ≤ _; rw [← HB6.out]; exact hb.out.size
  rw [HB6.out] at P2
  have p0 := P2.out.c0
  rw [HW2.out] at p0
  clear hb hb2 C
  rw [← HB6.out] at p0
  go_wp2_with fail
  rw [← HW2.out, HB6.out]
  clear p0 HW2 HB6
  go_loopw [9, 12] (fun t9 t12 wr => (t9 = .slice none 0 0 ∧ t12 = .int .i64 0 ∧ Hid (wr = W2)) ∨ (∃ A3 m c3, t9 = .slice A3 m c3 ∧ t12 = .int .i64 1 ∧ Hid (entK.Row wr w.heap.size A3 m c3 (fromT l a x d)) ∧ Hid (Below w.heap.size w wr))) (fun _ t12 _ => 1 - (intOf t12).toNat)
  case atStart => exact Or.inl ⟨rfl, rfl, rfl⟩
  case round =>
    rcases hrel with ⟨rfl, rfl, hw⟩ | ⟨A3, m3, c3, rfl, rfl, HR, HB⟩
    · have hw' := hw.out
      subst hw'
      have c0 := (HK.out.since S2.out).c0
      go_wp2_with fail
      have hbd : Below wr.heap.size wr wr.drew := (Below.refl _ _).drew
      have S3 := Lib.hid (below_chain S2.out hbd)
      have P3 := Lib.hid (P2.out.since hbd)
      have c0' := (HK.out.since S3.out).c0
      have t0 := (HO.out.since S3.out).c0
      have p0 := P3.out.c0
      have p1 := P3.out.c1
      rw [HN.out] at t0
      clear hbd
      go_region
      clear c0 c0' t0 p0 p1
      obtain ⟨WD, HWD⟩ : ∃ W, Hid (W = wr.drew) := ⟨_, rfl⟩
      rw [← HWD.out] at S3 P3 ⊢
      go_wp2_with fail
      go_loopw [9, 45] (fun t9 t45 wy => ∃ (j m : Nat) (A3 : Option Addr) (c3 : Nat), t9 = .slice A3 m c3 ∧ t45 = .int .i64 j ∧ j ≤ q ∧ m ≤ j ∧ ((m : Int) ≤ x ∨ m = 0) ∧ Hid (entK.Row wy WD.heap.size A3 m c3 (pickT d (s.take j))) ∧ Hid (Below WD.heap.size WD wy)) (fun _ t45 _ => q - (intOf t45).toNat)
      case atStart => exact ⟨0, 0, none, 0, rfl, rfl, Nat.zero_le _, Nat.le_refl _, Or.inr rfl, Kind.Row.none_, Below.refl _ _⟩
      case round =>
        obtain ⟨j, m, A3, c3, rfl, rfl, hj, hmj, hmx, HP, HB⟩ := hrel
        have j0 : (0 : Int) ≤ (j : Int) := by omega
        have SY := Lib.hid (below_chain S3.out HB.out)
        have PY := Lib.hid (P3.out.since HB.out)
        have HLN := Lib.hid HP.out.len
        by_cases hlt : j < q
        · obtain ⟨ad, hA, hblk, hat⟩ := ent_at (HL8.out.below SY.out) hlt
          have j1 : (j : Int) < (q : Int) := by omega
          have hq8 : q ≤ 120 := HQ8.out
          have hj9 : IntKind.i64.wrap ((j : Int) + 1) = ((j + 1 : Nat) : Int) := by rw [IntKind.wrap_i64]; omega
          have HNX := Lib.hid (pick_next d s (q := j) (by rw [HSQ.out]; exact hlt))
          have HE : Hid (EWf (s.getD j E.zero)) := HWF.out _ (by rw [List.getD_eq_getElem?_getD, List.getElem?_eq_getElem (by rw [HSQ.out]; exact hlt)]; exact List.getElem_mem _)
          obtain ⟨⟨xa, xp, xd, xq⟩, HX⟩ : ∃ x, Hid (s.getD j E.zero = x) := ⟨_, rfl⟩
          rw [show getEn s j = ⟨xa, xp, xd, xq⟩ from HX.out] at hat
          rw [HX.out] at HNX HE
          obtain ⟨e0, e1, e2, e3⟩ := hat
          dsimp only at e0 e1 e2 e3 HNX
          subst hA
          have hbb : Below wr.heap.size wr (wr.alloc (.cells #[.int .u64 xa, .int .i64 xp, .bool xd, .int .i64 xq] 32)) := (Below.refl _ _).alloc (Nat.le_refl _) _
          have HBB := Lib.hid (below_chain HB.out hbb)
          have HPB := Lib.hid (HP.out.since hbb)
          have SB := Lib.hid (below_chain SY.out hbb)
          clear hbb
          by_cases hml : (m : Int) < x
          · have hml2 : ¬ ((m : Int) ≥ x) := by omega
            cases hdd : (xd || !d) with
            | true =>
              rw [hdd, if_pos rfl] at HNX
              have hm4 : m + 1 ≤ 8000 := by have := HQ8.out; omega
              obtain ⟨A4, c4, W4, hr4, ho4, hb4, _⟩ := Kind.append_one (K := entK) HBB.out HPB.out ⟨xa, xp, xd, xq⟩ HE.out #[.int .u64 xa, .int .i64 xp, .bool xd, .int .i64 xq] rfl hm4
              have R4 := Lib.hid (ho4.same HNX.out.symm)
              have B4 := Lib.hid hb4
              rw [show (wr.alloc (.cells #[.int .u64 xa, .int .i64 xp, .bool xd, .int .i64 xq] 32)).heap.size = wr.heap.size + 1 by simp] at hr4
              have HR4 := Lib.hid hr4
              have hmx2 : ((m + 1 : Nat) : Int) ≤ x := by omega
              clear ho4 hb4 hr4 HNX HE HX HP SB SY PY HBB HPB
              cases xd with
              | true =>
                clear hdd
                go_wp2_with (at_builtin; refine wpList_append_run rfl (.tmp 60) (.tmp 62) 27 rfl rfl rfl HR4.out ?_)
                go_roundw
                case rel => exact ⟨j + 1, m + 1, A4, c4, rfl, by go_num, by omega, by omega, Or.inl hmx2, R4, B4⟩
                case measure => simp [intOf]; omega
              | false =>
                obtain rfl : d = false := by revert hdd; cases d <;> decide
                clear hdd
                go_wp2_with (at_builtin; refine wpList_append_run rfl (.tmp 60) (.tmp 62) 27 rfl rfl rfl HR4.out ?_)
                go_roundw
                case rel => exact ⟨j + 1, m + 1, A4, c4, rfl, by go_num, by omega, by omega, Or.inl hmx2, R4, B4⟩
                case measure => simp [intOf]; omega
            | false =>
              rw [hdd, if_neg (by decide), List.append_nil] at HNX
              have R4 := Lib.hid (HPB.out.same HNX.out.symm)
              obtain ⟨rfl, rfl⟩ : d = true ∧ xd = false := by revert hdd; cases d <;> cases xd <;> decide
              clear HNX HE HX HP SB SY PY HPB
              go_wp2_with fail
              go_roundw
              case rel => exact ⟨j + 1, m, A3, c3, rfl, by go_num, by omega, by omega, hmx, R4, HBB⟩
              case measure => simp [intOf]; omega
          · have HT : Hid (fromT l a x d = pickT d (s.take j)) := by
              show _ = _
              rw [HF.out]
              have hl := HLN.out
              exact pick_full d s j x (by rw [hl]; omega) (by rw [hl]; exact hmx)
            have R4 := Lib.hid ((HPB.out.same HT.out.symm).elder S3.out.size)
            have hml2 : (m : Int) ≥ x := by omega
            clear HP HT HNX HE HX SY PY HPB HBB
            go_wp2_with fail
            go_ret
            exact ⟨A3, m, c3, rfl, R4, SB⟩
        · have HT : Hid (fromT l a x d = pickT d (s.take j)) := by
            show _ = _
            rw [HF.out]
            have hl := HLN.out
            exact pick_end d s j x (by rw [HSQ.out]; omega) (by rw [hl]; exact hmx)
          have j1 : ¬ ((j : Int) < (q : Int)) := by omega
          have p1 := PY.out.c1
          have f1 := PY.out.free 1
          have hne : ∀ b ∈ blk A3, b ≠ b6 := fun b hb e => by
            obtain ⟨cur, hc⟩ := Row.typed HP.out b hb
            rw [e] at hc
            have := other_type hc PY.out.row
            revert this; decide
          have R9 : Hid (entK.Row (wr.setCell ⟨b6, 1, none⟩ (.int .i64 0)) w.heap.size A3 m c3 (fromT l a x d)) := Row.at_block ((HP.out.same HT.out.symm).elder S3.out.size) fun b hb => setCell_heap _ _ _ _ _ (hne b hb)
          have S9 : Hid (Below w.heap.size w (wr.setCell ⟨b6, 1, none⟩ (.int .i64 0))) := SY.out.grown (setCell_else wr ⟨b6, 1, none⟩ (.int .i64 0)) SY.out.size fun b e => by rw [← Option.some.inj e]; exact HB6W.out
          clear HP HT hne PY SY HB
          go_wp2_with fail
          go_roundw
          case rel => exact Or.inr ⟨A3, m, c3, rfl, rfl, R9, S9⟩
          case measure => simp [intOf]
    · have c0 := (HK.out.since HB.out).c0
      go_wp2_with fail
      go_ret
      exact ⟨A3, m3, c3, rfl, HR, HB⟩
theorem tfrom_any (a n : Int) (d : Bool) (h0 : 0 ≤ a) (h1 : a ≤ 18446744073709551615) (h2 : -9223372036854775808 ≤ n) (h3 : n ≤ 9223372036854775807) (hD : TabAt w base fp g l) : Calls Try.prog 16 #[.pointer (some ⟨g, 0, none⟩), .int .u64 a, .int .i64 n, .bool d] w (GivesE w (fromT l a n d)) := by
  obtain ⟨v, K⟩ := hD.core
  rcases K.rows with ⟨rfl, A, cA, rfl, hr, hf⟩ | ⟨h0', h, cA, r, c, rfl, ho⟩
  · have : fromT [] a n d = [] := by simp [fromT]
    rw [this]
    exact tfrom_none a n d A cA K
  · exact tfrom_one a n d hD.wf.srt hD.wf.few hD.wf.wf h2 h3 K ho
end
end Go.Proofs.Ythamnmadgfmbkaa
