/- NotePages answers true, for all notes and sizes. Conditions: the notes' cells. -/
import Derived.Test.YtaocppgekinocaaLawAdds
set_option linter.unusedVariables false
set_option linter.unusedSimpArgs false
namespace Go.Proofs.Ytaocppgekinocaa
open Go.RowKit Go.Sort

/-- As many as go in have at most so many bytes; more than none, where there are any. -/
theorem fit_fits {g : List V} (hg : allB g = true) (hw : ∀ v ∈ g, Wf v) {x : Int} (hx : 128 ≤ x) {k : Nat} (hk : FitM x g k) : (encL (g.take k)).length ≤ x ∧ (0 < g.length → 1 ≤ k) := by
  obtain ⟨h1, h2, h3⟩ := hk.1 hg
  rw [List.length_map] at h1 h3
  have e : ∀ j, j ≤ g.length → (encL (g.take j)).length = Nt.sz (g.map toN) j := fun j hj => by
    unfold encL Nt.sz
    rw [List.map_take]
  refine ⟨?_, fun h0 => ?_⟩
  · rw [e k h1]
    rcases h2 with rfl | h2
    · unfold Nt.sz Nt.encs
      simp [Nt.flat, Pk.put_small]
      omega
    · exact h2
  · rcases Nat.eq_zero_or_pos k with rfl | hp
    · exfalso
      rcases h3 with h3 | h3
      · omega
      · rw [← e 1 (by omega), encL_eq, List.length_append] at h3
        have h4 := flatL_len hg hw 1
        have h5 : (flatL (g.take 1)).length ≤ 19 * (g.take 1).length := by
          have := flatL_len (allB_take hg 1) (fun v hv => hw v (List.mem_of_mem_take hv)) 1
          rwa [List.take_take, Nat.min_self] at this
        have h6 : (g.take 1).length = 1 := by rw [List.length_take]; omega
        rw [h6, Pk.put_small (by omega)] at h3
        rw [h6] at h5
        simp at h3
        omega
    · exact hp
theorem fit_lay {g : List V} (hg : allB g = true) (hw : ∀ v ∈ g, Wf v) {x : Int} (hx : 128 ≤ x) (hx2 : x ≤ 256) {k : Nat} (hk : FitM x g k) : layR x (g.take k) = .inr (Nt.page x.toNat ((g.take k).map toN)) ∧ readR (Nt.page x.toNat ((g.take k).map toN)) = some (g.take k) ∧ (Nt.page x.toNat ((g.take k).map toN)).length = x.toNat := by
  obtain ⟨h1, _⟩ := fit_fits hg hw hx hk
  refine ⟨layR_yes (pageB_yes hx hx2) (allB_take hg k) h1, readR_laid (allB_take hg k) (fun v hv => hw v (List.mem_of_mem_take hv)) (by omega) (by omega) (by omega), Nt.page_len (by show (encL (g.take k)).length ≤ _; omega)⟩
set_option maxHeartbeats 8000000 in
theorem pages_law (A : Option Addr) (n c : Nat) (vs : List V) (x : Int) (w : World) (hn : n ≤ 9223372036854775807) (hA : Notes w w.heap.size A n vs) :
    Calls Try.prog 6 #[.slice A n c, .int .i64 x] w (SaysB w true) := by
  by_cases hgt : 60 < n
  · go_enter Try.func6, Try.ntmps6
    go_wp2_with fail
    refine (awake_any _).mono ?_
    rintro e W1 ⟨rfl, hb⟩
    go_wp2_with fail
    go_ret
    exact ⟨rfl, hb⟩
  · have HA := Lib.hid hA
    have HL := Lib.hid hA.len
    have HWF := Lib.hid hA.all
    obtain ⟨q, HQ⟩ : ∃ q : Nat, Hid (lowM x 129 = (q : Int)) := ⟨(lowM x 129).toNat, by have := lowM_bd x 129 (by omega); show _ = _; omega⟩
    have hq : q < 129 := by have := lowM_bd x 129 (by omega); rw [HQ.out] at this; omega
    clear hA
    go_enter Try.func6, Try.ntmps6
    go_wp2_with fail
    refine (low_any x 129 (by omega) (by omega) _).mono ?_
    rw [HQ.out]
    rintro e W1 ⟨rfl, rfl⟩
    go_wp2_with fail
    go_loopw [5, 7] (fun t5 t7 wr => ∃ (k : Nat) (A3 : Option Addr) (g c3 : Nat) (us : List V), t7 = .int .i64 k ∧ k ≤ n ∧ t5 = .slice A3 g c3 ∧ g ≤ k ∧ Hid (us = goods (vs.take k)) ∧ Hid (OwnN wr w.heap.size A3 g c3 us) ∧ Hid (Below w.heap.size w wr)) (fun _ t7 _ => n - (intOf t7).toNat)
    case atStart => exact ⟨0, none, 0, 0, [], rfl, Nat.zero_le _, rfl, by omega, rfl, OwnN.none_, Below.refl _ _⟩
    case round =>
      obtain ⟨k, A3, g, c3, us, rfl, hk, rfl, hg, HU, HO, HB⟩ := hrel
      by_cases hlt : k < n
      · obtain ⟨ad, hA, hblk, hat⟩ := (HA.out.since HB.out).each k hlt
        subst hA
        have hwf := HA.out.wf k
        obtain ⟨v, HV⟩ : ∃ v, Hid (v = vs.getD k V.zero) := ⟨_, rfl⟩
        rw [← HV.out] at hat hwf
        have HVW := Lib.hid hwf
        have HAT := Lib.hid hat
        have i0 : (0 : Int) ≤ (k : Int) := by omega
        have i1 : (k : Int) < (n : Int) := by omega
        obtain ⟨c0, c1, c2, c3, c4⟩ := hat
        clear hwf
        go_wp2_with fail
        refine (may_any v _).mono ?_
        rcases hok : okB v
        · rintro e W1 ⟨rfl, hb1⟩
          have HU2 : Hid (us = goods (vs.take (k + 1))) := by show _ = _; rw [goods_no (by rw [HL.out]; exact hlt) HV.out hok]; exact HU.out
          have S1 := Lib.hid (below_chain HB.out hb1.out)
          have O1 := Lib.hid (HO.out.since hb1.out)
          clear c0 c1 c2 c3 c4
          go_wp2_with fail
          go_roundw
          case rel => exact ⟨k + 1, A3, g, _, us, by go_num, by omega, rfl, by omega, HU2, O1, S1⟩
          case measure => simp [intOf]; omega
        · rintro e W1 ⟨rfl, hb1⟩
          have HU2 : Hid (us ++ [v] = goods (vs.take (k + 1))) := by show _ = _; rw [goods_yes (by rw [HL.out]; exact hlt) HV.out hok, HU.out]
          have S1 := Lib.hid (below_chain HB.out hb1.out)
          have O1 := Lib.hid (HO.out.since hb1.out)
          have T1 := Lib.hid (HAT.out.since hb1.out)
          clear c0 c1 c2 c3 c4 HAT
          obtain ⟨c0, c1, c2, c3, c4⟩ := T1.out
          obtain ⟨A5, c5, W5, hr, ho5, hb5⟩ := ownN_append_one S1.out O1.out v HVW.out (by omega)
          have R := Lib.hid hr
          have O5 := Lib.hid ho5
          have S5 := Lib.hid hb5
          clear hr ho5 hb5
          go_wp2_with (at_builtin; refine wpList_append_run rfl (.tmp 33) (.tmp 38) 22 rfl rfl rfl R.out ?_)
          go_roundw
          case rel => exact ⟨k + 1, A5, g + 1, c5, us ++ [v], by go_num, by omega, rfl, by omega, HU2, O5, S5⟩
          case measure => simp [intOf]; omega
      · obtain ⟨Wg, rfl⟩ : ∃ Wg, Wg = wr := ⟨_, rfl⟩
        have HU2 : Hid (us = goods vs) := by show _ = _; rw [HU.out, show k = vs.length by rw [HL.out]; omega, List.take_length]
        have HG : Hid (allB us = true) := by rw [HU2.out]; exact goods_ok vs
        have HGW : Hid (∀ v ∈ us, Wf v) := HO.out.wf
        have HGL : Hid (us.length = g) := HO.out.len
        have HN := Lib.hid HO.out.notes
        have hcap := HO.out.cap
        have hg60 : g ≤ 60 := by omega
        clear HU HA HU2
        go_wp2_with fail
        go_loopw [6, 8, 9] (fun t6 t8 t9 wr => ∃ (i d : Nat) (A8 : Option Addr) (n8 c8 : Nat) (A6 : Option Addr) (g6 c6 : Nat), t9 = .int .i64 i ∧ i ≤ d ∧ Hid (d + n8 = g) ∧ n8 ≤ 60 ∧ d ≤ 60 ∧ t8 = .slice A8 n8 c8 ∧ n8 ≤ c8 ∧ t6 = .slice A6 g6 c6 ∧ g6 = d ∧ Hid (Notes Wg Wg.heap.size A8 n8 (us.drop d)) ∧ Hid (OwnN wr Wg.heap.size A6 g6 c6 (us.take d)) ∧ Hid (Below Wg.heap.size Wg wr)) (fun _ _ t9 _ => 61 - (intOf t9).toNat)
        case atStart => exact ⟨0, 0, A3, g, c3, none, 0, 0, rfl, by omega, by show _ = _; omega, by omega, by omega, rfl, hcap, rfl, rfl, HN, OwnN.none_, Below.refl _ _⟩
        case round =>
          obtain ⟨i, d, A8, n8, c8, A6, g6, c6, rfl, hid, HDN, hn8, hd60, rfl, hc8, rfl, rfl, HN8, HO6, HBQ⟩ := hrel
          have hi60 : (i : Int) < 61 := by omega
          rcases Nat.eq_zero_or_pos n8 with h0 | h0
          · subst h0
            have HE : Hid (us.take g6 = us) := by show _ = _; rw [List.take_of_length_le (by rw [HGL.out]; have := HDN.out; omega)]
            have hge : g6 = g := by have := HDN.out; omega
            have S1 := Lib.hid (below_chain HB.out HBQ.out)
            have N6 : Hid (Notes wr wr.heap.size A6 g6 us) := HO6.out.notes.same HE.out
            have N5 := Lib.hid (HN.out.since HBQ.out)
            rw [← hge] at N5
            subst hge
            go_wp2_with fail
            refine (samenotes_since A6 A3 g6 c6 c3 us _ (by omega) N6.out N5.out).mono ?_
            rintro e W2 ⟨rfl, hb2⟩
            have S2 := Lib.hid (below_chain S1.out hb2.out)
            go_wp2_with fail
            refine (awake_any _).mono ?_
            rintro e W3 ⟨rfl, hb3⟩
            have S3 := Lib.hid (below_chain S2.out hb3.out)
            go_wp2_with fail
            go_ret
            exact ⟨rfl, S3⟩
          · have N8 := Lib.hid (HN8.out.since HBQ.out)
            have HGD : Hid (allB (us.drop g6) = true) := allB_drop HG.out g6
            have HGWD : Hid (∀ v ∈ us.drop g6, Wf v) := fun v hv => HGW.out v (List.mem_of_mem_drop hv)
            have i1 : 0 < n8 := h0
            go_wp2_with fail
            refine (fit_any A8 n8 c8 (128 + (q : Int)) (us.drop g6) _ (by omega) N8.out).mono ?_
            rintro e W2 ⟨k1, rfl, HK1, hb2⟩
            have hk1 : k1 ≤ n8 := by have := HK1.out.le; rw [List.length_drop, HGL.out] at this; have := HDN.out; omega
            have hk0 : 1 ≤ k1 := (fit_fits HGD.out HGWD.out (by omega) HK1.out).2 (by rw [List.length_drop, HGL.out]; have := HDN.out; omega)
            obtain ⟨l1, l2, l3⟩ := fit_lay HGD.out HGWD.out (by omega) (by omega) HK1.out
            obtain ⟨ps, HPS⟩ : ∃ ps, Hid (ps = Nt.page (128 + (q : Int)).toNat (((us.drop g6).take k1).map toN)) := ⟨_, rfl⟩
            rw [← HPS.out] at l1 l2 l3
            have L1 := Lib.hid l1
            have L2 := Lib.hid l2
            have L3 : Hid (ps.length = 128 + q) := by show _ = _; rw [l3]; omega
            have S2 := Lib.hid (below_chain HBQ.out hb2.out)
            have O2 := Lib.hid (HO6.out.since hb2.out)
            have N2 := Lib.hid ((HN8.out.since S2.out).first hk1)
            have hsl1 : ∀ W : World, (Instr.slice 22 (.slice A8 n8 c8) none (some (.int .i64 (k1 : Int))) none).run Try.prog W = .ok (.slice A8 k1 c8) W := fun W => sliceN_to A8 n8 c8 k1 hk1 hc8 W
            clear l1 l2 l3 hb2 N8
            go_wp2_with fail
            refine (lay_any A8 k1 c8 (128 + (q : Int)) ((us.drop g6).take k1) _ (by omega) N2.out).mono ?_
            rw [L1.out]
            rintro e W3 ⟨A9, n9, c9, rfl, HO9, hb3⟩
            have hn9 : n9 ≤ 900 := by rw [← HO9.out.len, L3.out]; omega
            have S3 := Lib.hid (below_chain S2.out hb3.out)
            have O3 := Lib.hid (O2.out.since hb3.out)
            clear S2 O2 N2 hb3 hsl1
            go_wp2_with fail
            refine (read_any A9 n9 c9 ps _ hn9 HO9.out.cap HO9.out.bytes).mono ?_
            rw [L2.out]
            rintro e W4 ⟨A10, n10, c10, rfl, HO10, hb4⟩
            obtain rfl : k1 = n10 := by rw [← HO10.out.len, List.length_take, List.length_drop, HGL.out]; have := HDN.out; omega
            have S4 := Lib.hid (below_chain S3.out hb4.out)
            have O4 := Lib.hid (O3.out.since hb4.out)
            obtain ⟨A11, c11, W5, hr, ho5, hb5⟩ := ownN_append (c' := c10) S4.out O4.out HO10.out.notes (by omega)
            have R := Lib.hid hr
            have O5 := Lib.hid ho5
            have S5 := Lib.hid hb5
            have HTK : Hid (us.take g6 ++ (us.drop g6).take k1 = us.take (g6 + k1)) := by show _ = _; rw [← List.take_add]
            have HDR : Hid ((us.drop g6).drop k1 = us.drop (g6 + k1)) := by show _ = _; rw [List.drop_drop]
            have hsl2 : ∀ W : World, (Instr.slice 22 (.slice A8 n8 c8) (some (.int .i64 (k1 : Int))) none none).run Try.prog W = .ok (.slice (if c8 = k1 then A8 else A8.map (·.add (k1 * 5))) (n8 - k1) (c8 - k1)) W := fun W => sliceN_from A8 n8 c8 k1 hk1 W
            obtain ⟨A12, HA12⟩ : ∃ A12 : Option Addr, Hid (A12 = if c8 = k1 then A8 else A8.map (·.add (k1 * 5))) := ⟨_, rfl⟩
            have N12 : Hid (Notes Wg Wg.heap.size A12 (n8 - k1) (us.drop (g6 + k1))) := by rw [HA12.out, ← HDR.out]; exact HN8.out.rest hk1 hc8
            rw [← HA12.out] at hsl2
            clear hr ho5 hb5 S4 O4 S3 O3 hb4
            go_wp2_with (at_builtin; refine wpList_append_run rfl (.tmp 80) (.tmp 81) 22 rfl rfl rfl R.out ?_)
            go_roundw
            case rel =>
              refine ⟨i + 1, g6 + k1, A12, n8 - k1, c8 - k1, A11, g6 + k1, c11, ?_, ?_, ?_, ?_, ?_, ?_, ?_, ?_, ?_, ?_, ?_, ?_⟩
              · go_num
              · omega
              · show _ = _; have := HDN.out; omega
              · omega
              · have := HDN.out; omega
              · rfl
              · omega
              · rfl
              · rfl
              · exact N12
              · exact O5.out.same HTK.out
              · exact S5
            case measure => simp [intOf]; omega
end Go.Proofs.Ytaocppgekinocaa
