/- NoteAdds answers true, for all notes, cuts and sizes. Conditions: the notes' cells. -/
import Derived.Test.YtaocppgekinocaaNoteAwake
import Derived.Lib.QuietBelow
import Derived.BigQuiet
set_option linter.unusedVariables false
set_option linter.unusedSimpArgs false
namespace Go.Proofs.Ytaocppgekinocaa
open Go.RowKit Go.Sort

def goods (vs : List V) : List V := vs.filter fun v => okB v
theorem goods_ok (vs : List V) : allB (goods vs) = true := by
  unfold allB goods
  rw [List.all_eq_true]
  intro v hv
  exact (List.mem_filter.1 hv).2
theorem goods_wf {vs : List V} (h : ∀ v ∈ vs, Wf v) : ∀ v ∈ goods vs, Wf v := fun v hv => h v (List.mem_filter.1 hv).1
theorem goods_yes {vs : List V} {k : Nat} {v : V} (hk : k < vs.length) (hv : v = vs.getD k V.zero) (h : okB v = true) : goods (vs.take (k + 1)) = goods (vs.take k) ++ [v] := by
  unfold goods
  rw [List.take_succ_eq_append_getElem hk, List.filter_append]
  rw [List.getD_eq_getElem?_getD, List.getElem?_eq_getElem hk] at hv
  have hv : v = vs[k] := hv
  rw [← hv, List.filter_cons_of_pos h, List.filter_nil]
theorem goods_no {vs : List V} {k : Nat} {v : V} (hk : k < vs.length) (hv : v = vs.getD k V.zero) (h : okB v = false) : goods (vs.take (k + 1)) = goods (vs.take k) := by
  unfold goods
  rw [List.take_succ_eq_append_getElem hk, List.filter_append]
  rw [List.getD_eq_getElem?_getD, List.getElem?_eq_getElem hk] at hv
  have hv : v = vs[k] := hv
  rw [← hv, List.filter_cons_of_neg (by rw [h]; simp), List.filter_nil, List.append_nil]
theorem flatL_app (a b : List V) : flatL (a ++ b) = flatL a ++ flatL b := by unfold flatL; rw [List.map_append, Nt.flat_append]
theorem flatL_one (v : V) : flatL [v] = Nt.enc (toN v) := by unfold flatL; simp [Nt.flat]
theorem sizeM_few {vs : List V} (h : allB vs = true) (hl : vs.length < 128) : sizeM vs = 1 + (flatL vs).length := by
  unfold sizeM
  rw [if_pos h, encL_eq, List.length_append, Nt.put1 hl]
theorem allB_one {v : V} (h : okB v = true) : allB [v] = true := by unfold allB; rw [List.all_cons, h]; rfl
theorem allB_take {vs : List V} (h : allB vs = true) (k : Nat) : allB (vs.take k) = true := by
  unfold allB at h ⊢
  rw [List.all_eq_true] at h ⊢
  exact fun v hv => h v (List.mem_of_mem_take hv)
theorem allB_drop {vs : List V} (h : allB vs = true) (k : Nat) : allB (vs.drop k) = true := by
  unfold allB at h ⊢
  rw [List.all_eq_true] at h ⊢
  exact fun v hv => h v (List.mem_of_mem_drop hv)
theorem fit_more {g : List V} (hg : allB g = true) {x : Int} {k m : Nat} (hk : FitM x g k) (hm : FitM (x + 1) g m) : k ≤ m ∧ m ≤ k + 1 := (hk.1 hg).more (hm.1 hg)
theorem fit_all {g : List V} (hg : allB g = true) (hl : g.length < 128) {h q : Nat} (hh : h = 1 + (flatL g).length) (hq : FitM (h : Int) g q) : q = g.length := by
  subst hh
  have h3 := Nt.fits_all (g.map toN)
  have e : (Nt.encs (g.map toN)).length = 1 + (flatL g).length := by rw [Nt.encs_len (by rw [List.length_map]; exact hl)]; rfl
  rw [e] at h3
  have := (hq.1 hg).one h3
  rw [this, List.length_map]
theorem fit_less {g : List V} (hg : allB g = true) (hl : g.length < 128) (h0 : 0 < g.length) {h q : Nat} (hh : h = 1 + (flatL g).length) (hq : FitM ((h : Int) - 1) g q) : q = g.length - 1 := by
  subst hh
  have h3 := Nt.fits_less (ns := g.map toN) (by rw [List.length_map]; exact h0)
  have e : (Nt.encs (g.map toN)).length = 1 + (flatL g).length := by rw [Nt.encs_len (by rw [List.length_map]; exact hl)]; rfl
  rw [e] at h3
  have := (hq.1 hg).one h3
  rw [this, List.length_map]
theorem regrown_size {W : World} {A : Option Addr} {n c : Nat} {vs : List V} (hn : n ≤ 100) (hA : Notes W W.heap.size A n vs) {s : Int} (hs : ((sizeM vs : Nat) : Int) = s) (d : Nat) (os : Array Obj) :
    Calls Try.prog 14 #[.slice A n c] (grow (redrawn W d) os) fun e w'' => e = .returned (.int .i64 s) ∧ ∃ p : Regrown, w'' = grow (redrawn W p.d) p.os := by
  subst hs
  exact Calls.regrown_of ((size_any A n c vs _ hn (hA.since (below_regrown W d os))).mono fun e w' h => ⟨h.1, h.2.out⟩)
set_option maxHeartbeats 8000000 in
theorem adds_law (A : Option Addr) (n c : Nat) (vs : List V) (x y : Int) (w : World) (hn : n ≤ 9223372036854775807) (hA : Notes w w.heap.size A n vs) :
    Calls Try.prog 7 #[.slice A n c, .int .i64 x, .int .i64 y] w (SaysB w true) := by
  by_cases hgt : 40 < n
  · go_enter Try.func7, Try.ntmps7
    go_wp2_with fail
    refine (awake_any _).mono ?_
    rintro e W1 ⟨rfl, hb⟩
    go_wp2_with fail
    go_ret
    exact ⟨rfl, hb⟩
  · have HA := Lib.hid hA
    have HL := Lib.hid hA.len
    have HWF := Lib.hid hA.all
    clear hA
    go_enter Try.func7, Try.ntmps7
    go_wp2_with fail
    go_loopw [7, 8, 9] (fun t7 t8 t9 wr => ∃ (k h : Nat) (A3 : Option Addr) (g c3 : Nat) (us : List V), t9 = .int .i64 k ∧ k ≤ n ∧ t7 = .int .i64 h ∧ h ≤ 1 + 19 * k ∧ 1 ≤ h ∧ t8 = .slice A3 g c3 ∧ g ≤ k ∧ Hid (us = goods (vs.take k)) ∧ Hid (h = 1 + (flatL us).length) ∧ Hid (OwnN wr w.heap.size A3 g c3 us) ∧ Hid (Below w.heap.size w wr)) (fun _ _ t9 _ => n - (intOf t9).toNat)
    case atStart => exact ⟨0, 1, none, 0, 0, [], rfl, Nat.zero_le _, rfl, by omega, by omega, rfl, by omega, rfl, rfl, OwnN.none_, Below.refl _ _⟩
    case round =>
      obtain ⟨k, h, A3, g, c3, us, rfl, hk, rfl, hh, hh1, rfl, hg, HU, HH, HO, HB⟩ := hrel
      by_cases hlt : k < n
      · obtain ⟨ad, hA, hblk, hat⟩ := (HA.out.since HB.out).each k hlt
        subst hA
        have hwf := HA.out.wf k
        obtain ⟨v, HV⟩ : ∃ v, Hid (v = vs.getD k V.zero) := ⟨_, rfl⟩
        rw [← HV.out] at hat hwf
        have HVW := Lib.hid hwf
        have HAT := Lib.hid hat
        have i0 : (0 : Int) ≤ (k : Int) := by omega
        have i1 : (k : Int) < (n : Int) := by omega
        obtain ⟨c0, c1, c2, c3, c4⟩ := hat
        clear hwf
        go_wp2_with fail
        refine (may_any v _).mono ?_
        rcases hok : okB v
        · rintro e W1 ⟨rfl, hb1⟩
          have HU2 : Hid (us = goods (vs.take (k + 1))) := by show _ = _; rw [goods_no (by rw [HL.out]; exact hlt) HV.out hok]; exact HU.out
          have S1 := Lib.hid (below_chain HB.out hb1.out)
          have O1 := Lib.hid (HO.out.since hb1.out)
          clear c0 c1 c2 c3 c4
          go_wp2_with fail
          go_roundw
          case rel => exact ⟨k + 1, h, A3, g, _, us, by go_num, by omega, rfl, by omega, hh1, rfl, by omega, HU2, HH, O1, S1⟩
          case measure => simp [intOf]; omega
        · rintro e W1 ⟨rfl, hb1⟩
          have HU2 : Hid (us ++ [v] = goods (vs.take (k + 1))) := by show _ = _; rw [goods_yes (by rw [HL.out]; exact hlt) HV.out hok, HU.out]
          have S1 := Lib.hid (below_chain HB.out hb1.out)
          have O1 := Lib.hid (HO.out.since hb1.out)
          have T1 := Lib.hid (HAT.out.since hb1.out)
          clear c0 c1 c2 c3 c4 HAT
          obtain ⟨c0, c1, c2, c3, c4⟩ := T1.out
          obtain ⟨A5, c5, W5, hr, ho5, hb5⟩ := ownN_append_one S1.out O1.out v HVW.out (by omega)
          have R := Lib.hid hr
          have O5 := Lib.hid ho5
          have S5 := Lib.hid hb5
          obtain ⟨d0, d1, d2, d3, d4⟩ : NoteAt W5 (ad.add (k * 5)) v := by
            obtain ⟨ad', e1, e2, e3⟩ := (HA.out.below hb5).each k hlt
            obtain rfl := Option.some.inj e1
            rw [← HV.out] at e3
            exact e3
          clear hr ho5 hb5
          go_wp2_with (at_builtin; refine wpList_append_run rfl (.tmp 29) (.tmp 34) 22 rfl rfl rfl R.out ?_)
          have N6 := Lib.hid (notes_new1 W5 v HVW.out)
          refine (size_any (some ⟨W5.heap.size, 0, none⟩) 1 1 [v] _ (by omega) N6.out).mono ?_
          have hsz := sizeM_few (allB_one hok) (by show 1 < 128; omega)
          have hel := Nt.enc_len _ (toN_ok hok HVW.out)
          rw [flatL_one] at hsz
          obtain ⟨z, HZ⟩ : ∃ z : Nat, Hid (z = (Nt.enc (toN v)).length) := ⟨_, rfl⟩
          rw [← HZ.out] at hsz hel
          rw [hsz]
          rintro e W6 ⟨rfl, hb6⟩
          have S6 := Lib.hid (below_chain (since_alloc S5.out (.cells #[.bool v.gone, .int .u64 v.addr, .int .i64 v.page, .bool v.dirty, .int .i64 v.seq] 43)) hb6.out)
          have O6 := Lib.hid ((O5.out.since (later_alloc W5 (.cells #[.bool v.gone, .int .u64 v.addr, .int .i64 v.page, .bool v.dirty, .int .i64 v.seq] 43))).since hb6.out)
          have HH2 : Hid (h + z = 1 + (flatL (us ++ [v])).length) := by show _ = _; rw [flatL_app, flatL_one, List.length_append, HH.out, HZ.out]; omega
          clear hsz N6 d0 d1 d2 d3 d4 c0 c1 c2 c3 c4
          go_wp2_with fail
          go_roundw
          case rel => exact ⟨k + 1, h + z, A5, g + 1, c5, us ++ [v], by go_num, by omega, by go_num, by omega, by omega, rfl, by omega, HU2, HH2, O6, S6⟩
          case measure => simp [intOf]; omega
      · have HU2 : Hid (us = goods vs) := by show _ = _; rw [HU.out, show k = vs.length by rw [HL.out]; omega, List.take_length]
        have HG : Hid (allB us = true) := by rw [HU2.out]; exact goods_ok vs
        have HGL : Hid (us.length = g) := HO.out.len
        have HN := Lib.hid HO.out.notes
        have hcap := HO.out.cap
        obtain ⟨b, HBQ⟩ : ∃ b : Nat, Hid (lowM x ((g : Int) + 1) = (b : Int)) := ⟨(lowM x ((g : Int) + 1)).toNat, by have := lowM_bd x ((g : Int) + 1) (by omega); show _ = _; omega⟩
        obtain ⟨q, HQ⟩ : ∃ q : Nat, Hid (lowM y 400 = (q : Int)) := ⟨(lowM y 400).toNat, by have := lowM_bd y 400 (by omega); show _ = _; omega⟩
        have hbg : b ≤ g := by have := lowM_bd x ((g : Int) + 1) (by omega); rw [HBQ.out] at this; omega
        have hq : q < 400 := by have := lowM_bd y 400 (by omega); rw [HQ.out] at this; omega
        have hsl1 : ∀ W : World, (Instr.slice 22 (.slice A3 g c3) none (some (.int .i64 (b : Int))) none).run Try.prog W = .ok (.slice A3 b c3) W := fun W => sliceN_to A3 g c3 b hbg hcap W
        have hsl2 : ∀ W : World, (Instr.slice 22 (.slice A3 g c3) (some (.int .i64 (b : Int))) none none).run Try.prog W = .ok (.slice (if c3 = b then A3 else A3.map (·.add (b * 5))) (g - b) (c3 - b)) W := fun W => sliceN_from A3 g c3 b hbg W
        obtain ⟨A5, HA5⟩ : ∃ A5 : Option Addr, Hid (A5 = if c3 = b then A3 else A3.map (·.add (b * 5))) := ⟨_, rfl⟩
        obtain ⟨n5, HN5⟩ : ∃ n5 : Nat, Hid (n5 = g - b) := ⟨_, rfl⟩
        obtain ⟨c5, HC5⟩ : ∃ c5 : Nat, Hid (c5 = c3 - b) := ⟨_, rfl⟩
        have N5 : Hid (Notes wr wr.heap.size A5 n5 (us.drop b)) := by rw [HA5.out, HN5.out]; exact HN.out.rest hbg hcap
        have N4 := Lib.hid (HN.out.first hbg)
        rw [← HA5.out, ← HN5.out, ← HC5.out] at hsl2
        have hn5 : n5 ≤ 100 := by rw [HN5.out]; omega
        obtain ⟨sa, HSA⟩ : ∃ sa : Nat, Hid (sizeM (us.take b) = sa) := ⟨_, rfl⟩
        obtain ⟨sb, HSB⟩ : ∃ sb : Nat, Hid (sizeM (us.drop b) = sb) := ⟨_, rfl⟩
        have HS : Hid (sa + sb = h + 1) := by
          show _ = _
          rw [← HSA.out, ← HSB.out, sizeM_few (allB_take HG.out b) (by rw [List.length_take, HGL.out]; omega), sizeM_few (allB_drop HG.out b) (by rw [List.length_drop, HGL.out]; omega), HH.out]
          have e := flatL_app (us.take b) (us.drop b)
          rw [List.take_append_drop] at e
          rw [e, List.length_append]; omega
        have HSM : Hid (sizeM us = h) := by show _ = _; rw [sizeM_few HG.out (by rw [HGL.out]; omega), HH.out]
        have c1 := Lib.hid (regrown_size (by omega) N4.out (s := (sa : Int)) (by rw [HSA.out]) (c := c3))
        have c2 := Lib.hid (regrown_size hn5 N5.out (s := (sb : Int)) (by rw [HSB.out]) (c := c5))
        clear HU HA
        go_wp2_with fail
        refine (low_any x ((g : Int) + 1) (by omega) (by omega) _).mono ?_
        rw [HBQ.out]
        rintro e W1 ⟨rfl, rfl⟩
        go_wp2_with fail
        refine (low_any y 400 (by omega) (by omega) _).mono ?_
        rw [HQ.out]
        rintro e W1 ⟨rfl, rfl⟩
        go_wp2_with fail
        refine wp_region_quiet_below (by kernel_rfl) (by kernel_rfl) ?_
        repeat (go_big_quiet_step (first | (go_at_call_of 14 (Value.slice A5 n5 c5); exact c2.out _ _) | (go_at_call 14; exact c1.out _ _)))
        refine wpQuiet_nil ?_
        intro _ hw'
        obtain ⟨⟨dq, osq⟩, hw''⟩ := hw'
        obtain ⟨W2, HW2⟩ : ∃ W2 : World, Hid (W2 = grow (redrawn wr dq) osq) := ⟨_, rfl⟩
        rw [hw'', ← HW2.out]
        have L2 : Hid (Below wr.heap.size wr W2) := by rw [HW2.out]; exact below_regrown wr dq osq
        have S2 := Lib.hid (below_chain HB.out L2.out)
        have N2 := Lib.hid (HN.out.since L2.out)
        clear hw'' HW2 L2 HN N4 N5 c1 c2 hsl1 hsl2
        go_wp2_with fail
        refine (fit_any A3 g c3 (q : Int) us _ (by omega) N2.out).mono ?_
        rintro e W3 ⟨k1, rfl, HK1, hb3⟩
        have S3 := Lib.hid (below_chain S2.out hb3.out)
        have N3 := Lib.hid (N2.out.since hb3.out)
        clear S2 N2 hb3
        go_wp2_with fail
        refine (fit_any A3 g c3 ((q : Int) + 1) us _ (by omega) N3.out).mono ?_
        rintro e W4 ⟨k2, rfl, HK2, hb4⟩
        have S4 := Lib.hid (below_chain S3.out hb4.out)
        have N4 := Lib.hid (N3.out.since hb4.out)
        clear S3 N3 hb4
        have hk2 : k2 ≤ 40 := by have := HK2.out.le; rw [HGL.out] at this; omega
        have hk1 : k1 ≤ 40 := by have := HK1.out.le; rw [HGL.out] at this; omega
        go_wp2_with fail
        refine (size_any A3 g c3 us _ (by omega) N4.out).mono ?_
        rw [HSM.out]
        rintro e W5 ⟨rfl, hb5⟩
        have S5 := Lib.hid (below_chain S4.out hb5.out)
        have N5 := Lib.hid (N4.out.since hb5.out)
        clear S4 N4 hb5
        have hsa : sa + sb ≤ 800 := by have := HS.out; omega
        have b1 : ((sa : Int) + (sb : Int) - 1 == (h : Int)) = true := by have := HS.out; simp; omega
        obtain ⟨hk12, hk21⟩ := fit_more HG.out HK1.out HK2.out
        clear HK1 HK2
        go_wp2_with fail
        refine (fit_any A3 g c3 (h : Int) us _ (by omega) N5.out).mono ?_
        rintro e W6 ⟨k3, rfl, HK3, hb6⟩
        obtain rfl : g = k3 := by rw [fit_all HG.out (by rw [HGL.out]; omega) HH.out HK3.out, HGL.out]
        have S6 := Lib.hid (below_chain S5.out hb6.out)
        have N6 := Lib.hid (N5.out.since hb6.out)
        clear S5 N5 hb6
        rcases Nat.eq_zero_or_pos g with h0 | h0
        · subst h0
          go_wp2_with fail
          refine (awake_any _).mono ?_
          rintro e W8 ⟨rfl, hb8⟩
          have S8 := Lib.hid (below_chain S6.out hb8.out)
          go_wp2_with fail
          go_ret
          exact ⟨rfl, S8⟩
        · have b2 : ((g : Int) == 0) = false := by simp; omega
          go_wp2_with fail
          refine (fit_any A3 g c3 ((h : Int) - 1) us _ (by omega) N6.out).mono ?_
          rintro e W7 ⟨k4, rfl, HK4, hb7⟩
          have hk4 : k4 = g - 1 := by rw [fit_less HG.out (by rw [HGL.out]; omega) (by rw [HGL.out]; omega) HH.out HK4.out, HGL.out]
          have b3 : ((k4 : Int) == (g : Int) - 1) = true := by simp; omega
          have S7 := Lib.hid (below_chain S6.out hb7.out)
          clear S6 N6 hb7 HK4 hk4
          go_wp2_with fail
          refine (awake_any _).mono ?_
          rintro e W8 ⟨rfl, hb8⟩
          have S8 := Lib.hid (below_chain S7.out hb8.out)
          go_wp2_with fail
          go_ret
          exact ⟨rfl, S8⟩
end Go.Proofs.Ytaocppgekinocaa
