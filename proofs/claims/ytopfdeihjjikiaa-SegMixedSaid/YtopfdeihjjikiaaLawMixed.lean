/- SegMixed answers true, for all numbers. No conditions. -/
import Derived.Test.YtopfdeihjjikiaaMixMath
set_option linter.unusedVariables false
set_option linter.unusedSimpArgs false
namespace Go.Proofs.Ytopfdeihjjikiaa
open Go.RowKit
open Go.Sort (grow)

theorem low_nat (x : Int) (n : Nat) (hn : 0 < n) : ∃ q : Nat, q < n ∧ Hid (lowM x (n : Int) = (q : Int)) := by
  have := lowM_bd x (n : Int) (by omega)
  exact ⟨(lowM x (n : Int)).toNat, by omega, by show _ = _; omega⟩
theorem names_cell (W : World) {i : Nat} (hi : i < 4) : (W.alloc (.cells #[.string ⟨#[97]⟩, .string ⟨#[98]⟩, .string ⟨#[115, 104, 101, 108, 102]⟩, .string ⟨#[230, 151, 165]⟩] 9)).cell? ⟨W.heap.size, i, none⟩ = some (.string (strOf (namesL i))) := by
  rw [cell_new]
  rcases (by omega : i = 0 ∨ i = 1 ∨ i = 2 ∨ i = 3) with rfl | rfl | rfl | rfl <;> rfl
/-- Two rows of entries of the call's own, in blocks of their own. -/
structure Two (w W : World) (A : Option Addr) (n c : Nat) (us : List E) (A' : Option Addr) (n' c' : Nat) (vs : List E) : Prop where
  one : entK.Row W w.heap.size A n c us
  two : entK.Row W w.heap.size A' n' c' vs
  apart : ∀ b, (Value.slice A n c).ownBlock = some b → (Value.slice A' n' c').ownBlock ≠ some b
  below : Below w.heap.size w W
theorem row_apart {w w' : World} {base n c : Nat} {A : Option Addr} {vs : List E} {row : Option Nat} (h : entK.Row w base A n c vs) (hg : w.grownBy w' row) (hn : ∀ b, row = some b → (Value.slice A n c).ownBlock ≠ some b) : entK.Row w' base A n c vs := by
  refine ⟨h.row.kept hg ?_, h.wf⟩
  cases hb : (Value.slice A n c).ownBlock with
  | none => exact Or.inl rfl
  | some k =>
    refine Or.inr fun e => ?_
    exact hn k e.symm hb
theorem Two.since {w W W' : World} {A A' : Option Addr} {n c n' c' : Nat} {us vs : List E} (h : Two w W A n c us A' n' c' vs) (hb : Below W.heap.size W W') : Two w W' A n c us A' n' c' vs := ⟨h.one.since hb, h.two.since hb, h.apart, below_chain h.below hb⟩
theorem later_none {w w' : World} (h : w.grownBy w' none) : Below w.heap.size w w' := ⟨h.os, h.tape, h.output, h.size, fun i hi => h.block i hi (by simp)⟩
/-- append(nil, vs...): a new row. -/
theorem copy_row {α : Type} (K : Kind α) {W : World} {A : Option Addr} {n c : Nat} {vs : List α} (hA : K.Lie W W.heap.size A n vs) (hn : n ≤ 8000) (h0 : 0 < n) :
    ∃ g c2 W2, (Builtin.append_ #[K.L, K.L] K.L #[.slice none 0 0, .slice A n c]).run Try.prog W = .ok (.slice (some ⟨g, 0, none⟩) n c2) W2 ∧ K.Row W2 W.heap.size (some ⟨g, 0, none⟩) n c2 vs ∧ W.heap.size ≤ g ∧ g < W2.heap.size ∧ Below W.heap.size W W2 := by
  obtain ⟨A2, c2, W2, hr, ho, hg⟩ := Kind.append_b (c' := c) (Nat.le_refl _) Kind.Row.none_ hA (by omega)
  rw [Nat.zero_add] at hr ho
  rw [List.nil_append] at ho
  have hg' : W.grownBy W2 none := hg
  rcases ho.row.2 with ⟨_, hx⟩ | ⟨g, cap, cur, hv, hbg, hgg, _⟩
  · omega
  · injection hv with e1 e2 e3
    subst e1
    exact ⟨g, c2, W2, hr, ho, hbg, (Array.getElem?_eq_some_iff.1 hgg).1, later_none hg'⟩
/-- One more in the first row, then one more in the second. -/
theorem Two.step {w W : World} {A A' : Option Addr} {n c n' c' : Nat} {us vs : List E} (h : Two w W A n c us A' n' c' vs) (u v : E) (hu : EWf u) (hv : EWf v) (cs ds : Array Value) (hcs : cs = (entCells u).toArray) (hds : ds = (entCells v).toArray) (hn : n + 1 ≤ 8000) (hn' : n' + 1 ≤ 8000) :
    ∃ A2 c2 W2 A3 c3 W3, (Builtin.append_ #[22, 22] 22 #[.slice A n c, .slice (some ⟨W.heap.size, 0, none⟩) 1 1]).run Try.prog (W.alloc (.cells cs 48)) = .ok (.slice A2 (n + 1) c2) W2 ∧
      (Builtin.append_ #[22, 22] 22 #[.slice A' n' c', .slice (some ⟨W2.heap.size, 0, none⟩) 1 1]).run Try.prog (W2.alloc (.cells ds 48)) = .ok (.slice A3 (n' + 1) c3) W3 ∧
      Two w W3 A2 (n + 1) c2 (us ++ [u]) A3 (n' + 1) c3 (vs ++ [v]) := by
  obtain ⟨A2, c2, W2, hr1, ho1, hg1, hp1⟩ := Kind.append_one_at h.below.size h.one u hu cs hcs hn
  have t2 : entK.Row W2 w.heap.size A' n' c' vs := row_apart h.two hg1 h.apart
  have b2 : Below w.heap.size w W2 := h.below.grown hg1 h.below.size fun b hb => (h.one.row.lt b hb).1
  obtain ⟨A3, c3, W3, hr2, ho2, hg2, hp2⟩ := Kind.append_one_at b2.size t2 v hv ds hds hn'
  have d2 : ∀ b, (Value.slice A2 (n + 1) c2).ownBlock = some b → (Value.slice A' n' c').ownBlock ≠ some b := fun b hb e => by
    rcases hp1 b hb with h1 | h1
    · exact h.apart b h1 e
    · have := (h.two.row.lt b e).2
      omega
  refine ⟨A2, c2, W2, A3, c3, W3, hr1, hr2, row_apart ho1 hg2 (fun b hb e => d2 b e hb), ho2, fun b hb e => ?_, b2.grown hg2 b2.size fun b hb => (t2.row.lt b hb).1⟩
  rcases hp2 b e with h1 | h1
  · exact d2 b hb h1
  · have := (ho1.row.lt b hb).2
    omega
set_option maxHeartbeats 16000000 in
set_option maxRecDepth 20000 in
theorem mixed_law (x1 x2 x3 x4 x5 : Int) (w : World) : Calls Try.prog 6 #[.int .i64 x1, .int .i64 x2, .int .i64 x3, .int .i64 x4, .int .i64 x5] w (SaysB w true) := by
  obtain ⟨ia, hia, HIA⟩ := low_nat x2 4 (by omega)
  obtain ⟨ib, hib, HIB⟩ := low_nat x3 4 (by omega)
  obtain ⟨q, hq, HQ⟩ := low_nat x1 55 (by omega)
  obtain ⟨sh, hsh, HSH⟩ := low_nat x5 3 (by omega)
  obtain ⟨m, HM⟩ : ∃ m : Nat, Hid (m = 6 + q) := ⟨_, rfl⟩
  have HMI : Hid ((6 : Int) + (q : Int) = (m : Int)) := by show _ = _; rw [HM.out]; omega
  have hm6 : 6 ≤ m := by rw [HM.out]; omega
  have hm60 : m ≤ 60 := by rw [HM.out]; omega
  obtain ⟨nx, HNX⟩ : ∃ n, Hid (n = namesL ia) := ⟨_, rfl⟩
  obtain ⟨ny, HNY⟩ : ∃ n, Hid (n = namesL ib) := ⟨_, rfl⟩
  have HOX : Hid (OkN nx) := by rw [HNX.out]; exact namesL_ok ia
  have HOY : Hid (OkN ny) := by rw [HNY.out]; exact namesL_ok ib
  obtain ⟨sx, HSX⟩ : ∃ s, Hid (s = strOf nx) := ⟨_, rfl⟩
  obtain ⟨sy, HSY⟩ : ∃ s, Hid (s = strOf ny) := ⟨_, rfl⟩
  have nc1 := names_cell w hia
  have nc2 := names_cell w hib
  rw [← HNX.out, ← HSX.out] at nc1
  rw [← HNY.out, ← HSY.out] at nc2
  have S0 := Lib.hid (since_alloc (Below.refl w.heap.size w) (.cells #[.string ⟨#[97]⟩, .string ⟨#[98]⟩, .string ⟨#[115, 104, 101, 108, 102]⟩, .string ⟨#[230, 151, 165]⟩] 9))
  go_enter Try.func6, Try.ntmps6
  go_wp2_with fail
  obtain ⟨W0, HW0⟩ : ∃ W0 : World, Hid (W0 = w.alloc (.cells #[.string ⟨#[97]⟩, .string ⟨#[98]⟩, .string ⟨#[115, 104, 101, 108, 102]⟩, .string ⟨#[230, 151, 165]⟩] 9)) := ⟨_, rfl⟩
  rw [← HW0.out] at nc1 nc2 S0 ⊢
  have d1 := cell_regrown nc1
  have d2 := cell_regrown nc2
  have cA := Lib.hid fun (d : Nat) (os : Array Obj) => quiet_same (low_any x2 4 (by omega) (by omega) (grow (redrawn W0 d) os))
  have cB := Lib.hid fun (d : Nat) (os : Array Obj) => quiet_same (low_any x3 4 (by omega) (by omega) (grow (redrawn W0 d) os))
  have hia' : (ia : Int) < 4 := by omega
  have hib' : (ib : Int) < 4 := by omega
  rw [show lowM x2 4 = (ia : Int) from HIA.out] at cA
  rw [show lowM x3 4 = (ib : Int) from HIB.out] at cB
  clear nc1 nc2
  refine wp_region_quiet_below (by kernel_rfl) (by kernel_rfl) ?_
  repeat (go_big_quiet_step (first | (go_at_call_of 20 (Value.int IntKind.i64 x2); exact cA.out _ _) | (go_at_call 20; exact cB.out _ _)))
  refine wpQuiet_nil ?_
  intro W1 hw'
  have S1 : Hid (Below w.heap.size w W1) := by obtain ⟨⟨dq, osq⟩, hw''⟩ := hw'; rw [hw'']; exact below_chain S0.out (below_regrown _ _ _)
  clear hw' cA cB d1 d2 S0 HW0
  go_wp2_with fail
  refine (low_any x1 55 (by omega) (by omega) _).mono ?_
  rw [show lowM x1 55 = (q : Int) from HQ.out]
  rintro e w' ⟨rfl, rfl⟩
  go_wp2_with fail
  rw [HMI.out]
  refine (low_any x5 3 (by omega) (by omega) _).mono ?_
  rw [show lowM x5 3 = (sh : Int) from HSH.out]
  rintro e w' ⟨rfl, rfl⟩
  go_wp2_with fail
  go_loopw [14, 15, 16] (fun t14 t15 t16 wr => ∃ (k : Nat) (A3 : Option Addr) (c3 : Nat) (A4 : Option Addr) (c4 : Nat), t16 = .int .i64 k ∧ k ≤ m ∧ t14 = .slice A3 k c3 ∧ t15 = .slice A4 k c4 ∧ Hid (Two w wr A3 k c3 ((mixL 0 k).map ofE) A4 k c4 ((mixL sh k).map ofE))) (fun _ _ t16 _ => m - (intOf t16).toNat)
  case atStart => exact ⟨0, none, 0, none, 0, rfl, Nat.zero_le _, rfl, rfl, ⟨Kind.Row.none_, Kind.Row.none_, (fun b hb => by cases hb), S1.out⟩⟩
  case round =>
    obtain ⟨k, A3, c3, A4, c4, rfl, hk, rfl, rfl, HT⟩ := hrel
    by_cases hlt : k < m
    · have i0 : (0 : Int) ≤ (k : Int) := by omega
      have i1 : (k : Int) < (m : Int) := by omega
      obtain ⟨A5, c5, W5, A6, c6, W6, hr1, hr2, ht⟩ := HT.out.step (ofE (mixE 0 k)) (ofE (mixE sh k)) (ofE_wf (mixE_ok (by omega) (by omega))) (ofE_wf (mixE_ok (by omega) hsh)) #[.int .u64 (k : Int), .int .i64 (k : Int), .bool false, .int .i64 1] #[.int .u64 (k : Int), .int .i64 (k : Int), .bool false, .int .i64 (1 + (sh : Int))] rfl
        (by show _ = #[Value.int .u64 (k : Int), .int .i64 (k : Int), .bool false, .int .i64 (((1 + sh : Nat)) : Int)]
            rw [show (((1 + sh : Nat)) : Int) = 1 + (sh : Int) by simp]) (by omega) (by omega)
      have R1 := Lib.hid hr1
      have R2 := Lib.hid hr2
      have HT2 : Hid (Two w W6 A5 (k + 1) c5 ((mixL 0 (k + 1)).map ofE) A6 (k + 1) c6 ((mixL sh (k + 1)).map ofE)) := by rw [mixL_next, mixL_next, List.map_append, List.map_append]; exact ht
      clear hr1 hr2 ht
      go_wp2_with (first | (at_builtin; refine wpList_append_run rfl (.tmp 55) (.tmp 60) 22 rfl rfl rfl R1.out ?_) | (at_builtin; refine wpList_append_run rfl (.tmp 62) (.tmp 69) 22 rfl rfl rfl R2.out ?_))
      go_roundw
      case rel => exact ⟨k + 1, A5, c5, A6, c6, by go_num, by omega, rfl, rfl, HT2⟩
      case measure => simp [intOf]; omega
    · obtain rfl : k = m := by omega
      obtain ⟨es, HES⟩ : ∃ es, Hid (es = mixL 0 k) := ⟨_, rfl⟩
      obtain ⟨fs, HFS⟩ : ∃ fs, Hid (fs = mixL sh k) := ⟨_, rfl⟩
      have HOE : Hid (Sg.Ok es) := by rw [HES.out]; exact mixL_ok (by omega) (by omega)
      have HOF : Hid (Sg.Ok fs) := by rw [HFS.out]; exact mixL_ok (by omega) hsh
      have HLE : Hid (es.length = k) := by rw [HES.out]; exact mixL_len 0 k
      have HLF : Hid (fs.length = k) := by rw [HFS.out]; exact mixL_len sh k
      rw [← HES.out, ← HFS.out] at HT
      obtain ⟨P, HP⟩ : ∃ P, Hid (Sg.parts 128 k = P) := ⟨_, rfl⟩
      have hP2 : 2 ≤ P ∧ P ≤ 13 := by
        rw [← HP.out]
        have e : Sg.each 128 = 5 := by decide
        unfold Sg.parts
        rw [e]
        split <;> omega
      obtain ⟨hP2, hP13⟩ := hP2
      obtain ⟨ps, HPS⟩ : ∃ ps, Hid (Sg.cut 128 nx es = ps) := ⟨_, rfl⟩
      obtain ⟨qs, HQS⟩ : ∃ qs, Hid (Sg.cut 128 ny fs = qs) := ⟨_, rfl⟩
      have HPL : Hid (ps.length = P) := by rw [← HPS.out, Sg.cut_len, HLE.out]; exact HP.out
      have HQL : Hid (qs.length = P) := by rw [← HQS.out, Sg.cut_len, HLF.out]; exact HP.out
      have HC1 := Lib.hid (cut_yes 128 nx A3 k c3 es wr size128 HOX.out HOE.out HT.out.one.cap HT.out.one.lie)
      rw [HPS.out, ← HSX.out] at HC1
      go_wp2_with fail
      refine HC1.out.mono ?_
      rintro e W2 ⟨g1, B1, C1, rfl, R1, hb1⟩
      have HT2 := Lib.hid (HT.out.since hb1.out)
      have R1 := Lib.hid R1.out
      rw [HPL.out] at R1 ⊢
      clear HC1 hb1 HT
      have HC2 := Lib.hid (cut_yes 128 ny A4 k c4 fs W2 size128 HOY.out HOF.out HT2.out.two.cap HT2.out.two.lie)
      rw [HQS.out, ← HSY.out] at HC2
      go_wp2_with fail
      refine HC2.out.mono ?_
      rintro e W3 ⟨g2, B2, C2, rfl, R2, hb2⟩
      have HT3 := Lib.hid (HT2.out.since hb2.out)
      have R13 := Lib.hid (R1.out.since hb2.out)
      have R2 := Lib.hid R2.out
      rw [HQL.out] at R2 ⊢
      clear HC2 hb2 HT2 R1
      have hp2 : ¬ (P : Int) < 2 := by omega
      obtain ⟨kk, hkk, HKK⟩ := low_nat x4 P (by omega)
      obtain ⟨g3, c3', W4, hr4, ho4, hg4, hg4', hb4⟩ := copy_row sliceK (c := P) (R13.out.lays HPL.out).lie (by omega) (by omega)
      have R4 := Lib.hid hr4
      have qcell := (R2.out.since hb4).cell hkk
      have mcell := sliceRow_cell ho4 hkk
      have mfree := sliceRow_free ho4 kk
      obtain ⟨hs5, hs5g⟩ := sliceRow_set ho4 hkk ⟨some ⟨B2 kk, 0, none⟩, 128, C2 kk⟩
      obtain ⟨W5, HW5⟩ : ∃ W5 : World, Hid (W5 = W4.setCell ⟨g3, kk, none⟩ (.slice (some ⟨B2 kk, 0, none⟩) 128 (C2 kk))) := ⟨_, rfl⟩
      have L5 : Hid (Below W3.heap.size W3 W5) := by rw [HW5.out]; exact hb4.setCell hg4 _
      have M5 : Hid (sliceK.Row W5 W3.heap.size (some ⟨g3, 0, none⟩) P c3' ((valsOf B1 C1 128 P).set kk ⟨some ⟨B2 kk, 0, none⟩, 128, C2 kk⟩)) := by rw [HW5.out]; exact hs5
      have R25 := Lib.hid (R2.out.since L5.out)
      have HLD : Hid (Hold W5 W5.heap.size ((valsOf B1 C1 128 P).set kk ⟨some ⟨B2 kk, 0, none⟩, 128, C2 kk⟩) (ps.set kk (qs.getD kk []))) :=
        ((R13.out.lays HPL.out).hold.since L5.out).set (by simp [valsOf]; exact hkk) _ _ (R25.out.each kk hkk).2.cap (R25.out.each kk hkk).2.bytes
      have HLY : Hid (Lays W5 W5.heap.size (some ⟨g3, 0, none⟩) P ((valsOf B1 C1 128 P).set kk ⟨some ⟨B2 kk, 0, none⟩, 128, C2 kk⟩) (ps.set kk (qs.getD kk []))) := ⟨M5.out.lie, HLD.out⟩
      have HT5 := Lib.hid (HT3.out.since L5.out)
      have HQK : Hid (ps.set kk (qs.getD kk []) = (Sg.cut 128 nx es).set kk (Sg.part 128 kk (Sg.parts 128 fs.length) ny (Sg.chunk 128 fs kk))) := by
        show _ = _
        rw [← HPS.out, ← HQS.out, cut_getD (by rw [HLF.out, HP.out]; exact hkk)]
      have i0 : (0 : Int) ≤ (kk : Int) := by omega
      have i1 : (kk : Int) < (P : Int) := by omega
      clear hr4 ho4 hg4 hg4' hb4 hs5 hs5g L5 M5 HLD
      go_wp2_with fail
      refine (low_any x4 (P : Int) (by omega) (by omega) _).mono ?_
      rw [HKK.out]
      rintro e w' ⟨rfl, rfl⟩
      go_wp2_with (at_builtin; refine wpList_append_run rfl (.const (.slice none 0 0)) (.tmp 105) 24 rfl rfl rfl R4.out ?_)
      rw [← HW5.out]
      by_cases hxy : nx = ny
      · have hyy : sy = sx := by rw [HSY.out, HSX.out, hxy]
        subst hyy
        have HMX : Hid (ps.set kk (qs.getD kk []) = Sg.cut 128 nx (Sg.mix 128 es fs kk)) := by
          show _ = _
          rw [HQK.out, ← hxy]
          exact Sg.mix_cut (by rw [HLE.out, HLF.out]) (by rw [HLE.out]; exact (chunk_bounds size128 (by rw [HP.out]; exact hkk)).1) (by rw [HLE.out, HP.out]; exact hkk)
        have hkm : kk * Sg.each 128 ≤ k := (chunk_bounds size128 (by rw [HP.out]; exact hkk)).1
        have HOM : Hid (Sg.Ok (Sg.mix 128 es fs kk)) := Sg.mix_ok HOE.out HOF.out (by rw [HLE.out, HLF.out]) (by rw [HLE.out]; exact hkm) (by rw [HES.out, HFS.out]; exact mixL_addr 0 sh k) (by rw [HES.out, HFS.out]; exact mixL_page 0 sh k)
        have HML : Hid ((Sg.mix 128 es fs kk).length = k) := by show _ = _; rw [Sg.mix_len (by rw [HLE.out, HLF.out]) (by rw [HLE.out]; exact hkm), HLE.out]
        have hly := HLY.out
        rw [HMX.out] at hly
        have HJ := Lib.hid (join_cut (some ⟨g3, 0, none⟩) P c3' 128 _ nx (Sg.mix 128 es fs kk) W5 size128 HOX.out HOM.out hly)
        rw [← HSX.out] at HJ
        clear hly
        refine HJ.out.mono ?_
        rintro e W6 ⟨A6, n6, c6, rfl, O6, hb6⟩
        obtain rfl : k = n6 := by have := O6.out.len; rw [List.length_map, HML.out] at this; exact this
        have HT6 := Lib.hid (HT5.out.since hb6.out)
        have hlast : ∃ e, (Sg.mix 128 es fs kk)[k - 1]? = some e ∧ e.page = k - 1 := by rw [HES.out, HFS.out]; exact mix_last hkm (by omega)
        obtain ⟨el, hel, hpl⟩ := hlast
        obtain ⟨ad, hA6, _, hat⟩ := O6.out.lie.each (k - 1) (by omega)
        have hge : ((Sg.mix 128 es fs kk).map ofE).getD (k - 1) entK.dflt = ofE el := by rw [List.getD_eq_getElem?_getD, List.getElem?_map, hel]; rfl
        rw [hge] at hat
        subst hA6
        have cpage := (entAt_of (show entK.At W6 (ad.add ((k - 1) * 4)) (ofE el) from hat)).c1
        have epage : (ofE el).page = (k : Int) - 1 := by show ((el.page : Nat) : Int) = _; rw [hpl]; omega
        rw [epage] at cpage
        have hidx : ∀ W : World, (Instr.indexAt 22 (.slice (some ad) k c6) (.int .i64 ((k : Int) - 1))).run Try.prog W = .ok (.pointer (some (ad.add ((k - 1) * 4)))) W := fun W => by
          have j0 : (0 : Int) ≤ (k : Int) - 1 := by omega
          have j1 : (k : Int) - 1 < (k : Int) := by omega
          have e : ((k : Int) - 1).toNat = k - 1 := by omega
          go_simp
          intro h
          omega
        clear hat hge hel hpl epage hkm hxy
        obtain ⟨ii, hii, HII⟩ := low_nat x4 (k - 1) (by omega)
        rw [show (((k - 1 : Nat)) : Int) = (k : Int) - 1 by omega] at HII
        obtain ⟨g7, c7, W7, hr7, ho7, hg7, hg7', hb7⟩ := copy_row entK (c := c3) HT6.out.one.lie (by omega) (by omega)
        have R7 := Lib.hid hr7
        have O7 := Lib.hid ho7
        have HT7 := Lib.hid (HT6.out.since hb7)
        have HG7 := Lib.hid hg7
        have L7 := Lib.hid hb7
        clear hr7 ho7 hg7 hg7' hb7
        go_wp2_with fail
        refine (low_any x4 ((k : Int) - 1) (by omega) (by omega) _).mono ?_
        rw [HII.out]
        rintro e w' ⟨rfl, rfl⟩
        obtain ⟨u0, HU0⟩ : ∃ u, Hid (u = getE (es.map ofE) ii) := ⟨_, rfl⟩
        obtain ⟨u1, HU1⟩ : ∃ u, Hid (u = getE (es.map ofE) (ii + 1)) := ⟨_, rfl⟩
        obtain ⟨p0, p1, p2, p3⟩ := entRow_cells O7.out (show ii < k by omega)
        obtain ⟨q0, q1, q2, q3⟩ := entRow_cells O7.out (show ii + 1 < k by omega)
        rw [← HU0.out] at p0 p1 p2 p3
        rw [← HU1.out] at q0 q1 q2 q3
        have f0 := entRow_free O7.out (ii * 4)
        have f1 := entRow_free O7.out (ii * 4 + 1)
        have f2 := entRow_free O7.out (ii * 4 + 2)
        have f3 := entRow_free O7.out (ii * 4 + 3)
        have f4 := entRow_free O7.out ((ii + 1) * 4)
        have f5 := entRow_free O7.out ((ii + 1) * 4 + 1)
        have f6 := entRow_free O7.out ((ii + 1) * 4 + 2)
        have f7 := entRow_free O7.out ((ii + 1) * 4 + 3)
        have j0 : (0 : Int) ≤ (ii : Int) := by omega
        have j1 : (ii : Int) < (k : Int) := by omega
        have j2 : (0 : Int) ≤ (ii : Int) + 1 := by omega
        have j3 : (ii : Int) + 1 < (k : Int) := by omega
        go_wp2_with (at_builtin; refine wpList_append_run rfl (.const (.slice none 0 0)) (.tmp 156) 22 rfl rfl rfl R7.out ?_)
        go_region
        obtain ⟨W8, HW8⟩ : ∃ W8 : World, Hid (W8 = (putE (putE W7 g7 (ii * 4) u1) g7 ((ii + 1) * 4) u0).drew) := ⟨_, rfl⟩
        obtain ⟨hw1, hg1⟩ := entRow_set O7.out (show ii < k by omega) u1 (by rw [HU1.out]; exact O7.out.lie.wf (ii + 1))
        obtain ⟨hw2, hg2⟩ := entRow_set hw1 (show ii + 1 < k by omega) u0 (by rw [HU0.out]; exact O7.out.lie.wf ii)
        have L78 : Hid (Below W6.heap.size W6 W8) := by
          rw [HW8.out]
          exact (L7.out.grown (grownBy_trans hg1 hg2) L7.out.size (fun b hb => by rw [← Option.some.inj hb]; exact HG7.out)).drew
        have O8 : Hid (entK.Row W8 W6.heap.size (some ⟨g7, 0, none⟩) k c7 (((es.map ofE).set ii u1).set (ii + 1) u0)) := by
          rw [HW8.out]; exact hw2.since (Below.refl _ _).drew
        have hunf : putE (putE W7 g7 (ii * 4) u1) g7 ((ii + 1) * 4) u0 = (((((((W7.setCell ⟨g7, ii * 4, none⟩ (.int .u64 u1.addr)).setCell ⟨g7, ii * 4 + 1, none⟩ (.int .i64 u1.page)).setCell ⟨g7, ii * 4 + 2, none⟩ (.bool u1.dirty)).setCell ⟨g7, ii * 4 + 3, none⟩ (.int .i64 u1.seq)).setCell ⟨g7, (ii + 1) * 4, none⟩ (.int .u64 u0.addr)).setCell ⟨g7, (ii + 1) * 4 + 1, none⟩ (.int .i64 u0.page)).setCell ⟨g7, (ii + 1) * 4 + 2, none⟩ (.bool u0.dirty)).setCell ⟨g7, (ii + 1) * 4 + 3, none⟩ (.int .i64 u0.seq) := rfl
        rw [hunf] at HW8
        rw [← HW8.out]
        have HT8 := Lib.hid (HT6.out.since L78.out)
        obtain ⟨g9, c9, W9, hr9, ho9, hg9, hg9', hb9⟩ := copy_row entK (c := c3) HT8.out.one.lie (by omega) (by omega)
        have R9 := Lib.hid hr9
        obtain ⟨z0, z1, z2, z3⟩ := entRow_cells ho9 (show ii < k by omega)
        obtain ⟨y0, y1, y2, y3⟩ := entRow_cells ho9 (show ii + 1 < k by omega)
        rw [← HU1.out] at y0 y1 y2 y3
        have zf := entRow_free ho9 (ii * 4 + 1)
        obtain ⟨W10, HW10⟩ : ∃ W10 : World, Hid (W10 = W9.setCell ⟨g9, ii * 4 + 1, none⟩ (.int .i64 u1.page)) := ⟨_, rfl⟩
        have hwp : EWf { (es.map ofE).getD ii E.zero with page := u1.page } := by
          have k0 := O7.out.lie.wf ii
          have k1 := O7.out.lie.wf (ii + 1)
          rw [HU1.out]
          exact ⟨k0.a0, k0.a1, k1.p0, k1.p1, k0.s0, k0.s1⟩
        obtain ⟨hw3, hg3'⟩ := entRow_page ho9 (show ii < k by omega) u1.page hwp
        have L810 : Hid (Below W8.heap.size W8 W10) := by
          rw [HW10.out]
          exact hb9.grown hg3' hb9.size (fun b hb => by rw [← Option.some.inj hb]; exact hg9)
        have O10 : Hid (entK.Row W10 W8.heap.size (some ⟨g9, 0, none⟩) k c9 ((es.map ofE).set ii { (es.map ofE).getD ii E.zero with page := u1.page })) := by rw [HW10.out]; exact hw3
        have O810 := Lib.hid (O8.out.since L810.out)
        have S10 := Lib.hid (below_chain HT8.out.below L810.out)
        have hml : (es.map ofE).length = k := by rw [List.length_map, HLE.out]
        have hav : ∀ j, j < k → (getE (es.map ofE) j).addr = (j : Int) := fun j hj => by
          rw [getE_at (by rw [hml]; exact hj), List.getElem_map]
          have : es[j]? = some (mixE 0 j) := by rw [HES.out]; exact mixL_at hj
          rw [List.getElem?_eq_getElem (by rw [HLE.out]; exact hj)] at this
          rw [Option.some.inj this]; rfl
        have HN1 : Hid (mayE (((es.map ofE).set ii u1).set (ii + 1) u0) = false) := by
          rw [HU1.out, HU0.out]
          exact swap_not (by rw [hml]; omega) (by rw [hav ii (by omega), hav (ii + 1) (by omega)]; omega)
        have HN2 : Hid (mayE ((es.map ofE).set ii { (es.map ofE).getD ii E.zero with page := u1.page }) = false) := by
          rw [HU1.out]
          exact twice_not (by rw [hml]; omega)
        have hst : sy.size ≤ 9223372036854775807 := by rw [HSY.out, strOf_size]; have := HOY.out.len; omega
        clear hr9 ho9 hg9 hg9' hb9 hwp hw3 hg3' hml hav hw1 hg1 hw2 hg2 hunf p0 p1 p2 p3 q0 q1 q2 q3 f0 f1 f2 f3 f4 f5 f6 f7 qcell mcell mfree
        go_wp2_with (at_builtin; refine wpList_append_run rfl (.const (.slice none 0 0)) (.tmp 174) 22 rfl rfl rfl R9.out ?_)
        rw [← HW10.out]
        refine (cut_no 128 sy (some ⟨g7, 0, none⟩) k c7 _ W10 hst (by omega) O810.out.lie (fun h => by rw [HN1.out] at h; exact absurd h.2.2 (by simp))).mono ?_
        rintro e W11 ⟨v11, rfl, HW11, hb11⟩
        have S11 := Lib.hid (below_chain S10.out hb11.out)
        have O11 := Lib.hid (O10.out.since hb11.out)
        go_wp2_with fail
        refine (cut_no 128 sy (some ⟨g9, 0, none⟩) k c9 _ W11 hst (by omega) O11.out.lie (fun h => by rw [HN2.out] at h; exact absurd h.2.2 (by simp))).mono ?_
        rintro e W12 ⟨v12, rfl, HW12, hb12⟩
        have S12 := Lib.hid (below_chain S11.out hb12.out)
        have E11 := Lib.hid (HW11.out.since hb12.out)
        go_wp2_with fail
        refine (num_wrong 2 (by omega) v11 _ E11.out).mono ?_
        rintro e w' ⟨rfl, rfl⟩
        go_wp2_with fail
        refine (num_wrong 2 (by omega) v12 _ HW12.out).mono ?_
        rintro e w' ⟨rfl, rfl⟩
        go_wp2_with fail
        refine (awake_any _).mono ?_
        rintro e W13 ⟨rfl, hb13⟩
        have S13 := Lib.hid (below_chain S12.out hb13.out)
        go_wp2_with fail
        go_ret
        exact ⟨rfl, S13⟩
      · have hbx : (sx.toList == sy.toList) = false := by
          rw [HSX.out, HSY.out, str_eqB HOX.out.small HOY.out.small]
          exact decide_eq_false hxy
        have HNJ : Hid (¬ Joint (mixP nx ny es fs kk)) := mixP_not (by rw [HLE.out, HP.out]; exact hkk) (by rw [HLE.out, HP.out]; exact hP2) hxy
        have hly := HLY.out
        rw [HQK.out] at hly
        have HJ := Lib.hid (join_none (some ⟨g3, 0, none⟩) P c3' 128 _ _ _ W5 (by omega) (mixP_pts HOX.out HOY.out HOE.out HOF.out (by rw [HLE.out, HLF.out]) (by rw [HLE.out, HP.out]; exact hkk)) hly HNJ.out)
        clear hly hxy
        refine HJ.out.mono ?_
        rintro e W6 ⟨v6, rfl, HW6, hb6⟩
        have HT6 := Lib.hid (HT5.out.since hb6.out)
        obtain ⟨z6, rfl⟩ := HW6.out.ne
        obtain ⟨ii, hii, HII⟩ := low_nat x4 (k - 1) (by omega)
        rw [show (((k - 1 : Nat)) : Int) = (k : Int) - 1 by omega] at HII
        obtain ⟨g7, c7, W7, hr7, ho7, hg7, hg7', hb7⟩ := copy_row entK (c := c3) HT6.out.one.lie (by omega) (by omega)
        have R7 := Lib.hid hr7
        have O7 := Lib.hid ho7
        have HT7 := Lib.hid (HT6.out.since hb7)
        have HG7 := Lib.hid hg7
        have L7 := Lib.hid hb7
        clear hr7 ho7 hg7 hg7' hb7
        go_wp2_with fail
        refine (low_any x4 ((k : Int) - 1) (by omega) (by omega) _).mono ?_
        rw [HII.out]
        rintro e w' ⟨rfl, rfl⟩
        obtain ⟨u0, HU0⟩ : ∃ u, Hid (u = getE (es.map ofE) ii) := ⟨_, rfl⟩
        obtain ⟨u1, HU1⟩ : ∃ u, Hid (u = getE (es.map ofE) (ii + 1)) := ⟨_, rfl⟩
        obtain ⟨p0, p1, p2, p3⟩ := entRow_cells O7.out (show ii < k by omega)
        obtain ⟨q0, q1, q2, q3⟩ := entRow_cells O7.out (show ii + 1 < k by omega)
        rw [← HU0.out] at p0 p1 p2 p3
        rw [← HU1.out] at q0 q1 q2 q3
        have f0 := entRow_free O7.out (ii * 4)
        have f1 := entRow_free O7.out (ii * 4 + 1)
        have f2 := entRow_free O7.out (ii * 4 + 2)
        have f3 := entRow_free O7.out (ii * 4 + 3)
        have f4 := entRow_free O7.out ((ii + 1) * 4)
        have f5 := entRow_free O7.out ((ii + 1) * 4 + 1)
        have f6 := entRow_free O7.out ((ii + 1) * 4 + 2)
        have f7 := entRow_free O7.out ((ii + 1) * 4 + 3)
        have j0 : (0 : Int) ≤ (ii : Int) := by omega
        have j1 : (ii : Int) < (k : Int) := by omega
        have j2 : (0 : Int) ≤ (ii : Int) + 1 := by omega
        have j3 : (ii : Int) + 1 < (k : Int) := by omega
        go_wp2_with (at_builtin; refine wpList_append_run rfl (.const (.slice none 0 0)) (.tmp 156) 22 rfl rfl rfl R7.out ?_)
        go_region
        obtain ⟨W8, HW8⟩ : ∃ W8 : World, Hid (W8 = (putE (putE W7 g7 (ii * 4) u1) g7 ((ii + 1) * 4) u0).drew) := ⟨_, rfl⟩
        obtain ⟨hw1, hg1⟩ := entRow_set O7.out (show ii < k by omega) u1 (by rw [HU1.out]; exact O7.out.lie.wf (ii + 1))
        obtain ⟨hw2, hg2⟩ := entRow_set hw1 (show ii + 1 < k by omega) u0 (by rw [HU0.out]; exact O7.out.lie.wf ii)
        have L78 : Hid (Below W6.heap.size W6 W8) := by
          rw [HW8.out]
          exact (L7.out.grown (grownBy_trans hg1 hg2) L7.out.size (fun b hb => by rw [← Option.some.inj hb]; exact HG7.out)).drew
        have O8 : Hid (entK.Row W8 W6.heap.size (some ⟨g7, 0, none⟩) k c7 (((es.map ofE).set ii u1).set (ii + 1) u0)) := by
          rw [HW8.out]; exact hw2.since (Below.refl _ _).drew
        have hunf : putE (putE W7 g7 (ii * 4) u1) g7 ((ii + 1) * 4) u0 = (((((((W7.setCell ⟨g7, ii * 4, none⟩ (.int .u64 u1.addr)).setCell ⟨g7, ii * 4 + 1, none⟩ (.int .i64 u1.page)).setCell ⟨g7, ii * 4 + 2, none⟩ (.bool u1.dirty)).setCell ⟨g7, ii * 4 + 3, none⟩ (.int .i64 u1.seq)).setCell ⟨g7, (ii + 1) * 4, none⟩ (.int .u64 u0.addr)).setCell ⟨g7, (ii + 1) * 4 + 1, none⟩ (.int .i64 u0.page)).setCell ⟨g7, (ii + 1) * 4 + 2, none⟩ (.bool u0.dirty)).setCell ⟨g7, (ii + 1) * 4 + 3, none⟩ (.int .i64 u0.seq) := rfl
        rw [hunf] at HW8
        rw [← HW8.out]
        have HT8 := Lib.hid (HT6.out.since L78.out)
        obtain ⟨g9, c9, W9, hr9, ho9, hg9, hg9', hb9⟩ := copy_row entK (c := c3) HT8.out.one.lie (by omega) (by omega)
        have R9 := Lib.hid hr9
        obtain ⟨z0, z1, z2, z3⟩ := entRow_cells ho9 (show ii < k by omega)
        obtain ⟨y0, y1, y2, y3⟩ := entRow_cells ho9 (show ii + 1 < k by omega)
        rw [← HU1.out] at y0 y1 y2 y3
        have zf := entRow_free ho9 (ii * 4 + 1)
        obtain ⟨W10, HW10⟩ : ∃ W10 : World, Hid (W10 = W9.setCell ⟨g9, ii * 4 + 1, none⟩ (.int .i64 u1.page)) := ⟨_, rfl⟩
        have hwp : EWf { (es.map ofE).getD ii E.zero with page := u1.page } := by
          have k0 := O7.out.lie.wf ii
          have k1 := O7.out.lie.wf (ii + 1)
          rw [HU1.out]
          exact ⟨k0.a0, k0.a1, k1.p0, k1.p1, k0.s0, k0.s1⟩
        obtain ⟨hw3, hg3'⟩ := entRow_page ho9 (show ii < k by omega) u1.page hwp
        have L810 : Hid (Below W8.heap.size W8 W10) := by
          rw [HW10.out]
          exact hb9.grown hg3' hb9.size (fun b hb => by rw [← Option.some.inj hb]; exact hg9)
        have O10 : Hid (entK.Row W10 W8.heap.size (some ⟨g9, 0, none⟩) k c9 ((es.map ofE).set ii { (es.map ofE).getD ii E.zero with page := u1.page })) := by rw [HW10.out]; exact hw3
        have O810 := Lib.hid (O8.out.since L810.out)
        have S10 := Lib.hid (below_chain HT8.out.below L810.out)
        have hml : (es.map ofE).length = k := by rw [List.length_map, HLE.out]
        have hav : ∀ j, j < k → (getE (es.map ofE) j).addr = (j : Int) := fun j hj => by
          rw [getE_at (by rw [hml]; exact hj), List.getElem_map]
          have : es[j]? = some (mixE 0 j) := by rw [HES.out]; exact mixL_at hj
          rw [List.getElem?_eq_getElem (by rw [HLE.out]; exact hj)] at this
          rw [Option.some.inj this]; rfl
        have HN1 : Hid (mayE (((es.map ofE).set ii u1).set (ii + 1) u0) = false) := by
          rw [HU1.out, HU0.out]
          exact swap_not (by rw [hml]; omega) (by rw [hav ii (by omega), hav (ii + 1) (by omega)]; omega)
        have HN2 : Hid (mayE ((es.map ofE).set ii { (es.map ofE).getD ii E.zero with page := u1.page }) = false) := by
          rw [HU1.out]
          exact twice_not (by rw [hml]; omega)
        have hst : sx.size ≤ 9223372036854775807 := by rw [HSX.out, strOf_size]; have := HOX.out.len; omega
        clear hr9 ho9 hg9 hg9' hb9 hwp hw3 hg3' hml hav hw1 hg1 hw2 hg2 hunf p0 p1 p2 p3 q0 q1 q2 q3 f0 f1 f2 f3 f4 f5 f6 f7 qcell mcell mfree
        go_wp2_with (at_builtin; refine wpList_append_run rfl (.const (.slice none 0 0)) (.tmp 174) 22 rfl rfl rfl R9.out ?_)
        rw [← HW10.out]
        refine (cut_no 128 sx (some ⟨g7, 0, none⟩) k c7 _ W10 hst (by omega) O810.out.lie (fun h => by rw [HN1.out] at h; exact absurd h.2.2 (by simp))).mono ?_
        rintro e W11 ⟨v11, rfl, HW11, hb11⟩
        have S11 := Lib.hid (below_chain S10.out hb11.out)
        have O11 := Lib.hid (O10.out.since hb11.out)
        go_wp2_with fail
        refine (cut_no 128 sx (some ⟨g9, 0, none⟩) k c9 _ W11 hst (by omega) O11.out.lie (fun h => by rw [HN2.out] at h; exact absurd h.2.2 (by simp))).mono ?_
        rintro e W12 ⟨v12, rfl, HW12, hb12⟩
        have S12 := Lib.hid (below_chain S11.out hb12.out)
        have E11 := Lib.hid (HW11.out.since hb12.out)
        go_wp2_with fail
        refine (num_wrong 2 (by omega) v11 _ E11.out).mono ?_
        rintro e w' ⟨rfl, rfl⟩
        go_wp2_with fail
        refine (num_wrong 2 (by omega) v12 _ HW12.out).mono ?_
        rintro e w' ⟨rfl, rfl⟩
        go_wp2_with fail
        refine (awake_any _).mono ?_
        rintro e W13 ⟨rfl, hb13⟩
        have S13 := Lib.hid (below_chain S12.out hb13.out)
        go_wp2_with fail
        go_ret
        exact ⟨rfl, S13⟩
end Go.Proofs.Ytopfdeihjjikiaa
