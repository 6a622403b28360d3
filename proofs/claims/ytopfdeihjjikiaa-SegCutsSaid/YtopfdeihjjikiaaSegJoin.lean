/- The contracts of seg's joined and Join, of bytes that are parts. Conditions: the slices' cells; at most 300 parts, of one size. -/
import Derived.Test.YtopfdeihjjikiaaSegOf
import Derived.Test.YtopfdeihjjikiaaSegRows
import Derived.Test.YtopfdeihjjikiaaRegion3
import Derived.Test.YtopfdeihjjikiaaWrong
set_option linter.unusedVariables false
set_option linter.unusedSimpArgs false
namespace Go.Proofs.Ytopfdeihjjikiaa
open Go.RowKit

/-- A part's number, how many, label, entries. -/
structure Pt where
  i : Nat
  m : Nat
  nm : List Nat
  ns : List Sg.E
def ptAt (ps : List Pt) (k : Nat) : Pt := ps.getD k ⟨0, 0, [], []⟩
def goodAt (ps : List Pt) (k : Nat) : Prop := (ptAt ps k).i = k ∧ (ptAt ps k).m = ps.length ∧ (k = 0 ∨ (ptAt ps k).nm = (ptAt ps (k - 1)).nm)
def AllGood (ps : List Pt) : Prop := 0 < ps.length ∧ ∀ k, k < ps.length → goodAt ps k
structure Pts (s : Nat) (ps : List Pt) (bss : List (List Nat)) : Prop where
  len : ps.length = bss.length
  each : ∀ k, k < ps.length → Sg.IsPart OkN (bss.getD k []) (ptAt ps k).i (ptAt ps k).m (ptAt ps k).nm (ptAt ps k).ns ∧ (bss.getD k []).length = s
def flatP (ps : List Pt) (k : Nat) : List Sg.E := (ps.take k).flatMap Pt.ns
theorem flatP_next {ps : List Pt} {k : Nat} (h : k < ps.length) : flatP ps (k + 1) = flatP ps k ++ (ptAt ps k).ns := by
  unfold flatP ptAt
  rw [List.take_succ_eq_append_getElem h, List.flatMap_append, List.getD_eq_getElem?_getD, List.getElem?_eq_getElem h]
  simp
theorem str_eqB {a b : List Nat} (ha : ∀ x ∈ a, x < 256) (hb : ∀ x ∈ b, x < 256) : ((strOf a).toList == (strOf b).toList) = sameB a b := by
  rw [← beq_toListBytes]; exact strOf_beq ha hb
theorem run_fieldP2 (g : Nat) (w : World) : (Instr.fieldAt 59 (.pointer (some ⟨g, 0, none⟩)) 2).run Try.prog w = .ok (.pointer (some ⟨g, 2, none⟩)) w := by go_simp
theorem run_fieldP3 (g : Nat) (w : World) : (Instr.fieldAt 59 (.pointer (some ⟨g, 0, none⟩)) 3).run Try.prog w = .ok (.pointer (some ⟨g, 3, none⟩)) w := by go_simp
theorem run_load_str (p : Addr) (s : ByteArray) (w : World) (hc : w.cell? p = some (.string s)) : (Instr.loadAt 9 (.pointer (some p))).run Try.prog w = .ok (.string s) w := by go_simp
theorem run_load_ents (p : Addr) (A : Option Addr) (n c : Nat) (w : World) (hc : w.cell? p = some (.slice A n c)) : (Instr.loadAt 22 (.pointer (some p))).run Try.prog w = .ok (.slice A n c) w := by go_simp
/-- A slice of entries of the call's own. -/
def RowsE (base n : Nat) (us : List Sg.E) (v : Value) (w : World) : Prop := ∃ A c, v = .slice A n c ∧ entK.Row w base A n c (us.map ofE)
theorem rowsE_later {base n : Nat} {us : List Sg.E} {v : Value} {w w' : World} (h : RowsE base n us v w) (hb : Later w w') : RowsE base n us v w' := by
  obtain ⟨A, c, e, ho⟩ := h
  exact ⟨A, c, e, ho.since hb⟩
/-- What joined leaves. -/
def JoinedR (w : World) (ps : List Pt) (e : Ending) (w' : World) : Prop :=
  (AllGood ps → ∃ A n c, e = .returned (.tuple #[.string (strOf (ptAt ps (ps.length - 1)).nm), .slice A n c, .bool true]) ∧ Hid (entK.Row w' w.heap.size A n c ((flatP ps ps.length).map ofE))) ∧
  (¬ AllGood ps → e = .returned (.tuple #[.string ⟨#[]⟩, .slice none 0 0, .bool false])) ∧ Hid (Below w.heap.size w w')
set_option maxHeartbeats 8000000 in
set_option maxRecDepth 20000 in
theorem joined_any (A : Option Addr) (n c s : Nat) (vs : List SV) (ps : List Pt) (bss : List (List Nat)) (w : World) (hn : n ≤ 300) (hP : Pts s ps bss) (hA : Lays w w.heap.size A n vs bss) :
    Calls Try.prog 31 #[.slice A n c] w (JoinedR w ps) := by
  have HA := Lib.hid hA
  have HP := Lib.hid hP
  have HL : Hid (ps.length = n) := hP.len.trans hA.len
  clear hA hP
  go_enter Try.func31, Try.ntmps31
  by_cases h0 : n = 0
  · subst h0
    have HNG : Hid (¬ AllGood ps) := fun h => by have := h.1; rw [HL.out] at this; omega
    go_wp2_with fail
    go_ret3
    exact ⟨fun h => absurd h HNG.out, fun _ => rfl, Below.refl _ _⟩
  · have b0 : ((n : Int) == 0) = false := by simp; omega
    have b0' : (n == 0) = false := by simpa using h0
    go_wp2_with fail
    go_loopw [5, 6, 16] (fun t5 t6 t16 wr => ∃ (k k3 : Nat) (A3 : Option Addr) (c3 : Nat) (sn : ByteArray) (us : List Sg.E), t16 = .int .i64 k ∧ k ≤ n ∧ t5 = .string sn ∧ t6 = .slice A3 k3 c3 ∧ k3 ≤ 14 * k ∧ Hid (0 < k → sn = strOf (ptAt ps (k - 1)).nm) ∧ Hid (us = flatP ps k) ∧ Hid (∀ j, j < k → goodAt ps j) ∧ Hid (entK.Row wr w.heap.size A3 k3 c3 (us.map ofE)) ∧ Hid (Below w.heap.size w wr)) (fun _ _ t16 _ => n - (intOf t16).toNat)
    case atStart => exact ⟨0, 0, none, 0, ⟨#[]⟩, [], rfl, Nat.zero_le _, rfl, rfl, by omega, fun h => absurd h (Nat.not_lt_zero 0), rfl, fun j hj => absurd hj (Nat.not_lt_zero j), Kind.Row.none_, Below.refl _ _⟩
    case round =>
      obtain ⟨k, k3, A3, c3, sn, us, rfl, hk, rfl, rfl, hk3, HSN, HU, HK, HO, HB⟩ := hrel
      by_cases hlt : k < n
      · have HAr := Lib.hid (HA.out.since HB.out)
        obtain ⟨ad, A1, n1, c1, hA, hblk, hcell, hc1, hby⟩ := HAr.out.at_ hlt
        obtain ⟨hpt, hps⟩ := HP.out.each k (by rw [HL.out]; exact hlt)
        obtain rfl : s = n1 := by rw [← hby.len]; exact hps.symm
        obtain ⟨ad', A0, n0, c0, hA', _, hcell0, _, hby0⟩ := HAr.out.at_ (show 0 < n by omega)
        obtain rfl : s = n0 := by rw [← hby0.len]; exact (HP.out.each 0 (by rw [HL.out]; omega)).2.symm
        subst hA
        obtain rfl := Option.some.inj hA'
        rw [add_none] at hcell0
        obtain ⟨pk, HPK⟩ : ∃ pk, Hid (pk = ptAt ps k) := ⟨_, rfl⟩
        rw [← HPK.out] at hpt
        have C1 := Lib.hid (partof_any A1 s c1 pk.i pk.m pk.nm pk.ns _ wr hc1 hpt hby)
        have HNS : Hid (pk.ns.length ≤ 14) := by
          have h1 := hpt.few
          rw [hps] at h1
          have h2 := hpt.size
          rw [hps] at h2
          have := (Sg.each_bd h2).2.1
          show _ ≤ _; omega
        have HNMK := Lib.hid hpt.name
        have HC0 := Lib.hid hcell0
        have i0 : (0 : Int) ≤ (k : Int) := by omega
        have i1 : (k : Int) < (n : Int) := by omega
        clear hpt hps hby hby0 hA'
        go_wp2_with fail
        refine C1.out.mono ?_
        rintro e W5 ⟨A5, n5, c5, rfl, O5, S5⟩
        obtain ⟨pi, pm, pnm, pns⟩ := pk
        dsimp only at O5 HNS HNMK ⊢
        obtain ⟨st, HST⟩ : ∃ st, Hid (st = strOf pnm) := ⟨_, rfl⟩
        have HPV : Hid (partV pi pm pnm A5 n5 c5 = .agg #[.int .i64 (pi : Int), .int .i64 (pm : Int), .string st, .slice A5 n5 c5]) := by rw [HST.out]; rfl
        rw [HPV.out]
        have hn5 : n5 ≤ 14 := by have := O5.out.len; rw [List.length_map] at this; rw [← this]; exact HNS.out
        obtain ⟨Wa, HWA⟩ : ∃ Wa : World, Hid (Wa = W5.alloc (.cells #[.int .i64 (pi : Int), .int .i64 (pm : Int), .string st, .slice A5 n5 c5] 59)) := ⟨_, rfl⟩
        have LA : Hid (Below W5.heap.size W5 Wa) := by rw [HWA.out]; exact later_alloc _ _
        have PA : Hid (RowP Wa W5.heap.size pi pm st A5 n5 c5) := by rw [HWA.out]; exact rowP_new W5 pi pm st A5 n5 c5
        obtain ⟨g, HG⟩ : ∃ g, Hid (g = W5.heap.size) := ⟨_, rfl⟩
        rw [← HG.out] at PA
        have S5A := Lib.hid (below_chain S5.out LA.out)
        have SA := Lib.hid (below_chain HB.out S5A.out)
        have OA := Lib.hid (HO.out.since S5A.out)
        have EA := Lib.hid (O5.out.since LA.out)
        have hg1 : wr.heap.size ≤ g := by rw [HG.out]; exact S5.out.size
        have HOB : Hid (∀ b, (Value.slice A3 k3 c3).ownBlock = some b → b < g) := fun b hb => Nat.lt_of_lt_of_le (HO.out.row.lt b hb).2 hg1
        obtain ⟨p0, p1, p2, p3⟩ := PA.out.at_
        have hcell0 := later_cell S5A.out HC0.out
        rw [HWA.out, HG.out] at p0 p1 p2 p3
        rw [HWA.out] at hcell0
        have SX := SA.out
        rw [HWA.out] at SX
        have HSX := Lib.hid SX
        clear SX
        clear HC0 C1 hcell hc1
        by_cases h1 : pi = k
        · subst h1
          have e1 : ((pi : Int) == (pi : Int)) = true := by simp
          by_cases h2 : pm = n
          · subst h2
            by_cases h3 : pi = 0 ∨ pnm = (ptAt ps (pi - 1)).nm
            · have HGA : Hid (goodAt ps pi) := by
                show _ ∧ _
                unfold goodAt at *
                rw [← HPK.out]
                exact ⟨rfl, HL.out.symm, h3⟩
              have heq : 0 < pi → (st.toList == sn.toList) = true := fun hp => by
                rw [HST.out, HSN.out hp]
                rcases h3 with h3 | h3
                · omega
                · rw [h3]; simp
              have HEQ := Lib.hid heq
              clear h3 heq
              obtain ⟨Wd, HDW⟩ : ∃ Wd : World, Hid (Wd = Wa.drew) := ⟨_, rfl⟩
              have LD : Hid (Below Wa.heap.size Wa Wd) := by rw [HDW.out]; exact (Below.refl _ _).drew
              have PD := Lib.hid (PA.out.since LD.out)
              rw [HG.out] at PD
              have OD := Lib.hid (OA.out.since LD.out)
              have ED := Lib.hid (EA.out.since LD.out)
              have SD := Lib.hid (below_chain SA.out LD.out)
              have HNE : Hid (some W5.heap.size ≠ (Value.slice A3 k3 c3).ownBlock) := fun e => by have := HOB.out _ e.symm; rw [HG.out] at this; omega
              have HOB2 : Hid (∀ b, (Value.slice A3 k3 c3).ownBlock = some b → w.heap.size ≤ b) := fun b hb => (HO.out.row.lt b hb).1
              by_cases hp : 0 < pi
              · have hp' : (0 : Int) < (pi : Int) := by omega
                have heq := HEQ.out hp
                go_wp2_with fail
                rw [← HWA.out]
                refine region_of_steps3 (by kernel_rfl) (fact2Of [.is (.pointer (some ⟨W5.heap.size, 2, none⟩)), .is (.string st), .is (.slice A3 k3 c3), .is (.pointer (some ⟨W5.heap.size, 3, none⟩)), .is (.slice A5 n5 c5), .that (RowsE w.heap.size (k3 + n5) (us ++ pns)) (fun _ _ _ h k => rowsE_later h k), .is (.string st), .that (RowsE w.heap.size (k3 + n5) (us ++ pns)) (fun _ _ _ h k => rowsE_later h k)]) (deadOf []) (ButRow 5 (Value.slice A3 k3 c3).ownBlock) (UntilRow 5 (Value.slice A3 k3 c3).ownBlock Wd) (by kernel_rfl)
                  (fun i j v w w' hm hd hn h hR => fact2_stays_row _ _ 5 _ [] (hds_of (by kernel_rfl)) i j v w w' hm hd hn h hR) (fun listed j w w' h hl k => untilrow_step h hl k) (fun listed => by rw [← HDW.out]; exact untilrow_start listed) ?_ ?_
                · refine Steps3.cons ?_ (Steps3.cons ?_ (Steps3.cons ?_ (Steps3.cons ?_ (Steps3.cons ?_ (Steps3.cons ?_ (Steps3.cons ?_ (Steps3.cons ?_ (Steps3.nil))))))))
                  · intro listed a W H hw hl hd
                    have t9 : a.tmps.getD 9 undef = .pointer (some ⟨W5.heap.size, 0, none⟩) := (H.old 9 (by kernel_rfl)).trans rfl
                    exact step2_value (i := 0) rfl rfl (run_op_fieldAddr rfl t9 (run_fieldP2 _ W)) (butrow_refl _) rfl
                  · intro listed a W H hw hl hd
                    have t58 : a.tmps.getD 58 undef = .pointer (some ⟨W5.heap.size, 2, none⟩) := H.get 0 58 (by kernel_rfl) (dep_of hd 0 (by kernel_rfl)) (alive_none (by kernel_rfl))
                    exact step2_value (i := 1) rfl rfl (run_op_load rfl t58 (run_load_str _ _ W (PD.out.else_ hw.1 HNE.out).at_.c2)) (butrow_refl _) rfl
                  · intro listed a W H hw hl hd
                    have t6 : a.tmps.getD 6 undef = .slice A3 k3 c3 := (H.before 6 7 2 (by kernel_rfl) (by kernel_rfl) hl).trans rfl
                    exact step2_value (i := 2) rfl rfl (run_op_move rfl t6) (butrow_refl _) rfl
                  · intro listed a W H hw hl hd
                    have t9 : a.tmps.getD 9 undef = .pointer (some ⟨W5.heap.size, 0, none⟩) := (H.old 9 (by kernel_rfl)).trans rfl
                    exact step2_value (i := 3) rfl rfl (run_op_fieldAddr rfl t9 (run_fieldP3 _ W)) (butrow_refl _) rfl
                  · intro listed a W H hw hl hd
                    have t61 : a.tmps.getD 61 undef = .pointer (some ⟨W5.heap.size, 3, none⟩) := H.get 3 61 (by kernel_rfl) (dep_of hd 3 (by kernel_rfl)) (alive_none (by kernel_rfl))
                    exact step2_value (i := 4) rfl rfl (run_op_load rfl t61 (run_load_ents _ _ _ _ W (PD.out.else_ hw.1 HNE.out).at_.c3)) (butrow_refl _) rfl
                  · intro listed a W H hw hl hd
                    have t60 : a.tmps.getD 60 undef = .slice A3 k3 c3 := H.get 2 60 (by kernel_rfl) (dep_of hd 2 (by kernel_rfl)) (alive_none (by kernel_rfl))
                    have t62 : a.tmps.getD 62 undef = .slice A5 n5 c5 := H.get 4 62 (by kernel_rfl) (dep_of hd 4 (by kernel_rfl)) (alive_none (by kernel_rfl))
                    have hla := hw.2 hl
                    obtain ⟨A2, c2, W2, hr, ho, hg⟩ := Kind.append_b (c' := c5) (Nat.le_trans SD.out.size hw.1.size) (OD.out.since hla) (ED.out.since hla).lie (by omega)
                    exact step2_value (i := 5) rfl rfl (run_op_append rfl t60 t62 hr) (butrow_own hg) ⟨A2, c2, rfl, by rw [List.map_append]; exact ho⟩
                  · intro listed a W H hw hl hd
                    have t59 : a.tmps.getD 59 undef = .string st := H.get 1 59 (by kernel_rfl) (dep_of hd 1 (by kernel_rfl)) (alive_none (by kernel_rfl))
                    exact step2_value (i := 6) rfl rfl (run_op_assign rfl t59) (butrow_refl _) rfl
                  · intro listed a W H hw hl hd
                    have T63 : RowsE w.heap.size (k3 + n5) (us ++ pns) (a.tmps.getD 63 undef) W := H.get 5 63 (by kernel_rfl) (dep_of hd 5 (by kernel_rfl)) (alive_none (by kernel_rfl))
                    exact step2_value (i := 7) rfl rfl (run_op_assign rfl rfl) (butrow_refl _) T63
                · intro a WC listed hdef hsz hw hall hact
                  have t5 : a.tmps.getD 5 undef = .string st := hall 6 _ rfl (by kernel_rfl)
                  have T6 : RowsE w.heap.size (k3 + n5) (us ++ pns) (a.tmps.getD 6 undef) WC := hall 7 _ rfl (by kernel_rfl)
                  obtain ⟨A6, c6, t6, o6⟩ := T6
                  obtain ⟨u, hu⟩ : ∃ u : Nat → Value, ∀ k, a.tmps.getD k undef = u k := ⟨_, fun _ => rfl⟩
                  simp only [hu] at hact t5 t6
                  have hact' : a = ([58, 59, 60, 61, 62, 63, 5, 6] : List Nat).foldl (fun b k => b.put (some k) (u k)) _ := hact
                  simp only [List.foldl, t5, t6] at hact'
                  simp only [Act.put, List.setIfInBounds_toArray, List.set_cons_succ, List.set_cons_zero] at hact'
                  have HACT := Lib.hid hact'
                  have SC : Hid (Below w.heap.size w WC) := SD.out.grown hw.1 SD.out.size HOB2.out
                  have OC := Lib.hid o6
                  have HGK : Hid (∀ j, j < pi + 1 → goodAt ps j) := fun j hj => by
                    by_cases e : j = pi
                    · rw [e]; exact HGA.out
                    · exact HK.out j (by omega)
                  have HUC : Hid (us ++ pns = flatP ps (pi + 1)) := by
                    show _ = _
                    rw [flatP_next (by rw [HL.out]; exact hlt), ← HPK.out, HU.out]
                  have HSC : Hid (0 < pi + 1 → st = strOf (ptAt ps (pi + 1 - 1)).nm) := fun _ => by rw [Nat.add_sub_cancel, ← HPK.out]; exact HST.out
                  clear hu hact hact' t5 t6 hall hdef hsz hw o6
                  rw [HACT.out]
                  go_wp2_with fail
                  go_roundw
                  case rel => exact ⟨pi + 1, k3 + n5, A6, c6, st, _, by go_num, by omega, rfl, rfl, by omega, HSC, HUC, HGK, OC, SC⟩
                  case measure => simp [intOf]; omega
              · have hp' : ¬ (0 : Int) < (pi : Int) := by omega
                go_wp2_with fail
                rw [← HWA.out]
                refine region_of_steps3 (by kernel_rfl) (fact2Of [.is (.pointer (some ⟨W5.heap.size, 2, none⟩)), .is (.string st), .is (.slice A3 k3 c3), .is (.pointer (some ⟨W5.heap.size, 3, none⟩)), .is (.slice A5 n5 c5), .that (RowsE w.heap.size (k3 + n5) (us ++ pns)) (fun _ _ _ h k => rowsE_later h k), .is (.string st), .that (RowsE w.heap.size (k3 + n5) (us ++ pns)) (fun _ _ _ h k => rowsE_later h k)]) (deadOf []) (ButRow 5 (Value.slice A3 k3 c3).ownBlock) (UntilRow 5 (Value.slice A3 k3 c3).ownBlock Wd) (by kernel_rfl)
                  (fun i j v w w' hm hd hn h hR => fact2_stays_row _ _ 5 _ [] (hds_of (by kernel_rfl)) i j v w w' hm hd hn h hR) (fun listed j w w' h hl k => untilrow_step h hl k) (fun listed => by rw [← HDW.out]; exact untilrow_start listed) ?_ ?_
                · refine Steps3.cons ?_ (Steps3.cons ?_ (Steps3.cons ?_ (Steps3.cons ?_ (Steps3.cons ?_ (Steps3.cons ?_ (Steps3.cons ?_ (Steps3.cons ?_ (Steps3.nil))))))))
                  · intro listed a W H hw hl hd
                    have t9 : a.tmps.getD 9 undef = .pointer (some ⟨W5.heap.size, 0, none⟩) := (H.old 9 (by kernel_rfl)).trans rfl
                    exact step2_value (i := 0) rfl rfl (run_op_fieldAddr rfl t9 (run_fieldP2 _ W)) (butrow_refl _) rfl
                  · intro listed a W H hw hl hd
                    have t58 : a.tmps.getD 58 undef = .pointer (some ⟨W5.heap.size, 2, none⟩) := H.get 0 58 (by kernel_rfl) (dep_of hd 0 (by kernel_rfl)) (alive_none (by kernel_rfl))
                    exact step2_value (i := 1) rfl rfl (run_op_load rfl t58 (run_load_str _ _ W (PD.out.else_ hw.1 HNE.out).at_.c2)) (butrow_refl _) rfl
                  · intro listed a W H hw hl hd
                    have t6 : a.tmps.getD 6 undef = .slice A3 k3 c3 := (H.before 6 7 2 (by kernel_rfl) (by kernel_rfl) hl).trans rfl
                    exact step2_value (i := 2) rfl rfl (run_op_move rfl t6) (butrow_refl _) rfl
                  · intro listed a W H hw hl hd
                    have t9 : a.tmps.getD 9 undef = .pointer (some ⟨W5.heap.size, 0, none⟩) := (H.old 9 (by kernel_rfl)).trans rfl
                    exact step2_value (i := 3) rfl rfl (run_op_fieldAddr rfl t9 (run_fieldP3 _ W)) (butrow_refl _) rfl
                  · intro listed a W H hw hl hd
                    have t61 : a.tmps.getD 61 undef = .pointer (some ⟨W5.heap.size, 3, none⟩) := H.get 3 61 (by kernel_rfl) (dep_of hd 3 (by kernel_rfl)) (alive_none (by kernel_rfl))
                    exact step2_value (i := 4) rfl rfl (run_op_load rfl t61 (run_load_ents _ _ _ _ W (PD.out.else_ hw.1 HNE.out).at_.c3)) (butrow_refl _) rfl
                  · intro listed a W H hw hl hd
                    have t60 : a.tmps.getD 60 undef = .slice A3 k3 c3 := H.get 2 60 (by kernel_rfl) (dep_of hd 2 (by kernel_rfl)) (alive_none (by kernel_rfl))
                    have t62 : a.tmps.getD 62 undef = .slice A5 n5 c5 := H.get 4 62 (by kernel_rfl) (dep_of hd 4 (by kernel_rfl)) (alive_none (by kernel_rfl))
                    have hla := hw.2 hl
                    obtain ⟨A2, c2, W2, hr, ho, hg⟩ := Kind.append_b (c' := c5) (Nat.le_trans SD.out.size hw.1.size) (OD.out.since hla) (ED.out.since hla).lie (by omega)
                    exact step2_value (i := 5) rfl rfl (run_op_append rfl t60 t62 hr) (butrow_own hg) ⟨A2, c2, rfl, by rw [List.map_append]; exact ho⟩
                  · intro listed a W H hw hl hd
                    have t59 : a.tmps.getD 59 undef = .string st := H.get 1 59 (by kernel_rfl) (dep_of hd 1 (by kernel_rfl)) (alive_none (by kernel_rfl))
                    exact step2_value (i := 6) rfl rfl (run_op_assign rfl t59) (butrow_refl _) rfl
                  · intro listed a W H hw hl hd
                    have T63 : RowsE w.heap.size (k3 + n5) (us ++ pns) (a.tmps.getD 63 undef) W := H.get 5 63 (by kernel_rfl) (dep_of hd 5 (by kernel_rfl)) (alive_none (by kernel_rfl))
                    exact step2_value (i := 7) rfl rfl (run_op_assign rfl rfl) (butrow_refl _) T63
                · intro a WC listed hdef hsz hw hall hact
                  have t5 : a.tmps.getD 5 undef = .string st := hall 6 _ rfl (by kernel_rfl)
                  have T6 : RowsE w.heap.size (k3 + n5) (us ++ pns) (a.tmps.getD 6 undef) WC := hall 7 _ rfl (by kernel_rfl)
                  obtain ⟨A6, c6, t6, o6⟩ := T6
                  obtain ⟨u, hu⟩ : ∃ u : Nat → Value, ∀ k, a.tmps.getD k undef = u k := ⟨_, fun _ => rfl⟩
                  simp only [hu] at hact t5 t6
                  have hact' : a = ([58, 59, 60, 61, 62, 63, 5, 6] : List Nat).foldl (fun b k => b.put (some k) (u k)) _ := hact
                  simp only [List.foldl, t5, t6] at hact'
                  simp only [Act.put, List.setIfInBounds_toArray, List.set_cons_succ, List.set_cons_zero] at hact'
                  have HACT := Lib.hid hact'
                  have SC : Hid (Below w.heap.size w WC) := SD.out.grown hw.1 SD.out.size HOB2.out
                  have OC := Lib.hid o6
                  have HGK : Hid (∀ j, j < pi + 1 → goodAt ps j) := fun j hj => by
                    by_cases e : j = pi
                    · rw [e]; exact HGA.out
                    · exact HK.out j (by omega)
                  have HUC : Hid (us ++ pns = flatP ps (pi + 1)) := by
                    show _ = _
                    rw [flatP_next (by rw [HL.out]; exact hlt), ← HPK.out, HU.out]
                  have HSC : Hid (0 < pi + 1 → st = strOf (ptAt ps (pi + 1 - 1)).nm) := fun _ => by rw [Nat.add_sub_cancel, ← HPK.out]; exact HST.out
                  clear hu hact hact' t5 t6 hall hdef hsz hw o6
                  rw [HACT.out]
                  go_wp2_with fail
                  go_roundw
                  case rel => exact ⟨pi + 1, k3 + n5, A6, c6, st, _, by go_num, by omega, rfl, rfl, by omega, HSC, HUC, HGK, OC, SC⟩
                  case measure => simp [intOf]; omega
            · have HNG : Hid (¬ AllGood ps) := fun h => by
                have := h.2 pi (by rw [HL.out]; exact hlt)
                unfold goodAt at this
                rw [← HPK.out] at this
                exact h3 this.2.2
              have hp : 0 < pi := by omega
              have hp' : (0 : Int) < (pi : Int) := by omega
              have heq : (st.toList == sn.toList) = false := by
                rw [HST.out, HSN.out hp]
                have h4 : ptAt ps (pi - 1) = ptAt ps (pi - 1) := rfl
                have := (HP.out.each (pi - 1) (by rw [HL.out]; omega)).1.name.small
                rw [str_eqB HNMK.out.small this]
                exact decide_eq_false (fun e => h3 (Or.inr e))
              clear h3
              go_wp2_with fail
              go_ret3
              exact ⟨fun h => absurd h HNG.out, fun _ => rfl, HSX.out⟩
          · have HNG : Hid (¬ AllGood ps) := fun h => by
              have := (h.2 pi (by rw [HL.out]; exact hlt)).2.1
              rw [← HPK.out, HL.out] at this
              exact h2 this
            have e2 : ((pm : Int) == (n : Int)) = false := by simp; omega
            have e2' : ¬ (pm : Int) = (n : Int) := by omega
            go_wp2_with fail
            go_ret3
            exact ⟨fun h => absurd h HNG.out, fun _ => rfl, HSX.out⟩
        · have HNG : Hid (¬ AllGood ps) := fun h => by
            have := (h.2 k (by rw [HL.out]; exact hlt)).1
            rw [← HPK.out] at this
            exact h1 this
          have e1 : ((pi : Int) == (k : Int)) = false := by simp; omega
          have e1' : ¬ (pi : Int) = (k : Int) := by omega
          go_wp2_with fail
          go_ret3
          exact ⟨fun h => absurd h HNG.out, fun _ => rfl, HSX.out⟩
      · obtain rfl : k = n := by omega
        have HAG : Hid (AllGood ps) := ⟨by rw [HL.out]; omega, fun j hj => HK.out j (by rw [HL.out] at hj; exact hj)⟩
        have HSE : Hid (sn = strOf (ptAt ps (ps.length - 1)).nm) := by show _ = _; rw [HL.out]; exact HSN.out (by omega)
        go_wp2_with fail
        go_ret3
        have hse := HSE.out
        subst hse
        refine ⟨fun _ => ⟨A3, k3, c3, rfl, ?_⟩, fun h => absurd HAG.out h, HB⟩
        rw [HL.out, ← HU.out]; exact HO
/-- What is joined, if it is. -/
def Joint (ps : List Pt) : Prop := AllGood ps ∧ Sg.Ok (flatP ps ps.length)
def JoinOut (w : World) (ps : List Pt) (e : Ending) (w' : World) : Prop :=
  (Joint ps → ∃ A n c, e = .returned (.tuple #[.string (strOf (ptAt ps (ps.length - 1)).nm), .slice A n c, .nilIface]) ∧ Hid (entK.Row w' w.heap.size A n c ((flatP ps ps.length).map ofE))) ∧
  (¬ Joint ps → ∃ v, e = .returned (.tuple #[.string ⟨#[]⟩, .slice none 0 0, v]) ∧ Hid (Wrong 3 w' v)) ∧ Hid (Below w.heap.size w w')
theorem flatP_ok {s : Nat} {ps : List Pt} {bss : List (List Nat)} (h : Pts s ps bss) (k : Nat) : ∀ e ∈ flatP ps k, Sg.OkE e := by
  intro e he
  unfold flatP at he
  obtain ⟨p, hp, hpe⟩ := List.mem_flatMap.1 he
  obtain ⟨i, hi, rfl⟩ := List.mem_iff_getElem.1 (List.mem_of_mem_take hp)
  have := (h.each i hi).1.ok.each
  unfold ptAt at this
  rw [List.getD_eq_getElem?_getD, List.getElem?_eq_getElem hi] at this
  exact this e hpe
set_option maxHeartbeats 4000000 in
theorem join_any (A : Option Addr) (n c s : Nat) (vs : List SV) (ps : List Pt) (bss : List (List Nat)) (w : World) (hn : n ≤ 300) (hP : Pts s ps bss) (hA : Lays w w.heap.size A n vs bss) :
    Calls Try.prog 21 #[.slice A n c] w (JoinOut w ps) := by
  have C1 := Lib.hid (joined_any A n c s vs ps bss w hn hP hA)
  have HFO := Lib.hid (flatP_ok hP ps.length)
  clear hP hA
  go_enter Try.func21, Try.ntmps21
  go_wp2_with fail
  refine C1.out.mono ?_
  rintro e W1 ⟨h1, h2, S1⟩
  by_cases hg : AllGood ps
  · obtain ⟨A1, n1, c1, rfl, O1⟩ := h1 hg
    have HG := Lib.hid hg
    clear h1 h2 hg
    have hn1 : n1 ≤ 9223372036854775807 := by
      rcases O1.out.row.2 with ⟨_, h⟩ | ⟨g, cap, cur, hv, _, _, hnc, hcm, _⟩
      · omega
      · unfold maxLen at hcm; omega
    obtain ⟨st, HST⟩ : ∃ st, Hid (st = strOf (ptAt ps (ps.length - 1)).nm) := ⟨_, rfl⟩
    rw [← HST.out]
    go_wp2_with fail
    refine (segmay_any A1 n1 c1 _ _ hn1 O1.out.lie).mono ?_
    cases hm : mayE ((flatP ps ps.length).map ofE)
    · rintro e W2 ⟨rfl, hb2⟩
      have HNJ : Hid (¬ Joint ps) := fun h => by rw [ok_mayE h.2] at hm; cases hm
      have S2 := Lib.hid (below_chain S1.out hb2.out)
      clear hm
      go_wp2_with fail
      go_ret3
      exact ⟨fun h => absurd h HNJ.out, fun _ => ⟨_, rfl, ⟨_, _, rfl, cell_first rfl, cell_first rfl⟩⟩, since_alloc S2.out _⟩
    · rintro e W2 ⟨rfl, hb2⟩
      have HJ : Hid (Joint ps) := ⟨HG.out, (mayE_iff HFO.out).1 hm⟩
      have S2 := Lib.hid (below_chain S1.out hb2.out)
      have O2 := Lib.hid (O1.out.since hb2.out)
      clear hm
      go_wp2_with fail
      go_ret3
      have hse := HST.out
      subst hse
      exact ⟨fun _ => ⟨A1, n1, c1, rfl, O2⟩, fun h => absurd HJ.out h, S2⟩
  · obtain rfl := h2 hg
    have HNJ : Hid (¬ Joint ps) := fun h => hg h.1
    clear h1 h2 hg
    go_wp2_with fail
    go_ret3
    exact ⟨fun h => absurd h HNJ.out, fun _ => ⟨_, rfl, ⟨_, _, rfl, cell_first rfl, cell_first rfl⟩⟩, since_alloc S1.out _⟩
end Go.Proofs.Ytopfdeihjjikiaa
