/- TallyNames: true, whatever its arguments are. No conditions. -/
import Derived.Test.YtgenkmihbnkakaaDoorTalAwake
import Derived.Test.YtgenkmihbnkakaaDoorTalNames
import Derived.Test.YtgenkmihbnkakaaDoorRuneK
import Derived.Test.YtgenkmihbnkakaaDoorShared
import Derived.BigQuiet
set_option linter.unusedVariables false
set_option linter.unusedSimpArgs false
set_option maxRecDepth 20000
namespace Go.Proofs.YtgenkmihbnkakaaDoor
open Go Go.RowKit

def lit7 : Array Value := #[.int .i32 97, .int .i32 26085, .int .i32 90, .int .i32 233, .int .i32 95, .int .i32 26412, .int .i32 55]
theorem lit7_at {q : Nat} (h : q < 7) : lit7[q]? = some (.int .i32 (rl7.getD q 0)) := by
  match q, h with
  | 0, _ => rfl
  | 1, _ => rfl
  | 2, _ => rfl
  | 3, _ => rfl
  | 4, _ => rfl
  | 5, _ => rfl
  | 6, _ => rfl
theorem tdiv_bd {x : Int} {i : Nat} (h0 : -9223372036854775808 ≤ x) (h1 : x ≤ 9223372036854775807) (hi : i ≤ 12) : -9223372036854775808 ≤ x.tdiv ((i : Int) + 1) ∧ x.tdiv ((i : Int) + 1) ≤ 9223372036854775807 ∧ -9223372036854775808 ≤ x.tdiv ((i : Int) + 1) + i ∧ x.tdiv ((i : Int) + 1) + i ≤ 9223372036854775807 := by
  rcases i with _ | i
  · simp
    omega
  · have hn := Int.natAbs_tdiv x ((i + 1 : Nat) + 1)
    have h2 : x.natAbs / ((((i + 1 : Nat) : Int) + 1).natAbs) ≤ x.natAbs / 2 := Nat.div_le_div_left (by omega) (by decide)
    have h3 : (x.tdiv (((i + 1 : Nat) : Int) + 1)).natAbs ≤ x.natAbs / 2 := by rw [hn]; exact h2
    generalize x.tdiv (((i + 1 : Nat) : Int) + 1) = y at *
    omega
set_option maxHeartbeats 16000000 in
set_option maxRecDepth 100000 in
theorem names_law (xw xm xd xc xl : Int) (w : World) (HT0 : T10 w) (zw : -9223372036854775808 ≤ xw ∧ xw ≤ 9223372036854775807) :
    Calls Tryd.prog 6 #[.int .i64 xw, .int .i64 xm, .int .i64 xd, .int .i64 xc, .int .i64 xl] w (SaysB w true) := by
  have HT := Lib.hid HT0
  clear HT0
  have HL := Lib.hid (fun (x n : Int) (h1 : 1 ≤ n) (h2 : n ≤ 1000000) (W : World) => low_any x n h1 h2 W)
  obtain ⟨W0, HW0⟩ : ∃ W, Hid (w.alloc (.cells lit7 21) = W) := ⟨_, rfl⟩
  obtain ⟨g, HG⟩ : ∃ g, Hid (w.heap.size = g) := ⟨_, rfl⟩
  have S0 : Hid (Below w.heap.size w W0) := by show Below _ _ _; rw [← HW0.out]; exact (Below.refl _ _).alloc (Nat.le_refl _) _
  have HGL : Hid (g < W0.heap.size) := by show _ < _; rw [← HW0.out, ← HG.out]; simp
  have HC7 : Hid (∀ q, q < 7 → W0.cell? ⟨g, q, none⟩ = some (.int .i32 (rl7.getD q 0))) := fun q hq => by
    rw [← HW0.out, ← HG.out, cell_of_row _ _ q _ _ _ (heap_alloc_new w _)]
    exact lit7_at hq
  have HZW := Lib.hid zw
  clear zw
  have bm := lowM_bd xm 12 (by decide)
  obtain ⟨M, hM⟩ : ∃ z, lowM xm 12 = z := ⟨_, rfl⟩
  rw [hM] at bm
  obtain ⟨bm0, bm1⟩ := bm
  have Cm := Lib.hid (fun W => HL.out xm 12 (by decide) (by decide) W)
  simp only [hM] at Cm
  clear hM
  have bd := lowM_bd xd 10000 (by decide)
  obtain ⟨D, hD⟩ : ∃ z, lowM xd 10000 = z := ⟨_, rfl⟩
  rw [hD] at bd
  obtain ⟨bd0, bd1⟩ := bd
  have Cd := Lib.hid (fun W => HL.out xd 10000 (by decide) (by decide) W)
  simp only [hD] at Cd
  clear hD
  have bc := lowM_bd xc 10000 (by decide)
  obtain ⟨C, hC⟩ : ∃ z, lowM xc 10000 = z := ⟨_, rfl⟩
  rw [hC] at bc
  obtain ⟨bc0, bc1⟩ := bc
  have Cc := Lib.hid (fun W => HL.out xc 10000 (by decide) (by decide) W)
  simp only [hC] at Cc
  clear hC
  have bl := lowM_bd xl 10000 (by decide)
  obtain ⟨E, hE⟩ : ∃ z, lowM xl 10000 = z := ⟨_, rfl⟩
  rw [hE] at bl
  obtain ⟨bl0, bl1⟩ := bl
  have Cl := Lib.hid (fun W => HL.out xl 10000 (by decide) (by decide) W)
  simp only [hE] at Cl
  clear hE
  obtain ⟨m, rfl⟩ : ∃ m : Nat, M = (m : Int) := ⟨M.toNat, by omega⟩
  have HFD : Hid (fineT D ∧ fineT C ∧ fineT E) := by exact ⟨⟨bd0, by omega⟩, ⟨bc0, by omega⟩, ⟨bl0, by omega⟩⟩
  go_enter Tryd.func6, Tryd.ntmps6
  go_wp2_with fail
  have e0 := HW0.out
  unfold lit7 at e0
  rw [e0, HG.out]
  clear e0
  go_loopw [12, 13] (fun t12 t13 wr => ∃ (i : Nat) (A : Option Addr) (c : Nat) (rs : List Int), t13 = .int .i64 i ∧ i ≤ m + 1 ∧ t12 = .slice A i c ∧ Hid (runeK.Row wr W0.heap.size A i c rs) ∧ Hid (All7 rs) ∧ Hid (Below W0.heap.size W0 wr)) (fun _ t13 _ => m + 1 - (intOf t13).toNat)
  case atStart => exact ⟨0, none, 0, [], rfl, Nat.zero_le _, rfl, Kind.Row.none_, (fun r hr => (by cases hr) : All7 []), Below.refl _ _⟩
  case round =>
    obtain ⟨i, A, c, rs, rfl, hi, rfl, HR, HA, HB⟩ := hrel
    have i0 : (0 : Int) ≤ (i : Int) := by omega
    by_cases hlt : i < m + 1
    · have i1 : (i : Int) < 1 + (m : Int) := by omega
      obtain ⟨y0, y1, y2, y3⟩ := tdiv_bd (i := i) HZW.out.1 HZW.out.2 (by omega)
      obtain ⟨y, hy⟩ : ∃ y, xw.tdiv ((i : Int) + 1) = y := ⟨_, rfl⟩
      rw [hy] at y0 y1 y2 y3
      have bq := lowM_bd (y + i) 7 (by decide)
      obtain ⟨q, hq⟩ : ∃ q : Nat, lowM (y + i) 7 = (q : Int) := ⟨(lowM (y + i) 7).toNat, by omega⟩
      have q7 : q < 7 := by omega
      have CQ := Lib.hid (HL.out (y + i) 7 (by decide) (by decide) wr)
      rw [hq] at CQ
      have hcq : wr.cell? ⟨g, q, none⟩ = some (.int .i32 (rl7.getD q 0)) := (HB.out.cell HGL.out).trans (HC7.out q q7)
      have HM7 := Lib.hid (rl7_at q7)
      obtain ⟨r, hr⟩ : ∃ r, rl7.getD q 0 = r := ⟨_, rfl⟩
      rw [hr] at hcq HM7
      have hrw : runeK.wf r := by have := (all7_good (rs := [r]) fun x hx => by rw [List.mem_singleton.1 hx]; exact HM7.out).low r List.mem_cons_self; show _ ≤ _ ∧ _ ≤ _; omega
      obtain ⟨A2, c2, W2, hrun, hR2, hG2, _⟩ := Kind.append_one_at HB.out.size HR.out r hrw #[.int .i32 r] rfl (by omega)
      have HB2 := Lib.hid (HB.out.trans (Kind.Row.elsewhere HR.out hG2 (Nat.le_refl _) HB.out.size))
      have HR2 := Lib.hid hR2
      have HA2 := Lib.hid (all7_snoc HA.out HM7.out)
      have RUN := Lib.hid hrun
      have qi : (q : Int) < 7 := by omega
      have HHI : Hid (i ≤ m) := by show _ ≤ _; omega
      have HZ1 := Lib.hid HZW.out.1
      clear hrun hR2 hG2 hr bq hq HR HA HB hrw HM7 q7
      go_wp2_with fail
      refine (Cm.out _).mono ?_
      rintro e w' ⟨rfl, rfl⟩
      go_wp2_with (simp only [hy])
      refine CQ.out.mono ?_
      rintro e w' ⟨rfl, rfl⟩
      go_wp2_with (at_builtin; refine wpList_append_run rfl (.tmp 27) (.tmp 38) 30 rfl rfl rfl RUN.out ?_)
      go_roundw
      case rel => exact ⟨i + 1, A2, c2, _, by go_num, by have := HHI.out; omega, by go_num, HR2, HA2, HB2⟩
      case measure => simp [intOf]; have := HHI.out; omega
    · obtain rfl : i = m + 1 := by omega
      have HLEN : Hid (rs.length = m + 1) := HR.out.len
      obtain ⟨gR, rfl, hgR0, hgR, hcr⟩ := rune_row HR.out (by omega)
      have HCR0 := Lib.hid hcr
      have HGR : Hid (gR < wr.heap.size) := hgR
      have htx := conv_text wr gR 0 (m + 1) c rs HLEN.out (fun j hj => by rw [Nat.zero_add]; exact hcr j hj) (runesBytes rs) rfl
      obtain ⟨S, hSS⟩ : ∃ S, Hid (runesBytes rs = S) := ⟨_, rfl⟩
      have hSL : Hid (S.data.toList = enc rs) := by show _ = _; rw [← hSS.out]; exact runesBytes_enc rs (all7_scalar HA.out)
      rw [hSS.out] at htx
      have HSz : Hid (S.size ≤ 1000000) := by show _ ≤ _; rw [ba_size, hSL.out]; have h1 := enc_low_len (all7_good HA.out).low; have h2 := HLEN.out; omega
      have HOK : Hid (∀ d c m, fineT d → fineT c → fineT m → okT (enc rs) d c m 40 = true) := fun d c e h1 h2 h3 => by
        unfold okT
        rw [all7_may HA.out (by have := HLEN.out; omega) (by have := HLEN.out; omega), Bool.true_and]
        exact decide_eq_true ⟨h1, h2, h3, by decide, by decide⟩
      have HLN : Hid (∀ d c m, fineT d → fineT c → fineT m → lineL (enc rs) d c m 40 = enc (lineR rs d c m 40)) := fun d c e h1 h2 h3 => by
        rw [lineL_yes (HOK.out d c e h1 h2 h3), all7_runes HA.out]
      have S1 := Lib.hid (bch S0.out HB.out)
      clear hcr hgR0 hgR HR hlt HL HC7 HGL hSS HB
      go_wp2_with fail
      refine (Cm.out _).mono ?_
      rintro e w' ⟨rfl, rfl⟩
      go_wp2_with fail
      clear htx
      refine (Cd.out _).mono ?_
      rintro e w' ⟨rfl, rfl⟩
      go_wp2_with fail
      refine (Cc.out _).mono ?_
      rintro e w' ⟨rfl, rfl⟩
      go_wp2_with fail
      refine (Cl.out _).mono ?_
      rintro e w' ⟨rfl, rfl⟩
      go_wp2_with fail
      refine (tline_any S D C E 40 HSz.out (by omega) (by omega) (by omega) (by omega) (by omega) (by omega) (by decide) (by decide) _ (HT.out.since S1.out)).mono ?_
      rintro e W2 ⟨LA, rfl, hLA, hb2⟩
      rw [hSL.out, HLN.out D C E HFD.out.1 HFD.out.2.1 HFD.out.2.2] at hLA
      have S2 := Lib.hid (bch S1.out hb2)
      have hLz : LA.size ≤ 1000000 := by rw [ba_size, hLA.out]; have h1 := enc_low_len (line_low (all7_good HA.out).low D C E 40); have h2 := line_len (rs := rs) (d := D) (m := E) HFD.out.2.1; omega
      obtain ⟨capA, W3, hcv, hcapA, hb3, hz3, hcell, _, _⟩ := conv_runes LA hLz W2
      rw [hLA.out, runes_enc _ (line_low (all7_good HA.out).low D C E 40)] at hcv hcapA hcell
      obtain ⟨a, HAA⟩ : ∃ a, Hid (lineR rs D C E 40 = a) := ⟨_, rfl⟩
      rw [HAA.out] at hcv hcapA hcell
      obtain ⟨la, HLA⟩ : ∃ la, Hid (a.length = la) := ⟨_, rfl⟩
      rw [HLA.out] at hcv hcapA hcell
      obtain ⟨gA, HGA⟩ : ∃ g, Hid (W2.heap.size = g) := ⟨_, rfl⟩
      rw [HGA.out] at hcv hcell
      have hla : la ≤ 40 := by rw [← HLA.out, ← HAA.out]; exact line_len HFD.out.2.1
      have HGA3 : Hid (gA < W3.heap.size) := by show _ < _; rw [hz3, HGA.out]; exact Nat.lt_succ_self _
      have HCA := Lib.hid hcell
      have S3 := Lib.hid (bch S2.out hb3)
      have HB13 := Lib.hid (bch hb2 hb3)
      clear hb2 hb3 hz3 hcell hLA hLz S1 S2
      go_wp2_with fail
      clear hcv
      refine (tline_any S 0 0 0 40 HSz.out (by decide) (by decide) (by decide) (by decide) (by decide) (by decide) (by decide) (by decide) _ (HT.out.since S3.out)).mono ?_
      rintro e W4 ⟨LB, rfl, hLB, hb4⟩
      rw [hSL.out, HLN.out 0 0 0 (by decide) (by decide) (by decide)] at hLB
      have S4 := Lib.hid (bch S3.out hb4)
      have hLz : LB.size ≤ 1000000 := by rw [ba_size, hLB.out]; have h1 := enc_low_len (line_low (all7_good HA.out).low 0 0 0 40); have h2 := line_len (rs := rs) (d := 0) (m := 0) (c := 0) (by decide); omega
      obtain ⟨capB, W5, hcv, hcapB, hb5, hz5, hcell, _, _⟩ := conv_runes LB hLz W4
      rw [hLB.out, runes_enc _ (line_low (all7_good HA.out).low 0 0 0 40)] at hcv hcapB hcell
      obtain ⟨b, HBB⟩ : ∃ b, Hid (lineR rs 0 0 0 40 = b) := ⟨_, rfl⟩
      rw [HBB.out] at hcv hcapB hcell
      obtain ⟨lb, HLB⟩ : ∃ lb, Hid (b.length = lb) := ⟨_, rfl⟩
      rw [HLB.out] at hcv hcapB hcell
      obtain ⟨gB, HGB⟩ : ∃ g, Hid (W4.heap.size = g) := ⟨_, rfl⟩
      rw [HGB.out] at hcv hcell
      have hlb : lb ≤ 40 := by rw [← HLB.out, ← HBB.out]; exact line_len (by decide)
      have HGB5 : Hid (gB < W5.heap.size) := by show _ < _; rw [hz5, HGB.out]; exact Nat.lt_succ_self _
      have HB35 := bch hb4 hb5
      have HCA5 : Hid (∀ j, j < la → W5.cell? ⟨gA, j, none⟩ = some (.int .i32 (a.getD j 0))) := fun j hj => (HB35.cell HGA3.out).trans (HCA.out j hj)
      have HCB5 := Lib.hid hcell
      have HCR5 : Hid (∀ j, j < m + 1 → W5.cell? ⟨gR, j, none⟩ = some (.int .i32 (rs.getD j 0))) := fun j hj => ((bch HB13.out HB35).cell HGR.out).trans (HCR0.out j hj)
      have HGA5 : Hid (gA < W5.heap.size) := Nat.lt_of_lt_of_le HGA3.out HB35.size
      have HGR5 : Hid (gR < W5.heap.size) := Nat.lt_of_lt_of_le HGR.out (bch HB13.out HB35).size
      have S5 := Lib.hid (bch S4.out hb5)
      clear hb4 hb5 hz5 hcell hLB hLz S3 S4 HCA HB35 HB13 HCR0 HGR HGA3 HGA HGB
      go_wp2_with fail
      clear hcv
      have HNA : Hid ((nameR rs).length ≤ la) := by show _ ≤ _; rw [← HLA.out, ← HAA.out]; exact name_line _ _ _ _ _
      have HNB : Hid ((nameR rs).length ≤ lb) := by show _ ≤ _; rw [← HLB.out, ← HBB.out]; exact name_line _ _ _ _ _
      have HPA : Hid (∀ k, k < (nameR rs).length → a.getD k 0 = (nameR rs).getD k 0) := fun k hk => by rw [← HAA.out]; exact line_pre hk
      have HPB : Hid (∀ k, k < (nameR rs).length → b.getD k 0 = (nameR rs).getD k 0) := fun k hk => by rw [← HBB.out]; exact line_pre hk
      go_loopw [17, 18] (fun t17 t18 wr => ∃ (k : Nat) (x : Int), t17 = .int .i64 x ∧ t18 = .int .i64 k ∧ Hid (k ≤ (nameR rs).length) ∧ Hid (colsR ((nameR rs).take k) = x) ∧ Hid (Below W5.heap.size W5 wr)) (fun _ t18 _ => 40 - (intOf t18).toNat)
      case atStart => exact ⟨0, 0, rfl, rfl, Nat.zero_le _, by show _ = _; simp [colsR_nil], Below.refl _ _⟩
      case round =>
        obtain ⟨k, x, rfl, rfl, HK, HX, HB⟩ := hrel
        obtain ⟨x0, x1⟩ := name_take HK.out
        rw [HX.out] at x0 x1
        by_cases hx12 : x < 12
        · have HKN : Hid (k < (nameR rs).length) := name_more HK.out (by rw [HX.out]; exact hx12)
          have k1 : k < la := Nat.lt_of_lt_of_le HKN.out HNA.out
          have k2 : k < lb := Nat.lt_of_lt_of_le HKN.out HNB.out
          have k1' : (k : Int) < (la : Int) := by omega
          have k2' : (k : Int) < (lb : Int) := by omega
          obtain ⟨v, hv⟩ : ∃ v, (nameR rs).getD k 0 = v := ⟨_, rfl⟩
          have ca : wr.cell? ⟨gA, k, none⟩ = some (.int .i32 v) := by rw [HB.out.cell HGA5.out, HCA5.out k k1, HPA.out k HKN.out, hv]
          have cb : wr.cell? ⟨gB, k, none⟩ = some (.int .i32 v) := by rw [HB.out.cell HGB5.out, HCB5.out k k2, HPB.out k HKN.out, hv]
          have HVR := name_r HA.out HKN.out
          rw [hv] at HVR
          have HSL := fun n => rune_mid gA la capA k k1 hcapA (wr.drewN n)
          have htx := fun n => conv_text (wr.drewN n) gA k 1 (capA - k) [v] rfl (fun j hj => by obtain rfl : j = 0 := by omega
                                                                                                exact ((below_drewN (Below.refl _ _) n).cell (B := wr.heap.size) (World.block_lt_of_cell? wr ⟨gA, k, none⟩ ca)).trans ca) (runesBytes [v]) rfl
          obtain ⟨S1, hS1⟩ : ∃ S, Hid (runesBytes [v] = S) := ⟨_, rfl⟩
          have hS1L : S1.data.toList = enc [v] := by rw [← hS1.out]; exact runesBytes_enc [v] (fun r hr => by rw [List.mem_singleton.1 hr]; unfold Scalar; omega)
          simp only [hS1.out] at htx
          have HC1 := Lib.hid (fun W => tcols_any S1 (by rw [ba_size, hS1L]; have := enc_low_len (l := [v]) (fun r hr => by rw [List.mem_singleton.1 hr]; exact HVR); simp at this ⊢; omega) W)
          simp only [hS1L, cols_single HVR] at HC1
          have HST : Hid (colsR ((nameR rs).take (k + 1)) = x + colsI v) := by show _ = _; rw [rcols_take _ _ HKN.out, HX.out, hv]
          have HCI := colsI_bd v
          obtain ⟨ci0, ci1⟩ := HCI
          have HK1 : Hid (k + 1 ≤ (nameR rs).length) := HKN.out
          have HKL : Hid (k < la) := k1
          have HLA40 : Hid (la ≤ 40) := hla
          clear hS1 hS1L HVR
          by_cases hp : k < (clipR rs 12).length
          · obtain ⟨h1, h2⟩ := name_clip hp
            have h3 : k < m + 1 := by rw [← HLEN.out]; exact h2
            have h3' : (k : Int) < (m : Int) + 1 := by omega
            have cr : wr.cell? ⟨gR, k, none⟩ = some (.int .i32 v) := by rw [HB.out.cell HGR5.out, HCR5.out k h3, ← h1, hv]
            have hd1 : decide ((m : Int) + 1 ≤ (k : Int)) = false := decide_eq_false (by omega)
            clear h1 h2 hp hv
            go_wp2_with fail
            go_quiet (fail)
            go_wp2_with fail
            refine (HC1.out _).mono ?_
            rintro e W6 ⟨rfl, hb6⟩
            have HB6 := Lib.hid (bch (bch HB.out (below_drewN (Below.refl _ _) _)) hb6)
            go_wp2_with fail
            go_roundw
            case rel => exact ⟨k + 1, _, by go_num, by go_num, HK1, HST, HB6⟩
            case measure => simp [intOf]; have := HKL.out; have := HLA40.out; omega
          · have hv32 := name_blank hp HKN.out
            rw [hv] at hv32
            subst hv32
            by_cases h3 : k < m + 1
            · obtain ⟨u, hu⟩ : ∃ u, rs.getD k 0 = u := ⟨_, rfl⟩
              have h3' : (k : Int) < (m : Int) + 1 := by omega
              have cr : wr.cell? ⟨gR, k, none⟩ = some (.int .i32 u) := by rw [HB.out.cell HGR5.out, HCR5.out k h3, hu]
              have hu32 := all7_ne HA.out (k := k) (by rw [HLEN.out]; exact h3)
              rw [hu] at hu32
              have hd1 : decide ((m : Int) + 1 ≤ (k : Int)) = false := decide_eq_false (by omega)
              clear hu hp hv
              go_wp2_with fail
              go_quiet (fail)
              go_wp2_with fail
              refine (HC1.out _).mono ?_
              rintro e W6 ⟨rfl, hb6⟩
              have HB6 := Lib.hid (bch (bch HB.out (below_drewN (Below.refl _ _) _)) hb6)
              go_wp2_with fail
              go_roundw
              case rel => exact ⟨k + 1, _, by go_num, by go_num, HK1, HST, HB6⟩
              case measure => simp [intOf]; have := HKL.out; have := HLA40.out; omega
            · have h3' : (m : Int) + 1 ≤ (k : Int) := by omega
              have hd1 : decide ((k : Int) < (m : Int) + 1) = false := decide_eq_false (by omega)
              clear hp hv
              go_wp2_with fail
              go_quiet (fail)
              go_wp2_with fail
              refine (HC1.out _).mono ?_
              rintro e W6 ⟨rfl, hb6⟩
              have HB6 := Lib.hid (bch (bch HB.out (below_drewN (Below.refl _ _) _)) hb6)
              go_wp2_with fail
              go_roundw
              case rel => exact ⟨k + 1, _, by go_num, by go_num, HK1, HST, HB6⟩
              case measure => simp [intOf]; have := HKL.out; have := HLA40.out; omega
        · have HE : x = 12 := by omega
          subst HE
          have HTA : Hid (∀ W, Below W5.heap.size W5 W → (convert 30 9 (.slice (some ⟨gA, 0, none⟩) la capA)).run Tryd.prog W = .ok (.string (runesBytes a)) W) := fun W hW => conv_text W gA 0 la capA a HLA.out (fun j hj => by rw [Nat.zero_add]; exact (hW.cell HGA5.out).trans (HCA5.out j hj)) _ rfl
          have HTB : Hid (∀ W, Below W5.heap.size W5 W → (convert 30 9 (.slice (some ⟨gB, 0, none⟩) lb capB)).run Tryd.prog W = .ok (.string (runesBytes b)) W) := fun W hW => conv_text W gB 0 lb capB b HLB.out (fun j hj => by rw [Nat.zero_add]; exact (hW.cell HGB5.out).trans (HCB5.out j hj)) _ rfl
          have hla0 : Low a := by rw [← HAA.out]; exact line_low (all7_good HA.out).low _ _ _ _
          have hlb0 : Low b := by rw [← HBB.out]; exact line_low (all7_good HA.out).low _ _ _ _
          obtain ⟨SA, hSA⟩ : ∃ S, Hid (runesBytes a = S) := ⟨_, rfl⟩
          obtain ⟨SB, hSB⟩ : ∃ S, Hid (runesBytes b = S) := ⟨_, rfl⟩
          have hSAL : SA.data.toList = enc a := by rw [← hSA.out]; exact runesBytes_enc a (low_scalar hla0)
          have hSBL : SB.data.toList = enc b := by rw [← hSB.out]; exact runesBytes_enc b (low_scalar hlb0)
          have HCSA := Lib.hid (fun W => tcols_any SA (by rw [ba_size, hSAL]; have h1 := enc_low_len hla0; have h2 := HLA.out; omega) W)
          have HCSB := Lib.hid (fun W => tcols_any SB (by rw [ba_size, hSBL]; have h1 := enc_low_len hlb0; have h2 := HLB.out; omega) W)
          have eA : colsR a = 40 := by rw [← HAA.out]; exact line_cols HFD.out.2.1 (by decide) (by decide)
          have eB : colsR b = 40 := by rw [← HBB.out]; exact line_cols (by decide) (by decide) (by decide)
          simp only [hSAL, runes_enc _ hla0, eA] at HCSA
          simp only [hSBL, runes_enc _ hlb0, eB] at HCSB
          rw [hSA.out] at HTA
          rw [hSB.out] at HTB
          clear hla0 hlb0 hSA hSB hSAL hSBL eA eB HX HLN HOK
          have htA := HTA.out wr HB.out
          by_cases ka : k < la
          · have ka' : (k : Int) < (la : Int) := by omega
            by_cases kb : k < lb
            · have kb' : (k : Int) < (lb : Int) := by omega
              go_wp2_with fail
              clear htA
              refine (HCSA.out _).mono ?_
              rintro e W6 ⟨rfl, hb6⟩
              have HB6 := Lib.hid (bch HB.out hb6)
              have htB := HTB.out W6 HB6.out
              clear hb6
              go_wp2_with fail
              clear htB
              refine (HCSB.out _).mono ?_
              rintro e W7 ⟨rfl, hb7⟩
              have HB7 := Lib.hid (bch HB6.out hb7)
              clear hb7
              go_wp2_with fail
              refine (talawake_any _ ((HT.out.since S5.out).since HB7.out)).mono ?_
              rintro e W8 ⟨rfl, hb8⟩
              have HB8 := bch HB7.out hb8
              go_wp2_with fail
              go_ret
              exact ⟨rfl, bch S5.out HB8⟩
            · have kb' : (lb : Int) ≤ (k : Int) := by omega
              go_wp2_with fail
              clear htA
              refine (HCSA.out _).mono ?_
              rintro e W6 ⟨rfl, hb6⟩
              have HB6 := Lib.hid (bch HB.out hb6)
              have htB := HTB.out W6 HB6.out
              clear hb6
              go_wp2_with fail
              clear htB
              refine (HCSB.out _).mono ?_
              rintro e W7 ⟨rfl, hb7⟩
              have HB7 := Lib.hid (bch HB6.out hb7)
              clear hb7
              go_wp2_with fail
              refine (talawake_any _ ((HT.out.since S5.out).since HB7.out)).mono ?_
              rintro e W8 ⟨rfl, hb8⟩
              have HB8 := bch HB7.out hb8
              go_wp2_with fail
              go_ret
              exact ⟨rfl, bch S5.out HB8⟩
          · have ka' : (la : Int) ≤ (k : Int) := by omega
            go_wp2_with fail
            clear htA
            refine (HCSA.out _).mono ?_
            rintro e W6 ⟨rfl, hb6⟩
            have HB6 := Lib.hid (bch HB.out hb6)
            have htB := HTB.out W6 HB6.out
            clear hb6
            go_wp2_with fail
            clear htB
            refine (HCSB.out _).mono ?_
            rintro e W7 ⟨rfl, hb7⟩
            have HB7 := Lib.hid (bch HB6.out hb7)
            clear hb7
            go_wp2_with fail
            refine (talawake_any _ ((HT.out.since S5.out).since HB7.out)).mono ?_
            rintro e W8 ⟨rfl, hb8⟩
            have HB8 := bch HB7.out hb8
            go_wp2_with fail
            go_ret
            exact ⟨rfl, bch S5.out HB8⟩
end Go.Proofs.YtgenkmihbnkakaaDoor
