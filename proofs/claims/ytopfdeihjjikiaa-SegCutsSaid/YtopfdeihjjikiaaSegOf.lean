/- The contracts of seg's mayBePart, partOf, Number, of bytes that are a part. Conditions: the slices' cells. -/
import Derived.Test.YtopfdeihjjikiaaSegPart
import Derived.Test.YtopfdeihjjikiaaEqual
set_option linter.unusedVariables false
set_option linter.unusedSimpArgs false
namespace Go.Proofs.Ytopfdeihjjikiaa
open Go.RowKit
open Go.Sort (grow)

set_option maxHeartbeats 4000000 in
set_option maxRecDepth 20000 in
theorem maybepart_any (x : Int) (s i m : Nat) (nm : List Nat) (ns : List Sg.E) (A : Option Addr) (n c : Nat) (w : World) (hx : Hid (x = (s : Int))) (hs : Sg.sizeOk s) (him : i < m) (hm : m < 65536) (hnm : OkN nm) (hok : Sg.Ok ns)
    (hfull : i + 1 < m → ns.length = Sg.each s) (hsome : i + 1 = m → 0 < i → ns ≠ []) (hA : entK.Lie w w.heap.size A n (ns.map ofE)) :
    Calls Try.prog 40 #[.int .i64 x, partV i m nm A n c] w (SaysB w true) := by
  have HA := Lib.hid hA
  have HL : Hid (ns.length = n) := by have := hA.len; rw [List.length_map] at this; exact this
  have hn : n ≤ 256 := by rw [← HL.out]; exact hok.many
  have HOK := Lib.hid hok
  obtain ⟨q, HQ⟩ : ∃ q, Hid (Sg.each s = q) := ⟨_, rfl⟩
  have HE := Lib.hid fun W : World => each_any x W
  rw [hx.out, eachI_nat hs, HQ.out, ← hx.out] at HE
  have HF : Hid (i + 1 < m → n = q) := fun h => by rw [← HL.out, ← HQ.out]; exact hfull h
  have HSM : Hid (i + 1 = m → 0 < i → 0 < n) := fun h h0 => by rw [← HL.out]; exact List.length_pos_iff.2 (hsome h h0)
  obtain ⟨st, HST⟩ : ∃ st, Hid (st = strOf nm) := ⟨_, rfl⟩
  have hst : st.size ≤ 36 := by rw [HST.out, strOf_size]; exact hnm.len
  have hml : mayL st.data.toList = true := by rw [HST.out, strOf_data]; exact hnm.may
  have HML := Lib.hid hml
  unfold partV
  rw [← HST.out]
  have S0 := Lib.hid (since_alloc (Below.refl w.heap.size w) (.cells #[.int .i64 (i : Int), .int .i64 (m : Int), .string st, .slice A n c] 59))
  have R0 := Lib.hid (rowP_new w i m st A n c)
  obtain ⟨W0, HW0⟩ : ∃ W0 : World, Hid (W0 = w.alloc (.cells #[.int .i64 (i : Int), .int .i64 (m : Int), .string st, .slice A n c] 59)) := ⟨_, rfl⟩
  have r00 := R0.out.at_
  rw [← HW0.out] at S0 R0 r00
  obtain ⟨p0, p1, p2, p3⟩ := r00
  rw [HW0.out] at p0 p1 p2 p3
  have nge : ¬ (m : Int) ≤ (i : Int) := by omega
  clear hA hok hnm hfull hsome hml
  go_enter Try.func40, Try.ntmps40
  go_wp2_with fail
  rw [← HW0.out]
  refine (labelmay_any st _ (by omega)).mono ?_
  rw [HML.out]
  rintro e W1 ⟨rfl, hb1⟩
  have S1 := Lib.hid (below_chain S0.out hb1)
  have R1 := Lib.hid (R0.out.since hb1)
  clear p0 p1 p2 p3 hb1
  obtain ⟨p0, p1, p2, p3⟩ := R1.out.at_
  go_wp2_with fail
  refine (segmay_any A n c _ _ (by omega) (HA.out.since S1.out)).mono ?_
  rw [ok_mayE HOK.out]
  rintro e W2 ⟨rfl, hb2⟩
  have S2 := Lib.hid (below_chain S1.out hb2.out)
  have R2 := Lib.hid (R1.out.since hb2.out)
  clear p0 p1 p2 p3 hb2
  obtain ⟨p0, p1, p2, p3⟩ := R2.out.at_
  have m0 : 1 ≤ (m : Int) := by omega
  by_cases h : i + 1 < m
  · have h1 : (i : Int) < (m : Int) - 1 := by omega
    have hnq := HF.out h
    subst hnq
    go_wp2_with fail
    have p0' := cell_regrown p0
    have p1' := cell_regrown p1
    have p2' := cell_regrown p2
    have p3' := cell_regrown p3
    have cE := Lib.hid fun (d : Nat) (os : Array Obj) => quiet_same (HE.out (grow (redrawn W2 d) os))
    refine wp_region_quiet_below (by kernel_rfl) (by kernel_rfl) ?_
    repeat (go_big_quiet_step (first | (go_at_call 14; exact cE.out _ _)))
    refine wpQuiet_nil ?_
    intro W3 hw'
    have S3 : Hid (Below w.heap.size w W3) := by obtain ⟨⟨dq, osq⟩, hw''⟩ := hw'; rw [hw'']; exact below_chain S2.out (below_regrown _ _ _)
    clear hw'
    go_wp2_with fail
    go_ret
    exact ⟨rfl, S3⟩
  · have h1 : ¬ (i : Int) < (m : Int) - 1 := by omega
    by_cases hn0 : 0 < n
    · have hn1 : (0 : Int) < (n : Int) := by omega
      go_wp2_with fail
      go_ret
      exact ⟨by simp, S2⟩
    · have hi0 : i = 0 := by
        rcases Nat.eq_zero_or_pos i with h0 | h0
        · exact h0
        · exact absurd (HSM.out (by omega) h0) hn0
      subst hi0
      have hn1 : ¬ (0 : Int) < (n : Int) := by omega
      go_wp2_with fail
      go_ret
      exact ⟨by simp, S2⟩
set_option maxHeartbeats 8000000 in
set_option maxRecDepth 20000 in
theorem partof_any (A : Option Addr) (n c i m : Nat) (nm : List Nat) (ns : List Sg.E) (bs : List Nat) (w : World) (hc : n ≤ c) (hp : Sg.IsPart OkN bs i m nm ns) (hA : Bytes w w.heap.size A n bs) :
    Calls Try.prog 32 #[.slice A n c] w (PartOf w i m nm ns) := by
  have hl : bs.length = n := hA.len
  obtain ⟨hsz, hname, hlong, hok, hnum, hmost, hfew, hfull, hsome, hbytes⟩ := hp
  rw [hl] at hsz hfew hfull hbytes
  have HPB := Lib.hid hbytes
  have HA := Lib.hid hA
  have HNM := Lib.hid hname
  have HOK := Lib.hid hok
  have HS := Lib.hid hsz
  have HFW := Lib.hid hfew
  have HFU := Lib.hid hfull
  have HSM := Lib.hid hsome
  obtain ⟨st, HST⟩ : ∃ st, Hid (st = strOf nm) := ⟨_, rfl⟩
  have S0 := Lib.hid (since_alloc (Below.refl w.heap.size w) (.cells #[.int .i64 0, .int .i64 0, .string ⟨#[]⟩, .slice none 0 0] 59))
  have R0 : Hid (RowP (w.alloc (.cells #[.int .i64 0, .int .i64 0, .string ⟨#[]⟩, .slice none 0 0] 59)) w.heap.size 0 0 ⟨#[]⟩ none 0 0) := rowP_new w 0 0 ⟨#[]⟩ none 0 0
  obtain ⟨W0, HW0⟩ : ∃ W0 : World, Hid (W0 = w.alloc (.cells #[.int .i64 0, .int .i64 0, .string ⟨#[]⟩, .slice none 0 0] 59)) := ⟨_, rfl⟩
  rw [← HW0.out] at S0 R0
  have hn900 : n ≤ 900 := by have := hsz.2; omega
  clear hA hname hok hsz hfew hfull hsome hbytes hlong
  go_enter Try.func32, Try.ntmps32
  go_wp2_with fail
  rw [← HW0.out]
  refine (told_any A n c i m nm ns W0 hc HS.out (by omega) hmost HNM.out HFW.out HOK.out.each (by rw [← HPB.out]; exact HA.out.since S0.out)).mono ?_
  rintro e W1 ⟨A1, n1, c1, rfl, O1, hb1⟩
  have S1 := Lib.hid (below_chain S0.out hb1.out)
  have R1 := Lib.hid (R0.out.since hb1.out)
  obtain ⟨W2, HW2⟩ : ∃ W2 : World, Hid (W2 = W1.alloc (.cells #[.int .i64 (i : Int), .int .i64 (m : Int), .string st, .slice A1 n1 c1] 59)) := ⟨_, rfl⟩
  have L2 : Hid (Below W1.heap.size W1 W2) := by rw [HW2.out]; exact later_alloc _ _
  have P2 : Hid (RowP W2 W1.heap.size i m st A1 n1 c1) := by rw [HW2.out]; exact rowP_new W1 i m st A1 n1 c1
  obtain ⟨g, HG⟩ : ∃ g, Hid (g = W1.heap.size) := ⟨_, rfl⟩
  have S2 := Lib.hid (below_chain S1.out L2.out)
  have R2 := Lib.hid (R1.out.since L2.out)
  have O2 := Lib.hid (O1.out.since L2.out)
  rw [← HG.out] at P2
  have HPV : Hid (partV i m nm A1 n1 c1 = .agg #[.int .i64 (i : Int), .int .i64 (m : Int), .string st, .slice A1 n1 c1]) := by rw [HST.out]; rfl
  rw [HPV.out]
  obtain ⟨p0, p1, p2, p3⟩ := P2.out.at_
  have c2 := maybepart_any (n : Int) n i m nm ns A1 n1 c1 W2 rfl HS.out hnum hmost HNM.out HOK.out HFU.out HSM.out O2.out.lie
  rw [HPV.out] at c2
  have C2 := Lib.hid c2
  clear c2 S0 R0 S1 R1 L2 O1 hb1 HSM HFU
  rw [HW2.out, HG.out] at p0 p1 p2 p3
  go_wp2_with fail
  rw [← HW2.out]
  refine C2.out.mono ?_
  rintro e W3 ⟨rfl, hb3⟩
  have S3 := Lib.hid (below_chain S2.out hb3.out)
  have R3 := Lib.hid (R2.out.since hb3.out)
  have O3 := Lib.hid (O2.out.since hb3.out)
  have P3 := Lib.hid (P2.out.since hb3.out)
  clear p0 p1 p2 p3 C2 S2 R2 O2 P2 hb3
  rw [← HG.out]
  obtain ⟨p0, p1, p2, p3⟩ := P3.out.at_
  have c3 := seglaid_any (n : Int) n i m nm ns A1 n1 c1 W3 rfl HS.out (by omega) hmost HNM.out HFW.out HOK.out.each O3.out.lie
  rw [HPV.out, ← HPB.out] at c3
  have C3 := Lib.hid c3
  clear c3
  go_wp2_with fail
  refine C3.out.mono ?_
  rintro e W4 ⟨A4, n4, c4, rfl, ho4, hb4⟩
  have S4 := Lib.hid (below_chain S3.out hb4)
  have R4 := Lib.hid (R3.out.since hb4)
  have O4 := Lib.hid (O3.out.since hb4)
  have P4 := Lib.hid (P3.out.since hb4)
  have Q4 := Lib.hid ho4
  clear p0 p1 p2 p3 C3 S3 R3 O3 P3 hb4 ho4
  go_wp2_with fail
  refine (equal_any A4 A n4 c4 n c bs bs _ Q4.out.bytes (HA.out.since S4.out)).mono ?_
  rw [show sameB bs bs = true from decide_eq_true rfl]
  rintro e W5 ⟨rfl, hb5⟩
  have S5 := Lib.hid (below_chain S4.out hb5.out)
  have R5 := Lib.hid (R4.out.since hb5.out)
  have O5 := Lib.hid (O4.out.since hb5.out)
  have P5 := Lib.hid (P4.out.since hb5.out)
  clear S4 R4 O4 P4 hb5 Q4
  obtain ⟨T, HT⟩ : ∃ T, Hid (T = ((((W5.setCell ⟨w.heap.size, 0, none⟩ (.int .i64 (i : Int))).setCell ⟨w.heap.size, 1, none⟩ (.int .i64 (m : Int))).setCell ⟨w.heap.size, 2, none⟩ (.string st)).setCell ⟨w.heap.size, 3, none⟩ (.slice A1 n1 c1))) := ⟨_, rfl⟩
  have GT : Hid (W5.grownBy T (some w.heap.size)) := by rw [HT.out]; exact put4_else W5 w.heap.size _ _ _ _
  have RT : Hid (RowP T w.heap.size i m st A1 n1 c1) := by rw [HT.out]; exact R5.out.put i m n1 c1 st A1
  have hw0 : w.heap.size < W0.heap.size := by rw [HW0.out]; simp
  have OT := Lib.hid ((O5.out.kept GT.out (fun b hb => by rw [← Option.some.inj hb]; exact hw0)).elder (base' := w.heap.size) (Nat.le_of_lt hw0))
  have ST : Hid (Below w.heap.size w T) := S5.out.grown GT.out S5.out.size (fun b hb => by rw [← Option.some.inj hb]; exact Nat.le_refl _)
  obtain ⟨p0, p1, p2, p3⟩ := P5.out.at_
  obtain ⟨d0, d1, d2, d3⟩ := R5.out.at_
  have f0 := R5.out.free 0
  have f1 := R5.out.free 1
  have f2 := R5.out.free 2
  have f3 := R5.out.free 3
  go_wp2_with fail
  rw [← HT.out]
  obtain ⟨r0, r1, r2, r3⟩ := RT.out.at_
  exact bodyPost_ret (v := .tuple #[partV i m nm A1 n1 c1, .bool true]) (by rw [HPV.out]; simp [results, Try.results32, go_sem, r0, r1, r2, r3]) rfl ⟨_, _, _, rfl, OT, ST⟩
set_option maxHeartbeats 2000000 in
theorem number_any (A : Option Addr) (n c i m : Nat) (nm : List Nat) (ns : List Sg.E) (bs : List Nat) (w : World) (hc : n ≤ c) (hp : Sg.IsPart OkN bs i m nm ns) (hA : Bytes w w.heap.size A n bs) :
    Calls Try.prog 22 #[.slice A n c] w fun e w' => e = .returned (.tuple #[.int .i64 (i : Int), .int .i64 (m : Int), .nilIface]) ∧ Hid (Below w.heap.size w w') := by
  have C1 := Lib.hid (partof_any A n c i m nm ns bs w hc hp hA)
  clear hA hp
  go_enter Try.func22, Try.ntmps22
  go_wp2_with fail
  refine C1.out.mono ?_
  rintro e W1 ⟨A1, n1, c1, rfl, O1, S1⟩
  unfold partV
  obtain ⟨p0, p1, p2, p3⟩ := (rowP_new W1 i m (strOf nm) A1 n1 c1).at_
  go_wp2_with fail
  go_quiet (fail)
  go_wp2_with fail
  go_ret3
  exact ⟨rfl, below_drewN (since_alloc S1.out _) _⟩
end Go.Proofs.Ytopfdeihjjikiaa
