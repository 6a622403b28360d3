/- The contract of seg's laid: a part's bytes. Conditions: the part may be; its entries' cells. -/
import Derived.Test.YtopfdeihjjikiaaSegEntry
import Derived.Test.YtopfdeihjjikiaaSegName
import Derived.Test.YtopfdeihjjikiaaZeros
set_option linter.unusedVariables false
set_option linter.unusedSimpArgs false
namespace Go.Proofs.Ytopfdeihjjikiaa
open Go.RowKit

/-- A part, as its cells have it. -/
def partV (i m : Nat) (nm : List Nat) (A : Option Addr) (n c : Nat) : Value := .agg #[.int .i64 (i : Int), .int .i64 (m : Int), .string (strOf nm), .slice A n c]
structure RowP (w : World) (g i m : Nat) (st : ByteArray) (A : Option Addr) (n c : Nat) : Prop where
  row : w.heap[g]? = some (.cells #[.int .i64 (i : Int), .int .i64 (m : Int), .string st, .slice A n c] 59 (0, 0))
structure CellsP (w : World) (g i m : Nat) (st : ByteArray) (A : Option Addr) (n c : Nat) : Prop where
  c0 : w.cell? ⟨g, 0, none⟩ = some (.int .i64 (i : Int))
  c1 : w.cell? ⟨g, 1, none⟩ = some (.int .i64 (m : Int))
  c2 : w.cell? ⟨g, 2, none⟩ = some (.string st)
  c3 : w.cell? ⟨g, 3, none⟩ = some (.slice A n c)
section
variable {w w' : World} {g i m n c : Nat} {st : ByteArray} {A : Option Addr}
theorem RowP.lt (h : RowP w g i m st A n c) : g < w.heap.size := (Array.getElem?_eq_some_iff.1 h.row).1
theorem RowP.at_ (h : RowP w g i m st A n c) : CellsP w g i m st A n c :=
  ⟨by rw [cell_of_row _ _ _ _ _ _ h.row]; rfl, by rw [cell_of_row _ _ _ _ _ _ h.row]; rfl, by rw [cell_of_row _ _ _ _ _ _ h.row]; rfl, by rw [cell_of_row _ _ _ _ _ _ h.row]; rfl⟩
theorem RowP.free (h : RowP w g i m st A n c) (k : Nat) : w.frozen? ⟨g, k, none⟩ = false := by simp [World.frozen?, h.row]
theorem RowP.since (h : RowP w g i m st A n c) (hb : Below w.heap.size w w') : RowP w' g i m st A n c := ⟨(hb.block g h.lt).trans h.row⟩
end
theorem rowP_new (W : World) (i m : Nat) (st : ByteArray) (A : Option Addr) (n c : Nat) : RowP (W.alloc (.cells #[.int .i64 (i : Int), .int .i64 (m : Int), .string st, .slice A n c] 59)) W.heap.size i m st A n c := ⟨heap_alloc_new W _⟩
theorem make_cap (N : Nat) (x : Int) (hx : x = (N : Int)) (hN : N ≤ 20000) (W : World) : (Instr.makeSlice 38 (.int .i64 0) (.int .i64 x)).run Try.prog W =
    .ok (.slice (some ⟨W.heap.size, 0, none⟩) 0 N) (W.alloc (.cells (madeCells #[.int .u8 0] N) 5)) := by
  subst hx
  obtain ⟨i0, hi, hz0, hz1, hz2⟩ := info_parts info5
  have h := run_make (P := Try.prog) W 38 5 i0 _ Try.underlying38 hi hz0 .i64 .i64 0 (N : Int) (by omega) (by omega) (by rw [hz2]; omega) (by omega)
  rw [h, hz1, Nat.mul_one]
  rfl
theorem make_cap_any (N : Nat) (x : Int) (hx : x = (N : Int)) (hN : N ≤ 20000) (W : World) : ∃ W', (Instr.makeSlice 38 (.int .i64 0) (.int .i64 x)).run Try.prog W = .ok (.slice (some ⟨W.heap.size, 0, none⟩) 0 N) W' ∧ Below W.heap.size W W' ∧ Own W' W.heap.size (some ⟨W.heap.size, 0, none⟩) 0 N [] :=
  ⟨_, make_cap N x hx hN W, since_alloc (Below.refl _ _) _, own_made W N hN (Nat.le_refl _)⟩
theorem ents_snoc {ns : List Sg.E} {k : Nat} {e : Sg.E} (h : ns[k]? = some e) : Sg.ents (ns.take (k + 1)) = Sg.ents (ns.take k) ++ Sg.encE e := by
  rw [List.take_add_one, h, Sg.ents_append]
  simp [Sg.ents]
theorem fix_one {v : Nat} (h : v < 256) : Pk.fix v 1 = [v] := by
  unfold Pk.fix
  simp [Pk.fix]
  omega
theorem wrap_sub (a b : Nat) (h : b ≤ a) (h1 : a ≤ 1000) : ((a : Int) - (b : Int)) = ((a - b : Nat) : Int) := by omega
set_option maxHeartbeats 8000000 in
set_option maxRecDepth 20000 in
theorem seglaid_any (x : Int) (s i m : Nat) (nm : List Nat) (ns : List Sg.E) (A : Option Addr) (n c : Nat) (w : World) (hx : Hid (x = (s : Int))) (hs : Sg.sizeOk s) (hi : i < 65536) (hm : m < 65536) (hnm : OkN nm) (hn : ns.length ≤ Sg.each s) (hok : ∀ e ∈ ns, Sg.OkE e) (hA : entK.Lie w w.heap.size A n (ns.map ofE)) :
    Calls Try.prog 24 #[.int .i64 x, partV i m nm A n c] w (GivesBytes w (Sg.part s i m nm ns)) := by
  have HA := Lib.hid hA
  have HL : Hid (ns.length = n) := by have := hA.len; rw [List.length_map] at this; exact this
  have HOK := Lib.hid hok
  have HNM := Lib.hid hnm
  have hnl := hnm.len
  obtain ⟨hb1, hb2, hb3⟩ := Sg.each_bd hs
  obtain ⟨hs0, hs1⟩ := hs
  have x0 : 128 ≤ x := by have := hx.out; omega
  have x1 : x ≤ 256 := by have := hx.out; omega
  have hn14 : n ≤ 14 := by rw [← HL.out]; omega
  have HNE : Hid (15 * n ≤ s - 42) := by show _ ≤ _; rw [← HL.out]; have : 15 * ns.length ≤ 15 * Sg.each s := Nat.mul_le_mul_left _ hn; omega
  obtain ⟨st, HST⟩ : ∃ st, Hid (st = strOf nm) := ⟨_, rfl⟩
  have hsz : st.size = nm.length := by rw [HST.out, strOf_size]
  have hl36 : st.size ≤ 36 := by rw [hsz]; exact hnl
  have R0 := Lib.hid (rowP_new w i m st A n c)
  have S0 := Lib.hid (since_alloc (Below.refl w.heap.size w) (.cells #[.int .i64 (i : Int), .int .i64 (m : Int), .string st, .slice A n c] 59))
  unfold partV
  rw [← HST.out]
  obtain ⟨W0, HW0⟩ : ∃ W0, Hid (W0 = w.alloc (.cells #[.int .i64 (i : Int), .int .i64 (m : Int), .string st, .slice A n c] 59)) := ⟨_, rfl⟩
  rw [← HW0.out] at R0 S0
  have HA0 := Lib.hid (HA.out.since S0.out)
  obtain ⟨W1, hmk, hmb, hmo⟩ := make_cap_any s x hx.out (by omega) W0
  have HMK := Lib.hid hmk
  have S1 := Lib.hid hmb
  have O1 := Lib.hid hmo
  have HSZ := Lib.hid hsz
  clear hA hok hnm hnl hb1 hb2 hb3 hn hmk hmb hmo hsz
  go_enter Try.func24, Try.ntmps24
  go_wp2_with fail
  rw [← HW0.out, HMK.out]
  simp only [Result.andThen]
  rw [Oper.upon_value]
  clear HMK HW0
  obtain ⟨p0, p1, p2, p3⟩ := (R0.out.since S1.out).at_
  go_wp2_with fail
  refine (fixed_any W0 _ 0 s [] (i : Int) 2 i 2 2 W1 rfl S1.out O1.out rfl (by omega) (by omega) rfl (by omega) (by omega)).mono ?_
  rw [List.nil_append]
  rintro e W2 ⟨A2, c2, rfl, O2, S2⟩
  clear p0 p1 p2 p3 O1 S1
  obtain ⟨p0, p1, p2, p3⟩ := (R0.out.since S2.out).at_
  go_wp2_with fail
  refine (fixed_any W0 A2 2 c2 _ (m : Int) 2 m 2 4 W2 rfl S2.out O2.out rfl (by omega) (by omega) rfl (by omega) (by omega)).mono ?_
  rintro e W3 ⟨A3, c3, rfl, O3, S3⟩
  clear p0 p1 p2 p3 O2 S2
  obtain ⟨p0, p1, p2, p3⟩ := (R0.out.since S3.out).at_
  go_wp2_with fail
  refine (fixed_any W0 A3 4 c3 _ (n : Int) 1 n 1 5 W3 rfl S3.out O3.out rfl (by omega) (by omega) rfl (by omega) (by omega)).mono ?_
  rintro e W4 ⟨A4, c4, rfl, O4, S4⟩
  clear p0 p1 p2 p3 O3 S3
  obtain ⟨p0, p1, p2, p3⟩ := (R0.out.since S4.out).at_
  go_wp2_with fail
  refine (fixed_any W0 A4 5 c4 _ (st.size : Int) 1 st.size 1 6 W4 rfl S4.out O4.out rfl (by omega) (by omega) rfl (by omega) (by omega)).mono ?_
  rintro e W5 ⟨A5, c5, rfl, O5, S5⟩
  clear p0 p1 p2 p3 O4 S4
  obtain ⟨p0, p1, p2, p3⟩ := (R0.out.since S5.out).at_
  go_wp2_with fail
  obtain ⟨fr, HFR⟩ : ∃ fr, Hid (fr = Pk.fix i 2 ++ Pk.fix m 2 ++ Pk.fix n 1 ++ Pk.fix st.size 1) := ⟨_, rfl⟩
  rw [← HFR.out] at O5
  have hfl : fr.length = 6 := O5.out.len
  have HFL := Lib.hid hfl
  have HD : Hid (∀ pos, Lib.decodeL ((lettersOf nm).drop pos) = Utf8.decode st pos) := fun pos => by
    rw [← strOf_data, ← HST.out]; exact Lib.decodeL_drop st pos
  obtain ⟨g, hg⟩ : ∃ g, g = W5.heap.size := ⟨_, rfl⟩
  have I0 : (W5.iter st 0).heap[g]? = some (.stringIter st 0) := by
    rw [hg]
    have := World.iter_heap W5 st 0
    simpa using this
  have L5 : Below W5.heap.size W5 (W5.iter st 0) := (Below.refl _ W5).alloc (Nat.le_refl _) _
  have O5' := Lib.hid (O5.out.since L5)
  have S5' := Lib.hid (below_chain S5.out L5)
  have hgW0 : W0.heap.size ≤ g := by rw [hg]; exact S5.out.size
  rw [← hg]
  clear O5 S5 hg hfl L5 p0 p1 p2 p3
  go_loopw [5] (fun t5 wr => ∃ (pos k : Nat) (A3 : Option Addr) (c3 : Nat) (us : List Nat), t5 = .slice A3 k c3 ∧ k ≤ 42 ∧ wr.heap[g]? = some (.stringIter st pos) ∧ Hid (us = fr ++ nm.take pos) ∧ Hid ((runes ((lettersOf nm).drop pos)).all goodB = true) ∧ Hid (Own wr W0.heap.size A3 k c3 us) ∧ Hid (Below W0.heap.size W0 wr)) (fun _ wr => st.size - wr.iterPos g)
  case atStart => exact ⟨0, 6, A5, c5, fr, rfl, by omega, I0, by show _ = _; simp, HNM.out.good, O5', S5'⟩
  case round =>
    obtain ⟨pos, k, A6, c6, us, rfl, hk42, hit, HU, HG, O6, S6⟩ := hrel
    by_cases hp : pos < st.size
    · have hnx : ∀ ty, (Instr.next (.pointer (some ⟨g, 0, none⟩)) true ty).run Try.prog wr = _ := fun ty => Lib.run_next_any_at wr g st pos ty hit hp
      obtain ⟨hcs, hgd⟩ := good_step HNM.out.small (pos := pos) (by rw [← HSZ.out]; exact hp) HG.out
      have hrb := rune_bd ((lettersOf nm).drop pos)
      rw [HD.out pos] at hcs hgd hrb
      have hwd : 1 ≤ (Utf8.decode st pos).2 := by rw [← HD.out pos]; exact Lib.decodeL_width _
      have hit2 := Lib.iterAt_heap wr g st pos (pos + (Utf8.decode st pos).2) hit
      obtain ⟨cs, HCS⟩ : ∃ cs, Hid (cs = (nm.drop pos).take (Utf8.decode st pos).2) := ⟨_, rfl⟩
      rw [← HCS.out] at hcs
      have HU2 : Hid (us ++ cs = fr ++ nm.take (pos + (Utf8.decode st pos).2)) := by
        show _ = _
        rw [HU.out, HCS.out, List.take_add, List.append_assoc]
      have O7 := Lib.hid (own_iter O6.out hit (pos + (Utf8.decode st pos).2))
      have S7 := Lib.hid (Lib.below_iterAt S6.out (k := g) hgW0 st (pos + (Utf8.decode st pos).2))
      have hsm : ∀ b ∈ cs, b < 256 := fun b hb => by rw [HCS.out] at hb; exact HNM.out.small b (List.mem_of_mem_drop (List.mem_of_mem_take hb))
      have HSM := Lib.hid hsm
      have HRB := Lib.hid hrb
      have HCC := Lib.hid hcs
      have HGD := Lib.hid hgd
      have HIT := Lib.hid hit2
      have hk2 : k + cs.length ≤ 42 := by
        have := congrArg List.length HU2.out
        rw [List.length_append, List.length_append, HFL.out, O6.out.len, List.length_take, ← HSZ.out] at this
        omega
      clear hcs hgd hrb hit2 hsm
      go_wp2_with fail
      refine (appendrune_any W0 A6 k c6 us cs _ _ S7.out O7.out HRB.out.1 HRB.out.2 HCC.out HSM.out (by omega)).mono ?_
      rintro e W8 ⟨A8, c8, rfl, O8, G8⟩
      have hit8 := iter_kept O7.out HIT.out G8.out
      have S8 : Hid (Below W0.heap.size W0 W8) := S7.out.grown G8.out S7.out.size fun b hb => (O7.out.row.lt b hb).1
      go_wp2_with fail
      go_roundw
      case rel => exact ⟨pos + (Utf8.decode st pos).2, k + cs.length, A8, c8, us ++ cs, rfl, hk2, hit8, HU2, HGD, O8, S8⟩
      case measure =>
        simp only [World.iterPos, hit8, hit]
        omega
    · have hnx : ∀ ty, (Instr.next (.pointer (some ⟨g, 0, none⟩)) true ty).run Try.prog wr = _ := fun ty => Lib.run_next_end_at wr g st pos ty hit hp
      have HU3 : Hid (us = fr ++ nm) := by
        show _ = _
        rw [HU.out, List.take_of_length_le (by rw [← HSZ.out]; omega)]
      obtain rfl : k = 6 + st.size := by rw [← O6.out.len, HU3.out, List.length_append, HFL.out, HSZ.out]
      clear HU HG hit
      obtain ⟨A7, c7, W7, hr, ho, hb⟩ := own_append_zeros (k := 36 - st.size) S6.out O6.out (42 - (((6 + st.size : Nat)) : Int)) (by omega) (by omega) (by omega)
      rw [show 6 + st.size + (36 - st.size) = 42 by omega] at hr ho
      have R := Lib.hid hr
      have O7 := Lib.hid ho
      have S7 := Lib.hid hb
      obtain ⟨p0, p1, p2, p3⟩ := (R0.out.since S7.out).at_
      obtain ⟨fw, HFW⟩ : ∃ fw : List Nat, Hid (fw = us ++ List.replicate (36 - st.size) (0 : Nat)) := ⟨us ++ List.replicate (36 - st.size) (0 : Nat), Lib.hid rfl⟩
      rw [← HFW.out] at O7
      have HFT : Hid (fw = Sg.front i m nm ns) := by
        show _ = _
        rw [HFW.out, HU3.out, HFR.out, fix_one (show n < 256 by omega), fix_one (show st.size < 256 by omega)]
        unfold Sg.front
        rw [HSZ.out, HL.out]
        simp
      clear hr ho hb
      go_wp2_with (at_builtin; refine Lib.wpList_append_run _ rfl (.tmp 39) (.tmp 42) 38 3 rfl _ _ rfl rfl _ _ R.out ?_)
      clear p0 p1 p2 p3 R HFW HU3 O6 S6 hnx
      go_loopw [5, 47] (fun t5 t47 wr => ∃ (j k3 : Nat) (A3 : Option Addr) (c3 : Nat) (us : List Nat), t47 = .int .i64 j ∧ j ≤ n ∧ t5 = .slice A3 k3 c3 ∧ k3 ≤ 252 ∧ Hid (k3 = 42 + 15 * j) ∧ Hid (us = fw ++ Sg.ents (ns.take j)) ∧ Hid (Own wr W0.heap.size A3 k3 c3 us) ∧ Hid (Below W0.heap.size W0 wr)) (fun _ t47 _ => n - (intOf t47).toNat)
      case atStart => exact ⟨0, 42, A7, c7, fw, rfl, by omega, rfl, by omega, rfl, by show _ = _; simp [Sg.ents], O7, S7⟩
      case round =>
        obtain ⟨j, k3, A9, c9, us', rfl, hj, rfl, hk3, HK3, HU9, O9, S9⟩ := hrel
        by_cases hlt : j < n
        · obtain ⟨ad, hA, hblk, hat⟩ := (HA0.out.since S9.out).each j hlt
          obtain ⟨e, he⟩ : ∃ e, ns[j]? = some e := ⟨_, List.getElem?_eq_getElem (by rw [HL.out]; exact hlt)⟩
          have hge : (ns.map ofE).getD j entK.dflt = ofE e := by rw [List.getD_eq_getElem?_getD, List.getElem?_map, he]; rfl
          rw [hge] at hat
          have HOE : Hid (Sg.OkE e) := HOK.out e (List.mem_of_getElem? he)
          have HSN := Lib.hid (ents_snoc he)
          obtain ⟨d0, d1, d2, d3⟩ := entAt_of (show entK.At wr (ad.add (j * 4)) (ofE e) from hat)
          unfold ofE at d0 d1 d2 d3
          dsimp only at d0 d1 d2 d3
          subst hA
          have i0 : (0 : Int) ≤ (j : Int) := by omega
          have i1 : (j : Int) < (n : Int) := by omega
          clear hat hge he
          go_wp2_with fail
          refine (laidentry_any e _ HOE.out).mono ?_
          rintro e2 W10 ⟨A10, n10, c10, rfl, ho10, hb10⟩
          obtain rfl : 15 = n10 := by rw [← ho10.len, Sg.encE_len]
          have S10 := Lib.hid (below_chain (since_alloc S9.out _) hb10)
          obtain ⟨A11, c11, W11, hr, ho, hb⟩ := own_append (c' := c10) S10.out ((O9.out.since (later_alloc wr _)).since hb10) ho10.bytes (by omega)
          have R := Lib.hid hr
          have O11 := Lib.hid ho
          have S11 := Lib.hid hb
          have HU11 : Hid (us' ++ Sg.encE e = fw ++ Sg.ents (ns.take (j + 1))) := by show _ = _; rw [HU9.out, HSN.out, List.append_assoc]
          have HK11 : Hid (k3 + 15 = 42 + 15 * (j + 1)) := by show _ = _; have := HK3.out; omega
          have hk11 : k3 + 15 ≤ 252 := by rw [HK11.out]; have : 15 * (j + 1) ≤ 15 * 14 := Nat.mul_le_mul_left _ (by omega); omega
          clear hr ho hb ho10 hb10
          go_wp2_with (at_builtin; refine wpList_append_run rfl (.tmp 51) (.tmp 53) 38 rfl rfl rfl R.out ?_)
          go_roundw
          case rel => exact ⟨j + 1, k3 + 15, A11, c11, _, by go_num, by omega, rfl, hk11, HK11, HU11, O11, S11⟩
          case measure => simp [intOf]; omega
        · have HJ : Hid (j = n) := by show j = n; omega
          have hk0 : k3 ≤ s := by rw [HK3.out, HJ.out]; have := HNE.out; omega
          obtain ⟨A12, c12, W12, hr, ho, hb⟩ := own_append_zeros (k := s - k3) S9.out O9.out (x - (k3 : Int)) (by rw [hx.out]; omega) (by rw [HK3.out]; omega) (by omega)
          rw [show k3 + (s - k3) = s by omega] at hr ho
          have R := Lib.hid hr
          have O12 := Lib.hid ho
          have S12 := Lib.hid hb
          have HF : Hid (us' ++ List.replicate (s - k3) 0 = Sg.part s i m nm ns) := by
            show _ = _
            unfold Sg.part
            rw [HU9.out, HJ.out, List.take_of_length_le (by rw [HL.out]; exact Nat.le_refl _), HFT.out, HK3.out, HJ.out, HL.out, List.append_assoc, show s - (42 + 15 * n) = s - 42 - 15 * n by omega]
          have k30 : 0 ≤ (k3 : Int) := by omega
          have k31 : (k3 : Int) ≤ 252 := by omega
          clear hr ho hb
          go_wp2_with (at_builtin; refine Lib.wpList_append_run _ rfl (.tmp 56) (.tmp 60) 38 3 rfl _ _ rfl rfl _ _ R.out ?_)
          go_ret
          exact ⟨_, _, _, rfl, (O12.out.elder S0.out.size).same HF.out, below_chain S0.out S12.out⟩
end Go.Proofs.Ytopfdeihjjikiaa
