/- The contract of seg's told, of bytes that are a part. Conditions: the slice's cells. -/
import Derived.Test.YtopfdeihjjikiaaSegTold
import Derived.Test.YtopfdeihjjikiaaSegLaid
set_option linter.unusedVariables false
set_option linter.unusedSimpArgs false
namespace Go.Proofs.Ytopfdeihjjikiaa
open Go.RowKit

theorem slice_to_u (A : Option Addr) (n c k : Nat) (hk : k ≤ n) (hc : n ≤ c) (W : World) :
    (Instr.slice 38 (.slice A n c) none (some (.int .u64 (k : Int))) none).run Try.prog W = .ok (.slice A k c) W := by
  obtain ⟨i0, hi, hz0, hz1, hz2⟩ := info_parts info5
  have h := run_slice_h (P := Try.prog) (w := W) 38 A n c under24 .u64 (k : Int) (by omega) (by omega)
  rw [h, elem24]
  cases A <;> simp [sizeOf, typeInfo, hi, hz1, sliced, add_none]
theorem RowP.else_ {w w' : World} {g i m n c : Nat} {st : ByteArray} {A : Option Addr} {row : Option Nat} (h : RowP w g i m st A n c) (hg : w.grownBy w' row) (hn : some g ≠ row) : RowP w' g i m st A n c := ⟨(hg.block g h.lt hn).trans h.row⟩
theorem RowP.entries {w : World} {g i m n c : Nat} {st : ByteArray} {A : Option Addr} (h : RowP w g i m st A n c) (A' : Option Addr) (n' c' : Nat) : RowP (w.setCell ⟨g, 3, none⟩ (.slice A' n' c')) g i m st A' n' c' := ⟨by simp [World.setCell, Array.getElem?_modify, h.row]⟩
theorem RowP.put {w : World} {g i m n c : Nat} {st : ByteArray} {A : Option Addr} (h : RowP w g i m st A n c) (i' m' n' c' : Nat) (st' : ByteArray) (A' : Option Addr) : RowP ((((w.setCell ⟨g, 0, none⟩ (.int .i64 (i' : Int))).setCell ⟨g, 1, none⟩ (.int .i64 (m' : Int))).setCell ⟨g, 2, none⟩ (.string st')).setCell ⟨g, 3, none⟩ (.slice A' n' c')) g i' m' st' A' n' c' := ⟨by simp [World.setCell, Array.getElem?_modify, h.row]⟩
/-- What a call that answers a part leaves. -/
def PartOf (w : World) (i m : Nat) (nm : List Nat) (ns : List Sg.E) (e : Ending) (w' : World) : Prop := ∃ A n c, e = .returned (.tuple #[partV i m nm A n c, .bool true]) ∧ Hid (entK.Row w' w.heap.size A n c (ns.map ofE)) ∧ Hid (Below w.heap.size w w')
theorem part_split (s i m : Nat) (nm : List Nat) (ns : List Sg.E) (hn : ns.length < 256) (hl : nm.length < 256) :
    Sg.part s i m nm ns = Pk.fix i 2 ++ (Pk.fix m 2 ++ (Pk.fix ns.length 1 ++ (Pk.fix nm.length 1 ++ (nm ++ (List.replicate (36 - nm.length) 0 ++ (Sg.ents ns ++ List.replicate (s - 42 - 15 * ns.length) 0)))))) := by
  unfold Sg.part Sg.front
  rw [fix_one hn, fix_one hl]
  simp
set_option maxHeartbeats 8000000 in
set_option maxRecDepth 20000 in
theorem told_any (A : Option Addr) (n c i m : Nat) (nm : List Nat) (ns : List Sg.E) (w : World) (hc : n ≤ c) (hs : Sg.sizeOk n) (hi : i < 65536) (hm : m < 65536) (hnm : OkN nm) (hn : ns.length ≤ Sg.each n) (hok : ∀ e ∈ ns, Sg.OkE e) (hA : Bytes w w.heap.size A n (Sg.part n i m nm ns)) :
    Calls Try.prog 39 #[.slice A n c] w (PartOf w i m nm ns) := by
  obtain ⟨hb1, hb2, hb3⟩ := Sg.each_bd hs
  have hl36 := hnm.len
  rw [part_split n i m nm ns (by omega) (by omega)] at hA
  have HA := Lib.hid hA
  have HOK := Lib.hid hok
  have HNM := Lib.hid hnm
  obtain ⟨q, HQ⟩ : ∃ q, Hid (Sg.each n = q) := ⟨_, rfl⟩
  have HEA := Lib.hid fun W : World => each_any (n : Int) W
  rw [eachI_nat hs, HQ.out] at HEA
  rw [HQ.out] at hb1 hb2 hn
  obtain ⟨cnt, HCN⟩ : ∃ cnt, Hid (ns.length = cnt) := ⟨_, rfl⟩
  obtain ⟨l, HLL⟩ : ∃ l, Hid (nm.length = l) := ⟨_, rfl⟩
  obtain ⟨st, HST⟩ : ∃ st, Hid (st = strOf nm) := ⟨_, rfl⟩
  obtain ⟨zs, HZS⟩ : ∃ zs, Hid (zs = List.replicate (n - 42 - 15 * ns.length) 0) := ⟨_, Lib.hid rfl⟩
  rw [← HZS.out, HCN.out, HLL.out] at HA
  rw [HCN.out] at hn
  rw [HLL.out] at hl36
  obtain ⟨hs0, hs1⟩ := hs
  have bq : ((q : Int) == 0) = false := by simp; omega
  have S0 := Lib.hid (since_alloc (Below.refl w.heap.size w) (.cells #[.int .i64 0, .int .i64 0, .string ⟨#[]⟩, .slice none 0 0] 59))
  have R0 : Hid (RowP (w.alloc (.cells #[.int .i64 0, .int .i64 0, .string ⟨#[]⟩, .slice none 0 0] 59)) w.heap.size 0 0 ⟨#[]⟩ none 0 0) := rowP_new w 0 0 ⟨#[]⟩ none 0 0
  obtain ⟨W0, HW0⟩ : ∃ W0 : World, Hid (W0 = w.alloc (.cells #[.int .i64 0, .int .i64 0, .string ⟨#[]⟩, .slice none 0 0] 59)) := ⟨_, rfl⟩
  clear hA hok hnm
  go_enter Try.func39, Try.ntmps39
  go_wp2_with fail
  rw [← HW0.out] at S0 R0 ⊢
  refine (HEA.out _).mono ?_
  rintro e w' ⟨rfl, rfl⟩
  go_wp2_with fail
  refine (segfirst_any A n c w.heap.size i 2 2 _ _ rfl (by omega) hc (by omega) (by rw [show (256 : Nat) ^ 2 = 65536 by decide]; omega) S0.out.size (HA.out.below S0.out)).mono ?_
  rintro e W1 ⟨A1, n1, c1, rfl, hn1, HC1, HB1, hb1'⟩
  have S1 := Lib.hid (S0.out.trans (hb1'.out.mono S0.out.size))
  have R1 := Lib.hid (R0.out.since hb1'.out)
  have HA1 := Lib.hid (HB1.out.back S0.out)
  clear HB1 hb1' S0 R0
  go_wp2_with fail
  refine (segfirst_any A1 n1 c1 w.heap.size m 2 2 _ _ rfl hn1 HC1.out (by omega) (by rw [show (256 : Nat) ^ 2 = 65536 by decide]; omega) S1.out.size (HA1.out.below S1.out)).mono ?_
  rintro e W2 ⟨A2, n2, c2, rfl, hn2, HC2, HB2, hb2'⟩
  have S2 := Lib.hid (S1.out.trans (hb2'.out.mono S1.out.size))
  have R2 := Lib.hid (R1.out.since hb2'.out)
  have HA2 := Lib.hid (HB2.out.back S1.out)
  clear HB2 hb2' S1 R1
  go_wp2_with fail
  refine (segfirst_any A2 n2 c2 w.heap.size cnt 1 1 _ _ rfl hn2 HC2.out (by omega) (by omega) S2.out.size (HA2.out.below S2.out)).mono ?_
  rintro e W3 ⟨A3, n3, c3, rfl, hn3, HC3, HB3, hb3'⟩
  have S3 := Lib.hid (S2.out.trans (hb3'.out.mono S2.out.size))
  have R3 := Lib.hid (R2.out.since hb3'.out)
  have HA3 := Lib.hid (HB3.out.back S2.out)
  clear HB3 hb3' S2 R2
  go_wp2_with fail
  refine (segfirst_any A3 n3 c3 w.heap.size l 1 1 _ _ rfl hn3 HC3.out (by omega) (by omega) S3.out.size (HA3.out.below S3.out)).mono ?_
  rintro e W4 ⟨A4, n4, c4, rfl, hn4, HC4, HB4, hb4'⟩
  have S4 := Lib.hid (S3.out.trans (hb4'.out.mono S3.out.size))
  have R4 := Lib.hid (R3.out.since hb4'.out)
  have HA4 := Lib.hid (HB4.out.back S3.out)
  clear HB4 hb4' S3 R3
  have hn36 : 36 ≤ n4 := by
    have := HA4.out.len
    rw [List.length_append, List.length_append, List.length_replicate, HLL.out] at this
    omega
  have hsl1 := fun W => slice_to_u A4 n4 c4 l (by omega) HC4.out W
  have hsl2 : ∀ W : World, (Instr.slice 38 (.slice A4 n4 c4) (some (.int .i64 36)) none none).run Try.prog W = .ok (.slice (if c4 = 36 then A4 else A4.map (·.add (36 * 1))) (n4 - 36) (c4 - 36)) W := fun W => slice_from A4 n4 c4 36 hn36 W
  have hcv := conv_bytes ((((HA4.out.below S4.out).wider S4.out.size).first (k := l) (by omega))) c4
  have htk : (nm ++ (List.replicate (36 - l) 0 ++ (Sg.ents ns ++ zs))).take l = nm := by rw [← HLL.out]; exact List.take_left
  rw [htk, ← HST.out] at hcv
  obtain ⟨A5, HA5⟩ : ∃ A5 : Option Addr, Hid (A5 = if c4 = 36 then A4 else A4.map (·.add (36 * 1))) := ⟨_, rfl⟩
  rw [← HA5.out] at hsl2
  have HB5 : Hid (Bytes w w.heap.size A5 (n4 - 36) (Sg.ents ns ++ zs)) := by
    have := HA4.out.rest (k := 36) (c := c4) hn36 HC4.out
    rw [← HA5.out] at this
    refine cast ?_ this
    congr 1
    rw [← List.append_assoc, List.drop_left' (by rw [List.length_append, List.length_replicate, HLL.out]; omega)]
  have HC5 : Hid (n4 - 36 ≤ c4 - 36) := by have := HC4.out; show _ ≤ _; omega
  obtain ⟨n5, HN5⟩ : ∃ n5, Hid (n5 = n4 - 36) := ⟨_, rfl⟩
  obtain ⟨c5, HD5⟩ : ∃ c5, Hid (c5 = c4 - 36) := ⟨_, rfl⟩
  rw [← HN5.out, ← HD5.out] at HC5 hsl2
  rw [← HN5.out] at HB5
  have hn5 : n5 ≤ 900 := by rw [HN5.out]; omega
  have k1 : decide ((q : Int) < (cnt : Int)) = false := decide_eq_false (by omega)
  have k2 : decide (q < cnt) = false := decide_eq_false (by omega)
  have k3 : decide ((36 : Int) < (l : Int)) = false := decide_eq_false (by omega)
  have k4 : decide (36 < l) = false := decide_eq_false (by omega)
  clear htk
  go_wp2_with fail
  clear k1 k2 k3 k4
  obtain ⟨W6, HW6⟩ : ∃ W6 : World, Hid (W6 = W4.alloc (.cells #[.int .i64 (i : Int), .int .i64 (m : Int), .string st, .slice none 0 0] 59)) := ⟨_, rfl⟩
  have L6 : Hid (Below W4.heap.size W4 W6) := by rw [HW6.out]; exact later_alloc _ _
  have P6 : Hid (RowP W6 W4.heap.size i m st none 0 0) := by rw [HW6.out]; exact rowP_new W4 i m st none 0 0
  have S6 := Lib.hid (S4.out.trans (L6.out.mono S4.out.size))
  have R6 := Lib.hid (R4.out.since L6.out)
  obtain ⟨g, HG⟩ : ∃ g, Hid (g = W4.heap.size) := ⟨_, rfl⟩
  obtain ⟨b6, HB6⟩ : ∃ b6, Hid (b6 = W6.heap.size) := ⟨_, rfl⟩
  have HGB : Hid (g < b6) := by have := P6.out.lt; rw [HG.out, HB6.out]; exact this
  have HWG : Hid (w.heap.size < g) := by rw [HG.out]; exact R4.out.lt
  rw [← HW6.out, ← HG.out]
  rw [← HG.out] at P6
  have HCNT : Hid (cnt ≤ 14) := by show _ ≤ _; omega
  clear hsl1 hsl2 hcv HA1 HA2 HA3 HA4 S4 R4 L6
  go_loopw [0, 58] (fun t0 t58 wr => ∃ (k : Nat) (A7 : Option Addr) (n7 c7 : Nat) (A8 : Option Addr) (c8 : Nat), t58 = .int .u64 k ∧ k ≤ cnt ∧ t0 = .slice A7 n7 c7 ∧ n7 ≤ 900 ∧ Hid (n7 ≤ c7) ∧ Hid (Bytes w w.heap.size A7 n7 (Sg.ents (ns.drop k) ++ zs)) ∧ Hid (RowP wr g i m st A8 k c8) ∧ Hid (entK.Row wr b6 A8 k c8 ((ns.take k).map ofE)) ∧ Hid (RowP wr w.heap.size 0 0 ⟨#[]⟩ none 0 0) ∧ Hid (Below w.heap.size w wr) ∧ Hid (b6 ≤ wr.heap.size)) (fun _ t58 _ => cnt - (intOf t58).toNat)
  case atStart => exact ⟨0, A5, n5, c5, none, 0, rfl, Nat.zero_le _, rfl, hn5, HC5, HB5, P6, Kind.Row.none_, R6, S6, by show _ ≤ _; rw [HB6.out]; exact Nat.le_refl _⟩
  case round =>
    obtain ⟨k, A7, n7, c7, A8, c8, rfl, hk, rfl, hn7, HC7, HB7, P7, O7, R7, S7, Z7⟩ := hrel
    by_cases hlt : k < cnt
    · obtain ⟨e, he⟩ : ∃ e, ns[k]? = some e := ⟨_, List.getElem?_eq_getElem (by rw [HCN.out]; exact hlt)⟩
      have hdr : ns.drop k = e :: ns.drop (k + 1) := by
        have hl : k < ns.length := by rw [HCN.out]; exact hlt
        rw [List.drop_eq_getElem_cons hl]
        rw [List.getElem?_eq_getElem hl] at he
        rw [Option.some.inj he]
      have HOE : Hid (Sg.OkE e) := HOK.out e (List.mem_of_getElem? he)
      have HTK : Hid ((ns.take k).map ofE ++ [ofE e] = (ns.take (k + 1)).map ofE) := by
        show _ = _
        rw [List.take_add_one, he, List.map_append]; rfl
      rw [hdr, Sg.ents, List.append_assoc] at HB7
      clear hdr he
      obtain ⟨W9, HW9⟩ : ∃ W9 : World, Hid (W9 = wr.alloc (.cells #[.int .u64 0, .int .i64 0, .bool false, .int .i64 0] 48)) := ⟨_, rfl⟩
      have L9 : Hid (Below wr.heap.size wr W9) := by rw [HW9.out]; exact later_alloc _ _
      obtain ⟨ge, HGE⟩ : ∃ ge, Hid (ge = wr.heap.size) := ⟨_, rfl⟩
      have E9 : Hid (RowE W9 ge E.zero) := by rw [HW9.out, HGE.out]; exact rowE_new wr E.zero
      have P9 := Lib.hid (P7.out.since L9.out)
      have O9 := Lib.hid (O7.out.since L9.out)
      have R9 := Lib.hid (R7.out.since L9.out)
      have S9 := Lib.hid (S7.out.trans (L9.out.mono S7.out.size))
      have HOL : Hid (∀ b, (Value.slice A8 k c8).ownBlock = some b → b < ge) := fun b hb => by rw [HGE.out]; exact (O7.out.row.lt b hb).2
      have hgg : g < ge := by rw [HGE.out]; exact P7.out.lt
      have Z9 : Hid (b6 ≤ W9.heap.size) := Nat.le_trans Z7.out L9.out.size
      go_wp2_with fail
      rw [← HW9.out, ← HGE.out]
      refine (entryof_any A7 n7 c7 w.heap.size e (Sg.ents (ns.drop (k + 1)) ++ zs) _ HOE.out hn7 HC7.out S9.out.size (HB7.out.below S9.out)).mono ?_
      rintro e2 W10 ⟨A10, n10, c10, rfl, hn10, HC10, HB10, hb10⟩
      have P10 := Lib.hid (P9.out.since hb10.out)
      have O10 := Lib.hid (O9.out.since hb10.out)
      have R10 := Lib.hid (R9.out.since hb10.out)
      have E10 := Lib.hid (E9.out.since hb10.out)
      have S10 := Lib.hid (S9.out.trans (hb10.out.mono S9.out.size))
      have HA10 := Lib.hid (HB10.out.back S9.out)
      have Z10 : Hid (b6 ≤ W10.heap.size) := Nat.le_trans Z9.out hb10.out.size
      clear P7 O7 R7 P9 O9 R9 E9 HB10 hb10 L9 Z7 Z9 S9
      obtain ⟨d0, d1, d2, d3⟩ := E10.out.at_
      unfold E.zero at d0 d1 d2 d3
      dsimp only at d0 d1 d2 d3
      have f0 := E10.out.free 0
      have f1 := E10.out.free 1
      have f2 := E10.out.free 2
      have f3 := E10.out.free 3
      obtain ⟨T, HT⟩ : ∃ T, Hid (T = ((((W10.setCell ⟨ge, 0, none⟩ (.int .u64 (e.addr : Int))).setCell ⟨ge, 1, none⟩ (.int .i64 (e.page : Int))).setCell ⟨ge, 2, none⟩ (.bool e.dirty)).setCell ⟨ge, 3, none⟩ (.int .i64 (e.seq : Int)))) := ⟨_, rfl⟩
      have GT : Hid (W10.grownBy T (some ge)) := by rw [HT.out]; exact put4_else W10 ge _ _ _ _
      have ET : Hid (RowE T ge (ofE e)) := by rw [HT.out]; exact E10.out.put (ofE e)
      have PT := Lib.hid (P10.out.else_ GT.out (by intro e; have := Option.some.inj e; omega))
      have OT := Lib.hid (O10.out.other GT.out (fun b hb => by have := HOL.out b hb; omega))
      have RT := Lib.hid (R10.out.else_ GT.out (by intro e; have := Option.some.inj e; have := HWG.out; omega))
      have hgew : w.heap.size ≤ ge := by have := HWG.out; omega
      have ST : Hid (Below w.heap.size w T) := S10.out.grown GT.out S10.out.size (fun b hb => by rw [← Option.some.inj hb]; exact hgew)
      have hts : T.heap.size = W10.heap.size := by rw [HT.out]; simp
      have ZT : Hid (b6 ≤ T.heap.size) := by rw [hts]; exact Z10.out
      obtain ⟨A12, c12, W12, hr, ho12, hg12⟩ := Kind.append_one_b ZT.out OT.out (ofE e) (ofE_wf HOE.out) _ rfl (by have := HCNT.out; omega)
      rw [hts, HT.out] at hr
      have hob : ∀ b, (Value.slice A8 k c8).ownBlock = some b → b6 ≤ b := fun b hb => (OT.out.row.lt b hb).1
      have R := Lib.hid hr
      have O12 := Lib.hid ho12
      have P12 := Lib.hid (PT.out.else_ hg12 (fun h => by have := hob g h.symm; have := HGB.out; omega))
      have R12 := Lib.hid (RT.out.else_ hg12 (fun h => by have := hob _ h.symm; have := HGB.out; have := HWG.out; omega))
      have S12 : Hid (Below w.heap.size w W12) := ST.out.grown hg12 ST.out.size (fun b hb => by have := hob b hb; have := HGB.out; have := HWG.out; omega)
      have Z12 : Hid (b6 ≤ W12.heap.size) := Nat.le_trans ZT.out hg12.size
      have GS : Hid (W12.grownBy (W12.setCell ⟨g, 3, none⟩ (.slice A12 (k + 1) c12)) (some g)) := setCell_else W12 ⟨g, 3, none⟩ _
      have P13 := Lib.hid (P12.out.entries A12 (k + 1) c12)
      have O13 := Lib.hid ((O12.out.kept GS.out (fun b hb => by rw [← Option.some.inj hb]; exact HGB.out)).same HTK.out)
      have R13 := Lib.hid (R12.out.else_ GS.out (by intro e; have := Option.some.inj e; have := HWG.out; omega))
      have S13 : Hid (Below w.heap.size w (W12.setCell ⟨g, 3, none⟩ (.slice A12 (k + 1) c12))) := S12.out.grown GS.out S12.out.size (fun b hb => by rw [← Option.some.inj hb]; have := HWG.out; omega)
      have Z13 : Hid (b6 ≤ (W12.setCell ⟨g, 3, none⟩ (.slice A12 (k + 1) c12)).heap.size) := Nat.le_trans Z12.out GS.out.size
      obtain ⟨r0, r1, r2, r3⟩ := ET.out.at_
      have p3 := PT.out.at_.c3
      rw [HT.out] at r0 r1 r2 r3 p3
      unfold ofE at r0 r1 r2 r3
      dsimp only at r0 r1 r2 r3
      have p12 := P12.out.at_.c3
      have pf := P12.out.free 3
      clear hr ho12 hg12 hts GT ET PT OT RT ST ZT P10 O10 R10 E10 S10 Z10 hob
      unfold natV
      go_wp2_with (at_builtin; refine wpList_append_run rfl (.tmp 66) (.tmp 68) 22 rfl rfl rfl R.out ?_)
      go_roundw
      case rel => exact ⟨k + 1, A10, n10, c10, A12, c12, by go_num, by omega, rfl, hn10, HC10, HA10, P13, O13, R13, S13, Z13⟩
      case measure => simp [intOf]; omega
    · obtain rfl : k = cnt := by omega
      obtain ⟨T, HT⟩ : ∃ T, Hid (T = ((((wr.setCell ⟨w.heap.size, 0, none⟩ (.int .i64 (i : Int))).setCell ⟨w.heap.size, 1, none⟩ (.int .i64 (m : Int))).setCell ⟨w.heap.size, 2, none⟩ (.string st)).setCell ⟨w.heap.size, 3, none⟩ (.slice A8 k c8))) := ⟨_, rfl⟩
      have GT : Hid (wr.grownBy T (some w.heap.size)) := by rw [HT.out]; exact put4_else wr w.heap.size _ _ _ _
      have RT : Hid (RowP T w.heap.size i m st A8 k c8) := by rw [HT.out]; exact R7.out.put i m k c8 st A8
      have OT := Lib.hid (O7.out.kept GT.out (fun b hb => by rw [← Option.some.inj hb]; have := HGB.out; have := HWG.out; omega))
      have ST : Hid (Below w.heap.size w T) := S7.out.grown GT.out S7.out.size (fun b hb => by rw [← Option.some.inj hb]; exact Nat.le_refl _)
      have OE : Hid (entK.Row T w.heap.size A8 k c8 (ns.map ofE)) := by
        have := OT.out.elder (base' := w.heap.size) (by have := HGB.out; have := HWG.out; omega)
        rw [← HCN.out, List.take_length] at this
        rw [← HCN.out]; exact this
      obtain ⟨p0, p1, p2, p3⟩ := P7.out.at_
      obtain ⟨d0, d1, d2, d3⟩ := R7.out.at_
      have f0 := R7.out.free 0
      have f1 := R7.out.free 1
      have f2 := R7.out.free 2
      have f3 := R7.out.free 3
      go_wp2_with fail
      rw [← HT.out]
      obtain ⟨r0, r1, r2, r3⟩ := RT.out.at_
      have hv : partV i m nm A8 k c8 = .agg #[.int .i64 (i : Int), .int .i64 (m : Int), .string st, .slice A8 k c8] := by rw [HST.out]; rfl
      exact bodyPost_ret (v := .tuple #[partV i m nm A8 k c8, .bool true]) (by rw [hv]; simp [results, Try.results39, go_sem, r0, r1, r2, r3]) rfl ⟨_, _, _, rfl, OE, ST⟩
end Go.Proofs.Ytopfdeihjjikiaa
