/- The contracts of note's laidNumber, laidOne, laid, Size. Conditions: the slices' cells; at most 100 notes. -/
import Derived.Test.YtaocppgekinocaaNoteOwn
import Derived.Test.YtaocppgekinocaaPack
import Derived.Test.YtaocppgekinocaaOps
set_option linter.unusedVariables false
set_option linter.unusedSimpArgs false
namespace Go.Proofs.Ytaocppgekinocaa
open Go.RowKit

def toN (v : V) : Nt.N := ⟨v.gone, v.addr.toNat, v.page.toNat, v.dirty, v.seq.toNat⟩
theorem toN_ok {v : V} (h : okB v = true) (hw : Wf v) : Nt.Ok (toN v) := by
  obtain ⟨s0, s1, hr⟩ := okB_out h
  have a1 := hw.a1
  have a0 := hw.a0
  refine ⟨?_, ?_, ?_, ?_, ?_⟩
  · show 1 ≤ v.seq.toNat; omega
  · show v.seq.toNat ≤ 1099511627775; omega
  · show v.addr.toNat < 18446744073709551616; omega
  · show v.page.toNat ≤ 255; rcases hr with ⟨_, h, _⟩ | ⟨_, h, h'⟩ <;> omega
  · intro hg
    have hg : v.gone = true := hg
    rcases hr with ⟨_, h, h'⟩ | ⟨h, _⟩
    · exact ⟨by show v.page.toNat = 0; omega, h'⟩
    · rw [hg] at h; cases h
def encL (vs : List V) : List Nat := Nt.encs (vs.map toN)
def flatL (vs : List V) : List Nat := Nt.flat (vs.map toN)
theorem encL_eq (vs : List V) : encL vs = Pk.put vs.length ++ flatL vs := by unfold encL Nt.encs flatL; rw [List.length_map]
theorem flat_len (ns : List Nt.N) (h : ∀ n ∈ ns, Nt.Ok n) : (Nt.flat ns).length ≤ 19 * ns.length := by
  induction ns with
  | nil => simp [Nt.flat]
  | cons n r ih =>
    have h1 := Nt.enc_len n (h n (by simp))
    have h2 := ih fun k hk => h k (by simp [hk])
    simp only [Nt.flat, List.length_append, List.length_cons]; omega
theorem all_ok {vs : List V} (h : allB vs = true) (hw : ∀ v ∈ vs, Wf v) : ∀ n ∈ vs.map toN, Nt.Ok n := by
  intro n hn
  obtain ⟨v, hv, rfl⟩ := List.mem_map.1 hn
  unfold allB at h
  rw [List.all_eq_true] at h
  exact toN_ok (h v hv) (hw v hv)
/-- A note, a row of the call's own. -/
structure RowN (w : World) (g : Nat) (v : V) : Prop where
  row : w.heap[g]? = some (.cells #[.bool v.gone, .int .u64 v.addr, .int .i64 v.page, .bool v.dirty, .int .i64 v.seq] 43 (0, 0))
structure CellsN (w : World) (g : Nat) (v : V) : Prop where
  c0 : w.cell? ⟨g, 0, none⟩ = some (.bool v.gone)
  c1 : w.cell? ⟨g, 1, none⟩ = some (.int .u64 v.addr)
  c2 : w.cell? ⟨g, 2, none⟩ = some (.int .i64 v.page)
  c3 : w.cell? ⟨g, 3, none⟩ = some (.bool v.dirty)
  c4 : w.cell? ⟨g, 4, none⟩ = some (.int .i64 v.seq)
theorem RowN.lt {w : World} {g : Nat} {v : V} (h : RowN w g v) : g < w.heap.size := (Array.getElem?_eq_some_iff.1 h.row).1
theorem RowN.at_ {w : World} {g : Nat} {v : V} (h : RowN w g v) : CellsN w g v :=
  ⟨by rw [cell_of_row _ _ _ _ _ _ h.row]; rfl, by rw [cell_of_row _ _ _ _ _ _ h.row]; rfl, by rw [cell_of_row _ _ _ _ _ _ h.row]; rfl, by rw [cell_of_row _ _ _ _ _ _ h.row]; rfl, by rw [cell_of_row _ _ _ _ _ _ h.row]; rfl⟩
theorem RowN.free {w : World} {g : Nat} {v : V} (h : RowN w g v) (k : Nat) : w.frozen? ⟨g, k, none⟩ = false := by simp [World.frozen?, h.row]
theorem RowN.since {w w' : World} {g : Nat} {v : V} (h : RowN w g v) (hb : Below w.heap.size w w') : RowN w' g v := ⟨(hb.block g h.lt).trans h.row⟩
theorem rowN_new (W : World) (v : V) : RowN (W.alloc (.cells #[.bool v.gone, .int .u64 v.addr, .int .i64 v.page, .bool v.dirty, .int .i64 v.seq] 43)) W.heap.size v := ⟨heap_alloc_new W _⟩

theorem laidnumber_any (x : Int) (n : Nat) (w : World) (HX : Hid (x = (n : Int))) (h0 : 0 ≤ x) (h1 : x ≤ 100000) : Calls Try.prog 37 #[.int .i64 x] w (GivesBytes w (Pk.put n)) := by
  go_enter Try.func37, Try.ntmps37
  go_wp2_with fail
  refine (put_any none 0 0 [] x n w h0 (by omega) HX (by omega) Bytes.none_).mono ?_
  rw [List.nil_append]
  rintro e W1 ⟨A1, n1, c1, rfl, HO1, HB1⟩
  go_wp2_with fail
  go_ret
  exact ⟨A1, n1, c1, rfl, HO1, HB1⟩
theorem enc_eq (v : V) : Nt.enc (toN v) = Pk.put v.addr.toNat ++ (Pk.put v.seq.toNat ++ (Nt.kind (toN v) :: (if v.gone then [] else Pk.put v.page.toNat))) := rfl
set_option maxHeartbeats 2000000 in
theorem laidone_any (v : V) (w : World) (hok : okB v = true) (hw : Wf v) : Calls Try.prog 36 #[noteV v] w (GivesBytes w (Nt.enc (toN v))) := by
  have HE := Lib.hid (enc_eq v)
  obtain ⟨s0, s1, hr⟩ := okB_out hok
  obtain ⟨a0, a1, p0, p1, _, _⟩ := hw
  have HR := Lib.hid (rowN_new w v)
  have S1 := Lib.hid (since_alloc (Below.refl w.heap.size w) (.cells #[.bool v.gone, .int .u64 v.addr, .int .i64 v.page, .bool v.dirty, .int .i64 v.seq] 43))
  obtain ⟨g, a, p, d, s⟩ := v
  unfold noteV
  dsimp only at s0 s1 hr a0 a1 p0 p1 HE HR S1 ⊢
  have XA : Hid (a = ((a.toNat : Nat) : Int)) := by show _ = _; omega
  have XS : Hid (s = ((s.toNat : Nat) : Int)) := by show _ = _; omega
  have LA : Hid ((Pk.put a.toNat).length ≤ 10) := Pk.put_len10 (by omega)
  have LS : Hid ((Pk.put s.toNat).length ≤ 10) := Pk.put_len10 (by omega)
  have HP : Hid (g = false → 0 ≤ p ∧ p ≤ 255) := fun h => by
    rcases hr with ⟨h', _⟩ | ⟨_, h'⟩
    · rw [h] at h'; cases h'
    · exact h'
  obtain ⟨ba, HBA⟩ : ∃ b, Hid (b = Pk.put a.toNat) := ⟨_, rfl⟩
  obtain ⟨bs, HBS⟩ : ∃ b, Hid (b = Pk.put s.toNat) := ⟨_, rfl⟩
  obtain ⟨W0, HW0⟩ : ∃ W0 : World, Hid (W0 = w.alloc (.cells #[.bool g, .int .u64 a, .int .i64 p, .bool d, .int .i64 s] 43)) := ⟨_, rfl⟩
  clear hr hok
  go_enter Try.func36, Try.ntmps36
  go_wp2_with fail
  rw [← HW0.out] at HR S1 ⊢
  refine (put_any none 0 0 [] a a.toNat _ a0 a1 XA (by omega) Bytes.none_).mono ?_
  rw [List.nil_append]
  rintro e W1 ⟨A1, n1, c1, rfl, ho1, hb1⟩
  rw [← HBA.out] at ho1
  have N1 : Hid (n1 ≤ 10) := by show _ ≤ _; rw [← ho1.len, HBA.out]; exact LA.out
  have HO1 := Lib.hid ho1
  have HB1 := Lib.hid hb1
  obtain ⟨c10, c11, c12, c13, c14⟩ := (HR.out.since hb1).at_
  clear ho1 hb1
  dsimp only at c10 c11 c12 c13 c14
  go_wp2_with fail
  refine (put_any A1 n1 c1 ba s s.toNat _ (by omega) (by omega) XS (by have := N1.out; omega) HO1.out.bytes).mono ?_
  rintro e W2 ⟨A2, n2, c2, rfl, ho2, hb2⟩
  rw [← HBS.out] at ho2
  have N2 : Hid (n2 ≤ 20) := by show _ ≤ _; rw [← ho2.len, List.length_append, HBA.out, HBS.out]; have := LA.out; have := LS.out; omega
  have HO2 := Lib.hid (ho2.elder (base' := W0.heap.size) HB1.out.size)
  have HB2 := Lib.hid (below_chain HB1.out hb2)
  clear c10 c11 c12 c13 c14
  obtain ⟨c10, c11, c12, c13, c14⟩ := (HR.out.since HB2.out).at_
  clear ho2 hb2 HO1 HB1
  dsimp only at c10 c11 c12 c13 c14
  cases g
  · obtain ⟨q0, q1⟩ := HP.out rfl
    have XP : Hid (p = ((p.toNat : Nat) : Int)) := by show _ = _; omega
    cases d
    · obtain ⟨A4, c4, W4, hr, ho, hb⟩ := own_append_one HB2.out HO2.out 1 1 rfl (by omega) (by have := N2.out; omega)
      have R := Lib.hid hr
      have HO4 := Lib.hid ho
      have HB4 := Lib.hid hb
      obtain ⟨d10, d11, d12, d13, d14⟩ := (HR.out.since hb).at_
      clear hr ho hb
      dsimp only at d10 d11 d12 d13 d14
      go_wp2_with (at_builtin; refine wpList_append_run rfl (.tmp 14) (.tmp 15) 25 rfl rfl rfl R.out ?_)
      refine (put_any A4 (n2 + 1) c4 (ba ++ bs ++ [1]) p p.toNat _ (by omega) (by omega) XP (by have := N2.out; omega) HO4.out.bytes).mono ?_
      rintro e W5 ⟨A5, n5, c5, rfl, ho5, hb5⟩
      clear d10 d11 d12 d13 d14
      go_wp2_with fail
      go_ret
      refine ⟨_, _, _, rfl, (ho5.elder (Nat.le_trans S1.out.size HB4.out.size)).same ?_, below_chain S1.out (below_chain HB4.out hb5)⟩
      rw [HE.out, HBA.out, HBS.out]
      simp [Nt.kind, toN]
    · obtain ⟨A4, c4, W4, hr, ho, hb⟩ := own_append_one HB2.out HO2.out 2 2 rfl (by omega) (by have := N2.out; omega)
      have R := Lib.hid hr
      have HO4 := Lib.hid ho
      have HB4 := Lib.hid hb
      obtain ⟨d10, d11, d12, d13, d14⟩ := (HR.out.since hb).at_
      clear hr ho hb
      dsimp only at d10 d11 d12 d13 d14
      go_wp2_with (at_builtin; refine wpList_append_run rfl (.tmp 27) (.tmp 28) 25 rfl rfl rfl R.out ?_)
      refine (put_any A4 (n2 + 1) c4 (ba ++ bs ++ [2]) p p.toNat _ (by omega) (by omega) XP (by have := N2.out; omega) HO4.out.bytes).mono ?_
      rintro e W5 ⟨A5, n5, c5, rfl, ho5, hb5⟩
      clear d10 d11 d12 d13 d14
      go_wp2_with fail
      go_ret
      refine ⟨_, _, _, rfl, (ho5.elder (Nat.le_trans S1.out.size HB4.out.size)).same ?_, below_chain S1.out (below_chain HB4.out hb5)⟩
      rw [HE.out, HBA.out, HBS.out]
      simp [Nt.kind, toN]
  · obtain ⟨A4, c4, W4, hr, ho, hb⟩ := own_append_one HB2.out HO2.out 0 0 rfl (by omega) (by have := N2.out; omega)
    have R := Lib.hid hr
    have HO4 := Lib.hid ho
    have HB4 := Lib.hid hb
    clear hr ho hb
    go_wp2_with (at_builtin; refine wpList_append_run rfl (.tmp 20) (.tmp 21) 25 rfl rfl rfl R.out ?_)
    go_ret
    refine ⟨_, _, _, rfl, (HO4.out.elder S1.out.size).same ?_, below_chain S1.out HB4.out⟩
    rw [HE.out, HBA.out, HBS.out]
    simp [Nt.kind, toN]
theorem flatL_snoc {vs : List V} {k : Nat} (h : k < vs.length) : flatL (vs.take (k + 1)) = flatL (vs.take k) ++ Nt.enc (toN (vs.getD k V.zero)) := by
  unfold flatL
  rw [List.take_succ_eq_append_getElem h, List.map_append, Nt.flat_append, List.getD_eq_getElem?_getD, List.getElem?_eq_getElem h]
  simp [Nt.flat]
theorem flatL_all (vs : List V) : flatL (vs.take vs.length) = flatL vs := by rw [List.take_length]
theorem flatL_len {vs : List V} (h : allB vs = true) (hw : ∀ v ∈ vs, Wf v) (k : Nat) : (flatL (vs.take k)).length ≤ 19 * vs.length := by
  unfold flatL
  have := flat_len ((vs.take k).map toN) (fun n hn => by
    obtain ⟨v, hv, rfl⟩ := List.mem_map.1 hn
    exact all_ok h hw _ (List.mem_map.2 ⟨v, List.mem_of_mem_take hv, rfl⟩))
  rw [List.length_map, List.length_take] at this
  omega
set_option maxHeartbeats 2000000 in
theorem laid_any (A : Option Addr) (n c : Nat) (vs : List V) (w : World) (hn : n ≤ 100) (hok : allB vs = true) (hA : Notes w w.heap.size A n vs) :
    Calls Try.prog 32 #[.slice A n c] w (GivesBytes w (encL vs)) := by
  have HA := Lib.hid hA
  have HL := Lib.hid hA.len
  have HOK := Lib.hid hok
  have HF := Lib.hid (flatL_len hok hA.all)
  have HPL : Hid ((Pk.put n).length ≤ 10) := Pk.put_len10 (by omega)
  clear hA hok
  go_enter Try.func32, Try.ntmps32
  go_wp2_with fail
  refine (laidnumber_any (n : Int) n _ rfl (by omega) (by omega)).mono ?_
  rintro e W1 ⟨A1, n1, c1, rfl, HO1, HB1⟩
  have HO1 := Lib.hid HO1
  have HB1 := Lib.hid HB1
  go_wp2_with fail
  go_loopw [3, 11] (fun t3 t11 wr => ∃ (k : Nat) (A3 : Option Addr) (k3 c3 : Nat) (us : List Nat), t11 = .int .i64 k ∧ k ≤ n ∧ t3 = .slice A3 k3 c3 ∧ Hid (us = Pk.put n ++ flatL (vs.take k)) ∧ Hid (Own wr w.heap.size A3 k3 c3 us) ∧ Hid (Below w.heap.size w wr)) (fun _ t11 _ => n - (intOf t11).toNat)
  case atStart => exact ⟨0, A1, n1, c1, Pk.put n, rfl, Nat.zero_le _, rfl, by show _ = _; simp [flatL, Nt.flat], HO1, HB1⟩
  case round =>
    obtain ⟨k, A3, k3, c3, us, rfl, hk, rfl, HU, HO, HB⟩ := hrel
    by_cases hlt : k < n
    · obtain ⟨ad, hA, hblk, hat⟩ := (HA.out.since HB.out).each k hlt
      have hwf := HA.out.wf k
      have hkk := allB_at HOK.out (k := k) (by have := HL.out; omega)
      subst hA
      have HU2 := Lib.hid (flatL_snoc (vs := vs) (k := k) (by have := HL.out; omega))
      obtain ⟨v, HV⟩ : ∃ v, Hid (v = vs.getD k V.zero) := ⟨_, rfl⟩
      rw [← HV.out] at hat hwf hkk HU2
      have HWF := Lib.hid hwf
      have HKK := Lib.hid hkk
      have HK3 : Hid (k3 ≤ 2000) := by
        show _ ≤ _
        rw [← HO.out.len, HU.out, List.length_append]
        have h1 := HF.out k
        have h2 := HPL.out
        have h3 := HL.out
        omega
      have i0 : (0 : Int) ≤ (k : Int) := by omega
      have i1 : (k : Int) < (n : Int) := by omega
      obtain ⟨c0, c1, c2, c3, c4⟩ := hat
      clear hwf hkk
      go_wp2_with fail
      refine (laidone_any v _ HKK.out HWF.out).mono ?_
      rintro e W4 ⟨A4, n4, c4, rfl, ho4, hb4⟩
      have S4 := Lib.hid (below_chain (since_alloc HB.out _) hb4)
      have HO4 := Lib.hid ((HO.out.since (later_alloc wr _)).since hb4)
      have hl4 : n4 ≤ 19 := by rw [← ho4.len]; exact Nt.enc_len _ (toN_ok HKK.out HWF.out)
      obtain ⟨A5, c5, W5, hr, ho5, hb5⟩ := own_append (c' := c4) S4.out HO4.out ho4.bytes (by have := HK3.out; omega)
      have R := Lib.hid hr
      have HO5 := Lib.hid ho5
      have HB5 := Lib.hid hb5
      clear hr ho5 hb5 ho4 hb4 hl4
      go_wp2_with (at_builtin; refine wpList_append_run rfl (.tmp 15) (.tmp 17) 25 rfl rfl rfl R.out ?_)
      go_roundw
      case rel => exact ⟨k + 1, A5, _, _, _, by go_num, by omega, rfl, by show _ = _; rw [HU2.out, HU.out, List.append_assoc], HO5, HB5⟩
      case measure => simp [intOf]; omega
    · have HE : Hid (us = encL vs) := by
        show _ = _
        have hl := HL.out
        rw [HU.out, encL_eq, show k = vs.length by omega, flatL_all, hl]
      go_wp2_with fail
      go_ret
      exact ⟨_, _, _, rfl, HO.out.same HE.out, HB.out⟩
def sizeM (vs : List V) : Nat := if allB vs = true then (encL vs).length else 0
theorem size_any (A : Option Addr) (n c : Nat) (vs : List V) (w : World) (hn : n ≤ 100) (hA : Notes w w.heap.size A n vs) :
    Calls Try.prog 14 #[.slice A n c] w fun e w' => e = .returned (.int .i64 ((sizeM vs : Nat) : Int)) ∧ Hid (Below w.heap.size w w') := by
  have HA := Lib.hid hA
  clear hA
  go_enter Try.func14, Try.ntmps14
  go_wp2_with fail
  refine (mayall_any A n c vs _ (by omega) HA.out).mono ?_
  rcases hok : allB vs
  · rintro e W1 ⟨rfl, hb⟩
    have HS : Hid (sizeM vs = 0) := if_neg (by rw [hok]; simp)
    go_wp2_with fail
    go_ret
    rw [HS.out]
    exact ⟨rfl, hb⟩
  · rintro e W1 ⟨rfl, hb⟩
    have HS : Hid (sizeM vs = (encL vs).length) := if_pos hok
    have HA1 := Lib.hid (HA.out.since hb.out)
    go_wp2_with fail
    refine (laid_any A n c vs _ hn hok HA1.out).mono ?_
    rintro e W2 ⟨A2, n2, c2, rfl, ho2, hb2⟩
    have HS2 : Hid (sizeM vs = n2) := by show _ = _; rw [HS.out, ho2.len]
    have S2 := Lib.hid (below_chain hb.out hb2)
    have hc := ho2.cap
    clear ho2 hb2
    go_wp2_with fail
    go_ret
    rw [HS2.out]
    exact ⟨rfl, S2⟩
end Go.Proofs.Ytaocppgekinocaa
