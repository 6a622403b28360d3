/- The contract of seg.Cut. Conditions: the slice's cells. -/
import Derived.Test.YtopfdeihjjikiaaSegLaid
import Derived.Test.YtopfdeihjjikiaaSegRows
import Derived.Test.YtopfdeihjjikiaaWrong
set_option linter.unusedVariables false
set_option linter.unusedSimpArgs false
namespace Go.Proofs.Ytopfdeihjjikiaa
open Go.RowKit

/-- What Cut answers: nothing, or the size and the parts. -/
def cutO (x : Int) (st : ByteArray) (es : List E) : Option (Nat × List (List Nat)) := if (128 ≤ x ∧ x ≤ 256) ∧ mayL st.data.toList = true ∧ mayE es = true then some (x.toNat, Sg.cut x.toNat (natsOf st) (es.map toE)) else none
theorem cutO_no {x : Int} {st : ByteArray} {es : List E} (h : ¬((128 ≤ x ∧ x ≤ 256) ∧ mayL st.data.toList = true ∧ mayE es = true)) : cutO x st es = none := if_neg h
theorem cutO_yes {x : Int} {st : ByteArray} {es : List E} (h : (128 ≤ x ∧ x ≤ 256) ∧ mayL st.data.toList = true ∧ mayE es = true) : cutO x st es = some (x.toNat, Sg.cut x.toNat (natsOf st) (es.map toE)) := if_pos h
def Cuts (w : World) : Option (Nat × List (List Nat)) → Ending → World → Prop
  | none, e, w' => ∃ v, e = .returned (.tuple #[.slice none 0 0, v]) ∧ Hid (Wrong 2 w' v) ∧ Hid (Below w.heap.size w w')
  | some (s, ps), e, w' => ∃ g B C, e = .returned (.tuple #[.slice (some ⟨g, 0, none⟩) ps.length ps.length, .nilIface]) ∧ Hid (Rows2 w' w.heap.size g ps.length ps.length s ps B C) ∧ Hid (Below w.heap.size w w')
theorem cut_getD {s : Nat} {nm : List Nat} {ns : List Sg.E} {k : Nat} (h : k < Sg.parts s ns.length) : (Sg.cut s nm ns).getD k [] = Sg.part s k (Sg.parts s ns.length) nm (Sg.chunk s ns k) := by
  rw [List.getD_eq_getElem?_getD, Sg.cut_at h]; rfl
/-- From where to where the k-th part's entries stand. -/
theorem chunk_bounds {s n k : Nat} (hs : Sg.sizeOk s) (hk : k < Sg.parts s n) : k * Sg.each s ≤ n ∧ k * Sg.each s ≤ min (k * Sg.each s + Sg.each s) n ∧ min (k * Sg.each s + Sg.each s) n ≤ n := by
  obtain ⟨b1, b2, b3⟩ := Sg.parts_bd (n := n) hs
  have h1 : k * Sg.each s ≤ (Sg.parts s n - 1) * Sg.each s := Nat.mul_le_mul_right _ (by omega)
  have h2 : k * Sg.each s ≤ n := by
    rcases b3 with h | h
    · have := Sg.parts_none s h
      have : k = 0 := by omega
      subst this; omega
    · omega
  exact ⟨h2, by omega, by omega⟩
theorem chunk_mid {s k : Nat} (ns : List Sg.E) : (ns.drop (k * Sg.each s)).take (min (k * Sg.each s + Sg.each s) ns.length - k * Sg.each s) = Sg.chunk s ns k := by
  unfold Sg.chunk
  apply List.ext_getElem?
  intro j
  by_cases h : j < Sg.each s
  · by_cases h2 : k * Sg.each s + j < ns.length
    · rw [List.getElem?_take_of_lt h, List.getElem?_take_of_lt (by omega)]
    · rw [List.getElem?_eq_none (by rw [List.length_take, List.length_drop]; omega), List.getElem?_eq_none (by rw [List.length_take, List.length_drop]; omega)]
  · rw [List.getElem?_eq_none (by rw [List.length_take]; omega), List.getElem?_eq_none (by rw [List.length_take]; omega)]
set_option maxHeartbeats 8000000 in
set_option maxRecDepth 20000 in
theorem cut_no (x : Int) (st : ByteArray) (A : Option Addr) (n c : Nat) (es : List E) (w : World) (hst : st.size ≤ 9223372036854775807) (hn : n ≤ 9223372036854775807) (hA : entK.Lie w w.heap.size A n es)
    (h : ¬((128 ≤ x ∧ x ≤ 256) ∧ mayL st.data.toList = true ∧ mayE es = true)) :
    Calls Try.prog 8 #[.int .i64 x, .string st, .slice A n c] w (Cuts w none) := by
  have HA := Lib.hid hA
  clear hA
  go_enter Try.func8, Try.ntmps8
  go_wp2_with fail
  refine (each_any x _).mono ?_
  rintro e w' ⟨rfl, rfl⟩
  by_cases hx : 128 ≤ x ∧ x ≤ 256
  · have hq : ¬ eachI x = 0 := by rw [eachI_yes hx]; omega
    obtain ⟨q, HQ⟩ : ∃ q, Hid (q = eachI x) := ⟨_, rfl⟩
    rw [← HQ.out] at hq ⊢
    have hq0 : (q == 0) = false := by simpa using hq
    have h2 : ¬(mayL st.data.toList = true ∧ mayE es = true) := fun k => h ⟨hx, k⟩
    clear h hx
    go_wp2_with fail
    refine (labelmay_any st _ hst).mono ?_
    cases hl : mayL st.data.toList
    · rintro e W1 ⟨rfl, hb⟩
      go_wp2_with fail
      go_ret2
      exact ⟨_, rfl, ⟨_, _, rfl, cell_first rfl, cell_first rfl⟩, since_alloc hb _⟩
    · rintro e W1 ⟨rfl, hb⟩
      have hm : mayE es = false := by
        cases hm : mayE es
        · rfl
        · exact absurd ⟨hl, hm⟩ h2
      have HB := Lib.hid hb
      have HA1 := Lib.hid (HA.out.since hb)
      clear h2 hb hl
      go_wp2_with fail
      refine (segmay_any A n c es _ hn HA1.out).mono ?_
      rw [hm]
      rintro e W2 ⟨rfl, hb2⟩
      have S2 := Lib.hid (below_chain HB.out hb2.out)
      go_wp2_with fail
      go_ret2
      exact ⟨_, rfl, ⟨_, _, rfl, cell_first rfl, cell_first rfl⟩, since_alloc S2.out _⟩
  · rw [eachI_no hx]
    clear h hx
    go_wp2_with fail
    go_ret2
    exact ⟨_, rfl, ⟨_, _, rfl, cell_first rfl, cell_first rfl⟩, since_alloc (Below.refl _ _) _⟩
set_option maxHeartbeats 8000000 in
set_option maxRecDepth 20000 in
theorem cut_yes (s : Nat) (nm : List Nat) (A : Option Addr) (n c : Nat) (ns : List Sg.E) (w : World) (hs : Sg.sizeOk s) (hnm : OkN nm) (hok : Sg.Ok ns) (hc : n ≤ c) (hA : entK.Lie w w.heap.size A n (ns.map ofE)) :
    Calls Try.prog 8 #[.int .i64 (s : Int), .string (strOf nm), .slice A n c] w (Cuts w (some (s, Sg.cut s nm ns))) := by
  have HA := Lib.hid hA
  have HL : Hid (ns.length = n) := by have := hA.len; rw [List.length_map] at this; exact this
  have hn : n ≤ 256 := by rw [← HL.out]; exact hok.many
  have HNM := Lib.hid hnm
  have HOK := Lib.hid hok
  have HS := Lib.hid hs
  obtain ⟨P, HP⟩ : ∃ P, Hid (Sg.parts s n = P) := ⟨_, rfl⟩
  have hP : P ≤ 257 := by rw [← HP.out]; exact Sg.parts_few hs hn
  obtain ⟨q, HQ⟩ : ∃ q, Hid (Sg.each s = q) := ⟨_, rfl⟩
  have hq : 5 ≤ q ∧ q ≤ 14 := by rw [← HQ.out]; exact ⟨(Sg.each_bd hs).1, (Sg.each_bd hs).2.1⟩
  obtain ⟨hq5, hq14⟩ := hq
  obtain ⟨ps, HPS⟩ : ∃ ps, Hid (Sg.cut s nm ns = ps) := ⟨_, rfl⟩
  have HPL : Hid (ps.length = P) := by rw [← HPS.out, ← HP.out, ← HL.out]; exact Sg.cut_len s nm ns
  have hst : (strOf nm).size ≤ 36 := by rw [strOf_size]; exact hnm.len
  obtain ⟨st, HST⟩ : ∃ st, Hid (st = strOf nm) := ⟨_, rfl⟩
  have hml : mayL st.data.toList = true := by rw [HST.out, strOf_data]; exact hnm.may
  rw [← HST.out] at hst ⊢
  rw [HPS.out]
  have cE := each_any (s : Int) w
  rw [eachI_nat hs, HQ.out] at cE
  have HCE := Lib.hid cE
  have HCP := Lib.hid fun W : World => parts_any (s : Int) (n : Int) W (by omega)
  rw [partsI_nat hs, HP.out] at HCP
  obtain ⟨hs0, hs1⟩ := hs
  have bq : ((q : Int) == 0) = false := by simp; omega
  clear hA hok hnm cE
  go_enter Try.func8, Try.ntmps8
  go_wp2_with fail
  refine HCE.out.mono ?_
  rintro e w' ⟨rfl, rfl⟩
  go_wp2_with fail
  refine (labelmay_any st _ (by omega)).mono ?_
  rw [hml]
  rintro e W1 ⟨rfl, hb⟩
  have S1 := Lib.hid hb
  have HA1 := Lib.hid (HA.out.since hb)
  clear hb hml
  go_wp2_with fail
  refine (segmay_any A n c _ _ (by omega) HA1.out).mono ?_
  rw [ok_mayE HOK.out]
  rintro e W2 ⟨rfl, hb2⟩
  have S2 := Lib.hid (below_chain S1.out hb2.out)
  clear hb2 HA1 S1
  go_wp2_with fail
  refine (HCP.out _).mono ?_
  rintro e w' ⟨rfl, rfl⟩
  obtain ⟨W3, hr, hb3, hR3⟩ := make_rows_any P s (by omega) ps W2
  have S3 := Lib.hid (below_chain S2.out hb3)
  have R3 := Lib.hid (hR3.elder S2.out.size)
  obtain ⟨g, hg⟩ : ∃ g, g = W2.heap.size := ⟨_, rfl⟩
  rw [← hg] at R3 hr
  clear hg hb3 hR3
  go_wp2_with fail
  clear hr
  go_loopw [37] (fun t37 wr => ∃ (k : Nat) (B C : Nat → Nat), t37 = .int .i64 k ∧ k ≤ P ∧ Hid (Rows2 wr w.heap.size g P k s ps B C) ∧ Hid (Below w.heap.size w wr)) (fun t37 _ => P - (intOf t37).toNat)
  case atStart => exact ⟨0, _, _, rfl, Nat.zero_le _, R3, S3⟩
  case round =>
    obtain ⟨k, B, C, rfl, hk, HR, HB⟩ := hrel
    by_cases hlt : k < P
    · obtain ⟨f0, f1, f2⟩ := chunk_bounds (n := n) HS.out (by rw [HP.out]; exact hlt)
      have hch := chunk_mid (s := s) (k := k) ns
      have hpt : ps.getD k [] = Sg.part s k P nm (Sg.chunk s ns k) := by
        rw [← HPS.out, cut_getD (by rw [HL.out, HP.out]; exact hlt), HL.out, HP.out]
      have hcf := Sg.chunk_few s ns k
      rw [HQ.out] at f0 f1 f2 hch hcf
      rw [HL.out] at hch
      obtain ⟨T, HT⟩ : ∃ T, Hid (T = min (k * q + q) n) := ⟨_, rfl⟩
      rw [← HT.out] at f1 f2 hch
      have hmin : ∀ ts ty w, (Builtin.min_ ts ty #[.int .i64 ((k : Int) * (q : Int) + (q : Int)), .int .i64 (n : Int)]).run Try.prog w = .ok (.int .i64 (T : Int)) w := fun ts ty w => min_at ts ty _ _ _ (by
        have e : ((k : Int) * (q : Int)) = ((k * q : Nat) : Int) := by simp
        rw [e, HT.out]
        omega) w
      have hsl : ∀ W : World, (Instr.slice 22 (.slice A n c) (some (.int .i64 ((k : Int) * (q : Int)))) (some (.int .i64 (T : Int))) none).run Try.prog W = .ok (.slice (if c = k * q then A else A.map (·.add (k * q * 4))) (T - k * q) (c - k * q)) W := fun W => by
        have := entK.slice_mid A n c (k * q) T f1 (by omega) W
        rwa [show (((k * q : Nat)) : Int) = (k : Int) * (q : Int) by simp] at this
      obtain ⟨A5, HA5⟩ : ∃ A5 : Option Addr, Hid (A5 = if c = k * q then A else A.map (·.add (k * q * 4))) := ⟨_, rfl⟩
      rw [← HA5.out] at hsl
      have HAM : Hid (entK.Lie wr wr.heap.size A5 (T - k * q) ((Sg.chunk s ns k).map ofE)) := by
        rw [HA5.out, ← hch, List.map_take, List.map_drop]
        exact (HA.out.since HB.out).mid f1 f2 hc
      have HPT := Lib.hid hpt
      have g0 : 0 ≤ (k : Int) * (q : Int) := by
        have e : ((k : Int) * (q : Int)) = ((k * q : Nat) : Int) := by simp
        omega
      have g1 : (k : Int) * (q : Int) ≤ 256 := by
        have e : ((k : Int) * (q : Int)) = ((k * q : Nat) : Int) := by simp
        omega
      obtain ⟨D, HD⟩ : ∃ D, Hid (D = T - k * q) := ⟨_, rfl⟩
      obtain ⟨c5, HC5⟩ : ∃ c5, Hid (c5 = c - k * q) := ⟨_, rfl⟩
      rw [← HD.out, ← HC5.out] at hsl
      rw [← HD.out] at HAM
      have HCF := Lib.hid hcf
      have HCK : Hid (∀ e ∈ Sg.chunk s ns k, Sg.OkE e) := (HOK.out.sub (Sg.chunk_sub s ns k)).each
      have i0 : (0 : Int) ≤ (k : Int) := by omega
      have i1 : (k : Int) < (P : Int) := by omega
      clear f0 f1 f2 hch hpt hcf
      have cL := seglaid_any (s : Int) s k P nm (Sg.chunk s ns k) A5 D c5 wr rfl HS.out (by omega) (by omega) HNM.out (by rw [HQ.out]; exact HCF.out) HCK.out HAM.out
      unfold partV at cL
      rw [← HST.out, ← HPT.out] at cL
      have HCL := Lib.hid cL
      have HPN : Hid ((ps.getD k []).length = s) := by
        show _ = _
        rw [HPT.out]
        exact Sg.part_len HS.out HNM.out.len (by rw [HQ.out]; exact HCF.out)
      clear cL
      go_wp2_with fail
      refine HCL.out.mono ?_
      rintro e W5 ⟨A6, n6, c6, rfl, ho6, hb6⟩
      obtain rfl : s = n6 := by rw [← ho6.len]; exact HPN.out.symm
      obtain ⟨b, rfl, hb0, hb1⟩ := own_at ho6 (by omega)
      have S6 := Lib.hid (below_chain HB.out hb6)
      have R6 := Lib.hid (HR.out.since hb6)
      have R7 := Lib.hid (R6.out.store hlt (ho6.elder HB.out.size) (fun j hj => Nat.lt_of_lt_of_le (HR.out.lts hj) hb0) (Nat.lt_of_lt_of_le HR.out.lt hb0))
      have S7 : Hid (Below w.heap.size w (W5.setCell ⟨g, k, none⟩ (.slice (some ⟨b, 0, none⟩) s c6))) := S6.out.setCell HR.out.base_le _
      obtain ⟨u, hcell⟩ := R6.out.some_cell hlt
      have hfz : W5.frozen? ⟨g, k, none⟩ = false := R6.out.free k
      clear ho6 hb6 hb0 hb1
      go_wp2_with fail
      go_roundw
      case rel => exact ⟨k + 1, _, _, by go_num, by omega, R7, S7⟩
      case measure => simp [intOf]; omega
    · obtain rfl : k = P := by omega
      go_wp2_with fail
      go_ret2
      have hp := HPL.out
      subst hp
      exact ⟨g, B, C, rfl, HR, HB⟩
theorem cut_any (x : Int) (st : ByteArray) (A : Option Addr) (n c : Nat) (es : List E) (w : World) (hst : st.size ≤ 9223372036854775807) (hn : n ≤ 9223372036854775807) (hc : n ≤ c) (hA : entK.Lie w w.heap.size A n es) :
    Calls Try.prog 8 #[.int .i64 x, .string st, .slice A n c] w (Cuts w (cutO x st es)) := by
  by_cases h : (128 ≤ x ∧ x ≤ 256) ∧ mayL st.data.toList = true ∧ mayE es = true
  · rw [cutO_yes h]
    obtain ⟨⟨h0, h1⟩, h2, h3⟩ := h
    obtain ⟨s, rfl⟩ := Int.eq_ofNat_of_zero_le (show 0 ≤ x by omega)
    obtain ⟨e1, e2⟩ := mayE_ok h3 hA.all
    have hN : OkN (natsOf st) := ⟨natsOf_lt st, by rw [← strOf_data, strOf_nats]; exact h2⟩
    have := cut_yes s (natsOf st) A n c (es.map toE) w ⟨by omega, by omega⟩ hN e2 hc (by rw [← e1]; exact hA)
    rw [strOf_nats] at this
    rw [Int.toNat_natCast]
    exact this
  · rw [cutO_no h]
    exact cut_no x st A n c es w hst hn hA h
end Go.Proofs.Ytopfdeihjjikiaa
