/- The landed victim whole: Choose, Order; Cost and Gain stand in the text of the small functions. Conditions: the list's cells; at most 40 blocks. -/
import Derived.Test.YtafnnpebdcnadaaVicMin
set_option linter.unusedVariables false
set_option linter.unusedSimpArgs false
namespace Go.Proofs.Ytafnnpebdcnadaa
open Go.RowKit

theorem first_least {bs : List VB} {m : VB} (h : Least15 (bs.filter cntV) (bs.filter cntV).length m) : firstV (ordV bs) = (m.id, true) := by
  have hI := ord_is bs
  have hm := hI.perm.mem_iff.2 h.mem
  cases ho : ordV bs with
  | nil => rw [ho] at hm; cases hm
  | cons a l =>
    have hu := hI.up
    have hp := hI.perm
    rw [ho] at hm hu hp
    have ha := hp.mem_iff.1 (List.mem_cons_self)
    have k1 : keptV m a := h.all a ha
    have k2 : keptV a m := by
      rcases List.mem_cons.1 hm with e | e
      · rw [e]; exact ahead_irr
      · exact (List.pairwise_cons.1 hu).1 m e
    have e := cnt_one (List.mem_filter.1 ha).2 (List.mem_filter.1 h.mem).2 k2 k1
    rw [e]; rfl
theorem first_none {bs : List VB} (h : (bs.filter cntV).length = 0) : firstV (ordV bs) = (0, false) := by
  have hp := (ord_is bs).perm
  rw [List.length_eq_zero_iff.1 h] at hp
  rw [List.perm_nil.1 hp]; rfl
theorem ord_unique {bs M : List VB} (hp : M.Perm (bs.filter cntV)) (hu : M.Pairwise keptV) : M = ordV bs := IsOrd.one ⟨hp, hu⟩ (ord_is bs) (List.Perm.refl _)
theorem cntF_len (bs : List VB) : (bs.filter cntV).length ≤ bs.length := List.length_filter_le _ _
theorem run_field_vb (xi xc xd xo xw : Int) (w : World) : Sem.run Try.prog (Instr.field 34 (Value.agg #[.int .i64 xi, .int .i64 xc, .int .i64 xd, .int .i64 xo, .int .i64 xw]) 0) w = .ok (.int .i64 xi) w := by first | rfl | kernel_rfl
set_option maxHeartbeats 2000000 in
theorem vchoose_any (A : Option Addr) (n c : Nat) (bs : List VB) (w : World) (hn : n ≤ 40) (h : vblkK.Lie w w.heap.size A n bs) : Calls Try.prog 11 #[.slice A n c] w (SaysC w (firstV (ordV bs))) := by
  have HC := Lib.hid (vmovable_any A n c bs w (by omega) h)
  have HFN : Hid ((bs.filter cntV).length ≤ 40) := by
    have := cntF_len bs
    have := h.len
    show _ ≤ _
    omega
  obtain ⟨f, HF⟩ : ∃ f, Hid (bs.filter cntV = f) := ⟨_, rfl⟩
  rw [HF.out] at HC HFN
  obtain ⟨ra, rb, HRV⟩ : ∃ ra rb, Hid (firstV (ordV bs) = (ra, rb)) := ⟨_, _, rfl⟩
  rw [HRV.out]
  clear h
  go_enter Try.func11, Try.ntmps11
  go_wp2_with fail
  refine HC.out.mono ?_
  rintro e w1 ⟨A1, m, c1, rfl, HR, HB⟩
  by_cases hm : m = 0
  · have e0 := HRV.out
    rw [first_none (by rw [HF.out, HR.out.len]; exact hm)] at e0
    obtain ⟨rfl, rfl⟩ := Prod.mk.inj e0
    subst hm
    clear HRV e0
    go_wp2_with fail
    go_ret2
    exact ⟨rfl, HB⟩
  · have hm0 : 0 < m := by omega
    have hm1 : ((m : Int) == 0) = false := by simp; omega
    have HM := Lib.hid (vmin_any A1 m c1 f w1 hm0 (by rw [← HR.out.len]; have := HFN.out; omega) HR.out.lie)
    go_wp2_with fail
    refine HM.out.mono ?_
    rintro e w2 ⟨x, rfl, hL, hB2⟩
    have e0 := HRV.out
    rw [first_least (by rw [HF.out]; exact hL)] at e0
    obtain ⟨rfl, rfl⟩ := Prod.mk.inj e0
    have HB3 := Lib.hid (below_chain HB.out hB2.out)
    clear HRV e0 hL hB2 HM
    rcases x with ⟨xi, xc, xd, xo, xw⟩
    simp only [vblkV]
    have hf := run_field_vb xi xc xd xo xw w2
    go_wp2_with fail
    go_ret2
    exact ⟨rfl, HB3⟩
/- the order -/
set_option maxHeartbeats 2000000 in
theorem vins_none (p : Option Addr) (cap : Nat) (fv : Value) (w : World) : Calls Try.prog 31 #[.slice p 0 cap, .int .i64 0, .int .i64 0, fv] w fun e w' => e = .returned (.tuple #[]) ∧ w' = w := by
  go_enter Try.func31, Try.ntmps31
  go_wp2
  refine wp_loop_rounds 1 ?_
  rw [rounds_succ]
  go_wp2
  go_end0
  exact ⟨rfl, rfl⟩
set_option maxHeartbeats 2000000 in
theorem vpdq_none (p : Option Addr) (cap : Nat) (lim : Int) (fv : Value) (w : World) : Calls Try.prog 27 #[.slice p 0 cap, .int .i64 0, .int .i64 0, .int .i64 lim, fv] w fun e w' => e = .returned (.tuple #[]) ∧ w' = w := by
  have hi := Lib.hid (vins_none p cap fv)
  go_enter Try.func27, Try.ntmps27
  go_wp2
  refine wp_loop_rounds 1 ?_
  rw [rounds_succ]
  go_wp2_with (go_at_call 31; refine (hi.out _).mono ?_; rintro e w' ⟨rfl, rfl⟩)
  (try simp only [Exit.inBlock, Exit.then]); refine bodyPost_ret (results_none rfl _ _ _) rfl ?_
  exact ⟨rfl, rfl⟩
set_option maxHeartbeats 2000000 in
theorem vsort_none (p : Option Addr) (cap : Nat) (fv : Value) (w : World) : Calls Try.prog 20 #[.slice p 0 cap, fv] w fun e w' => e = .returned (.tuple #[]) ∧ w' = w := by
  have hi := Lib.hid (fun lim => vpdq_none p cap lim fv)
  have hl : ∀ W, Calls Try.prog 28 #[.int .u64 0] W fun e w' => e = .returned (.int .i64 (Lib.bitLen 0 : Nat)) ∧ w' = W := fun W =>
    Any.bits_Len (SlLaysF0.n15.bits (P := Try.prog) (ρ := Try.sortV_ren) { Try.sortV with }) 0 W (by omega) (by omega)
  have HL := Lib.hid hl
  clear hl
  go_enter Try.func20, Try.ntmps20
  go_wp2_with (first | (go_at_call 28; refine (HL.out _).mono ?_; rintro e w' ⟨rfl, rfl⟩) | (go_at_call 27; refine (hi.out _ _).mono ?_; rintro e w' ⟨rfl, rfl⟩))
  go_end0
  exact ⟨rfl, rfl⟩
theorem vsort_row (A : Option Addr) (n c base : Nat) (L : List VB) (w : World) (hb : base ≤ w.heap.size) (hn : n ≤ 8000) (h : vblkK.Row w base A n c L) :
    Calls Try.prog 20 #[.slice A n c, .func (.func 21) #[] #[]] w fun e w' =>
      e = .returned (.tuple #[]) ∧ ∃ M : List VB, M.Perm L ∧ M.Pairwise keptV ∧ Hid (vblkK.Lie w' w'.heap.size A n M) ∧ Hid (Below base w w') := by
  rcases h.row.2 with ⟨e1, e2⟩ | ⟨g, cap, cur, e1, hbg, _⟩
  · subst e2
    have hl : L = [] := List.length_eq_zero_iff.1 h.len
    refine (vsort_none A c _ w).mono ?_
    rintro e w' ⟨rfl, rfl⟩
    exact ⟨rfl, [], by rw [hl], List.Pairwise.nil, Kind.Lie.none_, Below.refl _ _⟩
  · injection e1 with ea _ _
    subst ea
    exact vsort_any g n c base L w hbg hn h
theorem idsV_take {M : List VB} {k : Nat} (hk : k < M.length) : (idsV M).take (k + 1) = (idsV M).take k ++ [(M.getD k VB.zero).id] := by
  have hl : k < (idsV M).length := by unfold idsV; rw [List.length_map]; exact hk
  have e : (idsV M)[k] = (M.getD k VB.zero).id := by
    rw [List.getD_eq_getElem?_getD, List.getElem?_eq_getElem hk]
    exact List.getElem_map ..
  rw [List.take_succ_eq_append_getElem hl, e]
set_option maxHeartbeats 2000000 in
theorem vorder_any (A : Option Addr) (n c : Nat) (bs : List VB) (w : World) (hn : n ≤ 40) (h : vblkK.Lie w w.heap.size A n bs) : Calls Try.prog 8 #[.slice A n c] w (GivesI w (idsV (ordV bs))) := by
  have HC := Lib.hid (vmovable_any A n c bs w (by omega) h)
  have HFN : Hid ((bs.filter cntV).length ≤ 40) := by
    have := cntF_len bs
    have := h.len
    show _ ≤ _
    omega
  clear h
  go_enter Try.func8, Try.ntmps8
  go_wp2_with fail
  refine HC.out.mono ?_
  rintro e w1 ⟨A1, m, c1, rfl, HR, HB⟩
  have hm40 : m ≤ 40 := by rw [← HR.out.len]; exact HFN.out
  have HS := Lib.hid (vsort_row A1 m c1 w.heap.size _ w1 HB.out.size (by omega) HR.out)
  go_wp2_with fail
  refine HS.out.mono ?_
  rintro e w2 ⟨rfl, M, hp, hu, HLM, hB2⟩
  have HMO : Hid (M = ordV bs) := ord_unique hp hu
  have HCN : Hid (∀ x ∈ M, cntV x = true) := fun x hx => (List.mem_filter.1 (hp.mem_iff.1 hx)).2
  have HB2 : Hid (Below w.heap.size w w2) := HB.out.trans hB2.out
  have S2 := Lib.hid (Below.refl w2.heap.size w2)
  clear HS hp hu hB2 HR HB HC HFN
  go_wp2_with fail
  go_loopw [4, 13] (fun t4 t13 wr => ∃ (k : Nat) (A4 : Option Addr) (c4 : Nat), t13 = .int .i64 k ∧ k ≤ m ∧ t4 = .slice A4 k c4 ∧ Hid (intK.Row wr w2.heap.size A4 k c4 ((idsV M).take k)) ∧ Hid (Below w2.heap.size w2 wr)) (fun _ t13 _ => m - (intOf t13).toNat)
  case atStart => exact ⟨0, none, 0, rfl, Nat.zero_le _, rfl, Kind.Row.none_, S2⟩
  case round =>
    obtain ⟨k, A4, c4, rfl, hk, rfl, HR, HB⟩ := hrel
    by_cases hlt : k < m
    · obtain ⟨ad, rfl, _, ha, _⟩ := vb_cells (HLM.out.since HB.out) hlt
      have hkl : k < M.length := by rw [HLM.out.len]; exact hlt
      have HN : Hid ((idsV M).take (k + 1) = (idsV M).take k ++ [(M.getD k VB.zero).id]) := idsV_take hkl
      have hc := HCN.out (M.getD k VB.zero) (by rw [List.getD_eq_getElem?_getD, List.getElem?_eq_getElem hkl]; exact List.getElem_mem _)
      have hid := (mayV_yes.1 (cntV_yes.1 hc).1).1
      obtain ⟨b, HBK⟩ : ∃ b, Hid (M.getD k VB.zero = b) := ⟨_, rfl⟩
      rw [HBK.out] at ha hid HN
      rcases b with ⟨xi, xc, xd, xo, xw⟩
      have hid0 : 0 ≤ xi := hid.1
      have hid1 : xi ≤ 1073741824 := hid.2
      have HID : Hid (intK.wf xi) := ⟨by show _ ≤ xi; omega, by show xi ≤ _; omega⟩
      obtain ⟨d0, d1, d2, d3, d4⟩ := ha
      have i0 : (0 : Int) ≤ (k : Int) := by omega
      have i1 : (k : Int) < (m : Int) := by omega
      obtain ⟨W1, HW1⟩ : ∃ W1, Hid (W1 = wr.alloc (.cells #[.int .i64 xi, .int .i64 xc, .int .i64 xd, .int .i64 xo, .int .i64 xw] 34)) := ⟨_, rfl⟩
      have L1 : Hid (Below wr.heap.size wr W1) := by rw [HW1.out]; exact (Below.refl _ _).alloc (Nat.le_refl _) _
      have e0 : (wr.alloc (.cells #[.int .i64 xi, .int .i64 xc, .int .i64 xd, .int .i64 xo, .int .i64 xw] 34)).cell? ⟨wr.heap.size, 0, none⟩ = some (.int .i64 xi) := by rw [cell_new]; rfl
      have hsz : (wr.alloc (.cells #[.int .i64 xi, .int .i64 xc, .int .i64 xd, .int .i64 xo, .int .i64 xw] 34)).heap.size = wr.heap.size + 1 := by simp
      have B2 := Lib.hid (below_chain HB.out L1.out)
      have R2 := Lib.hid (HR.out.since L1.out)
      obtain ⟨A5, c5, W5, hr5, ho5, hb5, _⟩ := Kind.append_one (K := intK) B2.out R2.out xi HID.out #[.int .i64 xi] rfl (by omega)
      have R5 := Lib.hid (ho5.same HN.out.symm)
      have B5 := Lib.hid hb5
      rw [HW1.out, hsz] at hr5
      have HR5 := Lib.hid hr5
      clear ho5 hb5 hr5 hsz hid hid0 hid1 hc HN HBK
      go_wp2_with (at_builtin; refine wpList_append_run rfl (.tmp 17) (.tmp 20) 24 rfl rfl rfl HR5.out ?_)
      go_roundw
      case rel => exact ⟨k + 1, A5, c5, by go_num, by omega, rfl, R5, B5⟩
      case measure => simp [intOf]; omega
    · obtain rfl : k = m := by omega
      have R3 : Hid (intK.Row wr w.heap.size A4 k c4 (idsV (ordV bs))) := by
        refine (HR.out.same ?_).elder HB2.out.size
        rw [List.take_of_length_le (by unfold idsV; rw [List.length_map, HLM.out.len]; exact Nat.le_refl _), HMO.out]
      have B3 : Hid (Below w.heap.size w wr) := HB2.out.trans (HB.out.mono HB2.out.size)
      go_wp2_with fail
      go_ret
      exact ⟨A4, k, c4, rfl, R3, B3⟩
end Go.Proofs.Ytafnnpebdcnadaa
