/- The document's own wear: the least and the most worn one, the spread. Conditions: the lists' cells; at most 100 blocks. -/
import Derived.Test.YtggijifealljiaaRefWear
set_option linter.unusedVariables false
set_option linter.unusedSimpArgs false
namespace Go.Proofs.Ytggijifealljiaa
open Go.RowKit

section
variable {ws : List Int} {cs : List Bool}
theorem leastW_none (h : orderW ws cs = []) : leastW ws cs = -1 := by
  unfold leastW orderW at *
  split at h
  · rename_i hl; rw [if_pos hl]; exact least_none h
  · rename_i hl; rw [if_neg hl]
theorem greatW_none (h : orderW ws cs = []) : greatW ws cs = -1 := by
  unfold greatW orderW at *
  split at h
  · rename_i hl; rw [if_pos hl]; exact great_none h
  · rename_i hl; rw [if_neg hl]
theorem leastW_head {a : Nat} {l : List Nat} (h : orderW ws cs = a :: l) : leastW ws cs = (a : Int) := by
  unfold leastW orderW at *
  split at h
  · rename_i hl; rw [if_pos hl]; exact least_head h
  · cases h
theorem orderW_lt {x : Nat} (h : x ∈ orderW ws cs) : x < ws.length := by
  unfold orderW at h
  split at h
  · exact order_lt h
  · cases h
theorem orderW_up : (orderW ws cs).Pairwise (lexW ws) := by
  unfold orderW
  split
  · exact (order_is _).up
  · exact List.Pairwise.nil
theorem greatW_at {p : Nat} {o : List Nat} (ho : orderW ws cs = o) (hp : p < o.length) (h1 : ∀ j, p ≤ j → j < o.length → keyW ws (o.getD j 0) = keyW ws (o.getD (o.length - 1) 0)) (h2 : p = 0 ∨ keyW ws (o.getD (p - 1) 0) ≠ keyW ws (o.getD p 0)) : greatW ws cs = ((o.getD p 0 : Nat) : Int) := by
  subst ho
  unfold greatW
  by_cases hl : ws.length = cs.length
  · have e : orderW ws cs = orderN ws cs ws.length := if_pos hl
    rw [if_pos hl]
    rw [e] at hp h1 h2 ⊢
    exact great_at hp h1 h2
  · have e : orderW ws cs = [] := if_neg hl
    rw [e] at hp; simp at hp
theorem orderW_len_le : (orderW ws cs).length ≤ ws.length := by
  unfold orderW
  split
  · exact order_len_le _
  · simp
end
theorem o_mem {o : List Nat} {k : Nat} (hk : k < o.length) : o.getD k 0 ∈ o := by rw [List.getD_eq_getElem?_getD, List.getElem?_eq_getElem hk]; exact List.getElem_mem _
set_option maxHeartbeats 8000000 in
theorem refleast_any (A : Option Addr) (n c : Nat) (ws : List Int) (A' : Option Addr) (m c' : Nat) (cs : List Bool) (w : World) (hn : n ≤ 100) (hm : m ≤ 9223372036854775807) (h : Two2 w A n ws A' m cs) :
    Calls Try.prog 15 #[.slice A n c, .slice A' m c'] w (SaysI w (leastW ws cs)) := by
  have C1 := Lib.hid (reforder_any A n c ws A' m c' cs w hn hm h)
  rw [show orderI ws cs = oI (orderW ws cs) from rfl] at C1
  obtain ⟨o, HO⟩ : ∃ o, Hid (orderW ws cs = o) := ⟨_, rfl⟩
  rw [HO.out] at C1
  have hlen : o.length ≤ n := by rw [← HO.out, ← h.a.len]; exact orderW_len_le
  clear h
  cases o with
  | nil =>
    rw [leastW_none HO.out]
    go_enter Try.func15, Try.ntmps15
    go_wp2_with fail
    refine C1.out.mono ?_
    rintro e W1 ⟨A1, n1, c1, rfl, HI, HB⟩
    obtain rfl : 0 = n1 := HI.out.len
    go_wp2_with fail
    go_ret
    exact ⟨rfl, HB⟩
  | cons a l =>
    rw [leastW_head HO.out]
    go_enter Try.func15, Try.ntmps15
    go_wp2_with fail
    refine C1.out.mono ?_
    rintro e W1 ⟨A1, n1, c1, rfl, HI, HB⟩
    have hl := HI.out.len
    rw [oI_len] at hl
    have hl2 : 0 < n1 := by rw [← hl]; simp
    obtain ⟨ad, rfl, _, g1⟩ := int_at HI.out.lie hl2
    rw [show (oI (a :: l)).getD 0 0 = (a : Int) from rfl, show ad.add 0 = ad from add_none ad] at g1
    have b0 : ((n1 : Int) == 0) = false := by simp; omega
    have i1 : (0 : Int) < (n1 : Int) := by omega
    clear hl
    go_wp2_with fail
    go_ret
    exact ⟨rfl, HB⟩
set_option maxHeartbeats 16000000 in
set_option maxRecDepth 20000 in
theorem refgreat_any (A : Option Addr) (n c : Nat) (ws : List Int) (A' : Option Addr) (m c' : Nat) (cs : List Bool) (w : World) (hn : n ≤ 100) (hm : m ≤ 9223372036854775807) (h : Two2 w A n ws A' m cs) :
    Calls Try.prog 17 #[.slice A n c, .slice A' m c'] w (SaysI w (greatW ws cs)) := by
  have C1 := Lib.hid (reforder_any A n c ws A' m c' cs w hn hm h)
  rw [show orderI ws cs = oI (orderW ws cs) from rfl] at C1
  have H := Lib.hid h
  obtain ⟨o, HO⟩ : ∃ o, Hid (orderW ws cs = o) := ⟨_, rfl⟩
  rw [HO.out] at C1
  have hlen : o.length ≤ n := by rw [← HO.out, ← h.a.len]; exact orderW_len_le
  have HLT : Hid (∀ x ∈ o, x < n) := fun x hx => by rw [← H.out.a.len]; exact orderW_lt (by rw [HO.out]; exact hx)
  clear h
  by_cases hnil : o = []
  · subst hnil
    rw [greatW_none HO.out]
    go_enter Try.func17, Try.ntmps17
    go_wp2_with fail
    refine C1.out.mono ?_
    rintro e W1 ⟨A1, n1, c1, rfl, HI, HB⟩
    obtain rfl : 0 = n1 := HI.out.len
    go_wp2_with fail
    go_ret
    exact ⟨rfl, HB⟩
  have hpos : 0 < o.length := List.length_pos_iff.2 hnil
  clear hnil
  go_enter Try.func17, Try.ntmps17
  go_wp2_with fail
  refine C1.out.mono ?_
  rintro e W1 ⟨A1, mm, c1, rfl, HI, HB⟩
  have HOL : Hid (o.length = mm) := by have := HI.out.len; rw [oI_len] at this; exact this
  rw [HOL.out] at hlen hpos
  have b0 : ((mm : Int) == 0) = false := by simp; omega
  obtain ⟨m1, HM1⟩ : ∃ m1 : Nat, Hid ((mm : Int) - 1 = (m1 : Int)) := ⟨mm - 1, by show _ = _; omega⟩
  have hm1 : m1 < mm := by have := HM1.out; omega
  have HM2 : Hid (mm - 1 = m1) := by have := HM1.out; show _ = _; omega
  have HK0 : Hid (∀ j, m1 ≤ j → j < mm → keyW ws (o.getD j 0) = keyW ws (o.getD m1 0)) := fun j h1 h2 => by
    have e : j = m1 := by have := HM1.out; omega
    rw [e]
  clear C1
  go_wp2_with (simp only [HM1.out])
  go_loopw [6] (fun t6 wr => ∃ (k : Nat), t6 = .int .i64 k ∧ k < mm ∧ Hid (∀ j, k ≤ j → j < mm → keyW ws (o.getD j 0) = keyW ws (o.getD m1 0)) ∧ Hid (intK.Row wr w.heap.size A1 mm c1 (oI o)) ∧ Hid (Below w.heap.size w wr)) (fun t6 _ => (intOf t6).toNat)
  case atStart => exact ⟨m1, rfl, hm1, HK0, HI, HB⟩
  clear HI HB
  case round =>
    obtain ⟨Wb, rfl⟩ : ∃ Wb, Wb = wr := ⟨_, rfl⟩
    obtain ⟨k, rfl, hk, HK, HR, HB⟩ := hrel
    have k0 : (0 : Int) ≤ (k : Int) := by omega
    go_wp2_with fail
    obtain ⟨WD, HWD⟩ : ∃ W, Hid (W = Wb.drew) := ⟨_, rfl⟩
    have HDL : Hid (Later Wb WD) := by rw [HWD.out]; exact (Below.refl _ _).drew
    have RD := Lib.hid (HR.out.since HDL.out)
    have BD := Lib.hid (below_chain HB.out HDL.out)
    clear HR HB
    obtain ⟨ao, eA, _, g1⟩ := int_at RD.out.lie hk
    rw [oI_at (by rw [HOL.out]; exact hk)] at g1
    obtain ⟨e0, HE0⟩ : ∃ e, Hid (o.getD k 0 = e) := ⟨_, rfl⟩
    rw [HE0.out] at g1
    have he0 : e0 < n := by rw [← HE0.out]; exact HLT.out _ (o_mem (by rw [HOL.out]; exact hk))
    obtain ⟨ad, eW, _, g2⟩ := int_at (H.out.since BD.out).a he0
    obtain ⟨y0, HY0⟩ : ∃ y, Hid (ws.getD e0 0 = y) := ⟨_, rfl⟩
    rw [HY0.out] at g2
    obtain ⟨k2, HK2⟩ : ∃ y, Hid (wornM y0 = y) := ⟨_, rfl⟩
    have KE2 : keyW ws e0 = k2 := by unfold keyW; rw [HY0.out, HK2.out]
    have hai : (k : Int) < (mm : Int) := by omega
    by_cases hk0 : k = 0
    · have D1 : decide ((0 : Int) < (k : Int)) = false := decide_eq_false (by omega)
      have HG : Hid (greatW ws cs = (e0 : Int)) := by
        show _ = _
        rw [← HE0.out]
        exact greatW_at HO.out (by rw [HOL.out]; exact hk) (fun j h1 h2 => by rw [HOL.out, HM2.out]; exact HK.out j h1 (by rw [← HOL.out]; exact h2)) (Or.inl hk0)
      clear hk0 HK
      refine region_of_steps7 (by kernel_rfl) [some (.int .i64 (k : Int)), some (.bool false), some (.bool false), some undef, some undef, some undef, some undef, some undef, some undef, some undef, some undef, some undef, some undef, some undef, some undef, some undef, some undef, some undef, some undef, some undef, some undef, some (.bool false)] [] [] (LaterJ WD) (by kernel_rfl) (by kernel_rfl) (by rw [← HWD.out]; exact Below.refl _ _) ?_ ?_
      · refine Steps7.cons ?_ (Steps7.cons ?_ (Steps7.cons ?_ (Steps7.cons ?_ (Steps7.cons ?_ (Steps7.cons ?_ (Steps7.cons ?_ (Steps7.cons ?_ (Steps7.cons ?_ (Steps7.cons ?_ (Steps7.cons ?_ (Steps7.cons ?_ (Steps7.cons ?_ (Steps7.cons ?_ (Steps7.cons ?_ (Steps7.cons ?_ (Steps7.cons ?_ (Steps7.cons ?_ (Steps7.cons ?_ (Steps7.cons ?_ (Steps7.cons ?_ (Steps7.cons ?_ (Steps7.nil))))))))))))))))))))))
        · intro listed a W H hj hl hd
          have t6 : a.tmps.getD 6 undef = .int .i64 (k : Int) := (H.old 6 (by kernel_rfl)).trans rfl
          exact step7_value (i := 0) rfl rfl (run_op_move rfl t6) (calm7 laterJ_later (by kernel_rfl) (by kernel_rfl) hj (later_refl _)) rfl
        · intro listed a W H hj hl hd
          have t16 : a.tmps.getD 16 undef = .int .i64 (k : Int) := H.get 0 16 (by kernel_rfl) (dep_of hd 0 (by kernel_rfl)) (fun _ h => by cases h)
          exact step7_value (i := 1) rfl rfl (run_op_bin rfl t16 rfl (bin_gtr _ _ _ (k : Int) 0 false D1)) (calm7 laterJ_later (by kernel_rfl) (by kernel_rfl) hj (later_refl _)) rfl
        · intro listed a W H hj hl hd
          have t17 : a.tmps.getD 17 undef = .bool false := H.get 1 17 (by kernel_rfl) (dep_of hd 1 (by kernel_rfl)) (fun _ h => by cases h)
          exact step7_value (i := 2) rfl rfl (run_op_move rfl t17) (calm7 laterJ_later (by kernel_rfl) (by kernel_rfl) hj (later_refl _)) rfl
        · intro listed a W H hj hl hd
          have t18 : a.tmps.getD 18 undef = .bool false := H.get 2 18 (by kernel_rfl) (dep_of hd 2 (by kernel_rfl)) (fun _ h => by cases h)
          exact step7_skip (i := 3) rfl (unwanted_at (j := 2) (d := 18) (b := true) (c := false) rfl (by kernel_rfl) t18 rfl) (calm7 laterJ_later (by kernel_rfl) (by kernel_rfl) hj (later_refl _)) rfl
        · intro listed a W H hj hl hd
          have t18 : a.tmps.getD 18 undef = .bool false := H.get 2 18 (by kernel_rfl) (dep_of hd 2 (by kernel_rfl)) (fun _ h => by cases h)
          exact step7_skip (i := 4) rfl (unwanted_at (j := 2) (d := 18) (b := true) (c := false) rfl (by kernel_rfl) t18 rfl) (calm7 laterJ_later (by kernel_rfl) (by kernel_rfl) hj (later_refl _)) rfl
        · intro listed a W H hj hl hd
          have t18 : a.tmps.getD 18 undef = .bool false := H.get 2 18 (by kernel_rfl) (dep_of hd 2 (by kernel_rfl)) (fun _ h => by cases h)
          exact step7_skip (i := 5) rfl (unwanted_at (j := 2) (d := 18) (b := true) (c := false) rfl (by kernel_rfl) t18 rfl) (calm7 laterJ_later (by kernel_rfl) (by kernel_rfl) hj (later_refl _)) rfl
        · intro listed a W H hj hl hd
          have t18 : a.tmps.getD 18 undef = .bool false := H.get 2 18 (by kernel_rfl) (dep_of hd 2 (by kernel_rfl)) (fun _ h => by cases h)
          exact step7_skip (i := 6) rfl (unwanted_at (j := 2) (d := 18) (b := true) (c := false) rfl (by kernel_rfl) t18 rfl) (calm7 laterJ_later (by kernel_rfl) (by kernel_rfl) hj (later_refl _)) rfl
        · intro listed a W H hj hl hd
          have t18 : a.tmps.getD 18 undef = .bool false := H.get 2 18 (by kernel_rfl) (dep_of hd 2 (by kernel_rfl)) (fun _ h => by cases h)
          exact step7_skip (i := 7) rfl (unwanted_at (j := 2) (d := 18) (b := true) (c := false) rfl (by kernel_rfl) t18 rfl) (calm7 laterJ_later (by kernel_rfl) (by kernel_rfl) hj (later_refl _)) rfl
        · intro listed a W H hj hl hd
          have t18 : a.tmps.getD 18 undef = .bool false := H.get 2 18 (by kernel_rfl) (dep_of hd 2 (by kernel_rfl)) (fun _ h => by cases h)
          exact step7_skip (i := 8) rfl (unwanted_at (j := 2) (d := 18) (b := true) (c := false) rfl (by kernel_rfl) t18 rfl) (calm7 laterJ_later (by kernel_rfl) (by kernel_rfl) hj (later_refl _)) rfl
        · intro listed a W H hj hl hd
          have t18 : a.tmps.getD 18 undef = .bool false := H.get 2 18 (by kernel_rfl) (dep_of hd 2 (by kernel_rfl)) (fun _ h => by cases h)
          exact step7_skip (i := 9) rfl (unwanted_at (j := 2) (d := 18) (b := true) (c := false) rfl (by kernel_rfl) t18 rfl) (calm7 laterJ_later (by kernel_rfl) (by kernel_rfl) hj (later_refl _)) rfl
        · intro listed a W H hj hl hd
          have t18 : a.tmps.getD 18 undef = .bool false := H.get 2 18 (by kernel_rfl) (dep_of hd 2 (by kernel_rfl)) (fun _ h => by cases h)
          exact step7_skip (i := 10) rfl (unwanted_at (j := 2) (d := 18) (b := true) (c := false) rfl (by kernel_rfl) t18 rfl) (calm7 laterJ_later (by kernel_rfl) (by kernel_rfl) hj (later_refl _)) rfl
        · intro listed a W H hj hl hd
          have t18 : a.tmps.getD 18 undef = .bool false := H.get 2 18 (by kernel_rfl) (dep_of hd 2 (by kernel_rfl)) (fun _ h => by cases h)
          exact step7_skip (i := 11) rfl (unwanted_at (j := 2) (d := 18) (b := true) (c := false) rfl (by kernel_rfl) t18 rfl) (calm7 laterJ_later (by kernel_rfl) (by kernel_rfl) hj (later_refl _)) rfl
        · intro listed a W H hj hl hd
          have t18 : a.tmps.getD 18 undef = .bool false := H.get 2 18 (by kernel_rfl) (dep_of hd 2 (by kernel_rfl)) (fun _ h => by cases h)
          exact step7_skip (i := 12) rfl (unwanted_at (j := 2) (d := 18) (b := true) (c := false) rfl (by kernel_rfl) t18 rfl) (calm7 laterJ_later (by kernel_rfl) (by kernel_rfl) hj (later_refl _)) rfl
        · intro listed a W H hj hl hd
          have t18 : a.tmps.getD 18 undef = .bool false := H.get 2 18 (by kernel_rfl) (dep_of hd 2 (by kernel_rfl)) (fun _ h => by cases h)
          exact step7_skip (i := 13) rfl (unwanted_at (j := 2) (d := 18) (b := true) (c := false) rfl (by kernel_rfl) t18 rfl) (calm7 laterJ_later (by kernel_rfl) (by kernel_rfl) hj (later_refl _)) rfl
        · intro listed a W H hj hl hd
          have t18 : a.tmps.getD 18 undef = .bool false := H.get 2 18 (by kernel_rfl) (dep_of hd 2 (by kernel_rfl)) (fun _ h => by cases h)
          exact step7_skip (i := 14) rfl (unwanted_at (j := 2) (d := 18) (b := true) (c := false) rfl (by kernel_rfl) t18 rfl) (calm7 laterJ_later (by kernel_rfl) (by kernel_rfl) hj (later_refl _)) rfl
        · intro listed a W H hj hl hd
          have t18 : a.tmps.getD 18 undef = .bool false := H.get 2 18 (by kernel_rfl) (dep_of hd 2 (by kernel_rfl)) (fun _ h => by cases h)
          exact step7_skip (i := 15) rfl (unwanted_at (j := 2) (d := 18) (b := true) (c := false) rfl (by kernel_rfl) t18 rfl) (calm7 laterJ_later (by kernel_rfl) (by kernel_rfl) hj (later_refl _)) rfl
        · intro listed a W H hj hl hd
          have t18 : a.tmps.getD 18 undef = .bool false := H.get 2 18 (by kernel_rfl) (dep_of hd 2 (by kernel_rfl)) (fun _ h => by cases h)
          exact step7_skip (i := 16) rfl (unwanted_at (j := 2) (d := 18) (b := true) (c := false) rfl (by kernel_rfl) t18 rfl) (calm7 laterJ_later (by kernel_rfl) (by kernel_rfl) hj (later_refl _)) rfl
        · intro listed a W H hj hl hd
          have t18 : a.tmps.getD 18 undef = .bool false := H.get 2 18 (by kernel_rfl) (dep_of hd 2 (by kernel_rfl)) (fun _ h => by cases h)
          exact step7_skip (i := 17) rfl (unwanted_at (j := 2) (d := 18) (b := true) (c := false) rfl (by kernel_rfl) t18 rfl) (calm7 laterJ_later (by kernel_rfl) (by kernel_rfl) hj (later_refl _)) rfl
        · intro listed a W H hj hl hd
          have t18 : a.tmps.getD 18 undef = .bool false := H.get 2 18 (by kernel_rfl) (dep_of hd 2 (by kernel_rfl)) (fun _ h => by cases h)
          exact step7_skip (i := 18) rfl (unwanted_at (j := 2) (d := 18) (b := true) (c := false) rfl (by kernel_rfl) t18 rfl) (calm7 laterJ_later (by kernel_rfl) (by kernel_rfl) hj (later_refl _)) rfl
        · intro listed a W H hj hl hd
          have t18 : a.tmps.getD 18 undef = .bool false := H.get 2 18 (by kernel_rfl) (dep_of hd 2 (by kernel_rfl)) (fun _ h => by cases h)
          exact step7_skip (i := 19) rfl (unwanted_at (j := 2) (d := 18) (b := true) (c := false) rfl (by kernel_rfl) t18 rfl) (calm7 laterJ_later (by kernel_rfl) (by kernel_rfl) hj (later_refl _)) rfl
        · intro listed a W H hj hl hd
          have t18 : a.tmps.getD 18 undef = .bool false := H.get 2 18 (by kernel_rfl) (dep_of hd 2 (by kernel_rfl)) (fun _ h => by cases h)
          exact step7_skip (i := 20) rfl (unwanted_at (j := 2) (d := 18) (b := true) (c := false) rfl (by kernel_rfl) t18 rfl) (calm7 laterJ_later (by kernel_rfl) (by kernel_rfl) hj (later_refl _)) rfl
        · intro listed a W H hj hl hd
          have t18 : a.tmps.getD 18 undef = .bool false := H.get 2 18 (by kernel_rfl) (dep_of hd 2 (by kernel_rfl)) (fun _ h => by cases h)
          exact step7_value (i := 21) rfl rfl (run_op_pickF rfl t18 rfl) (calm7 laterJ_later (by kernel_rfl) (by kernel_rfl) hj (later_refl _)) rfl
      · intro a WC hdef hsz hw hall hact
        obtain ⟨u, hu⟩ : ∃ u : Nat → Value, ∀ k, a.tmps.getD k undef = u k := ⟨_, fun _ => rfl⟩
        have h37 : u 37 = .bool false := by rw [← hu]; exact hall 21 _ rfl
        simp only [hu] at hact
        have hact' : a = ([16, 17, 18, 19, 20, 21, 22, 23, 24, 25, 26, 27, 28, 29, 30, 31, 32, 33, 34, 35, 36, 37] : List Nat).foldl (fun b k => b.put (some k) (u k)) _ := hact
        simp only [List.foldl] at hact'
        simp only [Act.put, List.setIfInBounds_toArray, List.set_cons_succ, List.set_cons_zero] at hact'
        have HAC := Lib.hid hact'
        have HX := Lib.hid hw
        clear hact hact' hall hdef hsz hw
        rw [h37] at HAC
        rw [HAC.out]
        clear D1
        have RC := Lib.hid (RD.out.since HX.out)
        have BC := Lib.hid (below_chain BD.out HX.out)
        have g1c := later_cell HX.out g1
        clear RD BD HX HDL HWD hu g1
        subst eA
        go_wp2_with fail
        go_ret
        rw [HG.out]
        exact ⟨rfl, BC⟩
    · have D1 : decide ((0 : Int) < (k : Int)) = true := decide_eq_true (by omega)
      obtain ⟨ao2, eA2, _, g3⟩ := int_at RD.out.lie (show k - 1 < mm by omega)
      obtain rfl : ao = ao2 := Option.some.inj (eA.symm.trans eA2)
      rw [oI_at (by rw [HOL.out]; omega)] at g3
      obtain ⟨e1, HE1⟩ : ∃ e, Hid (o.getD (k - 1) 0 = e) := ⟨_, rfl⟩
      rw [HE1.out] at g3
      have he1 : e1 < n := by rw [← HE1.out]; exact HLT.out _ (o_mem (by rw [HOL.out]; omega))
      obtain ⟨ad2, eW2, _, g4⟩ := int_at (H.out.since BD.out).a he1
      obtain rfl : ad = ad2 := Option.some.inj (eW.symm.trans eW2)
      obtain ⟨y1, HY1⟩ : ∃ y, Hid (ws.getD e1 0 = y) := ⟨_, rfl⟩
      rw [HY1.out] at g4
      obtain ⟨k1, HK1⟩ : ∃ y, Hid (wornM y1 = y) := ⟨_, rfl⟩
      have KE1 : keyW ws e1 = k1 := by unfold keyW; rw [HY1.out, HK1.out]
      have hkm : k - 1 < mm := by omega
      have HSUB : Hid ((k : Int) - 1 = ((k - 1 : Nat) : Int)) := by show _ = _; omega
      by_cases hb : k1 = k2
      · have D2 : (k1 == k2) = true := by simpa using hb
        refine region_of_steps7 (by kernel_rfl) [some (.int .i64 (k : Int)), some (.bool true), some (.bool true), some (.slice A n c), some (.slice A1 mm c1), some (.int .i64 (k : Int)), some (.int .i64 ((k - 1 : Nat) : Int)), some (.pointer (some (ao.add (k - 1)))), some (.int .i64 (e1 : Int)), some (.pointer (some (ad.add e1))), some (.int .i64 y1), some (.int .i64 k1), some (.slice A n c), some (.slice A1 mm c1), some (.int .i64 (k : Int)), some (.pointer (some (ao.add k))), some (.int .i64 (e0 : Int)), some (.pointer (some (ad.add e0))), some (.int .i64 y0), some (.int .i64 k2), some (.bool true), some (.bool true)] [] [] (LaterJ WD) (by kernel_rfl) (by kernel_rfl) (by rw [← HWD.out]; exact Below.refl _ _) ?_ ?_
        · refine Steps7.cons ?_ (Steps7.cons ?_ (Steps7.cons ?_ (Steps7.cons ?_ (Steps7.cons ?_ (Steps7.cons ?_ (Steps7.cons ?_ (Steps7.cons ?_ (Steps7.cons ?_ (Steps7.cons ?_ (Steps7.cons ?_ (Steps7.cons ?_ (Steps7.cons ?_ (Steps7.cons ?_ (Steps7.cons ?_ (Steps7.cons ?_ (Steps7.cons ?_ (Steps7.cons ?_ (Steps7.cons ?_ (Steps7.cons ?_ (Steps7.cons ?_ (Steps7.cons ?_ (Steps7.nil))))))))))))))))))))))
          · intro listed a W H hj hl hd
            have t6 : a.tmps.getD 6 undef = .int .i64 (k : Int) := (H.old 6 (by kernel_rfl)).trans rfl
            exact step7_value (i := 0) rfl rfl (run_op_move rfl t6) (calm7 laterJ_later (by kernel_rfl) (by kernel_rfl) hj (later_refl _)) rfl
          · intro listed a W H hj hl hd
            have t16 : a.tmps.getD 16 undef = .int .i64 (k : Int) := H.get 0 16 (by kernel_rfl) (dep_of hd 0 (by kernel_rfl)) (fun _ h => by cases h)
            exact step7_value (i := 1) rfl rfl (run_op_bin rfl t16 rfl (bin_gtr _ _ _ (k : Int) 0 true D1)) (calm7 laterJ_later (by kernel_rfl) (by kernel_rfl) hj (later_refl _)) rfl
          · intro listed a W H hj hl hd
            have t17 : a.tmps.getD 17 undef = .bool true := H.get 1 17 (by kernel_rfl) (dep_of hd 1 (by kernel_rfl)) (fun _ h => by cases h)
            exact step7_value (i := 2) rfl rfl (run_op_move rfl t17) (calm7 laterJ_later (by kernel_rfl) (by kernel_rfl) hj (later_refl _)) rfl
          · intro listed a W H hj hl hd
            have t18 : a.tmps.getD 18 undef = .bool true := H.get 2 18 (by kernel_rfl) (dep_of hd 2 (by kernel_rfl)) (fun _ h => by cases h)
            have t0 : a.tmps.getD 0 undef = .slice A n c := (H.old 0 (by kernel_rfl)).trans rfl
            exact step7_value (i := 3) rfl (wanted_at (j := 2) (d := 18) (b := true) rfl (by kernel_rfl) t18) (run_op_move rfl t0) (calm7 laterJ_later (by kernel_rfl) (by kernel_rfl) hj (later_refl _)) rfl
          · intro listed a W H hj hl hd
            have t18 : a.tmps.getD 18 undef = .bool true := H.get 2 18 (by kernel_rfl) (dep_of hd 2 (by kernel_rfl)) (fun _ h => by cases h)
            have t5 : a.tmps.getD 5 undef = .slice A1 mm c1 := (H.old 5 (by kernel_rfl)).trans rfl
            exact step7_value (i := 4) rfl (wanted_at (j := 2) (d := 18) (b := true) rfl (by kernel_rfl) t18) (run_op_move rfl t5) (calm7 laterJ_later (by kernel_rfl) (by kernel_rfl) hj (later_refl _)) rfl
          · intro listed a W H hj hl hd
            have t18 : a.tmps.getD 18 undef = .bool true := H.get 2 18 (by kernel_rfl) (dep_of hd 2 (by kernel_rfl)) (fun _ h => by cases h)
            have t6 : a.tmps.getD 6 undef = .int .i64 (k : Int) := (H.old 6 (by kernel_rfl)).trans rfl
            exact step7_value (i := 5) rfl (wanted_at (j := 2) (d := 18) (b := true) rfl (by kernel_rfl) t18) (run_op_move rfl t6) (calm7 laterJ_later (by kernel_rfl) (by kernel_rfl) hj (later_refl _)) rfl
          · intro listed a W H hj hl hd
            have t18 : a.tmps.getD 18 undef = .bool true := H.get 2 18 (by kernel_rfl) (dep_of hd 2 (by kernel_rfl)) (fun _ h => by cases h)
            have t21 : a.tmps.getD 21 undef = .int .i64 (k : Int) := H.get 5 21 (by kernel_rfl) (dep_of hd 5 (by kernel_rfl)) (fun _ h => by cases h)
            exact step7_value (i := 6) rfl (wanted_at (j := 2) (d := 18) (b := true) rfl (by kernel_rfl) t18) (run_op_bin rfl t21 rfl (bin_sub _ _ _ (k : Int) 1 ((k - 1 : Nat) : Int) HSUB.out (by omega) (by omega))) (calm7 laterJ_later (by kernel_rfl) (by kernel_rfl) hj (later_refl _)) rfl
          · intro listed a W H hj hl hd
            have t18 : a.tmps.getD 18 undef = .bool true := H.get 2 18 (by kernel_rfl) (dep_of hd 2 (by kernel_rfl)) (fun _ h => by cases h)
            have t20 : a.tmps.getD 20 undef = .slice A1 mm c1 := H.get 4 20 (by kernel_rfl) (dep_of hd 4 (by kernel_rfl)) (fun _ h => by cases h)
            have t22 : a.tmps.getD 22 undef = .int .i64 ((k - 1 : Nat) : Int) := H.get 6 22 (by kernel_rfl) (dep_of hd 6 (by kernel_rfl)) (fun _ h => by cases h)
            exact step7_value (i := 7) rfl (wanted_at (j := 2) (d := 18) (b := true) rfl (by kernel_rfl) t18) (run_op_index rfl t20 t22 (by rw [eA]; exact run_index_i ao mm c1 (k - 1) hkm W)) (calm7 laterJ_later (by kernel_rfl) (by kernel_rfl) hj (later_refl _)) rfl
          · intro listed a W H hj hl hd
            have t18 : a.tmps.getD 18 undef = .bool true := H.get 2 18 (by kernel_rfl) (dep_of hd 2 (by kernel_rfl)) (fun _ h => by cases h)
            have t23 : a.tmps.getD 23 undef = .pointer (some (ao.add (k - 1))) := H.get 7 23 (by kernel_rfl) (dep_of hd 7 (by kernel_rfl)) (fun _ h => by cases h)
            exact step7_value (i := 8) rfl (wanted_at (j := 2) (d := 18) (b := true) rfl (by kernel_rfl) t18) (run_op_load rfl t23 (run_load_int _ _ W (later_cell hj g3))) (calm7 laterJ_later (by kernel_rfl) (by kernel_rfl) hj (later_refl _)) rfl
          · intro listed a W H hj hl hd
            have t18 : a.tmps.getD 18 undef = .bool true := H.get 2 18 (by kernel_rfl) (dep_of hd 2 (by kernel_rfl)) (fun _ h => by cases h)
            have t19 : a.tmps.getD 19 undef = .slice A n c := H.get 3 19 (by kernel_rfl) (dep_of hd 3 (by kernel_rfl)) (fun _ h => by cases h)
            have t24 : a.tmps.getD 24 undef = .int .i64 (e1 : Int) := H.get 8 24 (by kernel_rfl) (dep_of hd 8 (by kernel_rfl)) (fun _ h => by cases h)
            exact step7_value (i := 9) rfl (wanted_at (j := 2) (d := 18) (b := true) rfl (by kernel_rfl) t18) (run_op_index rfl t19 t24 (by rw [eW]; exact run_index_i ad n c e1 he1 W)) (calm7 laterJ_later (by kernel_rfl) (by kernel_rfl) hj (later_refl _)) rfl
          · intro listed a W H hj hl hd
            have t18 : a.tmps.getD 18 undef = .bool true := H.get 2 18 (by kernel_rfl) (dep_of hd 2 (by kernel_rfl)) (fun _ h => by cases h)
            have t25 : a.tmps.getD 25 undef = .pointer (some (ad.add e1)) := H.get 9 25 (by kernel_rfl) (dep_of hd 9 (by kernel_rfl)) (fun _ h => by cases h)
            exact step7_value (i := 10) rfl (wanted_at (j := 2) (d := 18) (b := true) rfl (by kernel_rfl) t18) (run_op_load rfl t25 (run_load_int _ _ W (later_cell hj g4))) (calm7 laterJ_later (by kernel_rfl) (by kernel_rfl) hj (later_refl _)) rfl
          · intro listed a W H hj hl hd
            have t18 : a.tmps.getD 18 undef = .bool true := H.get 2 18 (by kernel_rfl) (dep_of hd 2 (by kernel_rfl)) (fun _ h => by cases h)
            have t26 : a.tmps.getD 26 undef = .int .i64 y1 := H.get 10 26 (by kernel_rfl) (dep_of hd 10 (by kernel_rfl)) (fun _ h => by cases h)
            refine step7_call (i := 11) rfl (wanted_at (j := 2) (d := 18) (b := true) rfl (by kernel_rfl) t18) (run_op_call (vs := #[.int .i64 y1]) Try.func27 (by kernel_rfl) (by kernel_rfl) rfl (by simp only [List.map_toArray, List.map_cons, List.map_nil]; show #[a.tmps.getD 26 undef] = _; rw [t26])) ?_
            refine (refworn_any _ W).mono ?_
            rintro e w' ⟨rfl, rfl⟩
            refine ⟨_, rfl, (calm7 laterJ_later (by kernel_rfl) (by kernel_rfl) hj (later_refl _)), ?_⟩
            show Value.int IntKind.i64 _ = _; rw [HK1.out]
          · intro listed a W H hj hl hd
            have t18 : a.tmps.getD 18 undef = .bool true := H.get 2 18 (by kernel_rfl) (dep_of hd 2 (by kernel_rfl)) (fun _ h => by cases h)
            have t0 : a.tmps.getD 0 undef = .slice A n c := (H.old 0 (by kernel_rfl)).trans rfl
            exact step7_value (i := 12) rfl (wanted_at (j := 2) (d := 18) (b := true) rfl (by kernel_rfl) t18) (run_op_move rfl t0) (calm7 laterJ_later (by kernel_rfl) (by kernel_rfl) hj (later_refl _)) rfl
          · intro listed a W H hj hl hd
            have t18 : a.tmps.getD 18 undef = .bool true := H.get 2 18 (by kernel_rfl) (dep_of hd 2 (by kernel_rfl)) (fun _ h => by cases h)
            have t5 : a.tmps.getD 5 undef = .slice A1 mm c1 := (H.old 5 (by kernel_rfl)).trans rfl
            exact step7_value (i := 13) rfl (wanted_at (j := 2) (d := 18) (b := true) rfl (by kernel_rfl) t18) (run_op_move rfl t5) (calm7 laterJ_later (by kernel_rfl) (by kernel_rfl) hj (later_refl _)) rfl
          · intro listed a W H hj hl hd
            have t18 : a.tmps.getD 18 undef = .bool true := H.get 2 18 (by kernel_rfl) (dep_of hd 2 (by kernel_rfl)) (fun _ h => by cases h)
            have t6 : a.tmps.getD 6 undef = .int .i64 (k : Int) := (H.old 6 (by kernel_rfl)).trans rfl
            exact step7_value (i := 14) rfl (wanted_at (j := 2) (d := 18) (b := true) rfl (by kernel_rfl) t18) (run_op_move rfl t6) (calm7 laterJ_later (by kernel_rfl) (by kernel_rfl) hj (later_refl _)) rfl
          · intro listed a W H hj hl hd
            have t18 : a.tmps.getD 18 undef = .bool true := H.get 2 18 (by kernel_rfl) (dep_of hd 2 (by kernel_rfl)) (fun _ h => by cases h)
            have t29 : a.tmps.getD 29 undef = .slice A1 mm c1 := H.get 13 29 (by kernel_rfl) (dep_of hd 13 (by kernel_rfl)) (fun _ h => by cases h)
            have t30 : a.tmps.getD 30 undef = .int .i64 (k : Int) := H.get 14 30 (by kernel_rfl) (dep_of hd 14 (by kernel_rfl)) (fun _ h => by cases h)
            exact step7_value (i := 15) rfl (wanted_at (j := 2) (d := 18) (b := true) rfl (by kernel_rfl) t18) (run_op_index rfl t29 t30 (by rw [eA]; exact run_index_i ao mm c1 k hk W)) (calm7 laterJ_later (by kernel_rfl) (by kernel_rfl) hj (later_refl _)) rfl
          · intro listed a W H hj hl hd
            have t18 : a.tmps.getD 18 undef = .bool true := H.get 2 18 (by kernel_rfl) (dep_of hd 2 (by kernel_rfl)) (fun _ h => by cases h)
            have t31 : a.tmps.getD 31 undef = .pointer (some (ao.add k)) := H.get 15 31 (by kernel_rfl) (dep_of hd 15 (by kernel_rfl)) (fun _ h => by cases h)
            exact step7_value (i := 16) rfl (wanted_at (j := 2) (d := 18) (b := true) rfl (by kernel_rfl) t18) (run_op_load rfl t31 (run_load_int _ _ W (later_cell hj g1))) (calm7 laterJ_later (by kernel_rfl) (by kernel_rfl) hj (later_refl _)) rfl
          · intro listed a W H hj hl hd
            have t18 : a.tmps.getD 18 undef = .bool true := H.get 2 18 (by kernel_rfl) (dep_of hd 2 (by kernel_rfl)) (fun _ h => by cases h)
            have t28 : a.tmps.getD 28 undef = .slice A n c := H.get 12 28 (by kernel_rfl) (dep_of hd 12 (by kernel_rfl)) (fun _ h => by cases h)
            have t32 : a.tmps.getD 32 undef = .int .i64 (e0 : Int) := H.get 16 32 (by kernel_rfl) (dep_of hd 16 (by kernel_rfl)) (fun _ h => by cases h)
            exact step7_value (i := 17) rfl (wanted_at (j := 2) (d := 18) (b := true) rfl (by kernel_rfl) t18) (run_op_index rfl t28 t32 (by rw [eW]; exact run_index_i ad n c e0 he0 W)) (calm7 laterJ_later (by kernel_rfl) (by kernel_rfl) hj (later_refl _)) rfl
          · intro listed a W H hj hl hd
            have t18 : a.tmps.getD 18 undef = .bool true := H.get 2 18 (by kernel_rfl) (dep_of hd 2 (by kernel_rfl)) (fun _ h => by cases h)
            have t33 : a.tmps.getD 33 undef = .pointer (some (ad.add e0)) := H.get 17 33 (by kernel_rfl) (dep_of hd 17 (by kernel_rfl)) (fun _ h => by cases h)
            exact step7_value (i := 18) rfl (wanted_at (j := 2) (d := 18) (b := true) rfl (by kernel_rfl) t18) (run_op_load rfl t33 (run_load_int _ _ W (later_cell hj g2))) (calm7 laterJ_later (by kernel_rfl) (by kernel_rfl) hj (later_refl _)) rfl
          · intro listed a W H hj hl hd
            have t18 : a.tmps.getD 18 undef = .bool true := H.get 2 18 (by kernel_rfl) (dep_of hd 2 (by kernel_rfl)) (fun _ h => by cases h)
            have t34 : a.tmps.getD 34 undef = .int .i64 y0 := H.get 18 34 (by kernel_rfl) (dep_of hd 18 (by kernel_rfl)) (fun _ h => by cases h)
            refine step7_call (i := 19) rfl (wanted_at (j := 2) (d := 18) (b := true) rfl (by kernel_rfl) t18) (run_op_call (vs := #[.int .i64 y0]) Try.func27 (by kernel_rfl) (by kernel_rfl) rfl (by simp only [List.map_toArray, List.map_cons, List.map_nil]; show #[a.tmps.getD 34 undef] = _; rw [t34])) ?_
            refine (refworn_any _ W).mono ?_
            rintro e w' ⟨rfl, rfl⟩
            refine ⟨_, rfl, (calm7 laterJ_later (by kernel_rfl) (by kernel_rfl) hj (later_refl _)), ?_⟩
            show Value.int IntKind.i64 _ = _; rw [HK2.out]
          · intro listed a W H hj hl hd
            have t18 : a.tmps.getD 18 undef = .bool true := H.get 2 18 (by kernel_rfl) (dep_of hd 2 (by kernel_rfl)) (fun _ h => by cases h)
            have t27 : a.tmps.getD 27 undef = .int .i64 k1 := H.get 11 27 (by kernel_rfl) (dep_of hd 11 (by kernel_rfl)) (fun _ h => by cases h)
            have t35 : a.tmps.getD 35 undef = .int .i64 k2 := H.get 19 35 (by kernel_rfl) (dep_of hd 19 (by kernel_rfl)) (fun _ h => by cases h)
            exact step7_value (i := 20) rfl (wanted_at (j := 2) (d := 18) (b := true) rfl (by kernel_rfl) t18) (run_op_bin rfl t27 t35 (bin_eql _ _ _ k1 k2 true D2)) (calm7 laterJ_later (by kernel_rfl) (by kernel_rfl) hj (later_refl _)) rfl
          · intro listed a W H hj hl hd
            have t18 : a.tmps.getD 18 undef = .bool true := H.get 2 18 (by kernel_rfl) (dep_of hd 2 (by kernel_rfl)) (fun _ h => by cases h)
            have t36 : a.tmps.getD 36 undef = .bool true := H.get 20 36 (by kernel_rfl) (dep_of hd 20 (by kernel_rfl)) (fun _ h => by cases h)
            exact step7_value (i := 21) rfl rfl (run_op_pick rfl t18 t36) (calm7 laterJ_later (by kernel_rfl) (by kernel_rfl) hj (later_refl _)) rfl
        · intro a WC hdef hsz hw hall hact
          obtain ⟨u, hu⟩ : ∃ u : Nat → Value, ∀ k, a.tmps.getD k undef = u k := ⟨_, fun _ => rfl⟩
          have h37 : u 37 = .bool true := by rw [← hu]; exact hall 21 _ rfl
          simp only [hu] at hact
          have hact' : a = ([16, 17, 18, 19, 20, 21, 22, 23, 24, 25, 26, 27, 28, 29, 30, 31, 32, 33, 34, 35, 36, 37] : List Nat).foldl (fun b k => b.put (some k) (u k)) _ := hact
          simp only [List.foldl] at hact'
          simp only [Act.put, List.setIfInBounds_toArray, List.set_cons_succ, List.set_cons_zero] at hact'
          have HAC := Lib.hid hact'
          have HX := Lib.hid hw
          clear hact hact' hall hdef hsz hw
          rw [h37] at HAC
          rw [HAC.out]
          have RC := Lib.hid (RD.out.since HX.out)
          have BC := Lib.hid (below_chain BD.out HX.out)
          have g1c := later_cell HX.out g1
          clear RD BD HX HDL HWD hu g1
          obtain ⟨kk, HKK⟩ : ∃ kk : Nat, Hid (k - 1 = kk) := ⟨_, rfl⟩
          have hkk : kk < mm := by rw [← HKK.out]; omega
          have hklt : kk < k := by rw [← HKK.out]; omega
          have HK3 : Hid (∀ j, kk ≤ j → j < mm → keyW ws (o.getD j 0) = keyW ws (o.getD m1 0)) := fun j h1 h2 => by
            by_cases e : j = k - 1
            · rw [e, HE1.out, KE1, hb, ← KE2, ← HE0.out]; exact HK.out k (Nat.le_refl _) hk
            · exact HK.out j (by have := HKK.out; omega) h2
          rw [HKK.out] at HSUB
          clear eA eA2 eW eW2 g3 g4 g2 g1c HY1 HY0 HK1 HK2 KE1 KE2 he1 he0 hkm D1 D2 hb HE0 HE1 HK hk0
          go_wp2_with (simp only [HSUB.out])
          go_roundw
          case rel => exact ⟨kk, by go_num, hkk, HK3, RC, BC⟩
          case measure => simp [intOf]; omega
      · have D2 : (k1 == k2) = false := by simpa using hb
        have HG : Hid (greatW ws cs = (e0 : Int)) := by
          show _ = _
          rw [← HE0.out]
          exact greatW_at HO.out (by rw [HOL.out]; exact hk) (fun j h1 h2 => by rw [HOL.out, HM2.out]; exact HK.out j h1 (by rw [← HOL.out]; exact h2)) (Or.inr (by rw [HE1.out, HE0.out, KE1, KE2]; exact hb))
        refine region_of_steps7 (by kernel_rfl) [some (.int .i64 (k : Int)), some (.bool true), some (.bool true), some (.slice A n c), some (.slice A1 mm c1), some (.int .i64 (k : Int)), some (.int .i64 ((k - 1 : Nat) : Int)), some (.pointer (some (ao.add (k - 1)))), some (.int .i64 (e1 : Int)), some (.pointer (some (ad.add e1))), some (.int .i64 y1), some (.int .i64 k1), some (.slice A n c), some (.slice A1 mm c1), some (.int .i64 (k : Int)), some (.pointer (some (ao.add k))), some (.int .i64 (e0 : Int)), some (.pointer (some (ad.add e0))), some (.int .i64 y0), some (.int .i64 k2), some (.bool false), some (.bool false)] [] [] (LaterJ WD) (by kernel_rfl) (by kernel_rfl) (by rw [← HWD.out]; exact Below.refl _ _) ?_ ?_
        · refine Steps7.cons ?_ (Steps7.cons ?_ (Steps7.cons ?_ (Steps7.cons ?_ (Steps7.cons ?_ (Steps7.cons ?_ (Steps7.cons ?_ (Steps7.cons ?_ (Steps7.cons ?_ (Steps7.cons ?_ (Steps7.cons ?_ (Steps7.cons ?_ (Steps7.cons ?_ (Steps7.cons ?_ (Steps7.cons ?_ (Steps7.cons ?_ (Steps7.cons ?_ (Steps7.cons ?_ (Steps7.cons ?_ (Steps7.cons ?_ (Steps7.cons ?_ (Steps7.cons ?_ (Steps7.nil))))))))))))))))))))))
          · intro listed a W H hj hl hd
            have t6 : a.tmps.getD 6 undef = .int .i64 (k : Int) := (H.old 6 (by kernel_rfl)).trans rfl
            exact step7_value (i := 0) rfl rfl (run_op_move rfl t6) (calm7 laterJ_later (by kernel_rfl) (by kernel_rfl) hj (later_refl _)) rfl
          · intro listed a W H hj hl hd
            have t16 : a.tmps.getD 16 undef = .int .i64 (k : Int) := H.get 0 16 (by kernel_rfl) (dep_of hd 0 (by kernel_rfl)) (fun _ h => by cases h)
            exact step7_value (i := 1) rfl rfl (run_op_bin rfl t16 rfl (bin_gtr _ _ _ (k : Int) 0 true D1)) (calm7 laterJ_later (by kernel_rfl) (by kernel_rfl) hj (later_refl _)) rfl
          · intro listed a W H hj hl hd
            have t17 : a.tmps.getD 17 undef = .bool true := H.get 1 17 (by kernel_rfl) (dep_of hd 1 (by kernel_rfl)) (fun _ h => by cases h)
            exact step7_value (i := 2) rfl rfl (run_op_move rfl t17) (calm7 laterJ_later (by kernel_rfl) (by kernel_rfl) hj (later_refl _)) rfl
          · intro listed a W H hj hl hd
            have t18 : a.tmps.getD 18 undef = .bool true := H.get 2 18 (by kernel_rfl) (dep_of hd 2 (by kernel_rfl)) (fun _ h => by cases h)
            have t0 : a.tmps.getD 0 undef = .slice A n c := (H.old 0 (by kernel_rfl)).trans rfl
            exact step7_value (i := 3) rfl (wanted_at (j := 2) (d := 18) (b := true) rfl (by kernel_rfl) t18) (run_op_move rfl t0) (calm7 laterJ_later (by kernel_rfl) (by kernel_rfl) hj (later_refl _)) rfl
          · intro listed a W H hj hl hd
            have t18 : a.tmps.getD 18 undef = .bool true := H.get 2 18 (by kernel_rfl) (dep_of hd 2 (by kernel_rfl)) (fun _ h => by cases h)
            have t5 : a.tmps.getD 5 undef = .slice A1 mm c1 := (H.old 5 (by kernel_rfl)).trans rfl
            exact step7_value (i := 4) rfl (wanted_at (j := 2) (d := 18) (b := true) rfl (by kernel_rfl) t18) (run_op_move rfl t5) (calm7 laterJ_later (by kernel_rfl) (by kernel_rfl) hj (later_refl _)) rfl
          · intro listed a W H hj hl hd
            have t18 : a.tmps.getD 18 undef = .bool true := H.get 2 18 (by kernel_rfl) (dep_of hd 2 (by kernel_rfl)) (fun _ h => by cases h)
            have t6 : a.tmps.getD 6 undef = .int .i64 (k : Int) := (H.old 6 (by kernel_rfl)).trans rfl
            exact step7_value (i := 5) rfl (wanted_at (j := 2) (d := 18) (b := true) rfl (by kernel_rfl) t18) (run_op_move rfl t6) (calm7 laterJ_later (by kernel_rfl) (by kernel_rfl) hj (later_refl _)) rfl
          · intro listed a W H hj hl hd
            have t18 : a.tmps.getD 18 undef = .bool true := H.get 2 18 (by kernel_rfl) (dep_of hd 2 (by kernel_rfl)) (fun _ h => by cases h)
            have t21 : a.tmps.getD 21 undef = .int .i64 (k : Int) := H.get 5 21 (by kernel_rfl) (dep_of hd 5 (by kernel_rfl)) (fun _ h => by cases h)
            exact step7_value (i := 6) rfl (wanted_at (j := 2) (d := 18) (b := true) rfl (by kernel_rfl) t18) (run_op_bin rfl t21 rfl (bin_sub _ _ _ (k : Int) 1 ((k - 1 : Nat) : Int) HSUB.out (by omega) (by omega))) (calm7 laterJ_later (by kernel_rfl) (by kernel_rfl) hj (later_refl _)) rfl
          · intro listed a W H hj hl hd
            have t18 : a.tmps.getD 18 undef = .bool true := H.get 2 18 (by kernel_rfl) (dep_of hd 2 (by kernel_rfl)) (fun _ h => by cases h)
            have t20 : a.tmps.getD 20 undef = .slice A1 mm c1 := H.get 4 20 (by kernel_rfl) (dep_of hd 4 (by kernel_rfl)) (fun _ h => by cases h)
            have t22 : a.tmps.getD 22 undef = .int .i64 ((k - 1 : Nat) : Int) := H.get 6 22 (by kernel_rfl) (dep_of hd 6 (by kernel_rfl)) (fun _ h => by cases h)
            exact step7_value (i := 7) rfl (wanted_at (j := 2) (d := 18) (b := true) rfl (by kernel_rfl) t18) (run_op_index rfl t20 t22 (by rw [eA]; exact run_index_i ao mm c1 (k - 1) hkm W)) (calm7 laterJ_later (by kernel_rfl) (by kernel_rfl) hj (later_refl _)) rfl
          · intro listed a W H hj hl hd
            have t18 : a.tmps.getD 18 undef = .bool true := H.get 2 18 (by kernel_rfl) (dep_of hd 2 (by kernel_rfl)) (fun _ h => by cases h)
            have t23 : a.tmps.getD 23 undef = .pointer (some (ao.add (k - 1))) := H.get 7 23 (by kernel_rfl) (dep_of hd 7 (by kernel_rfl)) (fun _ h => by cases h)
            exact step7_value (i := 8) rfl (wanted_at (j := 2) (d := 18) (b := true) rfl (by kernel_rfl) t18) (run_op_load rfl t23 (run_load_int _ _ W (later_cell hj g3))) (calm7 laterJ_later (by kernel_rfl) (by kernel_rfl) hj (later_refl _)) rfl
          · intro listed a W H hj hl hd
            have t18 : a.tmps.getD 18 undef = .bool true := H.get 2 18 (by kernel_rfl) (dep_of hd 2 (by kernel_rfl)) (fun _ h => by cases h)
            have t19 : a.tmps.getD 19 undef = .slice A n c := H.get 3 19 (by kernel_rfl) (dep_of hd 3 (by kernel_rfl)) (fun _ h => by cases h)
            have t24 : a.tmps.getD 24 undef = .int .i64 (e1 : Int) := H.get 8 24 (by kernel_rfl) (dep_of hd 8 (by kernel_rfl)) (fun _ h => by cases h)
            exact step7_value (i := 9) rfl (wanted_at (j := 2) (d := 18) (b := true) rfl (by kernel_rfl) t18) (run_op_index rfl t19 t24 (by rw [eW]; exact run_index_i ad n c e1 he1 W)) (calm7 laterJ_later (by kernel_rfl) (by kernel_rfl) hj (later_refl _)) rfl
          · intro listed a W H hj hl hd
            have t18 : a.tmps.getD 18 undef = .bool true := H.get 2 18 (by kernel_rfl) (dep_of hd 2 (by kernel_rfl)) (fun _ h => by cases h)
            have t25 : a.tmps.getD 25 undef = .pointer (some (ad.add e1)) := H.get 9 25 (by kernel_rfl) (dep_of hd 9 (by kernel_rfl)) (fun _ h => by cases h)
            exact step7_value (i := 10) rfl (wanted_at (j := 2) (d := 18) (b := true) rfl (by kernel_rfl) t18) (run_op_load rfl t25 (run_load_int _ _ W (later_cell hj g4))) (calm7 laterJ_later (by kernel_rfl) (by kernel_rfl) hj (later_refl _)) rfl
          · intro listed a W H hj hl hd
            have t18 : a.tmps.getD 18 undef = .bool true := H.get 2 18 (by kernel_rfl) (dep_of hd 2 (by kernel_rfl)) (fun _ h => by cases h)
            have t26 : a.tmps.getD 26 undef = .int .i64 y1 := H.get 10 26 (by kernel_rfl) (dep_of hd 10 (by kernel_rfl)) (fun _ h => by cases h)
            refine step7_call (i := 11) rfl (wanted_at (j := 2) (d := 18) (b := true) rfl (by kernel_rfl) t18) (run_op_call (vs := #[.int .i64 y1]) Try.func27 (by kernel_rfl) (by kernel_rfl) rfl (by simp only [List.map_toArray, List.map_cons, List.map_nil]; show #[a.tmps.getD 26 undef] = _; rw [t26])) ?_
            refine (refworn_any _ W).mono ?_
            rintro e w' ⟨rfl, rfl⟩
            refine ⟨_, rfl, (calm7 laterJ_later (by kernel_rfl) (by kernel_rfl) hj (later_refl _)), ?_⟩
            show Value.int IntKind.i64 _ = _; rw [HK1.out]
          · intro listed a W H hj hl hd
            have t18 : a.tmps.getD 18 undef = .bool true := H.get 2 18 (by kernel_rfl) (dep_of hd 2 (by kernel_rfl)) (fun _ h => by cases h)
            have t0 : a.tmps.getD 0 undef = .slice A n c := (H.old 0 (by kernel_rfl)).trans rfl
            exact step7_value (i := 12) rfl (wanted_at (j := 2) (d := 18) (b := true) rfl (by kernel_rfl) t18) (run_op_move rfl t0) (calm7 laterJ_later (by kernel_rfl) (by kernel_rfl) hj (later_refl _)) rfl
          · intro listed a W H hj hl hd
            have t18 : a.tmps.getD 18 undef = .bool true := H.get 2 18 (by kernel_rfl) (dep_of hd 2 (by kernel_rfl)) (fun _ h => by cases h)
            have t5 : a.tmps.getD 5 undef = .slice A1 mm c1 := (H.old 5 (by kernel_rfl)).trans rfl
            exact step7_value (i := 13) rfl (wanted_at (j := 2) (d := 18) (b := true) rfl (by kernel_rfl) t18) (run_op_move rfl t5) (calm7 laterJ_later (by kernel_rfl) (by kernel_rfl) hj (later_refl _)) rfl
          · intro listed a W H hj hl hd
            have t18 : a.tmps.getD 18 undef = .bool true := H.get 2 18 (by kernel_rfl) (dep_of hd 2 (by kernel_rfl)) (fun _ h => by cases h)
            have t6 : a.tmps.getD 6 undef = .int .i64 (k : Int) := (H.old 6 (by kernel_rfl)).trans rfl
            exact step7_value (i := 14) rfl (wanted_at (j := 2) (d := 18) (b := true) rfl (by kernel_rfl) t18) (run_op_move rfl t6) (calm7 laterJ_later (by kernel_rfl) (by kernel_rfl) hj (later_refl _)) rfl
          · intro listed a W H hj hl hd
            have t18 : a.tmps.getD 18 undef = .bool true := H.get 2 18 (by kernel_rfl) (dep_of hd 2 (by kernel_rfl)) (fun _ h => by cases h)
            have t29 : a.tmps.getD 29 undef = .slice A1 mm c1 := H.get 13 29 (by kernel_rfl) (dep_of hd 13 (by kernel_rfl)) (fun _ h => by cases h)
            have t30 : a.tmps.getD 30 undef = .int .i64 (k : Int) := H.get 14 30 (by kernel_rfl) (dep_of hd 14 (by kernel_rfl)) (fun _ h => by cases h)
            exact step7_value (i := 15) rfl (wanted_at (j := 2) (d := 18) (b := true) rfl (by kernel_rfl) t18) (run_op_index rfl t29 t30 (by rw [eA]; exact run_index_i ao mm c1 k hk W)) (calm7 laterJ_later (by kernel_rfl) (by kernel_rfl) hj (later_refl _)) rfl
          · intro listed a W H hj hl hd
            have t18 : a.tmps.getD 18 undef = .bool true := H.get 2 18 (by kernel_rfl) (dep_of hd 2 (by kernel_rfl)) (fun _ h => by cases h)
            have t31 : a.tmps.getD 31 undef = .pointer (some (ao.add k)) := H.get 15 31 (by kernel_rfl) (dep_of hd 15 (by kernel_rfl)) (fun _ h => by cases h)
            exact step7_value (i := 16) rfl (wanted_at (j := 2) (d := 18) (b := true) rfl (by kernel_rfl) t18) (run_op_load rfl t31 (run_load_int _ _ W (later_cell hj g1))) (calm7 laterJ_later (by kernel_rfl) (by kernel_rfl) hj (later_refl _)) rfl
          · intro listed a W H hj hl hd
            have t18 : a.tmps.getD 18 undef = .bool true := H.get 2 18 (by kernel_rfl) (dep_of hd 2 (by kernel_rfl)) (fun _ h => by cases h)
            have t28 : a.tmps.getD 28 undef = .slice A n c := H.get 12 28 (by kernel_rfl) (dep_of hd 12 (by kernel_rfl)) (fun _ h => by cases h)
            have t32 : a.tmps.getD 32 undef = .int .i64 (e0 : Int) := H.get 16 32 (by kernel_rfl) (dep_of hd 16 (by kernel_rfl)) (fun _ h => by cases h)
            exact step7_value (i := 17) rfl (wanted_at (j := 2) (d := 18) (b := true) rfl (by kernel_rfl) t18) (run_op_index rfl t28 t32 (by rw [eW]; exact run_index_i ad n c e0 he0 W)) (calm7 laterJ_later (by kernel_rfl) (by kernel_rfl) hj (later_refl _)) rfl
          · intro listed a W H hj hl hd
            have t18 : a.tmps.getD 18 undef = .bool true := H.get 2 18 (by kernel_rfl) (dep_of hd 2 (by kernel_rfl)) (fun _ h => by cases h)
            have t33 : a.tmps.getD 33 undef = .pointer (some (ad.add e0)) := H.get 17 33 (by kernel_rfl) (dep_of hd 17 (by kernel_rfl)) (fun _ h => by cases h)
            exact step7_value (i := 18) rfl (wanted_at (j := 2) (d := 18) (b := true) rfl (by kernel_rfl) t18) (run_op_load rfl t33 (run_load_int _ _ W (later_cell hj g2))) (calm7 laterJ_later (by kernel_rfl) (by kernel_rfl) hj (later_refl _)) rfl
          · intro listed a W H hj hl hd
            have t18 : a.tmps.getD 18 undef = .bool true := H.get 2 18 (by kernel_rfl) (dep_of hd 2 (by kernel_rfl)) (fun _ h => by cases h)
            have t34 : a.tmps.getD 34 undef = .int .i64 y0 := H.get 18 34 (by kernel_rfl) (dep_of hd 18 (by kernel_rfl)) (fun _ h => by cases h)
            refine step7_call (i := 19) rfl (wanted_at (j := 2) (d := 18) (b := true) rfl (by kernel_rfl) t18) (run_op_call (vs := #[.int .i64 y0]) Try.func27 (by kernel_rfl) (by kernel_rfl) rfl (by simp only [List.map_toArray, List.map_cons, List.map_nil]; show #[a.tmps.getD 34 undef] = _; rw [t34])) ?_
            refine (refworn_any _ W).mono ?_
            rintro e w' ⟨rfl, rfl⟩
            refine ⟨_, rfl, (calm7 laterJ_later (by kernel_rfl) (by kernel_rfl) hj (later_refl _)), ?_⟩
            show Value.int IntKind.i64 _ = _; rw [HK2.out]
          · intro listed a W H hj hl hd
            have t18 : a.tmps.getD 18 undef = .bool true := H.get 2 18 (by kernel_rfl) (dep_of hd 2 (by kernel_rfl)) (fun _ h => by cases h)
            have t27 : a.tmps.getD 27 undef = .int .i64 k1 := H.get 11 27 (by kernel_rfl) (dep_of hd 11 (by kernel_rfl)) (fun _ h => by cases h)
            have t35 : a.tmps.getD 35 undef = .int .i64 k2 := H.get 19 35 (by kernel_rfl) (dep_of hd 19 (by kernel_rfl)) (fun _ h => by cases h)
            exact step7_value (i := 20) rfl (wanted_at (j := 2) (d := 18) (b := true) rfl (by kernel_rfl) t18) (run_op_bin rfl t27 t35 (bin_eql _ _ _ k1 k2 false D2)) (calm7 laterJ_later (by kernel_rfl) (by kernel_rfl) hj (later_refl _)) rfl
          · intro listed a W H hj hl hd
            have t18 : a.tmps.getD 18 undef = .bool true := H.get 2 18 (by kernel_rfl) (dep_of hd 2 (by kernel_rfl)) (fun _ h => by cases h)
            have t36 : a.tmps.getD 36 undef = .bool false := H.get 20 36 (by kernel_rfl) (dep_of hd 20 (by kernel_rfl)) (fun _ h => by cases h)
            exact step7_value (i := 21) rfl rfl (run_op_pick rfl t18 t36) (calm7 laterJ_later (by kernel_rfl) (by kernel_rfl) hj (later_refl _)) rfl
        · intro a WC hdef hsz hw hall hact
          obtain ⟨u, hu⟩ : ∃ u : Nat → Value, ∀ k, a.tmps.getD k undef = u k := ⟨_, fun _ => rfl⟩
          have h37 : u 37 = .bool false := by rw [← hu]; exact hall 21 _ rfl
          simp only [hu] at hact
          have hact' : a = ([16, 17, 18, 19, 20, 21, 22, 23, 24, 25, 26, 27, 28, 29, 30, 31, 32, 33, 34, 35, 36, 37] : List Nat).foldl (fun b k => b.put (some k) (u k)) _ := hact
          simp only [List.foldl] at hact'
          simp only [Act.put, List.setIfInBounds_toArray, List.set_cons_succ, List.set_cons_zero] at hact'
          have HAC := Lib.hid hact'
          have HX := Lib.hid hw
          clear hact hact' hall hdef hsz hw
          rw [h37] at HAC
          rw [HAC.out]
          clear D1 D2 hb HSUB hk0 HK KE1 KE2 g3 g4
          have RC := Lib.hid (RD.out.since HX.out)
          have BC := Lib.hid (below_chain BD.out HX.out)
          have g1c := later_cell HX.out g1
          clear RD BD HX HDL HWD hu g1
          subst eA
          go_wp2_with fail
          go_ret
          rw [HG.out]
          exact ⟨rfl, BC⟩
/-- The least and the most worn one are blocks, if there is one. -/
theorem least_great {ws : List Int} {cs : List Bool} (h : ¬ leastW ws cs < 0) : ∃ a b : Nat, leastW ws cs = (a : Int) ∧ greatW ws cs = (b : Int) ∧ a < ws.length ∧ b < ws.length := by
  unfold leastW greatW at *
  by_cases hl : ws.length = cs.length
  · rw [if_pos hl] at h ⊢
    rw [if_pos hl]
    rcases least_is (ws := ws) (cs := cs) ws.length with ⟨h1, _⟩ | ⟨k, h1, h2⟩
    · omega
    · rcases great_is (ws := ws) (cs := cs) ws.length with ⟨_, h4⟩ | ⟨g, h3, h4⟩
      · have := h4 k h2.lt
        rw [h2.is] at this; cases this
      · exact ⟨k, g, h1, h3, h2.lt, h4.lt⟩
  · rw [if_neg hl] at h; omega
set_option maxHeartbeats 16000000 in
set_option maxRecDepth 20000 in
theorem refspread_any (A : Option Addr) (n c : Nat) (ws : List Int) (A' : Option Addr) (m c' : Nat) (cs : List Bool) (w : World) (hn : n ≤ 100) (hm : m ≤ 9223372036854775807) (h : Two2 w A n ws A' m cs) :
    Calls Try.prog 13 #[.slice A n c, .slice A' m c'] w (SaysI w (spreadW ws cs)) := by
  have H := Lib.hid h
  have C1 := Lib.hid (refleast_any A n c ws A' m c' cs w hn hm h)
  have HWL : Hid (ws.length = n) := h.a.len
  clear h
  by_cases h0 : leastW ws cs < 0
  · rw [show spreadW ws cs = 0 from if_pos h0]
    obtain ⟨a, HA⟩ : ∃ a, Hid (leastW ws cs = a) := ⟨_, rfl⟩
    rw [HA.out] at C1 h0
    go_enter Try.func13, Try.ntmps13
    go_wp2_with fail
    refine C1.out.mono ?_
    rintro e W1 ⟨rfl, HB1⟩
    go_wp2_with fail
    refine (refgreat_any A n c ws A' m c' cs W1 hn hm (H.out.since HB1.out)).mono ?_
    rintro e W2 ⟨rfl, HB2⟩
    go_wp2_with fail
    go_ret
    exact ⟨rfl, below_chain HB1.out HB2.out⟩
  · have hsp : spreadW ws cs = keyW ws (greatW ws cs).toNat - keyW ws (leastW ws cs).toNat := if_neg h0
    obtain ⟨la, gb, ha, hb, hal, hbl⟩ := least_great h0
    rw [ha, hb, Int.toNat_natCast, Int.toNat_natCast] at hsp
    rw [HWL.out] at hal hbl
    rw [ha] at C1
    have HGR := Lib.hid hb
    obtain ⟨ya, HYA⟩ : ∃ y, Hid (ws.getD la 0 = y) := ⟨_, rfl⟩
    obtain ⟨yb, HYB⟩ : ∃ y, Hid (ws.getD gb 0 = y) := ⟨_, rfl⟩
    obtain ⟨ka, HKA⟩ : ∃ y, Hid (wornM ya = y) := ⟨_, rfl⟩
    obtain ⟨kb, HKB⟩ : ∃ y, Hid (wornM yb = y) := ⟨_, rfl⟩
    have q1 := worn_bd ya
    have q2 := worn_bd yb
    rw [HKA.out] at q1
    rw [HKB.out] at q2
    rw [show spreadW ws cs = kb - ka by rw [hsp]; unfold keyW; rw [HYA.out, HYB.out, HKA.out, HKB.out]]
    clear hsp ha hb h0
    have a0 : ¬ (la : Int) < 0 := by omega
    go_enter Try.func13, Try.ntmps13
    go_wp2_with fail
    refine C1.out.mono ?_
    rintro e W1 ⟨rfl, HB1⟩
    go_wp2_with fail
    refine (refgreat_any A n c ws A' m c' cs W1 hn hm (H.out.since HB1.out)).mono ?_
    rw [HGR.out]
    rintro e W2 ⟨rfl, HB2⟩
    have BB := Lib.hid (below_chain HB1.out HB2.out)
    clear HB1 HB2 C1
    go_wp2_with fail
    obtain ⟨WD, HWD⟩ : ∃ W, Hid (W = W2.drew) := ⟨_, rfl⟩
    have HDL : Hid (Later W2 WD) := by rw [HWD.out]; exact (Below.refl _ _).drew
    have BD := Lib.hid (below_chain BB.out HDL.out)
    obtain ⟨ad, eW, _, g1⟩ := int_at (H.out.since BD.out).a hal
    obtain ⟨ad2, eW2, _, g2⟩ := int_at (H.out.since BD.out).a hbl
    obtain rfl : ad = ad2 := Option.some.inj (eW.symm.trans eW2)
    rw [HYA.out] at g1
    rw [HYB.out] at g2
    refine region_of_steps7 (by kernel_rfl) [some (.slice A n c), some (.int .i64 (gb : Int)), some (.pointer (some (ad.add gb))), some (.int .i64 yb), some (.int .i64 kb), some (.slice A n c), some (.int .i64 (la : Int)), some (.pointer (some (ad.add la))), some (.int .i64 ya), some (.int .i64 ka), some (.int .i64 (kb - ka)), some (.int .i64 (kb - ka))] [] [] (LaterJ WD) (by kernel_rfl) (by kernel_rfl) (by rw [← HWD.out]; exact Below.refl _ _) ?_ ?_
    · refine Steps7.cons ?_ (Steps7.cons ?_ (Steps7.cons ?_ (Steps7.cons ?_ (Steps7.cons ?_ (Steps7.cons ?_ (Steps7.cons ?_ (Steps7.cons ?_ (Steps7.cons ?_ (Steps7.cons ?_ (Steps7.cons ?_ (Steps7.cons ?_ (Steps7.nil))))))))))))
      · intro listed a W H hj hl hd
        have t0 : a.tmps.getD 0 undef = .slice A n c := (H.old 0 (by kernel_rfl)).trans rfl
        exact step7_value (i := 0) rfl rfl (run_op_move rfl t0) (calm7 laterJ_later (by kernel_rfl) (by kernel_rfl) hj (later_refl _)) rfl
      · intro listed a W H hj hl hd
        have t6 : a.tmps.getD 6 undef = .int .i64 (gb : Int) := (H.old 6 (by kernel_rfl)).trans rfl
        exact step7_value (i := 1) rfl rfl (run_op_move rfl t6) (calm7 laterJ_later (by kernel_rfl) (by kernel_rfl) hj (later_refl _)) rfl
      · intro listed a W H hj hl hd
        have t15 : a.tmps.getD 15 undef = .slice A n c := H.get 0 15 (by kernel_rfl) (dep_of hd 0 (by kernel_rfl)) (fun _ h => by cases h)
        have t16 : a.tmps.getD 16 undef = .int .i64 (gb : Int) := H.get 1 16 (by kernel_rfl) (dep_of hd 1 (by kernel_rfl)) (fun _ h => by cases h)
        exact step7_value (i := 2) rfl rfl (run_op_index rfl t15 t16 (by rw [eW]; exact run_index_i ad n c gb hbl W)) (calm7 laterJ_later (by kernel_rfl) (by kernel_rfl) hj (later_refl _)) rfl
      · intro listed a W H hj hl hd
        have t17 : a.tmps.getD 17 undef = .pointer (some (ad.add gb)) := H.get 2 17 (by kernel_rfl) (dep_of hd 2 (by kernel_rfl)) (fun _ h => by cases h)
        exact step7_value (i := 3) rfl rfl (run_op_load rfl t17 (run_load_int _ _ W (later_cell hj g2))) (calm7 laterJ_later (by kernel_rfl) (by kernel_rfl) hj (later_refl _)) rfl
      · intro listed a W H hj hl hd
        have t18 : a.tmps.getD 18 undef = .int .i64 yb := H.get 3 18 (by kernel_rfl) (dep_of hd 3 (by kernel_rfl)) (fun _ h => by cases h)
        refine step7_call (i := 4) rfl rfl (run_op_call (vs := #[.int .i64 yb]) Try.func27 (by kernel_rfl) (by kernel_rfl) rfl (by simp only [List.map_toArray, List.map_cons, List.map_nil]; show #[a.tmps.getD 18 undef] = _; rw [t18])) ?_
        refine (refworn_any _ W).mono ?_
        rintro e w' ⟨rfl, rfl⟩
        refine ⟨_, rfl, (calm7 laterJ_later (by kernel_rfl) (by kernel_rfl) hj (later_refl _)), ?_⟩
        show Value.int IntKind.i64 _ = _; rw [HKB.out]
      · intro listed a W H hj hl hd
        have t0 : a.tmps.getD 0 undef = .slice A n c := (H.old 0 (by kernel_rfl)).trans rfl
        exact step7_value (i := 5) rfl rfl (run_op_move rfl t0) (calm7 laterJ_later (by kernel_rfl) (by kernel_rfl) hj (later_refl _)) rfl
      · intro listed a W H hj hl hd
        have t5 : a.tmps.getD 5 undef = .int .i64 (la : Int) := (H.old 5 (by kernel_rfl)).trans rfl
        exact step7_value (i := 6) rfl rfl (run_op_move rfl t5) (calm7 laterJ_later (by kernel_rfl) (by kernel_rfl) hj (later_refl _)) rfl
      · intro listed a W H hj hl hd
        have t20 : a.tmps.getD 20 undef = .slice A n c := H.get 5 20 (by kernel_rfl) (dep_of hd 5 (by kernel_rfl)) (fun _ h => by cases h)
        have t21 : a.tmps.getD 21 undef = .int .i64 (la : Int) := H.get 6 21 (by kernel_rfl) (dep_of hd 6 (by kernel_rfl)) (fun _ h => by cases h)
        exact step7_value (i := 7) rfl rfl (run_op_index rfl t20 t21 (by rw [eW]; exact run_index_i ad n c la hal W)) (calm7 laterJ_later (by kernel_rfl) (by kernel_rfl) hj (later_refl _)) rfl
      · intro listed a W H hj hl hd
        have t22 : a.tmps.getD 22 undef = .pointer (some (ad.add la)) := H.get 7 22 (by kernel_rfl) (dep_of hd 7 (by kernel_rfl)) (fun _ h => by cases h)
        exact step7_value (i := 8) rfl rfl (run_op_load rfl t22 (run_load_int _ _ W (later_cell hj g1))) (calm7 laterJ_later (by kernel_rfl) (by kernel_rfl) hj (later_refl _)) rfl
      · intro listed a W H hj hl hd
        have t23 : a.tmps.getD 23 undef = .int .i64 ya := H.get 8 23 (by kernel_rfl) (dep_of hd 8 (by kernel_rfl)) (fun _ h => by cases h)
        refine step7_call (i := 9) rfl rfl (run_op_call (vs := #[.int .i64 ya]) Try.func27 (by kernel_rfl) (by kernel_rfl) rfl (by simp only [List.map_toArray, List.map_cons, List.map_nil]; show #[a.tmps.getD 23 undef] = _; rw [t23])) ?_
        refine (refworn_any _ W).mono ?_
        rintro e w' ⟨rfl, rfl⟩
        refine ⟨_, rfl, (calm7 laterJ_later (by kernel_rfl) (by kernel_rfl) hj (later_refl _)), ?_⟩
        show Value.int IntKind.i64 _ = _; rw [HKA.out]
      · intro listed a W H hj hl hd
        have t19 : a.tmps.getD 19 undef = .int .i64 kb := H.get 4 19 (by kernel_rfl) (dep_of hd 4 (by kernel_rfl)) (fun _ h => by cases h)
        have t24 : a.tmps.getD 24 undef = .int .i64 ka := H.get 9 24 (by kernel_rfl) (dep_of hd 9 (by kernel_rfl)) (fun _ h => by cases h)
        exact step7_value (i := 10) rfl rfl (run_op_bin rfl t19 t24 (bin_sub _ _ _ kb ka (kb - ka) rfl (by omega) (by omega))) (calm7 laterJ_later (by kernel_rfl) (by kernel_rfl) hj (later_refl _)) rfl
      · intro listed a W H hj hl hd
        have t25 : a.tmps.getD 25 undef = .int .i64 (kb - ka) := H.get 10 25 (by kernel_rfl) (dep_of hd 10 (by kernel_rfl)) (fun _ h => by cases h)
        exact step7_value (i := 11) rfl rfl (run_op_assign rfl t25) (calm7 laterJ_later (by kernel_rfl) (by kernel_rfl) hj (later_refl _)) rfl
    · intro a WC hdef hsz hw hall hact
      obtain ⟨u, hu⟩ : ∃ u : Nat → Value, ∀ k, a.tmps.getD k undef = u k := ⟨_, fun _ => rfl⟩
      have h4 : u 4 = .int .i64 (kb - ka) := by rw [← hu]; exact hall 11 _ rfl
      simp only [hu] at hact
      have hact' : a = ([15, 16, 17, 18, 19, 20, 21, 22, 23, 24, 25, 4] : List Nat).foldl (fun b k => b.put (some k) (u k)) _ := hact
      simp only [List.foldl] at hact'
      simp only [Act.put, List.setIfInBounds_toArray, List.set_cons_succ, List.set_cons_zero] at hact'
      have HAC := Lib.hid hact'
      have HX := Lib.hid hw
      clear hact hact' hall hdef hsz hw
      rw [h4] at HAC
      rw [HAC.out]
      clear hu
      go_wp2_with fail
      go_ret
      exact ⟨rfl, below_chain BD.out HX.out⟩
set_option maxHeartbeats 4000000 in
theorem refuneven_any (A : Option Addr) (n c : Nat) (ws : List Int) (A' : Option Addr) (m c' : Nat) (cs : List Bool) (w : World) (hn : n ≤ 100) (hm : m ≤ 9223372036854775807) (h : Two2 w A n ws A' m cs) :
    Calls Try.prog 19 #[.slice A n c, .slice A' m c'] w (SaysB w (decide (4 < spreadW ws cs))) := by
  have C1 := Lib.hid (refspread_any A n c ws A' m c' cs w hn hm h)
  obtain ⟨q, HQ⟩ : ∃ q, Hid (spreadW ws cs = q) := ⟨_, rfl⟩
  rw [HQ.out] at C1 ⊢
  clear h
  go_enter Try.func19, Try.ntmps19
  go_wp2_with fail
  refine C1.out.mono ?_
  rintro e W1 ⟨rfl, HB1⟩
  go_wp2_with fail
  go_ret
  exact ⟨rfl, HB1⟩
end Go.Proofs.Ytggijifealljiaa
