/- The landed wear: the least and the most worn one, the spread, the order. Conditions: the lists' cells; at most 40 blocks. -/
import Derived.Test.YtggijifealljiaaWearFirst
import Derived.Test.YtggijifealljiaaStableAll
import Derived.Test.YtggijifealljiaaStableNil
import Derived.Shelf.Abstract
set_option linter.unusedVariables false
set_option linter.unusedSimpArgs false
namespace Go.Proofs.Ytggijifealljiaa
open Go.RowKit

section
variable (A : Option Addr) (n c : Nat) (ws : List Int) (A' : Option Addr) (m c' : Nat) (cs : List Bool) (w : World) (hn : n ≤ 40) (hm : m ≤ 9223372036854775807) (h : Two2 w A n ws A' m cs)
include hn hm h
theorem wleast_any : Calls Try.prog 14 #[.slice A n c, .slice A' m c'] w (SaysI w (leastW ws cs)) := by
  have C := Lib.hid (firstleast_any A n c ws A' m c' cs w (by omega) hm h)
  clear h
  go_enter Try.func14, Try.ntmps14
  go_wp2_with fail
  refine C.out.mono ?_
  rintro e w' ⟨rfl, HB⟩
  go_wp2_with fail
  go_ret
  exact ⟨rfl, HB⟩
theorem wgreat_any : Calls Try.prog 16 #[.slice A n c, .slice A' m c'] w (SaysI w (greatW ws cs)) := by
  have C := Lib.hid (firstgreat_any A n c ws A' m c' cs w (by omega) hm h)
  clear h
  go_enter Try.func16, Try.ntmps16
  go_wp2_with fail
  refine C.out.mono ?_
  rintro e w' ⟨rfl, HB⟩
  go_wp2_with fail
  go_ret
  exact ⟨rfl, HB⟩
end
/-- Where the least is, the greatest is, too. -/
theorem lg_both {ws : List Int} {cs : List Bool} (h : ¬ leastW ws cs < 0) : ∃ i j : Nat, leastW ws cs = (i : Int) ∧ greatW ws cs = (j : Int) ∧ i < ws.length ∧ j < ws.length := by
  unfold leastW at h
  unfold leastW greatW
  by_cases hl : ws.length = cs.length
  · rw [if_pos hl] at h
    rw [if_pos hl, if_pos hl]
    rcases least_is (ws := ws) (cs := cs) ws.length with ⟨h1, _⟩ | ⟨k, h1, h2⟩
    · omega
    · rcases great_is (ws := ws) (cs := cs) ws.length with ⟨_, h4⟩ | ⟨g, h3, h4⟩
      · have := h4 k h2.lt
        rw [h2.is] at this; cases this
      · exact ⟨k, g, h1, h3, h2.lt, h4.lt⟩
  · rw [if_neg hl] at h; omega
section
variable (A : Option Addr) (n c : Nat) (ws : List Int) (A' : Option Addr) (m c' : Nat) (cs : List Bool) (w : World) (hn : n ≤ 40) (hm : m ≤ 9223372036854775807) (h : Two2 w A n ws A' m cs)
include hn hm h
set_option maxHeartbeats 2000000 in
theorem wspread_any : Calls Try.prog 12 #[.slice A n c, .slice A' m c'] w (SaysI w (spreadW ws cs)) := by
  have HL := Lib.hid h.a.len
  have C1 := Lib.hid (wleast_any A n c ws A' m c' cs w hn hm h)
  have C2 : Hid (∀ W, Below w.heap.size w W → Calls Try.prog 16 #[.slice A n c, .slice A' m c'] W (SaysI W (greatW ws cs))) := fun W hb => wgreat_any A n c ws A' m c' cs W hn hm (h.since hb)
  have H := Lib.hid h
  clear h
  by_cases h0 : leastW ws cs < 0
  · rw [show spreadW ws cs = 0 from if_pos h0]
    obtain ⟨r, HR⟩ : ∃ r, Hid (leastW ws cs = r) := ⟨_, rfl⟩
    obtain ⟨r2, HR2⟩ : ∃ r, Hid (greatW ws cs = r) := ⟨_, rfl⟩
    rw [HR.out] at C1 h0
    rw [HR2.out] at C2
    go_enter Try.func12, Try.ntmps12
    go_wp2_with fail
    refine C1.out.mono ?_
    rintro e w1 ⟨rfl, B1⟩
    go_wp2_with fail
    refine (C2.out w1 B1.out).mono ?_
    rintro e w2 ⟨rfl, B2⟩
    have B3 := Lib.hid (below_chain B1.out B2.out)
    go_wp2_with fail
    go_ret
    exact ⟨rfl, B3⟩
  · obtain ⟨i, j, h1, h2, hi, hj⟩ := lg_both h0
    have HS : Hid (spreadW ws cs = keyW ws j - keyW ws i) := by
      show _ = _
      unfold spreadW
      rw [if_neg h0, h1, h2, Int.toNat_natCast, Int.toNat_natCast]
    rw [HS.out]
    rw [h1] at C1
    rw [h2] at C2
    rw [HL.out] at hi hj
    clear h0 h1 h2 HS
    obtain ⟨x, HX⟩ : ∃ x, Hid (ws.getD j 0 = x) := ⟨_, rfl⟩
    obtain ⟨y, HY⟩ : ∃ y, Hid (ws.getD i 0 = y) := ⟨_, rfl⟩
    obtain ⟨kx, HKX⟩ : ∃ q, Hid (wornM x = q) := ⟨_, rfl⟩
    obtain ⟨ky, HKY⟩ : ∃ q, Hid (wornM y = q) := ⟨_, rfl⟩
    rw [show keyW ws j = kx by unfold keyW; rw [HX.out, HKX.out], show keyW ws i = ky by unfold keyW; rw [HY.out, HKY.out]]
    have b1 := worn_bd x
    have b2 := worn_bd y
    rw [HKX.out] at b1
    rw [HKY.out] at b2
    have E1 : ∀ W, Calls Try.prog 26 #[.int .i64 x] W fun e w' => e = .returned (.int .i64 kx) ∧ w' = W := fun W => by
      rw [← HKX.out]; exact erases_any x W
    have E2 : ∀ W, Calls Try.prog 26 #[.int .i64 y] W fun e w' => e = .returned (.int .i64 ky) ∧ w' = W := fun W => by
      rw [← HKY.out]; exact erases_any y W
    have HE1 := Lib.hid E1
    have HE2 := Lib.hid E2
    clear E1 E2 HKX HKY
    have z1 : ¬ (i : Int) < 0 := by omega
    go_enter Try.func12, Try.ntmps12
    go_wp2_with fail
    refine C1.out.mono ?_
    rintro e w1 ⟨rfl, B1⟩
    go_wp2_with fail
    refine (C2.out w1 B1.out).mono ?_
    rintro e w2 ⟨rfl, B2⟩
    have B3 := Lib.hid (below_chain B1.out B2.out)
    obtain ⟨ad, e1, _, g1⟩ := int_at (H.out.since B3.out).a hj
    obtain ⟨ad', e2, _, g2⟩ := int_at (H.out.since B3.out).a hi
    rw [HX.out] at g1
    rw [HY.out] at g2
    subst e1
    obtain rfl := Option.some.inj e2
    have i0 : (0 : Int) ≤ (i : Int) := by omega
    have i1 : (i : Int) < (n : Int) := by omega
    have j0 : (0 : Int) ≤ (j : Int) := by omega
    have j1 : (j : Int) < (n : Int) := by omega
    clear C1 C2 B1 B2
    go_wp2_with fail
    go_quiet (first | (go_at_call_of 26 (Value.int IntKind.i64 x); refine Calls.quiet_of_same (HE1.out _)) | (go_at_call 26; refine Calls.quiet_of_same (HE2.out _)))
    have HB2 := Lib.hid (below_drewN B3.out nq)
    clear g1 g2 B3 HE1 HE2
    generalize w2.drewN nq = w3 at HB2 ⊢
    clear nq
    go_wp2_with fail
    go_ret
    exact ⟨rfl, HB2⟩
theorem wuneven_any : Calls Try.prog 18 #[.slice A n c, .slice A' m c'] w (SaysB w (decide (4 < spreadW ws cs))) := by
  have C := Lib.hid (wspread_any A n c ws A' m c' cs w hn hm h)
  clear h
  obtain ⟨s, HS⟩ : ∃ s, Hid (spreadW ws cs = s) := ⟨_, rfl⟩
  rw [HS.out] at C ⊢
  go_enter Try.func18, Try.ntmps18
  go_wp2_with fail
  refine C.out.mono ?_
  rintro e w' ⟨rfl, HB⟩
  go_wp2_with fail
  go_ret
  exact ⟨rfl, HB⟩
end
/- the order -/
/-- Those that count, as they come. -/
def cntN (cs : List Bool) (k : Nat) : List Nat := (List.range k).filter fun i => isC cs i
theorem cntN_yes {cs : List Bool} {k : Nat} (h : isC cs k = true) : cntN cs (k + 1) = cntN cs k ++ [k] := by
  unfold cntN
  rw [List.range_succ, List.filter_append]
  simp [h]
theorem cntN_no {cs : List Bool} {k : Nat} (h : isC cs k = false) : cntN cs (k + 1) = cntN cs k := by
  unfold cntN
  rw [List.range_succ, List.filter_append]
  simp [h]
theorem cntN_len {cs : List Bool} {k : Nat} : (cntN cs k).length ≤ k := by
  unfold cntN
  exact Nat.le_trans (List.length_filter_le _ _) (by simp)
theorem cntN_mem {cs : List Bool} {k i : Nat} : i ∈ cntN cs k ↔ i < k ∧ isC cs i = true := by simp [cntN]
theorem cntN_up {cs : List Bool} {k : Nat} : (oI (cntN cs k)).Pairwise fun x y => id x < id y := by
  unfold oI
  rw [List.pairwise_map]
  exact List.Pairwise.imp (fun h => by simpa using h) (List.Pairwise.filter _ (List.pairwise_lt_range (n := k)))
/-- How two blocks are compared; how they stand. -/
def cfW (ws : List Int) (x y : Int) : Int := cmpI (keyW ws x.toNat) (keyW ws y.toNat)
def llW (ws : List Int) (x y : Int) : Prop := keyW ws x.toNat < keyW ws y.toNat ∨ (keyW ws x.toNat = keyW ws y.toNat ∧ x < y)
theorem ordW (ws : List Int) : Ord3 (cfW ws) id (llW ws) where
  irr x h := by unfold llW at h; omega
  trans h1 h2 := by unfold llW at *; omega
  hi h1 h2 := by
    have := (cmpI_neg _ _).1 h2
    exact Or.inl this
  lo {x y} h1 h2 := by
    have k : ¬ keyW ws y.toNat < keyW ws x.toNat := fun h => h2 ((cmpI_neg _ _).2 h)
    have h1' : x < y := h1
    unfold llW; omega
theorem order_perm {ws : List Int} {cs : List Bool} {n : Nat} {M : List Int} (hp : M.Perm (oI (cntN cs n))) (hw : M.Pairwise (llW ws)) : M = oI (orderN ws cs n) := by
  have ho := order_is (ws := ws) (cs := cs) n
  refine ord_one (ordW ws) hw ?_ fun x => ?_
  · unfold oI
    rw [List.pairwise_map]
    refine List.Pairwise.imp (fun {a b} h => ?_) ho.up
    unfold lexW at h
    unfold llW
    rw [Int.toNat_natCast, Int.toNat_natCast]
    omega
  · rw [hp.mem_iff]
    unfold oI
    rw [List.mem_map, List.mem_map]
    constructor
    · rintro ⟨i, h1, rfl⟩; exact ⟨i, (ho.all i).2 (cntN_mem.1 h1), rfl⟩
    · rintro ⟨i, h1, rfl⟩; exact ⟨i, cntN_mem.2 ((ho.all i).1 h1), rfl⟩
set_option maxHeartbeats 2000000 in
/-- The closure: two blocks compared by their erases. -/
theorem order1_any (A : Option Addr) (n c : Nat) (ws : List Int) (pb : Addr) (B : Nat) (i j : Nat) (W : World) (hi : i < n) (hj : j < n) (hn : n ≤ 40) (hA : intK.Lie W B A n ws) (hp : W.cell? pb = some (.slice A n c)) :
    Calls Try.prog 24 #[.int .i64 (i : Int), .int .i64 (j : Int), .pointer (some pb)] W fun e w' => e = .returned (.int .i64 (cmpI (keyW ws i) (keyW ws j))) ∧ ∃ q, w' = W.drewN q := by
  obtain ⟨ad, e1, _, g1⟩ := int_at hA hi
  obtain ⟨ad', e2, _, g2⟩ := int_at hA hj
  subst e1
  obtain rfl := Option.some.inj e2
  obtain ⟨x, HX⟩ : ∃ x, Hid (ws.getD i 0 = x) := ⟨_, rfl⟩
  obtain ⟨y, HY⟩ : ∃ y, Hid (ws.getD j 0 = y) := ⟨_, rfl⟩
  rw [HX.out] at g1
  rw [HY.out] at g2
  obtain ⟨kx, HKX⟩ : ∃ q, Hid (wornM x = q) := ⟨_, rfl⟩
  obtain ⟨ky, HKY⟩ : ∃ q, Hid (wornM y = q) := ⟨_, rfl⟩
  rw [show keyW ws i = kx by unfold keyW; rw [HX.out, HKX.out], show keyW ws j = ky by unfold keyW; rw [HY.out, HKY.out]]
  have E1 : ∀ W, Calls Try.prog 26 #[.int .i64 x] W fun e w' => e = .returned (.int .i64 kx) ∧ w' = W := fun W => by
    rw [← HKX.out]; exact erases_any x W
  have E2 : ∀ W, Calls Try.prog 26 #[.int .i64 y] W fun e w' => e = .returned (.int .i64 ky) ∧ w' = W := fun W => by
    rw [← HKY.out]; exact erases_any y W
  obtain ⟨r, HR⟩ : ∃ r, Hid (cmpI kx ky = r) := ⟨_, rfl⟩
  have E3 : ∀ W, Calls Try.prog 25 #[.int .i64 kx, .int .i64 ky] W fun e w' => e = .returned (.int .i64 r) ∧ w' = W := fun W => by
    rw [← HR.out]; exact compare_any kx ky W
  rw [HR.out]
  have HE1 := Lib.hid E1
  have HE2 := Lib.hid E2
  have HE3 := Lib.hid E3
  clear E1 E2 E3 HKX HKY HX HY HR hA
  have i0 : (0 : Int) ≤ (i : Int) := by omega
  have i1 : (i : Int) < (n : Int) := by omega
  have j0 : (0 : Int) ≤ (j : Int) := by omega
  have j1 : (j : Int) < (n : Int) := by omega
  go_enter Try.func24, Try.ntmps24
  go_wp2_with fail
  go_quiet (first | (go_at_call 25; refine Calls.quiet_of_same (HE3.out _)) | (go_at_call_of 26 (Value.int IntKind.i64 x); refine Calls.quiet_of_same (HE1.out _)) | (go_at_call 26; refine Calls.quiet_of_same (HE2.out _)))
  go_wp2_with fail
  go_ret
  exact ⟨rfl, _, rfl⟩
theorem row_own {w : World} {base g n c : Nat} {vs : List Int} (h : intK.Row w base (some ⟨g, 0, none⟩) n c vs) : intK.Row w g (some ⟨g, 0, none⟩) n c vs ∧ base ≤ g := by
  rcases h.row.2 with ⟨hv, _⟩ | ⟨g', cap, cur, hv, hb, h3, h4⟩
  · cases hv
  · have hv' := hv
    injection hv with e1 e2 e3
    have : g = g' := by injection e1 with e1; injection e1
    subst this
    exact ⟨⟨⟨h.row.1, Or.inr ⟨g, cap, cur, hv', Nat.le_refl _, h3, h4⟩⟩, h.wf⟩, hb⟩
theorem row_some {w : World} {base n c : Nat} {A : Option Addr} {vs : List Int} (h : intK.Row w base A n c vs) : (A = none ∧ n = 0 ∧ c = 0) ∨ ∃ g, A = some ⟨g, 0, none⟩ := by
  rcases h.row.2 with ⟨hv, hx⟩ | ⟨g', cap, cur, hv, hb, h3, h4⟩
  · injection hv with e1 e2 e3
    exact Or.inl ⟨e1, e2, e3⟩
  · injection hv with e1 e2 e3
    exact Or.inr ⟨g', e1⟩
set_option maxHeartbeats 4000000 in
theorem worder_any (A : Option Addr) (n c : Nat) (ws : List Int) (A' : Option Addr) (m c' : Nat) (cs : List Bool) (w : World) (hn : n ≤ 40) (hm : m ≤ 9223372036854775807) (h : Two2 w A n ws A' m cs) :
    Calls Try.prog 9 #[.slice A n c, .slice A' m c'] w (GivesI w (orderI ws cs)) := by
  have hl1 := h.a.len
  have hl2 := h.b.len
  obtain ⟨WB, HWB⟩ : ∃ W, Hid (W = w.alloc (.cells #[.slice A n c] 22)) := ⟨_, rfl⟩
  have HBB : Hid (Below w.heap.size w WB) := by rw [HWB.out]; exact (Below.refl _ _).alloc (Nat.le_refl _) _
  have HBS : Hid (WB.heap.size = w.heap.size + 1) := by show _ = _; rw [HWB.out]; simp
  have hbox : WB.cell? ⟨w.heap.size, 0, none⟩ = some (.slice A n c) := by rw [HWB.out, cell_new]; rfl
  have HBX := Lib.hid hbox
  have H := Lib.hid h
  by_cases hnm : n = m
  · subst hnm
    have HO : Hid (orderI ws cs = oI (orderN ws cs n)) := by show _ = _; unfold orderI orderW; rw [if_pos (hl1.trans hl2.symm), hl1]; rfl
    rw [HO.out]
    clear h hl1 hl2 hm HO
    obtain ⟨bb, HBW⟩ : ∃ bb, Hid (bb = w.heap.size) := ⟨_, rfl⟩
    go_enter Try.func9, Try.ntmps9
    go_wp2_with fail
    rw [← HWB.out]
    rw [← HBW.out] at hbox ⊢
    go_wp2_with fail
    go_loopw [5, 15] (fun t5 t15 wr => ∃ (k mm : Nat) (A5 : Option Addr) (c5 : Nat), t5 = .slice A5 mm c5 ∧ t15 = .int .i64 k ∧ k ≤ n ∧ mm ≤ k ∧ Hid (intK.Row wr WB.heap.size A5 mm c5 (oI (cntN cs k))) ∧ Hid (Below WB.heap.size WB wr)) (fun _ t15 _ => n - (intOf t15).toNat)
    case atStart => exact ⟨0, 0, none, 0, rfl, rfl, Nat.zero_le _, Nat.le_refl _, Kind.Row.none_, Below.refl _ _⟩
    case round =>
      obtain ⟨k, mm, A5, c5, rfl, rfl, hk, hmm, HR, HB⟩ := hrel
      clear hbox
      have HBw := Lib.hid (below_chain HBB.out HB.out)
      have i0 : (0 : Int) ≤ (k : Int) := by omega
      by_cases hlt : k < n
      · have i1 : (k : Int) < (n : Int) := by omega
        obtain ⟨v, HV⟩ : ∃ v, Hid (isC cs k = v) := ⟨_, rfl⟩
        obtain ⟨ab, e1, _, g1⟩ := bool_at (H.out.since HBw.out).b hlt
        rw [show cs.getD k false = v from HV.out] at g1
        subst e1
        cases v with
        | false =>
          have HR2 := Lib.hid (HR.out.same (congrArg oI (cntN_no HV.out).symm))
          clear HR
          go_wp2_with fail
          go_roundw
          case rel => exact ⟨k + 1, mm, A5, c5, rfl, by go_num, by omega, by omega, HR2, HB⟩
          case measure => simp [intOf]; omega
        | true =>
          obtain ⟨A4, c4, W4, hr4, ho4, hb4, _⟩ := Kind.append_one (K := intK) HB.out HR.out (k : Int) ⟨by omega, by omega⟩ #[.int .i64 (k : Int)] rfl (by omega)
          have R4 := Lib.hid (ho4.same (show oI (cntN cs k) ++ [(k : Int)] = oI (cntN cs (k + 1)) by rw [cntN_yes HV.out]; simp [oI]))
          have B4 := Lib.hid hb4
          have HR4 := Lib.hid hr4
          clear ho4 hb4 hr4 HR HB HBw
          go_wp2_with (at_builtin; refine wpList_append_run rfl (.tmp 21) (.tmp 23) 22 rfl rfl rfl HR4.out ?_)
          go_roundw
          case rel => exact ⟨k + 1, mm + 1, A4, c4, rfl, by go_num, by omega, by omega, R4, B4⟩
          case measure => simp [intOf]; omega
      · obtain rfl : k = n := by omega
        rcases row_some HR.out with ⟨rfl, rfl, rfl⟩ | ⟨g, rfl⟩
        · have HE : Hid (oI (orderN ws cs k) = []) := by
            have h1 := HR.out.len
            have h2 : cntN cs k = [] := List.eq_nil_of_length_eq_zero (by rw [oI_len] at h1; exact h1)
            have h3 : orderN ws cs k = [] := by
              rw [List.eq_nil_iff_forall_not_mem]
              intro x hx
              have := cntN_mem.2 (((order_is (ws := ws) (cs := cs) k).all x).1 hx)
              rw [h2] at this; cases this
            show _ = _
            rw [h3]; rfl
          have mk : ∀ W : World, (Instr.makeFunc (Fn.func 24) #[] #[.pointer (some ⟨bb, 0, none⟩)]).run Try.prog W = .ok (.func (.func 24) #[] #[.pointer (some ⟨bb, 0, none⟩)]) W := fun W => by first | rfl | go_simp
          have C := Lib.hid (sortstable_nil 24 ⟨bb, 0, none⟩ wr)
          clear HR
          go_wp2_with fail
          refine C.out.mono ?_
          rintro e w' ⟨rfl, rfl⟩
          go_wp2_with fail
          go_ret
          exact ⟨none, 0, 0, rfl, by rw [HE.out]; exact Kind.Row.none_, HBw⟩
        · obtain ⟨hro, hgb⟩ := row_own HR.out
          have S0 : Hid (SRow g mm c5 wr (oI (cntN cs k)) wr) := ⟨hro, Turn.refl _ _⟩
          have HGB : Hid (WB.heap.size ≤ g) := hgb
          have HT : Hid (∀ W, Turn (fun b => b = g) wr W → Below WB.heap.size WB W) := fun W ht => HB.out.trans (ht.below (fun b hb => by rw [hb]; exact HGB.out) HB.out.size)
          have HC : Hid (Cmp3 24 ⟨bb, 0, none⟩ (cfW ws) id (llW ws) (fun x => ∃ i : Nat, x = (i : Int) ∧ i < k) g wr) := by
            refine ⟨fun args w => ?_, fun W ht x y hx hy => ?_, ordW ws⟩
            · exact enters_of Try.func24 (by kernel_rfl) rfl args w
            · obtain ⟨i, rfl, hi⟩ := hx
              obtain ⟨j, rfl, hj⟩ := hy
              have hb := HT.out W ht
              have hbox2 : W.cell? ⟨bb, 0, none⟩ = some (.slice A k c) := (hb.cell (by rw [HBW.out, HBS.out]; exact Nat.lt_succ_self _)).trans (by rw [HBW.out]; exact HBX.out)
              have := order1_any A k c ws ⟨bb, 0, none⟩ W.heap.size i j W hi hj hn (H.out.since (below_chain HBB.out hb)).a hbox2
              unfold cfW
              rw [Int.toNat_natCast, Int.toNat_natCast]
              exact this
          have C := Lib.hid (sortstable_any HC.out wr (by omega) S0.out (fun x hx => by
            unfold oI at hx
            rw [List.mem_map] at hx
            obtain ⟨i, h1, rfl⟩ := hx
            exact ⟨i, rfl, (cntN_mem.1 h1).1⟩) cntN_up)
          have mk : ∀ W : World, (Instr.makeFunc (Fn.func 24) #[] #[.pointer (some ⟨bb, 0, none⟩)]).run Try.prog W = .ok (.func (.func 24) #[] #[.pointer (some ⟨bb, 0, none⟩)]) W := fun W => by first | rfl | go_simp
          clear HR S0 HC hro hgb
          go_wp2_with fail
          refine C.out.mono ?_
          rintro e w' ⟨rfl, HM⟩
          have HF : Hid (intK.Row w' w.heap.size (some ⟨g, 0, none⟩) mm c5 (oI (orderN ws cs k))) := by
            obtain ⟨M, k1, k2, k3⟩ := HM.out
            have := HGB.out
            have := HBS.out
            exact (k1.row.elder (base' := w.heap.size) (by omega)).same (order_perm k2 k3)
          have HF2 : Hid (Below w.heap.size w w') := by
            obtain ⟨M, k1, k2, k3⟩ := HM.out
            exact below_chain HBB.out (HT.out w' k1.turn)
          clear HM
          go_wp2_with fail
          go_ret
          exact ⟨_, mm, c5, rfl, HF, HF2⟩
  · have HO : Hid (orderI ws cs = []) := by show _ = _; unfold orderI orderW; rw [if_neg (by omega)]; rfl
    rw [HO.out]
    have hz : ((n : Int) != (m : Int)) = true := by simp; omega
    have hz2 : ¬ (n : Int) = (m : Int) := by omega
    have HBF : Hid (Below w.heap.size w (w.alloc (.cells #[.slice A n c] 22))) := (Below.refl _ _).alloc (Nat.le_refl _) _
    have hbx : (w.alloc (.cells #[.slice A n c] 22)).cell? ⟨w.heap.size, 0, none⟩ = some (.slice A n c) := by rw [cell_new]; rfl
    clear h hl1 hl2 HO hbox
    go_enter Try.func9, Try.ntmps9
    go_wp2_with fail
    go_ret
    exact ⟨none, 0, 0, rfl, Kind.Row.none_, HBF⟩
end Go.Proofs.Ytggijifealljiaa
