/- YardWashes: true, whatever its arguments are. No conditions. -/
import Derived.Test.YtmfpelgkjgpfmaaYardAwake
import Derived.Test.YtmfpelgkjgpfmaaYardRun
import Derived.Test.YtmfpelgkjgpfmaaRunBin
set_option linter.unusedVariables false
set_option linter.unusedSimpArgs false
namespace Go.Proofs.Ytmfpelgkjgpfmaa
open Go.RowKit

/-- One bit of a number. -/
def bt (x : Int) (q : Nat) : Bool := decide (x / 2 ^ q % 2 = 1)
def fT (p : Nat) : Nat → Bool := fun q => decide (q < p)
def dT (x1 : Int) (p : Nat) : Nat → Bool := fun q => decide (q < p) && bt x1 q
def fW (x3 : Int) (p : Nat) : Nat → Bool := fun q => !(decide (q < p) && bt x3 q)
def dW (x1 x2 x3 : Int) (p : Nat) : Nat → Bool := fun q => bt x1 q && !(decide (q < p) && (bt x3 q || bt x2 q))
def manyW (x1 x2 x3 : Int) (p : Nat) : Nat := (List.range p).countP fun q => bt x1 q && !bt x3 q && !bt x2 q
def leftW (x3 : Int) (p : Nat) : Nat := (List.range p).countP fun q => !bt x3 q
section
variable {x1 x2 x3 : Int} {p P : Nat}
theorem bt_and (x : Int) (q : Nat) : bits .and .i64 (x / 2 ^ q) 1 = if bt x q = true then 1 else 0 := by
  rw [i64_and1]
  unfold bt
  by_cases h : x / 2 ^ q % 2 = 1
  · simp [h]
  · simp [h]; omega
theorem fT_up : upF (fT p) p true = fT (p + 1) := by
  funext q
  unfold upF fT
  by_cases e : q = p
  · subst e; rw [if_pos rfl]; simp
  · rw [if_neg e]
    have : decide (q < p + 1) = decide (q < p) := by simp; omega
    rw [this]
theorem dT_up {v : Bool} (h : bt x1 p = v) : upF (dT x1 p) p v = dT x1 (p + 1) := by
  funext q
  unfold upF dT
  by_cases e : q = p
  · subst e; rw [if_pos rfl, h]; simp
  · rw [if_neg e]
    have : decide (q < p + 1) = decide (q < p) := by simp; omega
    rw [this]
theorem lt_up {p q : Nat} (e : q ≠ p) : decide (q < p + 1) = decide (q < p) := by simp; omega
theorem fW_up (h : bt x3 p = true) : upF (fW x3 p) p false = fW x3 (p + 1) := by
  funext q
  unfold upF fW
  by_cases e : q = p
  · subst e; rw [if_pos rfl, h]; simp
  · rw [if_neg e, lt_up e]
theorem fW_no (h : bt x3 p = false) : fW x3 p = fW x3 (p + 1) := by
  funext q
  unfold fW
  by_cases e : q = p
  · subst e; rw [h]; simp
  · rw [lt_up e]
theorem dW_up (h : (bt x3 p || bt x2 p) = true) : upF (dW x1 x2 x3 p) p false = dW x1 x2 x3 (p + 1) := by
  funext q
  unfold upF dW
  by_cases e : q = p
  · subst e; rw [if_pos rfl, h]; simp
  · rw [if_neg e, lt_up e]
theorem dW_no (h : (bt x3 p || bt x2 p) = false) : dW x1 x2 x3 p = dW x1 x2 x3 (p + 1) := by
  funext q
  unfold dW
  by_cases e : q = p
  · subst e; rw [h]; simp
  · rw [lt_up e]
theorem many_up : manyW x1 x2 x3 (p + 1) = manyW x1 x2 x3 p + if (bt x1 p && !bt x3 p && !bt x2 p) = true then 1 else 0 := by
  unfold manyW
  rw [List.range_succ, List.countP_append, List.countP_singleton]
theorem left_up : leftW x3 (p + 1) = leftW x3 p + if (!bt x3 p) = true then 1 else 0 := by
  unfold leftW
  rw [List.range_succ, List.countP_append, List.countP_singleton]
theorem many_le : ∀ p, manyW x1 x2 x3 p ≤ p := fun p => by unfold manyW; exact Nat.le_trans List.countP_le_length (by simp)
theorem left_le : ∀ p, leftW x3 p ≤ p := fun p => by unfold leftW; exact Nat.le_trans List.countP_le_length (by simp)
theorem fW_end {q : Nat} (hq : q < P) : fW x3 P q = !bt x3 q := by unfold fW; rw [decide_eq_true hq, Bool.true_and]
theorem dW_end {q : Nat} (hq : q < P) : dW x1 x2 x3 P q = (bt x1 q && !bt x3 q && !bt x2 q) := by unfold dW; rw [decide_eq_true hq, Bool.true_and]; cases bt x1 q <;> cases bt x2 q <;> cases bt x3 q <;> rfl
theorem needed_len : (((List.range P).filter (fW x3 P)).map fun (k : Nat) => (k : Int)).length = leftW x3 P := by
  rw [List.length_map, ← List.countP_eq_length_filter]
  unfold leftW
  exact List.countP_congr fun q hq => by rw [fW_end (List.mem_range.1 hq)]
theorem needed_at {i : Nat} (hi : i < leftW x3 P) : ∃ e : Nat, (((List.range P).filter (fW x3 P)).map fun (k : Nat) => (k : Int)).getD i 0 = (e : Int) ∧ e < P ∧ bt x3 e = false := by
  have hl : i < ((List.range P).filter (fW x3 P)).length := by have := needed_len (x3 := x3) (P := P); rw [List.length_map] at this; omega
  refine ⟨((List.range P).filter (fW x3 P))[i], ?_, ?_⟩
  · rw [List.getD_eq_getElem?_getD, List.getElem?_map, List.getElem?_eq_getElem hl]; rfl
  · have hm := List.getElem_mem hl
    rw [List.mem_filter] at hm
    have h1 := List.mem_range.1 hm.1
    refine ⟨h1, ?_⟩
    have h2 := hm.2
    rw [fW_end h1] at h2
    simpa using h2
theorem dirty_end : (List.range P).countP (dW x1 x2 x3 P) = manyW x1 x2 x3 P := by
  unfold manyW
  exact List.countP_congr fun q hq => by rw [dW_end (List.mem_range.1 hq)]
theorem left_zero (h : leftW x3 P = 0) : ∀ q, q < P → fW x3 P q = false := fun q hq => by
  unfold leftW at h
  rw [List.countP_eq_zero] at h
  have := h q (List.mem_range.2 hq)
  rw [fW_end hq]
  cases e : !bt x3 q with
  | false => rfl
  | true => exact absurd e this
theorem left_some (h : leftW x3 P ≠ 0) : ∃ q, q < P ∧ fW x3 P q = true := by
  have h1 : 0 < leftW x3 P := by omega
  unfold leftW at h1
  rw [List.countP_pos_iff] at h1
  obtain ⟨q, hq, h2⟩ := h1
  exact ⟨q, List.mem_range.1 hq, by rw [fW_end (List.mem_range.1 hq)]; exact h2⟩
end
/-- What holds of the yard while a region goes on. -/
def YardJ (w : World) (base g : Nat) (s0 s1 : Yd) (X : List Bool → List Value → Prop) (fs : List Bool) (vs : List Value) (W : World) : Prop :=
  ∃ fp, YardAt W base fp g (if fs.getD 0 false = true then s1 else s0) ∧ Below base w W ∧ X fs vs
theorem yardJ_later {w : World} {base g : Nat} {s0 s1 : Yd} {X : List Bool → List Value → Prop} (fs : List Bool) (vs : List Value) (x y : World) (h : YardJ w base g s0 s1 X fs vs x) (hb : Later x y) : YardJ w base g s0 s1 X fs vs y := by
  obtain ⟨fp, h1, h2, h3⟩ := h
  exact ⟨fp, h1.since hb, h2.trans (hb.mono h1.base_le), h3⟩
set_option maxHeartbeats 64000000 in
set_option maxRecDepth 20000 in
theorem washes_law (x0 x1 x2 x3 : Int) (w : World) :
    Calls Try.prog 5 #[.int .i64 x0, .int .i64 x1, .int .i64 x2, .int .i64 x3] w (SaysB w true) := by
  obtain ⟨lo, HLO⟩ : ∃ lo, Hid (lowM x0 8 = lo) := ⟨_, rfl⟩
  have hlo : 0 ≤ lo ∧ lo < 8 := by rw [← HLO.out]; exact lowM_bd x0 8 (by omega)
  obtain ⟨P, HP⟩ : ∃ P : Nat, Hid (1 + lo = (P : Int)) := ⟨(1 + lo).toNat, by show _ = _; omega⟩
  have hP1 : 1 ≤ P := by have := HP.out; omega
  have hP8 : P ≤ 8 := by have := HP.out; omega
  have hP0 : (1 : Int) ≤ (P : Int) := by omega
  have HMAY : Hid (mayY 3 (P : Int) = true) := by show _ = _; unfold mayY; simp; omega
  obtain ⟨sA, HSA⟩ : ∃ s, Hid (lvY 3 2 P 1 0 zf zf = s) := ⟨_, rfl⟩
  have HFR : Hid (freshY (3 : Int).toNat (P : Int).toNat = sA) := by show _ = _; rw [← HSA.out, Int.toNat_natCast]; exact lv_fresh
  have H1 : Hid (openY sA 2 = (lvY 3 2 P 2 ((0 : Nat) : Int) (fT 0) (dT x1 0), 0)) := by
    show _ = _
    rw [← HSA.out, show fT 0 = zf by funext q; simp [fT, zf], show dT x1 0 = zf by funext q; simp [dT, zf]]
    exact lv_open (by omega)
  go_enter Try.func5, Try.ntmps5
  go_wp2_with fail
  refine (low_any x0 8 (by omega) (by omega) _).mono ?_
  rw [HLO.out]
  rintro e w' ⟨rfl, rfl⟩
  go_wp2_with (simp only [HP.out])
  refine (ynew_any 3 P _).mono ?_
  rw [if_pos (show mayY 3 P = true from HMAY.out), show freshY (3 : Int).toNat (P : Int).toNat = sA from HFR.out]
  rintro e W0 ⟨g, fp0, rfl, hc0, hb0⟩
  have C0 := Lib.hid hc0
  have S0 := Lib.hid hb0
  clear hc0 hb0 HFR HMAY HLO hlo HP
  go_wp2_with fail
  refine (yopen_any 2 C0.out).mono ?_
  rw [H1.out]
  rintro e W11 ⟨v11, fp11, rfl, he11, hc11, hs11⟩
  have S11 := Lib.hid (hs11.below S0.out C0.out.ge S0.out.size)
  have C11 := Lib.hid hc11
  obtain rfl := he11.nil
  clear he11
  clear hc11 hs11 S0 C0
  go_wp2_with fail
  go_loopw [10] (fun t10 wr => ∃ (p : Nat) (fp : Nat → Prop), t10 = .int .i64 p ∧ p ≤ P ∧ Hid (YardAt wr w.heap.size fp g (lvY 3 2 P 2 p (fT p) (dT x1 p))) ∧ Hid (Below w.heap.size w wr)) (fun t10 _ => P - (intOf t10).toNat)
  case atStart => exact ⟨0, _, rfl, Nat.zero_le _, C11, S11⟩
  clear C11 S11 H1 HSA
  case round =>
    obtain ⟨Wa, rfl⟩ : ∃ Wa, Wa = wr := ⟨_, rfl⟩
    obtain ⟨p, fp, rfl, hp, HC, HB⟩ := hrel
    have p0 : (0 : Int) ≤ (p : Int) := by omega
    by_cases hlt : p < P
    · skip
      have p1 : (p : Int) < (P : Int) := by omega
      have p63 : p < 64 := by omega
      obtain ⟨sp, HSP⟩ : ∃ s, Hid (lvY 3 2 P 2 p (fT p) (dT x1 p) = s) := ⟨_, rfl⟩
      obtain ⟨sq, HSQ⟩ : ∃ s, Hid (lvY 3 2 P 2 ((p + 1 : Nat) : Int) (fT p) (dT x1 p) = s) := ⟨_, rfl⟩
      have H2 : Hid (nextY sp 2 = (sq, (p : Int), 0)) := by show _ = _; rw [← HSP.out, ← HSQ.out]; exact lv_next (by omega) hlt
      rw [HSP.out] at HC
      obtain ⟨β, HBT⟩ : ∃ β : Int, Hid (bits .and .i64 (x1 / 2 ^ p) 1 = β) := ⟨_, rfl⟩
      obtain ⟨v, HV⟩ : ∃ v, Hid (bt x1 p = v) := ⟨_, rfl⟩
      have hβ := bt_and x1 p
      rw [HBT.out, HV.out] at hβ
      have H3 : Hid (wantY sq 2 p v = (lvY 3 2 P 2 ((p + 1 : Nat) : Int) (fT (p + 1)) (dT x1 (p + 1)), 0)) := by show _ = _; rw [← HSQ.out, ← fT_up, ← dT_up HV.out]; exact lv_want (by omega) (by decide) hlt (by omega) (by unfold fT; simp) v
      go_wp2_with fail
      refine (ynext_any 2 HC.out).mono ?_
      rw [H2.out]
      rintro e W12 ⟨v12, fp12, rfl, he12, hc12, hs12⟩
      have S12 := Lib.hid (hs12.below HB.out HC.out.ge HB.out.size)
      have C12 := Lib.hid hc12
      obtain rfl := he12.nil
      clear he12
      clear hc12 hs12 HB HC
      cases v with
      | true =>
        obtain rfl : β = 1 := hβ
        go_wp2_with (simp only [HBT.out])
        refine (yneed_any 2 p true C12.out).mono ?_
        rw [H3.out]
        rintro e W13 ⟨v13, fp13, rfl, he13, hc13, hs13⟩
        have S13 := Lib.hid (hs13.below S12.out C12.out.ge S12.out.size)
        have C13 := Lib.hid hc13
        obtain rfl := he13.nil
        clear he13
        clear hc13 hs13 S12 C12
        go_wp2_with fail
        go_roundw
        case rel => exact ⟨p + 1, fp13, by go_num, by omega, C13, S13⟩
        case measure => simp [intOf]; omega
      | false =>
        obtain rfl : β = 0 := hβ
        go_wp2_with (simp only [HBT.out])
        refine (yneed_any 2 p false C12.out).mono ?_
        rw [H3.out]
        rintro e W13 ⟨v13, fp13, rfl, he13, hc13, hs13⟩
        have S13 := Lib.hid (hs13.below S12.out C12.out.ge S12.out.size)
        have C13 := Lib.hid hc13
        obtain rfl := he13.nil
        clear he13
        clear hc13 hs13 S12 C12
        go_wp2_with fail
        go_roundw
        case rel => exact ⟨p + 1, fp13, by go_num, by omega, C13, S13⟩
        case measure => simp [intOf]; omega
    · skip
      obtain rfl : p = P := by omega
      rw [lv_same (f' := fW x3 0) (d' := dW x1 x2 x3 0) (fun q hq => by unfold fT fW; simp [hq]) (fun q hq => by unfold dT dW; simp [hq])] at HC
      go_wp2_with fail
      go_loopw [13, 14, 15] (fun t13 t14 t15 wr => ∃ (q : Nat) (fp : Nat → Prop), t13 = .int .i64 (manyW x1 x2 x3 q : Int) ∧ t14 = .int .i64 (leftW x3 q : Int) ∧ t15 = .int .i64 q ∧ q ≤ p ∧ Hid (YardAt wr w.heap.size fp g (lvY 3 2 p 2 p (fW x3 q) (dW x1 x2 x3 q))) ∧ Hid (Below w.heap.size w wr)) (fun _ _ t15 _ => p - (intOf t15).toNat)
      case atStart => exact ⟨0, _, rfl, rfl, rfl, Nat.zero_le _, HC, HB⟩
      clear HC HB
      case round =>
        obtain ⟨Wb, rfl⟩ : ∃ Wb, Wb = wr := ⟨_, rfl⟩
        obtain ⟨q, fp, rfl, rfl, rfl, hq, HC, HB⟩ := hrel
        have q0 : (0 : Int) ≤ (q : Int) := by omega
        by_cases hltq : q < p
        · skip
          have q1 : (q : Int) < (p : Int) := by omega
          have q63 : q < 64 := by omega
          have hmw := many_le (x1 := x1) (x2 := x2) (x3 := x3) q
          have hlw := left_le (x3 := x3) q
          have HMU := Lib.hid (many_up (x1 := x1) (x2 := x2) (x3 := x3) (p := q))
          have HLU := Lib.hid (left_up (x3 := x3) (p := q))
          obtain ⟨nm, HNM⟩ : ∃ n, Hid (manyW x1 x2 x3 q = n) := ⟨_, rfl⟩
          obtain ⟨nl, HNL⟩ : ∃ n, Hid (leftW x3 q = n) := ⟨_, rfl⟩
          rw [HNM.out] at hmw HMU ⊢
          rw [HNL.out] at hlw HLU ⊢
          clear HNM HNL
          obtain ⟨r1, HR1⟩ : ∃ r : Int, Hid (x1 / 2 ^ q = r) := ⟨_, rfl⟩
          have hβ1 := bt_and x1 q
          rw [HR1.out] at hβ1
          obtain ⟨b1, HB1⟩ : ∃ b, Hid (bt x1 q = b) := ⟨_, rfl⟩
          rw [HB1.out] at hβ1
          obtain ⟨β1, HBT1⟩ : ∃ β : Int, Hid (bits .and .i64 r1 1 = β) := ⟨_, rfl⟩
          rw [HBT1.out] at hβ1
          obtain ⟨r2, HR2⟩ : ∃ r : Int, Hid (x2 / 2 ^ q = r) := ⟨_, rfl⟩
          have hβ2 := bt_and x2 q
          rw [HR2.out] at hβ2
          obtain ⟨b2, HB2⟩ : ∃ b, Hid (bt x2 q = b) := ⟨_, rfl⟩
          rw [HB2.out] at hβ2
          obtain ⟨β2, HBT2⟩ : ∃ β : Int, Hid (bits .and .i64 r2 1 = β) := ⟨_, rfl⟩
          rw [HBT2.out] at hβ2
          obtain ⟨r3, HR3⟩ : ∃ r : Int, Hid (x3 / 2 ^ q = r) := ⟨_, rfl⟩
          have hβ3 := bt_and x3 q
          rw [HR3.out] at hβ3
          obtain ⟨b3, HB3⟩ : ∃ b, Hid (bt x3 q = b) := ⟨_, rfl⟩
          rw [HB3.out] at hβ3
          obtain ⟨β3, HBT3⟩ : ∃ β : Int, Hid (bits .and .i64 r3 1 = β) := ⟨_, rfl⟩
          rw [HBT3.out] at hβ3
          rw [HB1.out, HB2.out, HB3.out] at HMU
          rw [HB3.out] at HLU
          obtain ⟨sp, HSP⟩ : ∃ s, Hid (lvY 3 2 p 2 p (fW x3 q) (dW x1 x2 x3 q) = s) := ⟨_, rfl⟩
          rw [HSP.out] at HC
          go_wp2_with fail
          obtain ⟨WD, HWD⟩ : ∃ W, Hid (W = Wb.drew) := ⟨_, rfl⟩
          have HDL : Hid (Later Wb WD) := by rw [HWD.out]; exact (Below.refl _ _).drew
          have CD := Lib.hid (HC.out.since HDL.out)
          have SD := Lib.hid (below_chain HB.out HDL.out)
          cases b3 <;> cases b2 <;> cases b1
          · skip
            obtain rfl : β3 = 0 := hβ3
            obtain rfl : β2 = 0 := hβ2
            obtain rfl : β1 = 0 := hβ1
            have HB2_ := HB2
            obtain ⟨s2, HS2⟩ : ∃ s, Hid (lvY 3 2 p 2 p (fW x3 (q + 1)) (dW x1 x2 x3 (q + 1)) = s) := ⟨_, rfl⟩
            refine region_of_steps7 (by kernel_rfl) [some (.int .i64 x3), some (.int .i64 (q : Int)), some (.int .i64 r3), some (.int .i64 0), some (.bool false), some (.bool false), some undef, some undef, some undef, some undef, some (.bool false), some (.bool false), some (.int .i64 x2), some (.int .i64 (q : Int)), some (.int .i64 r2), some (.int .i64 0), some (.bool false), some (.bool false), some undef, some undef, some undef, some undef, some undef, some undef, some undef, some undef, some undef, some undef, some (.bool false), some (.bool false)] [] [] (YardJ w w.heap.size g sp s2 (fun _ _ => True)) (by kernel_rfl) (by kernel_rfl) (by rw [← HWD.out]; exact ⟨fp, CD.out, SD.out, trivial⟩) ?_ ?_
            · refine Steps7.cons ?_ (Steps7.cons ?_ (Steps7.cons ?_ (Steps7.cons ?_ (Steps7.cons ?_ (Steps7.cons ?_ (Steps7.cons ?_ (Steps7.cons ?_ (Steps7.cons ?_ (Steps7.cons ?_ (Steps7.cons ?_ (Steps7.cons ?_ (Steps7.cons ?_ (Steps7.cons ?_ (Steps7.cons ?_ (Steps7.cons ?_ (Steps7.cons ?_ (Steps7.cons ?_ (Steps7.cons ?_ (Steps7.cons ?_ (Steps7.cons ?_ (Steps7.cons ?_ (Steps7.cons ?_ (Steps7.cons ?_ (Steps7.cons ?_ (Steps7.cons ?_ (Steps7.cons ?_ (Steps7.cons ?_ (Steps7.cons ?_ (Steps7.cons ?_ (Steps7.nil))))))))))))))))))))))))))))))
              · intro listed a W H hj hl hd
                have t3 : a.tmps.getD 3 undef = .int .i64 x3 := (H.old 3 (by kernel_rfl)).trans rfl
                exact step7_value (i := 0) rfl rfl (run_op_move rfl t3) (calm7 (fun fs vs x y => yardJ_later fs vs x y) (by kernel_rfl) (by kernel_rfl) hj (later_refl _)) rfl
              · intro listed a W H hj hl hd
                have t15 : a.tmps.getD 15 undef = .int .i64 (q : Int) := (H.old 15 (by kernel_rfl)).trans rfl
                exact step7_value (i := 1) rfl rfl (run_op_move rfl t15) (calm7 (fun fs vs x y => yardJ_later fs vs x y) (by kernel_rfl) (by kernel_rfl) hj (later_refl _)) rfl
              · intro listed a W H hj hl hd
                have t63 : a.tmps.getD 63 undef = .int .i64 x3 := H.get 0 63 (by kernel_rfl) (dep_of hd 0 (by kernel_rfl)) (fun _ h => by cases h)
                have t64 : a.tmps.getD 64 undef = .int .i64 (q : Int) := H.get 1 64 (by kernel_rfl) (dep_of hd 1 (by kernel_rfl)) (fun _ h => by cases h)
                exact step7_value (i := 2) rfl rfl (run_op_bin rfl t63 t64 (bin_shr _ _ _ x3 q q63 r3 HR3.out)) (calm7 (fun fs vs x y => yardJ_later fs vs x y) (by kernel_rfl) (by kernel_rfl) hj (later_refl _)) rfl
              · intro listed a W H hj hl hd
                have t65 : a.tmps.getD 65 undef = .int .i64 r3 := H.get 2 65 (by kernel_rfl) (dep_of hd 2 (by kernel_rfl)) (fun _ h => by cases h)
                exact step7_value (i := 3) rfl rfl (run_op_bin rfl t65 rfl (bin_and _ _ _ r3 1 0 HBT3.out)) (calm7 (fun fs vs x y => yardJ_later fs vs x y) (by kernel_rfl) (by kernel_rfl) hj (later_refl _)) rfl
              · intro listed a W H hj hl hd
                have t66 : a.tmps.getD 66 undef = .int .i64 0 := H.get 3 66 (by kernel_rfl) (dep_of hd 3 (by kernel_rfl)) (fun _ h => by cases h)
                exact step7_value (i := 4) rfl rfl (run_op_bin rfl t66 rfl (bin_eql _ _ _ 0 1 false (by first | rfl | (simp; done) | (simp; omega) | decide))) (calm7 (fun fs vs x y => yardJ_later fs vs x y) (by kernel_rfl) (by kernel_rfl) hj (later_refl _)) rfl
              · intro listed a W H hj hl hd
                have t67 : a.tmps.getD 67 undef = .bool false := H.get 4 67 (by kernel_rfl) (dep_of hd 4 (by kernel_rfl)) (fun _ h => by cases h)
                exact step7_value (i := 5) rfl rfl (run_op_move rfl t67) (calm7 (fun fs vs x y => yardJ_later fs vs x y) (by kernel_rfl) (by kernel_rfl) hj (later_refl _)) rfl
              · intro listed a W H hj hl hd
                have t68 : a.tmps.getD 68 undef = .bool false := H.get 5 68 (by kernel_rfl) (dep_of hd 5 (by kernel_rfl)) (fun _ h => by cases h)
                exact step7_skip (i := 6) rfl (unwanted_at (j := 5) (d := 68) (b := true) (c := false) rfl (by kernel_rfl) t68 rfl) (calm7 (fun fs vs x y => yardJ_later fs vs x y) (by kernel_rfl) (by kernel_rfl) hj (later_refl _)) rfl
              · intro listed a W H hj hl hd
                have t68 : a.tmps.getD 68 undef = .bool false := H.get 5 68 (by kernel_rfl) (dep_of hd 5 (by kernel_rfl)) (fun _ h => by cases h)
                exact step7_skip (i := 7) rfl (unwanted_at (j := 5) (d := 68) (b := true) (c := false) rfl (by kernel_rfl) t68 rfl) (calm7 (fun fs vs x y => yardJ_later fs vs x y) (by kernel_rfl) (by kernel_rfl) hj (later_refl _)) rfl
              · intro listed a W H hj hl hd
                have t68 : a.tmps.getD 68 undef = .bool false := H.get 5 68 (by kernel_rfl) (dep_of hd 5 (by kernel_rfl)) (fun _ h => by cases h)
                exact step7_skip (i := 8) rfl (unwanted_at (j := 5) (d := 68) (b := true) (c := false) rfl (by kernel_rfl) t68 rfl) (calm7 (fun fs vs x y => yardJ_later fs vs x y) (by kernel_rfl) (by kernel_rfl) hj (later_refl _)) rfl
              · intro listed a W H hj hl hd
                have t68 : a.tmps.getD 68 undef = .bool false := H.get 5 68 (by kernel_rfl) (dep_of hd 5 (by kernel_rfl)) (fun _ h => by cases h)
                exact step7_skip (i := 9) rfl (unwanted_at (j := 5) (d := 68) (b := true) (c := false) rfl (by kernel_rfl) t68 rfl) (calm7 (fun fs vs x y => yardJ_later fs vs x y) (by kernel_rfl) (by kernel_rfl) hj (later_refl _)) rfl
              · intro listed a W H hj hl hd
                have t68 : a.tmps.getD 68 undef = .bool false := H.get 5 68 (by kernel_rfl) (dep_of hd 5 (by kernel_rfl)) (fun _ h => by cases h)
                exact step7_value (i := 10) rfl rfl (run_op_pickF rfl t68 rfl) (calm7 (fun fs vs x y => yardJ_later fs vs x y) (by kernel_rfl) (by kernel_rfl) hj (later_refl _)) rfl
              · intro listed a W H hj hl hd
                have t73 : a.tmps.getD 73 undef = .bool false := H.get 10 73 (by kernel_rfl) (dep_of hd 10 (by kernel_rfl)) (fun _ h => by cases h)
                exact step7_value (i := 11) rfl rfl (run_op_move rfl t73) (calm7 (fun fs vs x y => yardJ_later fs vs x y) (by kernel_rfl) (by kernel_rfl) hj (later_refl _)) rfl
              · intro listed a W H hj hl hd
                have t74 : a.tmps.getD 74 undef = .bool false := H.get 11 74 (by kernel_rfl) (dep_of hd 11 (by kernel_rfl)) (fun _ h => by cases h)
                have t2 : a.tmps.getD 2 undef = .int .i64 x2 := (H.old 2 (by kernel_rfl)).trans rfl
                exact step7_value (i := 12) rfl (wanted_at (j := 11) (d := 74) (b := false) rfl (by kernel_rfl) t74) (run_op_move rfl t2) (calm7 (fun fs vs x y => yardJ_later fs vs x y) (by kernel_rfl) (by kernel_rfl) hj (later_refl _)) rfl
              · intro listed a W H hj hl hd
                have t74 : a.tmps.getD 74 undef = .bool false := H.get 11 74 (by kernel_rfl) (dep_of hd 11 (by kernel_rfl)) (fun _ h => by cases h)
                have t15 : a.tmps.getD 15 undef = .int .i64 (q : Int) := (H.old 15 (by kernel_rfl)).trans rfl
                exact step7_value (i := 13) rfl (wanted_at (j := 11) (d := 74) (b := false) rfl (by kernel_rfl) t74) (run_op_move rfl t15) (calm7 (fun fs vs x y => yardJ_later fs vs x y) (by kernel_rfl) (by kernel_rfl) hj (later_refl _)) rfl
              · intro listed a W H hj hl hd
                have t74 : a.tmps.getD 74 undef = .bool false := H.get 11 74 (by kernel_rfl) (dep_of hd 11 (by kernel_rfl)) (fun _ h => by cases h)
                have t75 : a.tmps.getD 75 undef = .int .i64 x2 := H.get 12 75 (by kernel_rfl) (dep_of hd 12 (by kernel_rfl)) (fun _ h => by cases h)
                have t76 : a.tmps.getD 76 undef = .int .i64 (q : Int) := H.get 13 76 (by kernel_rfl) (dep_of hd 13 (by kernel_rfl)) (fun _ h => by cases h)
                exact step7_value (i := 14) rfl (wanted_at (j := 11) (d := 74) (b := false) rfl (by kernel_rfl) t74) (run_op_bin rfl t75 t76 (bin_shr _ _ _ x2 q q63 r2 HR2.out)) (calm7 (fun fs vs x y => yardJ_later fs vs x y) (by kernel_rfl) (by kernel_rfl) hj (later_refl _)) rfl
              · intro listed a W H hj hl hd
                have t74 : a.tmps.getD 74 undef = .bool false := H.get 11 74 (by kernel_rfl) (dep_of hd 11 (by kernel_rfl)) (fun _ h => by cases h)
                have t77 : a.tmps.getD 77 undef = .int .i64 r2 := H.get 14 77 (by kernel_rfl) (dep_of hd 14 (by kernel_rfl)) (fun _ h => by cases h)
                exact step7_value (i := 15) rfl (wanted_at (j := 11) (d := 74) (b := false) rfl (by kernel_rfl) t74) (run_op_bin rfl t77 rfl (bin_and _ _ _ r2 1 0 HBT2.out)) (calm7 (fun fs vs x y => yardJ_later fs vs x y) (by kernel_rfl) (by kernel_rfl) hj (later_refl _)) rfl
              · intro listed a W H hj hl hd
                have t74 : a.tmps.getD 74 undef = .bool false := H.get 11 74 (by kernel_rfl) (dep_of hd 11 (by kernel_rfl)) (fun _ h => by cases h)
                have t78 : a.tmps.getD 78 undef = .int .i64 0 := H.get 15 78 (by kernel_rfl) (dep_of hd 15 (by kernel_rfl)) (fun _ h => by cases h)
                exact step7_value (i := 16) rfl (wanted_at (j := 11) (d := 74) (b := false) rfl (by kernel_rfl) t74) (run_op_bin rfl t78 rfl (bin_eql _ _ _ 0 1 false (by first | rfl | (simp; done) | (simp; omega) | decide))) (calm7 (fun fs vs x y => yardJ_later fs vs x y) (by kernel_rfl) (by kernel_rfl) hj (later_refl _)) rfl
              · intro listed a W H hj hl hd
                have t74 : a.tmps.getD 74 undef = .bool false := H.get 11 74 (by kernel_rfl) (dep_of hd 11 (by kernel_rfl)) (fun _ h => by cases h)
                have t79 : a.tmps.getD 79 undef = .bool false := H.get 16 79 (by kernel_rfl) (dep_of hd 16 (by kernel_rfl)) (fun _ h => by cases h)
                exact step7_value (i := 17) rfl (wanted_at (j := 11) (d := 74) (b := false) rfl (by kernel_rfl) t74) (run_op_move rfl t79) (calm7 (fun fs vs x y => yardJ_later fs vs x y) (by kernel_rfl) (by kernel_rfl) hj (later_refl _)) rfl
              · intro listed a W H hj hl hd
                have t80 : a.tmps.getD 80 undef = .bool false := H.get 17 80 (by kernel_rfl) (dep_of hd 17 (by kernel_rfl)) (fun _ h => by cases h)
                exact step7_skip (i := 18) rfl (unwanted_at (j := 17) (d := 80) (b := true) (c := false) rfl (by kernel_rfl) t80 rfl) (calm7 (fun fs vs x y => yardJ_later fs vs x y) (by kernel_rfl) (by kernel_rfl) hj (later_refl _)) rfl
              · intro listed a W H hj hl hd
                have t80 : a.tmps.getD 80 undef = .bool false := H.get 17 80 (by kernel_rfl) (dep_of hd 17 (by kernel_rfl)) (fun _ h => by cases h)
                exact step7_skip (i := 19) rfl (unwanted_at (j := 17) (d := 80) (b := true) (c := false) rfl (by kernel_rfl) t80 rfl) (calm7 (fun fs vs x y => yardJ_later fs vs x y) (by kernel_rfl) (by kernel_rfl) hj (later_refl _)) rfl
              · intro listed a W H hj hl hd
                have t80 : a.tmps.getD 80 undef = .bool false := H.get 17 80 (by kernel_rfl) (dep_of hd 17 (by kernel_rfl)) (fun _ h => by cases h)
                exact step7_skip (i := 20) rfl (unwanted_at (j := 17) (d := 80) (b := true) (c := false) rfl (by kernel_rfl) t80 rfl) (calm7 (fun fs vs x y => yardJ_later fs vs x y) (by kernel_rfl) (by kernel_rfl) hj (later_refl _)) rfl
              · intro listed a W H hj hl hd
                have t80 : a.tmps.getD 80 undef = .bool false := H.get 17 80 (by kernel_rfl) (dep_of hd 17 (by kernel_rfl)) (fun _ h => by cases h)
                exact step7_skip (i := 21) rfl (unwanted_at (j := 17) (d := 80) (b := true) (c := false) rfl (by kernel_rfl) t80 rfl) (calm7 (fun fs vs x y => yardJ_later fs vs x y) (by kernel_rfl) (by kernel_rfl) hj (later_refl _)) rfl
              · intro listed a W H hj hl hd
                have t80 : a.tmps.getD 80 undef = .bool false := H.get 17 80 (by kernel_rfl) (dep_of hd 17 (by kernel_rfl)) (fun _ h => by cases h)
                exact step7_skip (i := 22) rfl (unwanted_at (j := 17) (d := 80) (b := true) (c := false) rfl (by kernel_rfl) t80 rfl) (calm7 (fun fs vs x y => yardJ_later fs vs x y) (by kernel_rfl) (by kernel_rfl) hj (later_refl _)) rfl
              · intro listed a W H hj hl hd
                have t80 : a.tmps.getD 80 undef = .bool false := H.get 17 80 (by kernel_rfl) (dep_of hd 17 (by kernel_rfl)) (fun _ h => by cases h)
                exact step7_skip (i := 23) rfl (unwanted_at (j := 17) (d := 80) (b := true) (c := false) rfl (by kernel_rfl) t80 rfl) (calm7 (fun fs vs x y => yardJ_later fs vs x y) (by kernel_rfl) (by kernel_rfl) hj (later_refl _)) rfl
              · intro listed a W H hj hl hd
                have t80 : a.tmps.getD 80 undef = .bool false := H.get 17 80 (by kernel_rfl) (dep_of hd 17 (by kernel_rfl)) (fun _ h => by cases h)
                exact step7_skip (i := 24) rfl (unwanted_at (j := 17) (d := 80) (b := true) (c := false) rfl (by kernel_rfl) t80 rfl) (calm7 (fun fs vs x y => yardJ_later fs vs x y) (by kernel_rfl) (by kernel_rfl) hj (later_refl _)) rfl
              · intro listed a W H hj hl hd
                have t80 : a.tmps.getD 80 undef = .bool false := H.get 17 80 (by kernel_rfl) (dep_of hd 17 (by kernel_rfl)) (fun _ h => by cases h)
                exact step7_skip (i := 25) rfl (unwanted_at (j := 17) (d := 80) (b := true) (c := false) rfl (by kernel_rfl) t80 rfl) (calm7 (fun fs vs x y => yardJ_later fs vs x y) (by kernel_rfl) (by kernel_rfl) hj (later_refl _)) rfl
              · intro listed a W H hj hl hd
                have t80 : a.tmps.getD 80 undef = .bool false := H.get 17 80 (by kernel_rfl) (dep_of hd 17 (by kernel_rfl)) (fun _ h => by cases h)
                exact step7_skip (i := 26) rfl (unwanted_at (j := 17) (d := 80) (b := true) (c := false) rfl (by kernel_rfl) t80 rfl) (calm7 (fun fs vs x y => yardJ_later fs vs x y) (by kernel_rfl) (by kernel_rfl) hj (later_refl _)) rfl
              · intro listed a W H hj hl hd
                have t80 : a.tmps.getD 80 undef = .bool false := H.get 17 80 (by kernel_rfl) (dep_of hd 17 (by kernel_rfl)) (fun _ h => by cases h)
                exact step7_skip (i := 27) rfl (unwanted_at (j := 17) (d := 80) (b := true) (c := false) rfl (by kernel_rfl) t80 rfl) (calm7 (fun fs vs x y => yardJ_later fs vs x y) (by kernel_rfl) (by kernel_rfl) hj (later_refl _)) rfl
              · intro listed a W H hj hl hd
                have t74 : a.tmps.getD 74 undef = .bool false := H.get 11 74 (by kernel_rfl) (dep_of hd 11 (by kernel_rfl)) (fun _ h => by cases h)
                have t80 : a.tmps.getD 80 undef = .bool false := H.get 17 80 (by kernel_rfl) (dep_of hd 17 (by kernel_rfl)) (fun _ h => by cases h)
                exact step7_value (i := 28) rfl (wanted_at (j := 11) (d := 74) (b := false) rfl (by kernel_rfl) t74) (run_op_pickF rfl t80 rfl) (calm7 (fun fs vs x y => yardJ_later fs vs x y) (by kernel_rfl) (by kernel_rfl) hj (later_refl _)) rfl
              · intro listed a W H hj hl hd
                have t74 : a.tmps.getD 74 undef = .bool false := H.get 11 74 (by kernel_rfl) (dep_of hd 11 (by kernel_rfl)) (fun _ h => by cases h)
                have t91 : a.tmps.getD 91 undef = .bool false := H.get 28 91 (by kernel_rfl) (dep_of hd 28 (by kernel_rfl)) (fun _ h => by cases h)
                exact step7_value (i := 29) rfl rfl (run_op_pickF rfl t74 t91) (calm7 (fun fs vs x y => yardJ_later fs vs x y) (by kernel_rfl) (by kernel_rfl) hj (later_refl _)) rfl
            · intro a WC hdef hsz hw hall hact
              obtain ⟨u, hu⟩ : ∃ u : Nat → Value, ∀ k, a.tmps.getD k undef = u k := ⟨_, fun _ => rfl⟩
              have h92 : u 92 = .bool false := by rw [← hu]; exact hall 29 _ rfl
              simp only [hu] at hact
              have hact' : a = ([63, 64, 65, 66, 67, 68, 69, 70, 71, 72, 73, 74, 75, 76, 77, 78, 79, 80, 81, 82, 83, 84, 85, 86, 87, 88, 89, 90, 91, 92] : List Nat).foldl (fun b k => b.put (some k) (u k)) _ := hact
              simp only [List.foldl] at hact'
              simp only [Act.put, List.setIfInBounds_toArray, List.set_cons_succ, List.set_cons_zero] at hact'
              have HAC := Lib.hid hact'
              have HX := Lib.hid hw
              clear hact hact' hall hdef hsz hw
              rw [h92] at HAC
              rw [HAC.out]
              obtain ⟨fpX, c1, c2, c3⟩ := HX.out
              have c1' : YardAt WC w.heap.size fpX g sp := c1
              have HC2 := Lib.hid c1'
              have HB2 := Lib.hid c2
              clear c1 c1' c2 c3 HX HC HB CD SD HDL HWD
              rw [← HSP.out] at HC2
              rw [fW_no HB3.out, dW_no (x1 := x1) (show (bt x3 q || bt x2 q) = false by rw [HB3.out, HB2_.out]; rfl)] at HC2
              go_wp2_with (simp only [HR1.out, HR2.out, HR3.out, HBT1.out, HBT2.out, HBT3.out])
              go_roundw
              case rel => exact ⟨q + 1, fpX, by rw [HMU.out]; simp, by rw [HLU.out]; simp, by go_num, by omega, HC2, HB2⟩
              case measure => simp [intOf]; omega
          · skip
            obtain rfl : β3 = 0 := hβ3
            obtain rfl : β2 = 0 := hβ2
            obtain rfl : β1 = 1 := hβ1
            have HB2_ := HB2
            obtain ⟨s2, HS2⟩ : ∃ s, Hid (lvY 3 2 p 2 p (fW x3 (q + 1)) (dW x1 x2 x3 (q + 1)) = s) := ⟨_, rfl⟩
            refine region_of_steps7 (by kernel_rfl) [some (.int .i64 x3), some (.int .i64 (q : Int)), some (.int .i64 r3), some (.int .i64 0), some (.bool false), some (.bool false), some undef, some undef, some undef, some undef, some (.bool false), some (.bool false), some (.int .i64 x2), some (.int .i64 (q : Int)), some (.int .i64 r2), some (.int .i64 0), some (.bool false), some (.bool false), some undef, some undef, some undef, some undef, some undef, some undef, some undef, some undef, some undef, some undef, some (.bool false), some (.bool false)] [] [] (YardJ w w.heap.size g sp s2 (fun _ _ => True)) (by kernel_rfl) (by kernel_rfl) (by rw [← HWD.out]; exact ⟨fp, CD.out, SD.out, trivial⟩) ?_ ?_
            · refine Steps7.cons ?_ (Steps7.cons ?_ (Steps7.cons ?_ (Steps7.cons ?_ (Steps7.cons ?_ (Steps7.cons ?_ (Steps7.cons ?_ (Steps7.cons ?_ (Steps7.cons ?_ (Steps7.cons ?_ (Steps7.cons ?_ (Steps7.cons ?_ (Steps7.cons ?_ (Steps7.cons ?_ (Steps7.cons ?_ (Steps7.cons ?_ (Steps7.cons ?_ (Steps7.cons ?_ (Steps7.cons ?_ (Steps7.cons ?_ (Steps7.cons ?_ (Steps7.cons ?_ (Steps7.cons ?_ (Steps7.cons ?_ (Steps7.cons ?_ (Steps7.cons ?_ (Steps7.cons ?_ (Steps7.cons ?_ (Steps7.cons ?_ (Steps7.cons ?_ (Steps7.nil))))))))))))))))))))))))))))))
              · intro listed a W H hj hl hd
                have t3 : a.tmps.getD 3 undef = .int .i64 x3 := (H.old 3 (by kernel_rfl)).trans rfl
                exact step7_value (i := 0) rfl rfl (run_op_move rfl t3) (calm7 (fun fs vs x y => yardJ_later fs vs x y) (by kernel_rfl) (by kernel_rfl) hj (later_refl _)) rfl
              · intro listed a W H hj hl hd
                have t15 : a.tmps.getD 15 undef = .int .i64 (q : Int) := (H.old 15 (by kernel_rfl)).trans rfl
                exact step7_value (i := 1) rfl rfl (run_op_move rfl t15) (calm7 (fun fs vs x y => yardJ_later fs vs x y) (by kernel_rfl) (by kernel_rfl) hj (later_refl _)) rfl
              · intro listed a W H hj hl hd
                have t63 : a.tmps.getD 63 undef = .int .i64 x3 := H.get 0 63 (by kernel_rfl) (dep_of hd 0 (by kernel_rfl)) (fun _ h => by cases h)
                have t64 : a.tmps.getD 64 undef = .int .i64 (q : Int) := H.get 1 64 (by kernel_rfl) (dep_of hd 1 (by kernel_rfl)) (fun _ h => by cases h)
                exact step7_value (i := 2) rfl rfl (run_op_bin rfl t63 t64 (bin_shr _ _ _ x3 q q63 r3 HR3.out)) (calm7 (fun fs vs x y => yardJ_later fs vs x y) (by kernel_rfl) (by kernel_rfl) hj (later_refl _)) rfl
              · intro listed a W H hj hl hd
                have t65 : a.tmps.getD 65 undef = .int .i64 r3 := H.get 2 65 (by kernel_rfl) (dep_of hd 2 (by kernel_rfl)) (fun _ h => by cases h)
                exact step7_value (i := 3) rfl rfl (run_op_bin rfl t65 rfl (bin_and _ _ _ r3 1 0 HBT3.out)) (calm7 (fun fs vs x y => yardJ_later fs vs x y) (by kernel_rfl) (by kernel_rfl) hj (later_refl _)) rfl
              · intro listed a W H hj hl hd
                have t66 : a.tmps.getD 66 undef = .int .i64 0 := H.get 3 66 (by kernel_rfl) (dep_of hd 3 (by kernel_rfl)) (fun _ h => by cases h)
                exact step7_value (i := 4) rfl rfl (run_op_bin rfl t66 rfl (bin_eql _ _ _ 0 1 false (by first | rfl | (simp; done) | (simp; omega) | decide))) (calm7 (fun fs vs x y => yardJ_later fs vs x y) (by kernel_rfl) (by kernel_rfl) hj (later_refl _)) rfl
              · intro listed a W H hj hl hd
                have t67 : a.tmps.getD 67 undef = .bool false := H.get 4 67 (by kernel_rfl) (dep_of hd 4 (by kernel_rfl)) (fun _ h => by cases h)
                exact step7_value (i := 5) rfl rfl (run_op_move rfl t67) (calm7 (fun fs vs x y => yardJ_later fs vs x y) (by kernel_rfl) (by kernel_rfl) hj (later_refl _)) rfl
              · intro listed a W H hj hl hd
                have t68 : a.tmps.getD 68 undef = .bool false := H.get 5 68 (by kernel_rfl) (dep_of hd 5 (by kernel_rfl)) (fun _ h => by cases h)
                exact step7_skip (i := 6) rfl (unwanted_at (j := 5) (d := 68) (b := true) (c := false) rfl (by kernel_rfl) t68 rfl) (calm7 (fun fs vs x y => yardJ_later fs vs x y) (by kernel_rfl) (by kernel_rfl) hj (later_refl _)) rfl
              · intro listed a W H hj hl hd
                have t68 : a.tmps.getD 68 undef = .bool false := H.get 5 68 (by kernel_rfl) (dep_of hd 5 (by kernel_rfl)) (fun _ h => by cases h)
                exact step7_skip (i := 7) rfl (unwanted_at (j := 5) (d := 68) (b := true) (c := false) rfl (by kernel_rfl) t68 rfl) (calm7 (fun fs vs x y => yardJ_later fs vs x y) (by kernel_rfl) (by kernel_rfl) hj (later_refl _)) rfl
              · intro listed a W H hj hl hd
                have t68 : a.tmps.getD 68 undef = .bool false := H.get 5 68 (by kernel_rfl) (dep_of hd 5 (by kernel_rfl)) (fun _ h => by cases h)
                exact step7_skip (i := 8) rfl (unwanted_at (j := 5) (d := 68) (b := true) (c := false) rfl (by kernel_rfl) t68 rfl) (calm7 (fun fs vs x y => yardJ_later fs vs x y) (by kernel_rfl) (by kernel_rfl) hj (later_refl _)) rfl
              · intro listed a W H hj hl hd
                have t68 : a.tmps.getD 68 undef = .bool false := H.get 5 68 (by kernel_rfl) (dep_of hd 5 (by kernel_rfl)) (fun _ h => by cases h)
                exact step7_skip (i := 9) rfl (unwanted_at (j := 5) (d := 68) (b := true) (c := false) rfl (by kernel_rfl) t68 rfl) (calm7 (fun fs vs x y => yardJ_later fs vs x y) (by kernel_rfl) (by kernel_rfl) hj (later_refl _)) rfl
              · intro listed a W H hj hl hd
                have t68 : a.tmps.getD 68 undef = .bool false := H.get 5 68 (by kernel_rfl) (dep_of hd 5 (by kernel_rfl)) (fun _ h => by cases h)
                exact step7_value (i := 10) rfl rfl (run_op_pickF rfl t68 rfl) (calm7 (fun fs vs x y => yardJ_later fs vs x y) (by kernel_rfl) (by kernel_rfl) hj (later_refl _)) rfl
              · intro listed a W H hj hl hd
                have t73 : a.tmps.getD 73 undef = .bool false := H.get 10 73 (by kernel_rfl) (dep_of hd 10 (by kernel_rfl)) (fun _ h => by cases h)
                exact step7_value (i := 11) rfl rfl (run_op_move rfl t73) (calm7 (fun fs vs x y => yardJ_later fs vs x y) (by kernel_rfl) (by kernel_rfl) hj (later_refl _)) rfl
              · intro listed a W H hj hl hd
                have t74 : a.tmps.getD 74 undef = .bool false := H.get 11 74 (by kernel_rfl) (dep_of hd 11 (by kernel_rfl)) (fun _ h => by cases h)
                have t2 : a.tmps.getD 2 undef = .int .i64 x2 := (H.old 2 (by kernel_rfl)).trans rfl
                exact step7_value (i := 12) rfl (wanted_at (j := 11) (d := 74) (b := false) rfl (by kernel_rfl) t74) (run_op_move rfl t2) (calm7 (fun fs vs x y => yardJ_later fs vs x y) (by kernel_rfl) (by kernel_rfl) hj (later_refl _)) rfl
              · intro listed a W H hj hl hd
                have t74 : a.tmps.getD 74 undef = .bool false := H.get 11 74 (by kernel_rfl) (dep_of hd 11 (by kernel_rfl)) (fun _ h => by cases h)
                have t15 : a.tmps.getD 15 undef = .int .i64 (q : Int) := (H.old 15 (by kernel_rfl)).trans rfl
                exact step7_value (i := 13) rfl (wanted_at (j := 11) (d := 74) (b := false) rfl (by kernel_rfl) t74) (run_op_move rfl t15) (calm7 (fun fs vs x y => yardJ_later fs vs x y) (by kernel_rfl) (by kernel_rfl) hj (later_refl _)) rfl
              · intro listed a W H hj hl hd
                have t74 : a.tmps.getD 74 undef = .bool false := H.get 11 74 (by kernel_rfl) (dep_of hd 11 (by kernel_rfl)) (fun _ h => by cases h)
                have t75 : a.tmps.getD 75 undef = .int .i64 x2 := H.get 12 75 (by kernel_rfl) (dep_of hd 12 (by kernel_rfl)) (fun _ h => by cases h)
                have t76 : a.tmps.getD 76 undef = .int .i64 (q : Int) := H.get 13 76 (by kernel_rfl) (dep_of hd 13 (by kernel_rfl)) (fun _ h => by cases h)
                exact step7_value (i := 14) rfl (wanted_at (j := 11) (d := 74) (b := false) rfl (by kernel_rfl) t74) (run_op_bin rfl t75 t76 (bin_shr _ _ _ x2 q q63 r2 HR2.out)) (calm7 (fun fs vs x y => yardJ_later fs vs x y) (by kernel_rfl) (by kernel_rfl) hj (later_refl _)) rfl
              · intro listed a W H hj hl hd
                have t74 : a.tmps.getD 74 undef = .bool false := H.get 11 74 (by kernel_rfl) (dep_of hd 11 (by kernel_rfl)) (fun _ h => by cases h)
                have t77 : a.tmps.getD 77 undef = .int .i64 r2 := H.get 14 77 (by kernel_rfl) (dep_of hd 14 (by kernel_rfl)) (fun _ h => by cases h)
                exact step7_value (i := 15) rfl (wanted_at (j := 11) (d := 74) (b := false) rfl (by kernel_rfl) t74) (run_op_bin rfl t77 rfl (bin_and _ _ _ r2 1 0 HBT2.out)) (calm7 (fun fs vs x y => yardJ_later fs vs x y) (by kernel_rfl) (by kernel_rfl) hj (later_refl _)) rfl
              · intro listed a W H hj hl hd
                have t74 : a.tmps.getD 74 undef = .bool false := H.get 11 74 (by kernel_rfl) (dep_of hd 11 (by kernel_rfl)) (fun _ h => by cases h)
                have t78 : a.tmps.getD 78 undef = .int .i64 0 := H.get 15 78 (by kernel_rfl) (dep_of hd 15 (by kernel_rfl)) (fun _ h => by cases h)
                exact step7_value (i := 16) rfl (wanted_at (j := 11) (d := 74) (b := false) rfl (by kernel_rfl) t74) (run_op_bin rfl t78 rfl (bin_eql _ _ _ 0 1 false (by first | rfl | (simp; done) | (simp; omega) | decide))) (calm7 (fun fs vs x y => yardJ_later fs vs x y) (by kernel_rfl) (by kernel_rfl) hj (later_refl _)) rfl
              · intro listed a W H hj hl hd
                have t74 : a.tmps.getD 74 undef = .bool false := H.get 11 74 (by kernel_rfl) (dep_of hd 11 (by kernel_rfl)) (fun _ h => by cases h)
                have t79 : a.tmps.getD 79 undef = .bool false := H.get 16 79 (by kernel_rfl) (dep_of hd 16 (by kernel_rfl)) (fun _ h => by cases h)
                exact step7_value (i := 17) rfl (wanted_at (j := 11) (d := 74) (b := false) rfl (by kernel_rfl) t74) (run_op_move rfl t79) (calm7 (fun fs vs x y => yardJ_later fs vs x y) (by kernel_rfl) (by kernel_rfl) hj (later_refl _)) rfl
              · intro listed a W H hj hl hd
                have t80 : a.tmps.getD 80 undef = .bool false := H.get 17 80 (by kernel_rfl) (dep_of hd 17 (by kernel_rfl)) (fun _ h => by cases h)
                exact step7_skip (i := 18) rfl (unwanted_at (j := 17) (d := 80) (b := true) (c := false) rfl (by kernel_rfl) t80 rfl) (calm7 (fun fs vs x y => yardJ_later fs vs x y) (by kernel_rfl) (by kernel_rfl) hj (later_refl _)) rfl
              · intro listed a W H hj hl hd
                have t80 : a.tmps.getD 80 undef = .bool false := H.get 17 80 (by kernel_rfl) (dep_of hd 17 (by kernel_rfl)) (fun _ h => by cases h)
                exact step7_skip (i := 19) rfl (unwanted_at (j := 17) (d := 80) (b := true) (c := false) rfl (by kernel_rfl) t80 rfl) (calm7 (fun fs vs x y => yardJ_later fs vs x y) (by kernel_rfl) (by kernel_rfl) hj (later_refl _)) rfl
              · intro listed a W H hj hl hd
                have t80 : a.tmps.getD 80 undef = .bool false := H.get 17 80 (by kernel_rfl) (dep_of hd 17 (by kernel_rfl)) (fun _ h => by cases h)
                exact step7_skip (i := 20) rfl (unwanted_at (j := 17) (d := 80) (b := true) (c := false) rfl (by kernel_rfl) t80 rfl) (calm7 (fun fs vs x y => yardJ_later fs vs x y) (by kernel_rfl) (by kernel_rfl) hj (later_refl _)) rfl
              · intro listed a W H hj hl hd
                have t80 : a.tmps.getD 80 undef = .bool false := H.get 17 80 (by kernel_rfl) (dep_of hd 17 (by kernel_rfl)) (fun _ h => by cases h)
                exact step7_skip (i := 21) rfl (unwanted_at (j := 17) (d := 80) (b := true) (c := false) rfl (by kernel_rfl) t80 rfl) (calm7 (fun fs vs x y => yardJ_later fs vs x y) (by kernel_rfl) (by kernel_rfl) hj (later_refl _)) rfl
              · intro listed a W H hj hl hd
                have t80 : a.tmps.getD 80 undef = .bool false := H.get 17 80 (by kernel_rfl) (dep_of hd 17 (by kernel_rfl)) (fun _ h => by cases h)
                exact step7_skip (i := 22) rfl (unwanted_at (j := 17) (d := 80) (b := true) (c := false) rfl (by kernel_rfl) t80 rfl) (calm7 (fun fs vs x y => yardJ_later fs vs x y) (by kernel_rfl) (by kernel_rfl) hj (later_refl _)) rfl
              · intro listed a W H hj hl hd
                have t80 : a.tmps.getD 80 undef = .bool false := H.get 17 80 (by kernel_rfl) (dep_of hd 17 (by kernel_rfl)) (fun _ h => by cases h)
                exact step7_skip (i := 23) rfl (unwanted_at (j := 17) (d := 80) (b := true) (c := false) rfl (by kernel_rfl) t80 rfl) (calm7 (fun fs vs x y => yardJ_later fs vs x y) (by kernel_rfl) (by kernel_rfl) hj (later_refl _)) rfl
              · intro listed a W H hj hl hd
                have t80 : a.tmps.getD 80 undef = .bool false := H.get 17 80 (by kernel_rfl) (dep_of hd 17 (by kernel_rfl)) (fun _ h => by cases h)
                exact step7_skip (i := 24) rfl (unwanted_at (j := 17) (d := 80) (b := true) (c := false) rfl (by kernel_rfl) t80 rfl) (calm7 (fun fs vs x y => yardJ_later fs vs x y) (by kernel_rfl) (by kernel_rfl) hj (later_refl _)) rfl
              · intro listed a W H hj hl hd
                have t80 : a.tmps.getD 80 undef = .bool false := H.get 17 80 (by kernel_rfl) (dep_of hd 17 (by kernel_rfl)) (fun _ h => by cases h)
                exact step7_skip (i := 25) rfl (unwanted_at (j := 17) (d := 80) (b := true) (c := false) rfl (by kernel_rfl) t80 rfl) (calm7 (fun fs vs x y => yardJ_later fs vs x y) (by kernel_rfl) (by kernel_rfl) hj (later_refl _)) rfl
              · intro listed a W H hj hl hd
                have t80 : a.tmps.getD 80 undef = .bool false := H.get 17 80 (by kernel_rfl) (dep_of hd 17 (by kernel_rfl)) (fun _ h => by cases h)
                exact step7_skip (i := 26) rfl (unwanted_at (j := 17) (d := 80) (b := true) (c := false) rfl (by kernel_rfl) t80 rfl) (calm7 (fun fs vs x y => yardJ_later fs vs x y) (by kernel_rfl) (by kernel_rfl) hj (later_refl _)) rfl
              · intro listed a W H hj hl hd
                have t80 : a.tmps.getD 80 undef = .bool false := H.get 17 80 (by kernel_rfl) (dep_of hd 17 (by kernel_rfl)) (fun _ h => by cases h)
                exact step7_skip (i := 27) rfl (unwanted_at (j := 17) (d := 80) (b := true) (c := false) rfl (by kernel_rfl) t80 rfl) (calm7 (fun fs vs x y => yardJ_later fs vs x y) (by kernel_rfl) (by kernel_rfl) hj (later_refl _)) rfl
              · intro listed a W H hj hl hd
                have t74 : a.tmps.getD 74 undef = .bool false := H.get 11 74 (by kernel_rfl) (dep_of hd 11 (by kernel_rfl)) (fun _ h => by cases h)
                have t80 : a.tmps.getD 80 undef = .bool false := H.get 17 80 (by kernel_rfl) (dep_of hd 17 (by kernel_rfl)) (fun _ h => by cases h)
                exact step7_value (i := 28) rfl (wanted_at (j := 11) (d := 74) (b := false) rfl (by kernel_rfl) t74) (run_op_pickF rfl t80 rfl) (calm7 (fun fs vs x y => yardJ_later fs vs x y) (by kernel_rfl) (by kernel_rfl) hj (later_refl _)) rfl
              · intro listed a W H hj hl hd
                have t74 : a.tmps.getD 74 undef = .bool false := H.get 11 74 (by kernel_rfl) (dep_of hd 11 (by kernel_rfl)) (fun _ h => by cases h)
                have t91 : a.tmps.getD 91 undef = .bool false := H.get 28 91 (by kernel_rfl) (dep_of hd 28 (by kernel_rfl)) (fun _ h => by cases h)
                exact step7_value (i := 29) rfl rfl (run_op_pickF rfl t74 t91) (calm7 (fun fs vs x y => yardJ_later fs vs x y) (by kernel_rfl) (by kernel_rfl) hj (later_refl _)) rfl
            · intro a WC hdef hsz hw hall hact
              obtain ⟨u, hu⟩ : ∃ u : Nat → Value, ∀ k, a.tmps.getD k undef = u k := ⟨_, fun _ => rfl⟩
              have h92 : u 92 = .bool false := by rw [← hu]; exact hall 29 _ rfl
              simp only [hu] at hact
              have hact' : a = ([63, 64, 65, 66, 67, 68, 69, 70, 71, 72, 73, 74, 75, 76, 77, 78, 79, 80, 81, 82, 83, 84, 85, 86, 87, 88, 89, 90, 91, 92] : List Nat).foldl (fun b k => b.put (some k) (u k)) _ := hact
              simp only [List.foldl] at hact'
              simp only [Act.put, List.setIfInBounds_toArray, List.set_cons_succ, List.set_cons_zero] at hact'
              have HAC := Lib.hid hact'
              have HX := Lib.hid hw
              clear hact hact' hall hdef hsz hw
              rw [h92] at HAC
              rw [HAC.out]
              obtain ⟨fpX, c1, c2, c3⟩ := HX.out
              have c1' : YardAt WC w.heap.size fpX g sp := c1
              have HC2 := Lib.hid c1'
              have HB2 := Lib.hid c2
              clear c1 c1' c2 c3 HX HC HB CD SD HDL HWD
              rw [← HSP.out] at HC2
              rw [fW_no HB3.out, dW_no (x1 := x1) (show (bt x3 q || bt x2 q) = false by rw [HB3.out, HB2_.out]; rfl)] at HC2
              go_wp2_with (simp only [HR1.out, HR2.out, HR3.out, HBT1.out, HBT2.out, HBT3.out])
              go_roundw
              case rel => exact ⟨q + 1, fpX, by rw [HMU.out]; simp, by rw [HLU.out]; simp, by go_num, by omega, HC2, HB2⟩
              case measure => simp [intOf]; omega
          · skip
            obtain rfl : β3 = 0 := hβ3
            obtain rfl : β2 = 1 := hβ2
            obtain rfl : β1 = 0 := hβ1
            have HB2_ := HB2
            obtain ⟨s2, HS2⟩ : ∃ s, Hid (lvY 3 2 p 2 p (fW x3 (q + 1)) (dW x1 x2 x3 (q + 1)) = s) := ⟨_, rfl⟩
            have HW : Hid (washY sp 2 q = (s2, 0)) := by show _ = _; rw [← HSP.out, ← HS2.out, ← fW_no HB3.out, ← dW_up (x1 := x1) (show (bt x3 q || bt x2 q) = true by rw [HB3.out, HB2.out]; rfl)]; exact lv_wash (by omega) (by decide) hltq (by unfold fW; simp)
            refine region_of_steps7 (by kernel_rfl) [some (.int .i64 x3), some (.int .i64 (q : Int)), some (.int .i64 r3), some (.int .i64 0), some (.bool false), some (.bool false), some undef, some undef, some undef, some undef, some (.bool false), some (.bool false), some (.int .i64 x2), some (.int .i64 (q : Int)), some (.int .i64 r2), some (.int .i64 1), some (.bool true), some (.bool true), some (.pointer (some ⟨g, 0, none⟩)), some (.int .i64 (q : Int)), some (.nilIface), some (.bool true), some (.int .i64 x3), some (.int .i64 (q : Int)), some (.int .i64 r3), some (.int .i64 0), some (.bool true), some (.bool false), some (.bool false), some (.bool false)] [20] [] (YardJ w w.heap.size g sp s2 (fun _ _ => True)) (by kernel_rfl) (by kernel_rfl) (by rw [← HWD.out]; exact ⟨fp, CD.out, SD.out, trivial⟩) ?_ ?_
            · refine Steps7.cons ?_ (Steps7.cons ?_ (Steps7.cons ?_ (Steps7.cons ?_ (Steps7.cons ?_ (Steps7.cons ?_ (Steps7.cons ?_ (Steps7.cons ?_ (Steps7.cons ?_ (Steps7.cons ?_ (Steps7.cons ?_ (Steps7.cons ?_ (Steps7.cons ?_ (Steps7.cons ?_ (Steps7.cons ?_ (Steps7.cons ?_ (Steps7.cons ?_ (Steps7.cons ?_ (Steps7.cons ?_ (Steps7.cons ?_ (Steps7.cons ?_ (Steps7.cons ?_ (Steps7.cons ?_ (Steps7.cons ?_ (Steps7.cons ?_ (Steps7.cons ?_ (Steps7.cons ?_ (Steps7.cons ?_ (Steps7.cons ?_ (Steps7.cons ?_ (Steps7.nil))))))))))))))))))))))))))))))
              · intro listed a W H hj hl hd
                have t3 : a.tmps.getD 3 undef = .int .i64 x3 := (H.old 3 (by kernel_rfl)).trans rfl
                exact step7_value (i := 0) rfl rfl (run_op_move rfl t3) (calm7 (fun fs vs x y => yardJ_later fs vs x y) (by kernel_rfl) (by kernel_rfl) hj (later_refl _)) rfl
              · intro listed a W H hj hl hd
                have t15 : a.tmps.getD 15 undef = .int .i64 (q : Int) := (H.old 15 (by kernel_rfl)).trans rfl
                exact step7_value (i := 1) rfl rfl (run_op_move rfl t15) (calm7 (fun fs vs x y => yardJ_later fs vs x y) (by kernel_rfl) (by kernel_rfl) hj (later_refl _)) rfl
              · intro listed a W H hj hl hd
                have t63 : a.tmps.getD 63 undef = .int .i64 x3 := H.get 0 63 (by kernel_rfl) (dep_of hd 0 (by kernel_rfl)) (fun _ h => by cases h)
                have t64 : a.tmps.getD 64 undef = .int .i64 (q : Int) := H.get 1 64 (by kernel_rfl) (dep_of hd 1 (by kernel_rfl)) (fun _ h => by cases h)
                exact step7_value (i := 2) rfl rfl (run_op_bin rfl t63 t64 (bin_shr _ _ _ x3 q q63 r3 HR3.out)) (calm7 (fun fs vs x y => yardJ_later fs vs x y) (by kernel_rfl) (by kernel_rfl) hj (later_refl _)) rfl
              · intro listed a W H hj hl hd
                have t65 : a.tmps.getD 65 undef = .int .i64 r3 := H.get 2 65 (by kernel_rfl) (dep_of hd 2 (by kernel_rfl)) (fun _ h => by cases h)
                exact step7_value (i := 3) rfl rfl (run_op_bin rfl t65 rfl (bin_and _ _ _ r3 1 0 HBT3.out)) (calm7 (fun fs vs x y => yardJ_later fs vs x y) (by kernel_rfl) (by kernel_rfl) hj (later_refl _)) rfl
              · intro listed a W H hj hl hd
                have t66 : a.tmps.getD 66 undef = .int .i64 0 := H.get 3 66 (by kernel_rfl) (dep_of hd 3 (by kernel_rfl)) (fun _ h => by cases h)
                exact step7_value (i := 4) rfl rfl (run_op_bin rfl t66 rfl (bin_eql _ _ _ 0 1 false (by first | rfl | (simp; done) | (simp; omega) | decide))) (calm7 (fun fs vs x y => yardJ_later fs vs x y) (by kernel_rfl) (by kernel_rfl) hj (later_refl _)) rfl
              · intro listed a W H hj hl hd
                have t67 : a.tmps.getD 67 undef = .bool false := H.get 4 67 (by kernel_rfl) (dep_of hd 4 (by kernel_rfl)) (fun _ h => by cases h)
                exact step7_value (i := 5) rfl rfl (run_op_move rfl t67) (calm7 (fun fs vs x y => yardJ_later fs vs x y) (by kernel_rfl) (by kernel_rfl) hj (later_refl _)) rfl
              · intro listed a W H hj hl hd
                have t68 : a.tmps.getD 68 undef = .bool false := H.get 5 68 (by kernel_rfl) (dep_of hd 5 (by kernel_rfl)) (fun _ h => by cases h)
                exact step7_skip (i := 6) rfl (unwanted_at (j := 5) (d := 68) (b := true) (c := false) rfl (by kernel_rfl) t68 rfl) (calm7 (fun fs vs x y => yardJ_later fs vs x y) (by kernel_rfl) (by kernel_rfl) hj (later_refl _)) rfl
              · intro listed a W H hj hl hd
                have t68 : a.tmps.getD 68 undef = .bool false := H.get 5 68 (by kernel_rfl) (dep_of hd 5 (by kernel_rfl)) (fun _ h => by cases h)
                exact step7_skip (i := 7) rfl (unwanted_at (j := 5) (d := 68) (b := true) (c := false) rfl (by kernel_rfl) t68 rfl) (calm7 (fun fs vs x y => yardJ_later fs vs x y) (by kernel_rfl) (by kernel_rfl) hj (later_refl _)) rfl
              · intro listed a W H hj hl hd
                have t68 : a.tmps.getD 68 undef = .bool false := H.get 5 68 (by kernel_rfl) (dep_of hd 5 (by kernel_rfl)) (fun _ h => by cases h)
                exact step7_skip (i := 8) rfl (unwanted_at (j := 5) (d := 68) (b := true) (c := false) rfl (by kernel_rfl) t68 rfl) (calm7 (fun fs vs x y => yardJ_later fs vs x y) (by kernel_rfl) (by kernel_rfl) hj (later_refl _)) rfl
              · intro listed a W H hj hl hd
                have t68 : a.tmps.getD 68 undef = .bool false := H.get 5 68 (by kernel_rfl) (dep_of hd 5 (by kernel_rfl)) (fun _ h => by cases h)
                exact step7_skip (i := 9) rfl (unwanted_at (j := 5) (d := 68) (b := true) (c := false) rfl (by kernel_rfl) t68 rfl) (calm7 (fun fs vs x y => yardJ_later fs vs x y) (by kernel_rfl) (by kernel_rfl) hj (later_refl _)) rfl
              · intro listed a W H hj hl hd
                have t68 : a.tmps.getD 68 undef = .bool false := H.get 5 68 (by kernel_rfl) (dep_of hd 5 (by kernel_rfl)) (fun _ h => by cases h)
                exact step7_value (i := 10) rfl rfl (run_op_pickF rfl t68 rfl) (calm7 (fun fs vs x y => yardJ_later fs vs x y) (by kernel_rfl) (by kernel_rfl) hj (later_refl _)) rfl
              · intro listed a W H hj hl hd
                have t73 : a.tmps.getD 73 undef = .bool false := H.get 10 73 (by kernel_rfl) (dep_of hd 10 (by kernel_rfl)) (fun _ h => by cases h)
                exact step7_value (i := 11) rfl rfl (run_op_move rfl t73) (calm7 (fun fs vs x y => yardJ_later fs vs x y) (by kernel_rfl) (by kernel_rfl) hj (later_refl _)) rfl
              · intro listed a W H hj hl hd
                have t74 : a.tmps.getD 74 undef = .bool false := H.get 11 74 (by kernel_rfl) (dep_of hd 11 (by kernel_rfl)) (fun _ h => by cases h)
                have t2 : a.tmps.getD 2 undef = .int .i64 x2 := (H.old 2 (by kernel_rfl)).trans rfl
                exact step7_value (i := 12) rfl (wanted_at (j := 11) (d := 74) (b := false) rfl (by kernel_rfl) t74) (run_op_move rfl t2) (calm7 (fun fs vs x y => yardJ_later fs vs x y) (by kernel_rfl) (by kernel_rfl) hj (later_refl _)) rfl
              · intro listed a W H hj hl hd
                have t74 : a.tmps.getD 74 undef = .bool false := H.get 11 74 (by kernel_rfl) (dep_of hd 11 (by kernel_rfl)) (fun _ h => by cases h)
                have t15 : a.tmps.getD 15 undef = .int .i64 (q : Int) := (H.old 15 (by kernel_rfl)).trans rfl
                exact step7_value (i := 13) rfl (wanted_at (j := 11) (d := 74) (b := false) rfl (by kernel_rfl) t74) (run_op_move rfl t15) (calm7 (fun fs vs x y => yardJ_later fs vs x y) (by kernel_rfl) (by kernel_rfl) hj (later_refl _)) rfl
              · intro listed a W H hj hl hd
                have t74 : a.tmps.getD 74 undef = .bool false := H.get 11 74 (by kernel_rfl) (dep_of hd 11 (by kernel_rfl)) (fun _ h => by cases h)
                have t75 : a.tmps.getD 75 undef = .int .i64 x2 := H.get 12 75 (by kernel_rfl) (dep_of hd 12 (by kernel_rfl)) (fun _ h => by cases h)
                have t76 : a.tmps.getD 76 undef = .int .i64 (q : Int) := H.get 13 76 (by kernel_rfl) (dep_of hd 13 (by kernel_rfl)) (fun _ h => by cases h)
                exact step7_value (i := 14) rfl (wanted_at (j := 11) (d := 74) (b := false) rfl (by kernel_rfl) t74) (run_op_bin rfl t75 t76 (bin_shr _ _ _ x2 q q63 r2 HR2.out)) (calm7 (fun fs vs x y => yardJ_later fs vs x y) (by kernel_rfl) (by kernel_rfl) hj (later_refl _)) rfl
              · intro listed a W H hj hl hd
                have t74 : a.tmps.getD 74 undef = .bool false := H.get 11 74 (by kernel_rfl) (dep_of hd 11 (by kernel_rfl)) (fun _ h => by cases h)
                have t77 : a.tmps.getD 77 undef = .int .i64 r2 := H.get 14 77 (by kernel_rfl) (dep_of hd 14 (by kernel_rfl)) (fun _ h => by cases h)
                exact step7_value (i := 15) rfl (wanted_at (j := 11) (d := 74) (b := false) rfl (by kernel_rfl) t74) (run_op_bin rfl t77 rfl (bin_and _ _ _ r2 1 1 HBT2.out)) (calm7 (fun fs vs x y => yardJ_later fs vs x y) (by kernel_rfl) (by kernel_rfl) hj (later_refl _)) rfl
              · intro listed a W H hj hl hd
                have t74 : a.tmps.getD 74 undef = .bool false := H.get 11 74 (by kernel_rfl) (dep_of hd 11 (by kernel_rfl)) (fun _ h => by cases h)
                have t78 : a.tmps.getD 78 undef = .int .i64 1 := H.get 15 78 (by kernel_rfl) (dep_of hd 15 (by kernel_rfl)) (fun _ h => by cases h)
                exact step7_value (i := 16) rfl (wanted_at (j := 11) (d := 74) (b := false) rfl (by kernel_rfl) t74) (run_op_bin rfl t78 rfl (bin_eql _ _ _ 1 1 true (by first | rfl | (simp; done) | (simp; omega) | decide))) (calm7 (fun fs vs x y => yardJ_later fs vs x y) (by kernel_rfl) (by kernel_rfl) hj (later_refl _)) rfl
              · intro listed a W H hj hl hd
                have t74 : a.tmps.getD 74 undef = .bool false := H.get 11 74 (by kernel_rfl) (dep_of hd 11 (by kernel_rfl)) (fun _ h => by cases h)
                have t79 : a.tmps.getD 79 undef = .bool true := H.get 16 79 (by kernel_rfl) (dep_of hd 16 (by kernel_rfl)) (fun _ h => by cases h)
                exact step7_value (i := 17) rfl (wanted_at (j := 11) (d := 74) (b := false) rfl (by kernel_rfl) t74) (run_op_move rfl t79) (calm7 (fun fs vs x y => yardJ_later fs vs x y) (by kernel_rfl) (by kernel_rfl) hj (later_refl _)) rfl
              · intro listed a W H hj hl hd
                have t80 : a.tmps.getD 80 undef = .bool true := H.get 17 80 (by kernel_rfl) (dep_of hd 17 (by kernel_rfl)) (fun _ h => by cases h)
                have t9 : a.tmps.getD 9 undef = .pointer (some ⟨g, 0, none⟩) := (H.old 9 (by kernel_rfl)).trans rfl
                exact step7_value (i := 18) rfl (wanted_at (j := 17) (d := 80) (b := true) rfl (by kernel_rfl) t80) (run_op_move rfl t9) (calm7 (fun fs vs x y => yardJ_later fs vs x y) (by kernel_rfl) (by kernel_rfl) hj (later_refl _)) rfl
              · intro listed a W H hj hl hd
                have t80 : a.tmps.getD 80 undef = .bool true := H.get 17 80 (by kernel_rfl) (dep_of hd 17 (by kernel_rfl)) (fun _ h => by cases h)
                have t15 : a.tmps.getD 15 undef = .int .i64 (q : Int) := (H.old 15 (by kernel_rfl)).trans rfl
                exact step7_value (i := 19) rfl (wanted_at (j := 17) (d := 80) (b := true) rfl (by kernel_rfl) t80) (run_op_move rfl t15) (calm7 (fun fs vs x y => yardJ_later fs vs x y) (by kernel_rfl) (by kernel_rfl) hj (later_refl _)) rfl
              · intro listed a W H hj hl hd
                have t80 : a.tmps.getD 80 undef = .bool true := H.get 17 80 (by kernel_rfl) (dep_of hd 17 (by kernel_rfl)) (fun _ h => by cases h)
                have t81 : a.tmps.getD 81 undef = .pointer (some ⟨g, 0, none⟩) := H.get 18 81 (by kernel_rfl) (dep_of hd 18 (by kernel_rfl)) (fun _ h => by cases h)
                have t82 : a.tmps.getD 82 undef = .int .i64 (q : Int) := H.get 19 82 (by kernel_rfl) (dep_of hd 19 (by kernel_rfl)) (fun _ h => by cases h)
                refine step7_call (i := 20) rfl (wanted_at (j := 17) (d := 80) (b := true) rfl (by kernel_rfl) t80) (run_op_call (vs := #[.pointer (some ⟨g, 0, none⟩), .int .i64 2, .int .i64 (q : Int)]) Try.func24 (by kernel_rfl) (by kernel_rfl) rfl (by simp only [List.map_toArray, List.map_cons, List.map_nil]; show #[a.tmps.getD 81 undef, .int .i64 2, a.tmps.getD 82 undef] = _; rw [t81, t82])) ?_
                obtain ⟨fp1, h1, h2, h3⟩ := hj
                have hl0 : (flags [20] listed).getD 0 false = false := hl
                rw [hl0, if_neg (by decide)] at h1
                refine (ywash_any 2 (q : Int) h1).mono ?_
                rw [HW.out]
                rintro e W2 ⟨v2, fp2, rfl, he, hc, hs⟩
                obtain rfl := he.nil
                refine ⟨_, rfl, ⟨fp2, ?_, hs.below h2 h1.ge h1.base_le, trivial⟩, rfl⟩
                have e : (flags [20] (listed.setIfInBounds 20 true)).getD 0 false = true := set_self7 listed 20
                rw [e, if_pos rfl]; exact hc
              · intro listed a W H hj hl hd
                have t80 : a.tmps.getD 80 undef = .bool true := H.get 17 80 (by kernel_rfl) (dep_of hd 17 (by kernel_rfl)) (fun _ h => by cases h)
                have t83 : a.tmps.getD 83 undef = .nilIface := H.get 20 83 (by kernel_rfl) (dep_of hd 20 (by kernel_rfl)) (fun _ h => by cases h)
                exact step7_value (i := 21) rfl (wanted_at (j := 17) (d := 80) (b := true) rfl (by kernel_rfl) t80) (run_op_bin rfl t83 rfl (bin_eqlE _ _)) (calm7 (fun fs vs x y => yardJ_later fs vs x y) (by kernel_rfl) (by kernel_rfl) hj (later_refl _)) rfl
              · intro listed a W H hj hl hd
                have t80 : a.tmps.getD 80 undef = .bool true := H.get 17 80 (by kernel_rfl) (dep_of hd 17 (by kernel_rfl)) (fun _ h => by cases h)
                have t3 : a.tmps.getD 3 undef = .int .i64 x3 := (H.old 3 (by kernel_rfl)).trans rfl
                exact step7_value (i := 22) rfl (wanted_at (j := 17) (d := 80) (b := true) rfl (by kernel_rfl) t80) (run_op_move rfl t3) (calm7 (fun fs vs x y => yardJ_later fs vs x y) (by kernel_rfl) (by kernel_rfl) hj (later_refl _)) rfl
              · intro listed a W H hj hl hd
                have t80 : a.tmps.getD 80 undef = .bool true := H.get 17 80 (by kernel_rfl) (dep_of hd 17 (by kernel_rfl)) (fun _ h => by cases h)
                have t15 : a.tmps.getD 15 undef = .int .i64 (q : Int) := (H.old 15 (by kernel_rfl)).trans rfl
                exact step7_value (i := 23) rfl (wanted_at (j := 17) (d := 80) (b := true) rfl (by kernel_rfl) t80) (run_op_move rfl t15) (calm7 (fun fs vs x y => yardJ_later fs vs x y) (by kernel_rfl) (by kernel_rfl) hj (later_refl _)) rfl
              · intro listed a W H hj hl hd
                have t80 : a.tmps.getD 80 undef = .bool true := H.get 17 80 (by kernel_rfl) (dep_of hd 17 (by kernel_rfl)) (fun _ h => by cases h)
                have t85 : a.tmps.getD 85 undef = .int .i64 x3 := H.get 22 85 (by kernel_rfl) (dep_of hd 22 (by kernel_rfl)) (fun _ h => by cases h)
                have t86 : a.tmps.getD 86 undef = .int .i64 (q : Int) := H.get 23 86 (by kernel_rfl) (dep_of hd 23 (by kernel_rfl)) (fun _ h => by cases h)
                exact step7_value (i := 24) rfl (wanted_at (j := 17) (d := 80) (b := true) rfl (by kernel_rfl) t80) (run_op_bin rfl t85 t86 (bin_shr _ _ _ x3 q q63 r3 HR3.out)) (calm7 (fun fs vs x y => yardJ_later fs vs x y) (by kernel_rfl) (by kernel_rfl) hj (later_refl _)) rfl
              · intro listed a W H hj hl hd
                have t80 : a.tmps.getD 80 undef = .bool true := H.get 17 80 (by kernel_rfl) (dep_of hd 17 (by kernel_rfl)) (fun _ h => by cases h)
                have t87 : a.tmps.getD 87 undef = .int .i64 r3 := H.get 24 87 (by kernel_rfl) (dep_of hd 24 (by kernel_rfl)) (fun _ h => by cases h)
                exact step7_value (i := 25) rfl (wanted_at (j := 17) (d := 80) (b := true) rfl (by kernel_rfl) t80) (run_op_bin rfl t87 rfl (bin_and _ _ _ r3 1 0 HBT3.out)) (calm7 (fun fs vs x y => yardJ_later fs vs x y) (by kernel_rfl) (by kernel_rfl) hj (later_refl _)) rfl
              · intro listed a W H hj hl hd
                have t80 : a.tmps.getD 80 undef = .bool true := H.get 17 80 (by kernel_rfl) (dep_of hd 17 (by kernel_rfl)) (fun _ h => by cases h)
                have t88 : a.tmps.getD 88 undef = .int .i64 0 := H.get 25 88 (by kernel_rfl) (dep_of hd 25 (by kernel_rfl)) (fun _ h => by cases h)
                exact step7_value (i := 26) rfl (wanted_at (j := 17) (d := 80) (b := true) rfl (by kernel_rfl) t80) (run_op_bin rfl t88 rfl (bin_eql _ _ _ 0 0 true (by first | rfl | (simp; done) | (simp; omega) | decide))) (calm7 (fun fs vs x y => yardJ_later fs vs x y) (by kernel_rfl) (by kernel_rfl) hj (later_refl _)) rfl
              · intro listed a W H hj hl hd
                have t80 : a.tmps.getD 80 undef = .bool true := H.get 17 80 (by kernel_rfl) (dep_of hd 17 (by kernel_rfl)) (fun _ h => by cases h)
                have t84 : a.tmps.getD 84 undef = .bool true := H.get 21 84 (by kernel_rfl) (dep_of hd 21 (by kernel_rfl)) (fun _ h => by cases h)
                have t89 : a.tmps.getD 89 undef = .bool true := H.get 26 89 (by kernel_rfl) (dep_of hd 26 (by kernel_rfl)) (fun _ h => by cases h)
                exact step7_value (i := 27) rfl (wanted_at (j := 17) (d := 80) (b := true) rfl (by kernel_rfl) t80) (run_op_bin rfl t84 t89 (bin_neqB _ _ _ true true false (by first | rfl | (simp; done) | (simp; omega) | decide))) (calm7 (fun fs vs x y => yardJ_later fs vs x y) (by kernel_rfl) (by kernel_rfl) hj (later_refl _)) rfl
              · intro listed a W H hj hl hd
                have t74 : a.tmps.getD 74 undef = .bool false := H.get 11 74 (by kernel_rfl) (dep_of hd 11 (by kernel_rfl)) (fun _ h => by cases h)
                have t80 : a.tmps.getD 80 undef = .bool true := H.get 17 80 (by kernel_rfl) (dep_of hd 17 (by kernel_rfl)) (fun _ h => by cases h)
                have t90 : a.tmps.getD 90 undef = .bool false := H.get 27 90 (by kernel_rfl) (dep_of hd 27 (by kernel_rfl)) (fun _ h => by cases h)
                exact step7_value (i := 28) rfl (wanted_at (j := 11) (d := 74) (b := false) rfl (by kernel_rfl) t74) (run_op_pick rfl t80 t90) (calm7 (fun fs vs x y => yardJ_later fs vs x y) (by kernel_rfl) (by kernel_rfl) hj (later_refl _)) rfl
              · intro listed a W H hj hl hd
                have t74 : a.tmps.getD 74 undef = .bool false := H.get 11 74 (by kernel_rfl) (dep_of hd 11 (by kernel_rfl)) (fun _ h => by cases h)
                have t91 : a.tmps.getD 91 undef = .bool false := H.get 28 91 (by kernel_rfl) (dep_of hd 28 (by kernel_rfl)) (fun _ h => by cases h)
                exact step7_value (i := 29) rfl rfl (run_op_pickF rfl t74 t91) (calm7 (fun fs vs x y => yardJ_later fs vs x y) (by kernel_rfl) (by kernel_rfl) hj (later_refl _)) rfl
            · intro a WC hdef hsz hw hall hact
              obtain ⟨u, hu⟩ : ∃ u : Nat → Value, ∀ k, a.tmps.getD k undef = u k := ⟨_, fun _ => rfl⟩
              have h92 : u 92 = .bool false := by rw [← hu]; exact hall 29 _ rfl
              simp only [hu] at hact
              have hact' : a = ([63, 64, 65, 66, 67, 68, 69, 70, 71, 72, 73, 74, 75, 76, 77, 78, 79, 80, 81, 82, 83, 84, 85, 86, 87, 88, 89, 90, 91, 92] : List Nat).foldl (fun b k => b.put (some k) (u k)) _ := hact
              simp only [List.foldl] at hact'
              simp only [Act.put, List.setIfInBounds_toArray, List.set_cons_succ, List.set_cons_zero] at hact'
              have HAC := Lib.hid hact'
              have HX := Lib.hid hw
              clear hact hact' hall hdef hsz hw
              rw [h92] at HAC
              rw [HAC.out]
              obtain ⟨fpX, c1, c2, c3⟩ := HX.out
              have c1' : YardAt WC w.heap.size fpX g s2 := c1
              have HC2 := Lib.hid c1'
              have HB2 := Lib.hid c2
              clear c1 c1' c2 c3 HX HC HB CD SD HDL HWD
              rw [← HS2.out] at HC2
              go_wp2_with (simp only [HR1.out, HR2.out, HR3.out, HBT1.out, HBT2.out, HBT3.out])
              go_roundw
              case rel => exact ⟨q + 1, fpX, by rw [HMU.out]; simp, by rw [HLU.out]; simp, by go_num, by omega, HC2, HB2⟩
              case measure => simp [intOf]; omega
          · skip
            obtain rfl : β3 = 0 := hβ3
            obtain rfl : β2 = 1 := hβ2
            obtain rfl : β1 = 1 := hβ1
            have HB2_ := HB2
            obtain ⟨s2, HS2⟩ : ∃ s, Hid (lvY 3 2 p 2 p (fW x3 (q + 1)) (dW x1 x2 x3 (q + 1)) = s) := ⟨_, rfl⟩
            have HW : Hid (washY sp 2 q = (s2, 0)) := by show _ = _; rw [← HSP.out, ← HS2.out, ← fW_no HB3.out, ← dW_up (x1 := x1) (show (bt x3 q || bt x2 q) = true by rw [HB3.out, HB2.out]; rfl)]; exact lv_wash (by omega) (by decide) hltq (by unfold fW; simp)
            refine region_of_steps7 (by kernel_rfl) [some (.int .i64 x3), some (.int .i64 (q : Int)), some (.int .i64 r3), some (.int .i64 0), some (.bool false), some (.bool false), some undef, some undef, some undef, some undef, some (.bool false), some (.bool false), some (.int .i64 x2), some (.int .i64 (q : Int)), some (.int .i64 r2), some (.int .i64 1), some (.bool true), some (.bool true), some (.pointer (some ⟨g, 0, none⟩)), some (.int .i64 (q : Int)), some (.nilIface), some (.bool true), some (.int .i64 x3), some (.int .i64 (q : Int)), some (.int .i64 r3), some (.int .i64 0), some (.bool true), some (.bool false), some (.bool false), some (.bool false)] [20] [] (YardJ w w.heap.size g sp s2 (fun _ _ => True)) (by kernel_rfl) (by kernel_rfl) (by rw [← HWD.out]; exact ⟨fp, CD.out, SD.out, trivial⟩) ?_ ?_
            · refine Steps7.cons ?_ (Steps7.cons ?_ (Steps7.cons ?_ (Steps7.cons ?_ (Steps7.cons ?_ (Steps7.cons ?_ (Steps7.cons ?_ (Steps7.cons ?_ (Steps7.cons ?_ (Steps7.cons ?_ (Steps7.cons ?_ (Steps7.cons ?_ (Steps7.cons ?_ (Steps7.cons ?_ (Steps7.cons ?_ (Steps7.cons ?_ (Steps7.cons ?_ (Steps7.cons ?_ (Steps7.cons ?_ (Steps7.cons ?_ (Steps7.cons ?_ (Steps7.cons ?_ (Steps7.cons ?_ (Steps7.cons ?_ (Steps7.cons ?_ (Steps7.cons ?_ (Steps7.cons ?_ (Steps7.cons ?_ (Steps7.cons ?_ (Steps7.cons ?_ (Steps7.nil))))))))))))))))))))))))))))))
              · intro listed a W H hj hl hd
                have t3 : a.tmps.getD 3 undef = .int .i64 x3 := (H.old 3 (by kernel_rfl)).trans rfl
                exact step7_value (i := 0) rfl rfl (run_op_move rfl t3) (calm7 (fun fs vs x y => yardJ_later fs vs x y) (by kernel_rfl) (by kernel_rfl) hj (later_refl _)) rfl
              · intro listed a W H hj hl hd
                have t15 : a.tmps.getD 15 undef = .int .i64 (q : Int) := (H.old 15 (by kernel_rfl)).trans rfl
                exact step7_value (i := 1) rfl rfl (run_op_move rfl t15) (calm7 (fun fs vs x y => yardJ_later fs vs x y) (by kernel_rfl) (by kernel_rfl) hj (later_refl _)) rfl
              · intro listed a W H hj hl hd
                have t63 : a.tmps.getD 63 undef = .int .i64 x3 := H.get 0 63 (by kernel_rfl) (dep_of hd 0 (by kernel_rfl)) (fun _ h => by cases h)
                have t64 : a.tmps.getD 64 undef = .int .i64 (q : Int) := H.get 1 64 (by kernel_rfl) (dep_of hd 1 (by kernel_rfl)) (fun _ h => by cases h)
                exact step7_value (i := 2) rfl rfl (run_op_bin rfl t63 t64 (bin_shr _ _ _ x3 q q63 r3 HR3.out)) (calm7 (fun fs vs x y => yardJ_later fs vs x y) (by kernel_rfl) (by kernel_rfl) hj (later_refl _)) rfl
              · intro listed a W H hj hl hd
                have t65 : a.tmps.getD 65 undef = .int .i64 r3 := H.get 2 65 (by kernel_rfl) (dep_of hd 2 (by kernel_rfl)) (fun _ h => by cases h)
                exact step7_value (i := 3) rfl rfl (run_op_bin rfl t65 rfl (bin_and _ _ _ r3 1 0 HBT3.out)) (calm7 (fun fs vs x y => yardJ_later fs vs x y) (by kernel_rfl) (by kernel_rfl) hj (later_refl _)) rfl
              · intro listed a W H hj hl hd
                have t66 : a.tmps.getD 66 undef = .int .i64 0 := H.get 3 66 (by kernel_rfl) (dep_of hd 3 (by kernel_rfl)) (fun _ h => by cases h)
                exact step7_value (i := 4) rfl rfl (run_op_bin rfl t66 rfl (bin_eql _ _ _ 0 1 false (by first | rfl | (simp; done) | (simp; omega) | decide))) (calm7 (fun fs vs x y => yardJ_later fs vs x y) (by kernel_rfl) (by kernel_rfl) hj (later_refl _)) rfl
              · intro listed a W H hj hl hd
                have t67 : a.tmps.getD 67 undef = .bool false := H.get 4 67 (by kernel_rfl) (dep_of hd 4 (by kernel_rfl)) (fun _ h => by cases h)
                exact step7_value (i := 5) rfl rfl (run_op_move rfl t67) (calm7 (fun fs vs x y => yardJ_later fs vs x y) (by kernel_rfl) (by kernel_rfl) hj (later_refl _)) rfl
              · intro listed a W H hj hl hd
                have t68 : a.tmps.getD 68 undef = .bool false := H.get 5 68 (by kernel_rfl) (dep_of hd 5 (by kernel_rfl)) (fun _ h => by cases h)
                exact step7_skip (i := 6) rfl (unwanted_at (j := 5) (d := 68) (b := true) (c := false) rfl (by kernel_rfl) t68 rfl) (calm7 (fun fs vs x y => yardJ_later fs vs x y) (by kernel_rfl) (by kernel_rfl) hj (later_refl _)) rfl
              · intro listed a W H hj hl hd
                have t68 : a.tmps.getD 68 undef = .bool false := H.get 5 68 (by kernel_rfl) (dep_of hd 5 (by kernel_rfl)) (fun _ h => by cases h)
                exact step7_skip (i := 7) rfl (unwanted_at (j := 5) (d := 68) (b := true) (c := false) rfl (by kernel_rfl) t68 rfl) (calm7 (fun fs vs x y => yardJ_later fs vs x y) (by kernel_rfl) (by kernel_rfl) hj (later_refl _)) rfl
              · intro listed a W H hj hl hd
                have t68 : a.tmps.getD 68 undef = .bool false := H.get 5 68 (by kernel_rfl) (dep_of hd 5 (by kernel_rfl)) (fun _ h => by cases h)
                exact step7_skip (i := 8) rfl (unwanted_at (j := 5) (d := 68) (b := true) (c := false) rfl (by kernel_rfl) t68 rfl) (calm7 (fun fs vs x y => yardJ_later fs vs x y) (by kernel_rfl) (by kernel_rfl) hj (later_refl _)) rfl
              · intro listed a W H hj hl hd
                have t68 : a.tmps.getD 68 undef = .bool false := H.get 5 68 (by kernel_rfl) (dep_of hd 5 (by kernel_rfl)) (fun _ h => by cases h)
                exact step7_skip (i := 9) rfl (unwanted_at (j := 5) (d := 68) (b := true) (c := false) rfl (by kernel_rfl) t68 rfl) (calm7 (fun fs vs x y => yardJ_later fs vs x y) (by kernel_rfl) (by kernel_rfl) hj (later_refl _)) rfl
              · intro listed a W H hj hl hd
                have t68 : a.tmps.getD 68 undef = .bool false := H.get 5 68 (by kernel_rfl) (dep_of hd 5 (by kernel_rfl)) (fun _ h => by cases h)
                exact step7_value (i := 10) rfl rfl (run_op_pickF rfl t68 rfl) (calm7 (fun fs vs x y => yardJ_later fs vs x y) (by kernel_rfl) (by kernel_rfl) hj (later_refl _)) rfl
              · intro listed a W H hj hl hd
                have t73 : a.tmps.getD 73 undef = .bool false := H.get 10 73 (by kernel_rfl) (dep_of hd 10 (by kernel_rfl)) (fun _ h => by cases h)
                exact step7_value (i := 11) rfl rfl (run_op_move rfl t73) (calm7 (fun fs vs x y => yardJ_later fs vs x y) (by kernel_rfl) (by kernel_rfl) hj (later_refl _)) rfl
              · intro listed a W H hj hl hd
                have t74 : a.tmps.getD 74 undef = .bool false := H.get 11 74 (by kernel_rfl) (dep_of hd 11 (by kernel_rfl)) (fun _ h => by cases h)
                have t2 : a.tmps.getD 2 undef = .int .i64 x2 := (H.old 2 (by kernel_rfl)).trans rfl
                exact step7_value (i := 12) rfl (wanted_at (j := 11) (d := 74) (b := false) rfl (by kernel_rfl) t74) (run_op_move rfl t2) (calm7 (fun fs vs x y => yardJ_later fs vs x y) (by kernel_rfl) (by kernel_rfl) hj (later_refl _)) rfl
              · intro listed a W H hj hl hd
                have t74 : a.tmps.getD 74 undef = .bool false := H.get 11 74 (by kernel_rfl) (dep_of hd 11 (by kernel_rfl)) (fun _ h => by cases h)
                have t15 : a.tmps.getD 15 undef = .int .i64 (q : Int) := (H.old 15 (by kernel_rfl)).trans rfl
                exact step7_value (i := 13) rfl (wanted_at (j := 11) (d := 74) (b := false) rfl (by kernel_rfl) t74) (run_op_move rfl t15) (calm7 (fun fs vs x y => yardJ_later fs vs x y) (by kernel_rfl) (by kernel_rfl) hj (later_refl _)) rfl
              · intro listed a W H hj hl hd
                have t74 : a.tmps.getD 74 undef = .bool false := H.get 11 74 (by kernel_rfl) (dep_of hd 11 (by kernel_rfl)) (fun _ h => by cases h)
                have t75 : a.tmps.getD 75 undef = .int .i64 x2 := H.get 12 75 (by kernel_rfl) (dep_of hd 12 (by kernel_rfl)) (fun _ h => by cases h)
                have t76 : a.tmps.getD 76 undef = .int .i64 (q : Int) := H.get 13 76 (by kernel_rfl) (dep_of hd 13 (by kernel_rfl)) (fun _ h => by cases h)
                exact step7_value (i := 14) rfl (wanted_at (j := 11) (d := 74) (b := false) rfl (by kernel_rfl) t74) (run_op_bin rfl t75 t76 (bin_shr _ _ _ x2 q q63 r2 HR2.out)) (calm7 (fun fs vs x y => yardJ_later fs vs x y) (by kernel_rfl) (by kernel_rfl) hj (later_refl _)) rfl
              · intro listed a W H hj hl hd
                have t74 : a.tmps.getD 74 undef = .bool false := H.get 11 74 (by kernel_rfl) (dep_of hd 11 (by kernel_rfl)) (fun _ h => by cases h)
                have t77 : a.tmps.getD 77 undef = .int .i64 r2 := H.get 14 77 (by kernel_rfl) (dep_of hd 14 (by kernel_rfl)) (fun _ h => by cases h)
                exact step7_value (i := 15) rfl (wanted_at (j := 11) (d := 74) (b := false) rfl (by kernel_rfl) t74) (run_op_bin rfl t77 rfl (bin_and _ _ _ r2 1 1 HBT2.out)) (calm7 (fun fs vs x y => yardJ_later fs vs x y) (by kernel_rfl) (by kernel_rfl) hj (later_refl _)) rfl
              · intro listed a W H hj hl hd
                have t74 : a.tmps.getD 74 undef = .bool false := H.get 11 74 (by kernel_rfl) (dep_of hd 11 (by kernel_rfl)) (fun _ h => by cases h)
                have t78 : a.tmps.getD 78 undef = .int .i64 1 := H.get 15 78 (by kernel_rfl) (dep_of hd 15 (by kernel_rfl)) (fun _ h => by cases h)
                exact step7_value (i := 16) rfl (wanted_at (j := 11) (d := 74) (b := false) rfl (by kernel_rfl) t74) (run_op_bin rfl t78 rfl (bin_eql _ _ _ 1 1 true (by first | rfl | (simp; done) | (simp; omega) | decide))) (calm7 (fun fs vs x y => yardJ_later fs vs x y) (by kernel_rfl) (by kernel_rfl) hj (later_refl _)) rfl
              · intro listed a W H hj hl hd
                have t74 : a.tmps.getD 74 undef = .bool false := H.get 11 74 (by kernel_rfl) (dep_of hd 11 (by kernel_rfl)) (fun _ h => by cases h)
                have t79 : a.tmps.getD 79 undef = .bool true := H.get 16 79 (by kernel_rfl) (dep_of hd 16 (by kernel_rfl)) (fun _ h => by cases h)
                exact step7_value (i := 17) rfl (wanted_at (j := 11) (d := 74) (b := false) rfl (by kernel_rfl) t74) (run_op_move rfl t79) (calm7 (fun fs vs x y => yardJ_later fs vs x y) (by kernel_rfl) (by kernel_rfl) hj (later_refl _)) rfl
              · intro listed a W H hj hl hd
                have t80 : a.tmps.getD 80 undef = .bool true := H.get 17 80 (by kernel_rfl) (dep_of hd 17 (by kernel_rfl)) (fun _ h => by cases h)
                have t9 : a.tmps.getD 9 undef = .pointer (some ⟨g, 0, none⟩) := (H.old 9 (by kernel_rfl)).trans rfl
                exact step7_value (i := 18) rfl (wanted_at (j := 17) (d := 80) (b := true) rfl (by kernel_rfl) t80) (run_op_move rfl t9) (calm7 (fun fs vs x y => yardJ_later fs vs x y) (by kernel_rfl) (by kernel_rfl) hj (later_refl _)) rfl
              · intro listed a W H hj hl hd
                have t80 : a.tmps.getD 80 undef = .bool true := H.get 17 80 (by kernel_rfl) (dep_of hd 17 (by kernel_rfl)) (fun _ h => by cases h)
                have t15 : a.tmps.getD 15 undef = .int .i64 (q : Int) := (H.old 15 (by kernel_rfl)).trans rfl
                exact step7_value (i := 19) rfl (wanted_at (j := 17) (d := 80) (b := true) rfl (by kernel_rfl) t80) (run_op_move rfl t15) (calm7 (fun fs vs x y => yardJ_later fs vs x y) (by kernel_rfl) (by kernel_rfl) hj (later_refl _)) rfl
              · intro listed a W H hj hl hd
                have t80 : a.tmps.getD 80 undef = .bool true := H.get 17 80 (by kernel_rfl) (dep_of hd 17 (by kernel_rfl)) (fun _ h => by cases h)
                have t81 : a.tmps.getD 81 undef = .pointer (some ⟨g, 0, none⟩) := H.get 18 81 (by kernel_rfl) (dep_of hd 18 (by kernel_rfl)) (fun _ h => by cases h)
                have t82 : a.tmps.getD 82 undef = .int .i64 (q : Int) := H.get 19 82 (by kernel_rfl) (dep_of hd 19 (by kernel_rfl)) (fun _ h => by cases h)
                refine step7_call (i := 20) rfl (wanted_at (j := 17) (d := 80) (b := true) rfl (by kernel_rfl) t80) (run_op_call (vs := #[.pointer (some ⟨g, 0, none⟩), .int .i64 2, .int .i64 (q : Int)]) Try.func24 (by kernel_rfl) (by kernel_rfl) rfl (by simp only [List.map_toArray, List.map_cons, List.map_nil]; show #[a.tmps.getD 81 undef, .int .i64 2, a.tmps.getD 82 undef] = _; rw [t81, t82])) ?_
                obtain ⟨fp1, h1, h2, h3⟩ := hj
                have hl0 : (flags [20] listed).getD 0 false = false := hl
                rw [hl0, if_neg (by decide)] at h1
                refine (ywash_any 2 (q : Int) h1).mono ?_
                rw [HW.out]
                rintro e W2 ⟨v2, fp2, rfl, he, hc, hs⟩
                obtain rfl := he.nil
                refine ⟨_, rfl, ⟨fp2, ?_, hs.below h2 h1.ge h1.base_le, trivial⟩, rfl⟩
                have e : (flags [20] (listed.setIfInBounds 20 true)).getD 0 false = true := set_self7 listed 20
                rw [e, if_pos rfl]; exact hc
              · intro listed a W H hj hl hd
                have t80 : a.tmps.getD 80 undef = .bool true := H.get 17 80 (by kernel_rfl) (dep_of hd 17 (by kernel_rfl)) (fun _ h => by cases h)
                have t83 : a.tmps.getD 83 undef = .nilIface := H.get 20 83 (by kernel_rfl) (dep_of hd 20 (by kernel_rfl)) (fun _ h => by cases h)
                exact step7_value (i := 21) rfl (wanted_at (j := 17) (d := 80) (b := true) rfl (by kernel_rfl) t80) (run_op_bin rfl t83 rfl (bin_eqlE _ _)) (calm7 (fun fs vs x y => yardJ_later fs vs x y) (by kernel_rfl) (by kernel_rfl) hj (later_refl _)) rfl
              · intro listed a W H hj hl hd
                have t80 : a.tmps.getD 80 undef = .bool true := H.get 17 80 (by kernel_rfl) (dep_of hd 17 (by kernel_rfl)) (fun _ h => by cases h)
                have t3 : a.tmps.getD 3 undef = .int .i64 x3 := (H.old 3 (by kernel_rfl)).trans rfl
                exact step7_value (i := 22) rfl (wanted_at (j := 17) (d := 80) (b := true) rfl (by kernel_rfl) t80) (run_op_move rfl t3) (calm7 (fun fs vs x y => yardJ_later fs vs x y) (by kernel_rfl) (by kernel_rfl) hj (later_refl _)) rfl
              · intro listed a W H hj hl hd
                have t80 : a.tmps.getD 80 undef = .bool true := H.get 17 80 (by kernel_rfl) (dep_of hd 17 (by kernel_rfl)) (fun _ h => by cases h)
                have t15 : a.tmps.getD 15 undef = .int .i64 (q : Int) := (H.old 15 (by kernel_rfl)).trans rfl
                exact step7_value (i := 23) rfl (wanted_at (j := 17) (d := 80) (b := true) rfl (by kernel_rfl) t80) (run_op_move rfl t15) (calm7 (fun fs vs x y => yardJ_later fs vs x y) (by kernel_rfl) (by kernel_rfl) hj (later_refl _)) rfl
              · intro listed a W H hj hl hd
                have t80 : a.tmps.getD 80 undef = .bool true := H.get 17 80 (by kernel_rfl) (dep_of hd 17 (by kernel_rfl)) (fun _ h => by cases h)
                have t85 : a.tmps.getD 85 undef = .int .i64 x3 := H.get 22 85 (by kernel_rfl) (dep_of hd 22 (by kernel_rfl)) (fun _ h => by cases h)
                have t86 : a.tmps.getD 86 undef = .int .i64 (q : Int) := H.get 23 86 (by kernel_rfl) (dep_of hd 23 (by kernel_rfl)) (fun _ h => by cases h)
                exact step7_value (i := 24) rfl (wanted_at (j := 17) (d := 80) (b := true) rfl (by kernel_rfl) t80) (run_op_bin rfl t85 t86 (bin_shr _ _ _ x3 q q63 r3 HR3.out)) (calm7 (fun fs vs x y => yardJ_later fs vs x y) (by kernel_rfl) (by kernel_rfl) hj (later_refl _)) rfl
              · intro listed a W H hj hl hd
                have t80 : a.tmps.getD 80 undef = .bool true := H.get 17 80 (by kernel_rfl) (dep_of hd 17 (by kernel_rfl)) (fun _ h => by cases h)
                have t87 : a.tmps.getD 87 undef = .int .i64 r3 := H.get 24 87 (by kernel_rfl) (dep_of hd 24 (by kernel_rfl)) (fun _ h => by cases h)
                exact step7_value (i := 25) rfl (wanted_at (j := 17) (d := 80) (b := true) rfl (by kernel_rfl) t80) (run_op_bin rfl t87 rfl (bin_and _ _ _ r3 1 0 HBT3.out)) (calm7 (fun fs vs x y => yardJ_later fs vs x y) (by kernel_rfl) (by kernel_rfl) hj (later_refl _)) rfl
              · intro listed a W H hj hl hd
                have t80 : a.tmps.getD 80 undef = .bool true := H.get 17 80 (by kernel_rfl) (dep_of hd 17 (by kernel_rfl)) (fun _ h => by cases h)
                have t88 : a.tmps.getD 88 undef = .int .i64 0 := H.get 25 88 (by kernel_rfl) (dep_of hd 25 (by kernel_rfl)) (fun _ h => by cases h)
                exact step7_value (i := 26) rfl (wanted_at (j := 17) (d := 80) (b := true) rfl (by kernel_rfl) t80) (run_op_bin rfl t88 rfl (bin_eql _ _ _ 0 0 true (by first | rfl | (simp; done) | (simp; omega) | decide))) (calm7 (fun fs vs x y => yardJ_later fs vs x y) (by kernel_rfl) (by kernel_rfl) hj (later_refl _)) rfl
              · intro listed a W H hj hl hd
                have t80 : a.tmps.getD 80 undef = .bool true := H.get 17 80 (by kernel_rfl) (dep_of hd 17 (by kernel_rfl)) (fun _ h => by cases h)
                have t84 : a.tmps.getD 84 undef = .bool true := H.get 21 84 (by kernel_rfl) (dep_of hd 21 (by kernel_rfl)) (fun _ h => by cases h)
                have t89 : a.tmps.getD 89 undef = .bool true := H.get 26 89 (by kernel_rfl) (dep_of hd 26 (by kernel_rfl)) (fun _ h => by cases h)
                exact step7_value (i := 27) rfl (wanted_at (j := 17) (d := 80) (b := true) rfl (by kernel_rfl) t80) (run_op_bin rfl t84 t89 (bin_neqB _ _ _ true true false (by first | rfl | (simp; done) | (simp; omega) | decide))) (calm7 (fun fs vs x y => yardJ_later fs vs x y) (by kernel_rfl) (by kernel_rfl) hj (later_refl _)) rfl
              · intro listed a W H hj hl hd
                have t74 : a.tmps.getD 74 undef = .bool false := H.get 11 74 (by kernel_rfl) (dep_of hd 11 (by kernel_rfl)) (fun _ h => by cases h)
                have t80 : a.tmps.getD 80 undef = .bool true := H.get 17 80 (by kernel_rfl) (dep_of hd 17 (by kernel_rfl)) (fun _ h => by cases h)
                have t90 : a.tmps.getD 90 undef = .bool false := H.get 27 90 (by kernel_rfl) (dep_of hd 27 (by kernel_rfl)) (fun _ h => by cases h)
                exact step7_value (i := 28) rfl (wanted_at (j := 11) (d := 74) (b := false) rfl (by kernel_rfl) t74) (run_op_pick rfl t80 t90) (calm7 (fun fs vs x y => yardJ_later fs vs x y) (by kernel_rfl) (by kernel_rfl) hj (later_refl _)) rfl
              · intro listed a W H hj hl hd
                have t74 : a.tmps.getD 74 undef = .bool false := H.get 11 74 (by kernel_rfl) (dep_of hd 11 (by kernel_rfl)) (fun _ h => by cases h)
                have t91 : a.tmps.getD 91 undef = .bool false := H.get 28 91 (by kernel_rfl) (dep_of hd 28 (by kernel_rfl)) (fun _ h => by cases h)
                exact step7_value (i := 29) rfl rfl (run_op_pickF rfl t74 t91) (calm7 (fun fs vs x y => yardJ_later fs vs x y) (by kernel_rfl) (by kernel_rfl) hj (later_refl _)) rfl
            · intro a WC hdef hsz hw hall hact
              obtain ⟨u, hu⟩ : ∃ u : Nat → Value, ∀ k, a.tmps.getD k undef = u k := ⟨_, fun _ => rfl⟩
              have h92 : u 92 = .bool false := by rw [← hu]; exact hall 29 _ rfl
              simp only [hu] at hact
              have hact' : a = ([63, 64, 65, 66, 67, 68, 69, 70, 71, 72, 73, 74, 75, 76, 77, 78, 79, 80, 81, 82, 83, 84, 85, 86, 87, 88, 89, 90, 91, 92] : List Nat).foldl (fun b k => b.put (some k) (u k)) _ := hact
              simp only [List.foldl] at hact'
              simp only [Act.put, List.setIfInBounds_toArray, List.set_cons_succ, List.set_cons_zero] at hact'
              have HAC := Lib.hid hact'
              have HX := Lib.hid hw
              clear hact hact' hall hdef hsz hw
              rw [h92] at HAC
              rw [HAC.out]
              obtain ⟨fpX, c1, c2, c3⟩ := HX.out
              have c1' : YardAt WC w.heap.size fpX g s2 := c1
              have HC2 := Lib.hid c1'
              have HB2 := Lib.hid c2
              clear c1 c1' c2 c3 HX HC HB CD SD HDL HWD
              rw [← HS2.out] at HC2
              go_wp2_with (simp only [HR1.out, HR2.out, HR3.out, HBT1.out, HBT2.out, HBT3.out])
              go_roundw
              case rel => exact ⟨q + 1, fpX, by rw [HMU.out]; simp, by rw [HLU.out]; simp, by go_num, by omega, HC2, HB2⟩
              case measure => simp [intOf]; omega
          · skip
            obtain rfl : β3 = 1 := hβ3
            obtain rfl : β2 = 0 := hβ2
            obtain rfl : β1 = 0 := hβ1
            have HB2_ := HB2
            obtain ⟨s2, HS2⟩ : ∃ s, Hid (lvY 3 2 p 2 p (fW x3 (q + 1)) (dW x1 x2 x3 (q + 1)) = s) := ⟨_, rfl⟩
            have HD : Hid (dropY sp 2 q = (s2, 0)) := by show _ = _; rw [← HSP.out, ← HS2.out, ← fW_up HB3.out, ← dW_up (x1 := x1) (show (bt x3 q || bt x2 q) = true by rw [HB3.out]; rfl)]; exact lv_drop (by omega) (by decide) hltq (by unfold fW; simp)
            refine region_of_steps7 (by kernel_rfl) [some (.int .i64 x3), some (.int .i64 (q : Int)), some (.int .i64 r3), some (.int .i64 1), some (.bool true), some (.bool true), some (.pointer (some ⟨g, 0, none⟩)), some (.int .i64 (q : Int)), some (.nilIface), some (.bool false), some (.bool false), some (.bool false), some (.int .i64 x2), some (.int .i64 (q : Int)), some (.int .i64 r2), some (.int .i64 0), some (.bool false), some (.bool false), some undef, some undef, some undef, some undef, some undef, some undef, some undef, some undef, some undef, some undef, some (.bool false), some (.bool false)] [8] [] (YardJ w w.heap.size g sp s2 (fun _ _ => True)) (by kernel_rfl) (by kernel_rfl) (by rw [← HWD.out]; exact ⟨fp, CD.out, SD.out, trivial⟩) ?_ ?_
            · refine Steps7.cons ?_ (Steps7.cons ?_ (Steps7.cons ?_ (Steps7.cons ?_ (Steps7.cons ?_ (Steps7.cons ?_ (Steps7.cons ?_ (Steps7.cons ?_ (Steps7.cons ?_ (Steps7.cons ?_ (Steps7.cons ?_ (Steps7.cons ?_ (Steps7.cons ?_ (Steps7.cons ?_ (Steps7.cons ?_ (Steps7.cons ?_ (Steps7.cons ?_ (Steps7.cons ?_ (Steps7.cons ?_ (Steps7.cons ?_ (Steps7.cons ?_ (Steps7.cons ?_ (Steps7.cons ?_ (Steps7.cons ?_ (Steps7.cons ?_ (Steps7.cons ?_ (Steps7.cons ?_ (Steps7.cons ?_ (Steps7.cons ?_ (Steps7.cons ?_ (Steps7.nil))))))))))))))))))))))))))))))
              · intro listed a W H hj hl hd
                have t3 : a.tmps.getD 3 undef = .int .i64 x3 := (H.old 3 (by kernel_rfl)).trans rfl
                exact step7_value (i := 0) rfl rfl (run_op_move rfl t3) (calm7 (fun fs vs x y => yardJ_later fs vs x y) (by kernel_rfl) (by kernel_rfl) hj (later_refl _)) rfl
              · intro listed a W H hj hl hd
                have t15 : a.tmps.getD 15 undef = .int .i64 (q : Int) := (H.old 15 (by kernel_rfl)).trans rfl
                exact step7_value (i := 1) rfl rfl (run_op_move rfl t15) (calm7 (fun fs vs x y => yardJ_later fs vs x y) (by kernel_rfl) (by kernel_rfl) hj (later_refl _)) rfl
              · intro listed a W H hj hl hd
                have t63 : a.tmps.getD 63 undef = .int .i64 x3 := H.get 0 63 (by kernel_rfl) (dep_of hd 0 (by kernel_rfl)) (fun _ h => by cases h)
                have t64 : a.tmps.getD 64 undef = .int .i64 (q : Int) := H.get 1 64 (by kernel_rfl) (dep_of hd 1 (by kernel_rfl)) (fun _ h => by cases h)
                exact step7_value (i := 2) rfl rfl (run_op_bin rfl t63 t64 (bin_shr _ _ _ x3 q q63 r3 HR3.out)) (calm7 (fun fs vs x y => yardJ_later fs vs x y) (by kernel_rfl) (by kernel_rfl) hj (later_refl _)) rfl
              · intro listed a W H hj hl hd
                have t65 : a.tmps.getD 65 undef = .int .i64 r3 := H.get 2 65 (by kernel_rfl) (dep_of hd 2 (by kernel_rfl)) (fun _ h => by cases h)
                exact step7_value (i := 3) rfl rfl (run_op_bin rfl t65 rfl (bin_and _ _ _ r3 1 1 HBT3.out)) (calm7 (fun fs vs x y => yardJ_later fs vs x y) (by kernel_rfl) (by kernel_rfl) hj (later_refl _)) rfl
              · intro listed a W H hj hl hd
                have t66 : a.tmps.getD 66 undef = .int .i64 1 := H.get 3 66 (by kernel_rfl) (dep_of hd 3 (by kernel_rfl)) (fun _ h => by cases h)
                exact step7_value (i := 4) rfl rfl (run_op_bin rfl t66 rfl (bin_eql _ _ _ 1 1 true (by first | rfl | (simp; done) | (simp; omega) | decide))) (calm7 (fun fs vs x y => yardJ_later fs vs x y) (by kernel_rfl) (by kernel_rfl) hj (later_refl _)) rfl
              · intro listed a W H hj hl hd
                have t67 : a.tmps.getD 67 undef = .bool true := H.get 4 67 (by kernel_rfl) (dep_of hd 4 (by kernel_rfl)) (fun _ h => by cases h)
                exact step7_value (i := 5) rfl rfl (run_op_move rfl t67) (calm7 (fun fs vs x y => yardJ_later fs vs x y) (by kernel_rfl) (by kernel_rfl) hj (later_refl _)) rfl
              · intro listed a W H hj hl hd
                have t68 : a.tmps.getD 68 undef = .bool true := H.get 5 68 (by kernel_rfl) (dep_of hd 5 (by kernel_rfl)) (fun _ h => by cases h)
                have t9 : a.tmps.getD 9 undef = .pointer (some ⟨g, 0, none⟩) := (H.old 9 (by kernel_rfl)).trans rfl
                exact step7_value (i := 6) rfl (wanted_at (j := 5) (d := 68) (b := true) rfl (by kernel_rfl) t68) (run_op_move rfl t9) (calm7 (fun fs vs x y => yardJ_later fs vs x y) (by kernel_rfl) (by kernel_rfl) hj (later_refl _)) rfl
              · intro listed a W H hj hl hd
                have t68 : a.tmps.getD 68 undef = .bool true := H.get 5 68 (by kernel_rfl) (dep_of hd 5 (by kernel_rfl)) (fun _ h => by cases h)
                have t15 : a.tmps.getD 15 undef = .int .i64 (q : Int) := (H.old 15 (by kernel_rfl)).trans rfl
                exact step7_value (i := 7) rfl (wanted_at (j := 5) (d := 68) (b := true) rfl (by kernel_rfl) t68) (run_op_move rfl t15) (calm7 (fun fs vs x y => yardJ_later fs vs x y) (by kernel_rfl) (by kernel_rfl) hj (later_refl _)) rfl
              · intro listed a W H hj hl hd
                have t68 : a.tmps.getD 68 undef = .bool true := H.get 5 68 (by kernel_rfl) (dep_of hd 5 (by kernel_rfl)) (fun _ h => by cases h)
                have t69 : a.tmps.getD 69 undef = .pointer (some ⟨g, 0, none⟩) := H.get 6 69 (by kernel_rfl) (dep_of hd 6 (by kernel_rfl)) (fun _ h => by cases h)
                have t70 : a.tmps.getD 70 undef = .int .i64 (q : Int) := H.get 7 70 (by kernel_rfl) (dep_of hd 7 (by kernel_rfl)) (fun _ h => by cases h)
                refine step7_call (i := 8) rfl (wanted_at (j := 5) (d := 68) (b := true) rfl (by kernel_rfl) t68) (run_op_call (vs := #[.pointer (some ⟨g, 0, none⟩), .int .i64 2, .int .i64 (q : Int)]) Try.func16 (by kernel_rfl) (by kernel_rfl) rfl (by simp only [List.map_toArray, List.map_cons, List.map_nil]; show #[a.tmps.getD 69 undef, .int .i64 2, a.tmps.getD 70 undef] = _; rw [t69, t70])) ?_
                obtain ⟨fp1, h1, h2, h3⟩ := hj
                have hl0 : (flags [8] listed).getD 0 false = false := hl
                rw [hl0, if_neg (by decide)] at h1
                refine (ydrop_any 2 (q : Int) h1).mono ?_
                rw [HD.out]
                rintro e W2 ⟨v2, fp2, rfl, he, hc, hs⟩
                obtain rfl := he.nil
                refine ⟨_, rfl, ⟨fp2, ?_, hs.below h2 h1.ge h1.base_le, trivial⟩, rfl⟩
                have e : (flags [8] (listed.setIfInBounds 8 true)).getD 0 false = true := set_self7 listed 8
                rw [e, if_pos rfl]; exact hc
              · intro listed a W H hj hl hd
                have t68 : a.tmps.getD 68 undef = .bool true := H.get 5 68 (by kernel_rfl) (dep_of hd 5 (by kernel_rfl)) (fun _ h => by cases h)
                have t71 : a.tmps.getD 71 undef = .nilIface := H.get 8 71 (by kernel_rfl) (dep_of hd 8 (by kernel_rfl)) (fun _ h => by cases h)
                exact step7_value (i := 9) rfl (wanted_at (j := 5) (d := 68) (b := true) rfl (by kernel_rfl) t68) (run_op_bin rfl t71 rfl (bin_neqE _ _)) (calm7 (fun fs vs x y => yardJ_later fs vs x y) (by kernel_rfl) (by kernel_rfl) hj (later_refl _)) rfl
              · intro listed a W H hj hl hd
                have t68 : a.tmps.getD 68 undef = .bool true := H.get 5 68 (by kernel_rfl) (dep_of hd 5 (by kernel_rfl)) (fun _ h => by cases h)
                have t72 : a.tmps.getD 72 undef = .bool false := H.get 9 72 (by kernel_rfl) (dep_of hd 9 (by kernel_rfl)) (fun _ h => by cases h)
                exact step7_value (i := 10) rfl rfl (run_op_pick rfl t68 t72) (calm7 (fun fs vs x y => yardJ_later fs vs x y) (by kernel_rfl) (by kernel_rfl) hj (later_refl _)) rfl
              · intro listed a W H hj hl hd
                have t73 : a.tmps.getD 73 undef = .bool false := H.get 10 73 (by kernel_rfl) (dep_of hd 10 (by kernel_rfl)) (fun _ h => by cases h)
                exact step7_value (i := 11) rfl rfl (run_op_move rfl t73) (calm7 (fun fs vs x y => yardJ_later fs vs x y) (by kernel_rfl) (by kernel_rfl) hj (later_refl _)) rfl
              · intro listed a W H hj hl hd
                have t74 : a.tmps.getD 74 undef = .bool false := H.get 11 74 (by kernel_rfl) (dep_of hd 11 (by kernel_rfl)) (fun _ h => by cases h)
                have t2 : a.tmps.getD 2 undef = .int .i64 x2 := (H.old 2 (by kernel_rfl)).trans rfl
                exact step7_value (i := 12) rfl (wanted_at (j := 11) (d := 74) (b := false) rfl (by kernel_rfl) t74) (run_op_move rfl t2) (calm7 (fun fs vs x y => yardJ_later fs vs x y) (by kernel_rfl) (by kernel_rfl) hj (later_refl _)) rfl
              · intro listed a W H hj hl hd
                have t74 : a.tmps.getD 74 undef = .bool false := H.get 11 74 (by kernel_rfl) (dep_of hd 11 (by kernel_rfl)) (fun _ h => by cases h)
                have t15 : a.tmps.getD 15 undef = .int .i64 (q : Int) := (H.old 15 (by kernel_rfl)).trans rfl
                exact step7_value (i := 13) rfl (wanted_at (j := 11) (d := 74) (b := false) rfl (by kernel_rfl) t74) (run_op_move rfl t15) (calm7 (fun fs vs x y => yardJ_later fs vs x y) (by kernel_rfl) (by kernel_rfl) hj (later_refl _)) rfl
              · intro listed a W H hj hl hd
                have t74 : a.tmps.getD 74 undef = .bool false := H.get 11 74 (by kernel_rfl) (dep_of hd 11 (by kernel_rfl)) (fun _ h => by cases h)
                have t75 : a.tmps.getD 75 undef = .int .i64 x2 := H.get 12 75 (by kernel_rfl) (dep_of hd 12 (by kernel_rfl)) (fun _ h => by cases h)
                have t76 : a.tmps.getD 76 undef = .int .i64 (q : Int) := H.get 13 76 (by kernel_rfl) (dep_of hd 13 (by kernel_rfl)) (fun _ h => by cases h)
                exact step7_value (i := 14) rfl (wanted_at (j := 11) (d := 74) (b := false) rfl (by kernel_rfl) t74) (run_op_bin rfl t75 t76 (bin_shr _ _ _ x2 q q63 r2 HR2.out)) (calm7 (fun fs vs x y => yardJ_later fs vs x y) (by kernel_rfl) (by kernel_rfl) hj (later_refl _)) rfl
              · intro listed a W H hj hl hd
                have t74 : a.tmps.getD 74 undef = .bool false := H.get 11 74 (by kernel_rfl) (dep_of hd 11 (by kernel_rfl)) (fun _ h => by cases h)
                have t77 : a.tmps.getD 77 undef = .int .i64 r2 := H.get 14 77 (by kernel_rfl) (dep_of hd 14 (by kernel_rfl)) (fun _ h => by cases h)
                exact step7_value (i := 15) rfl (wanted_at (j := 11) (d := 74) (b := false) rfl (by kernel_rfl) t74) (run_op_bin rfl t77 rfl (bin_and _ _ _ r2 1 0 HBT2.out)) (calm7 (fun fs vs x y => yardJ_later fs vs x y) (by kernel_rfl) (by kernel_rfl) hj (later_refl _)) rfl
              · intro listed a W H hj hl hd
                have t74 : a.tmps.getD 74 undef = .bool false := H.get 11 74 (by kernel_rfl) (dep_of hd 11 (by kernel_rfl)) (fun _ h => by cases h)
                have t78 : a.tmps.getD 78 undef = .int .i64 0 := H.get 15 78 (by kernel_rfl) (dep_of hd 15 (by kernel_rfl)) (fun _ h => by cases h)
                exact step7_value (i := 16) rfl (wanted_at (j := 11) (d := 74) (b := false) rfl (by kernel_rfl) t74) (run_op_bin rfl t78 rfl (bin_eql _ _ _ 0 1 false (by first | rfl | (simp; done) | (simp; omega) | decide))) (calm7 (fun fs vs x y => yardJ_later fs vs x y) (by kernel_rfl) (by kernel_rfl) hj (later_refl _)) rfl
              · intro listed a W H hj hl hd
                have t74 : a.tmps.getD 74 undef = .bool false := H.get 11 74 (by kernel_rfl) (dep_of hd 11 (by kernel_rfl)) (fun _ h => by cases h)
                have t79 : a.tmps.getD 79 undef = .bool false := H.get 16 79 (by kernel_rfl) (dep_of hd 16 (by kernel_rfl)) (fun _ h => by cases h)
                exact step7_value (i := 17) rfl (wanted_at (j := 11) (d := 74) (b := false) rfl (by kernel_rfl) t74) (run_op_move rfl t79) (calm7 (fun fs vs x y => yardJ_later fs vs x y) (by kernel_rfl) (by kernel_rfl) hj (later_refl _)) rfl
              · intro listed a W H hj hl hd
                have t80 : a.tmps.getD 80 undef = .bool false := H.get 17 80 (by kernel_rfl) (dep_of hd 17 (by kernel_rfl)) (fun _ h => by cases h)
                exact step7_skip (i := 18) rfl (unwanted_at (j := 17) (d := 80) (b := true) (c := false) rfl (by kernel_rfl) t80 rfl) (calm7 (fun fs vs x y => yardJ_later fs vs x y) (by kernel_rfl) (by kernel_rfl) hj (later_refl _)) rfl
              · intro listed a W H hj hl hd
                have t80 : a.tmps.getD 80 undef = .bool false := H.get 17 80 (by kernel_rfl) (dep_of hd 17 (by kernel_rfl)) (fun _ h => by cases h)
                exact step7_skip (i := 19) rfl (unwanted_at (j := 17) (d := 80) (b := true) (c := false) rfl (by kernel_rfl) t80 rfl) (calm7 (fun fs vs x y => yardJ_later fs vs x y) (by kernel_rfl) (by kernel_rfl) hj (later_refl _)) rfl
              · intro listed a W H hj hl hd
                have t80 : a.tmps.getD 80 undef = .bool false := H.get 17 80 (by kernel_rfl) (dep_of hd 17 (by kernel_rfl)) (fun _ h => by cases h)
                exact step7_skip (i := 20) rfl (unwanted_at (j := 17) (d := 80) (b := true) (c := false) rfl (by kernel_rfl) t80 rfl) (calm7 (fun fs vs x y => yardJ_later fs vs x y) (by kernel_rfl) (by kernel_rfl) hj (later_refl _)) rfl
              · intro listed a W H hj hl hd
                have t80 : a.tmps.getD 80 undef = .bool false := H.get 17 80 (by kernel_rfl) (dep_of hd 17 (by kernel_rfl)) (fun _ h => by cases h)
                exact step7_skip (i := 21) rfl (unwanted_at (j := 17) (d := 80) (b := true) (c := false) rfl (by kernel_rfl) t80 rfl) (calm7 (fun fs vs x y => yardJ_later fs vs x y) (by kernel_rfl) (by kernel_rfl) hj (later_refl _)) rfl
              · intro listed a W H hj hl hd
                have t80 : a.tmps.getD 80 undef = .bool false := H.get 17 80 (by kernel_rfl) (dep_of hd 17 (by kernel_rfl)) (fun _ h => by cases h)
                exact step7_skip (i := 22) rfl (unwanted_at (j := 17) (d := 80) (b := true) (c := false) rfl (by kernel_rfl) t80 rfl) (calm7 (fun fs vs x y => yardJ_later fs vs x y) (by kernel_rfl) (by kernel_rfl) hj (later_refl _)) rfl
              · intro listed a W H hj hl hd
                have t80 : a.tmps.getD 80 undef = .bool false := H.get 17 80 (by kernel_rfl) (dep_of hd 17 (by kernel_rfl)) (fun _ h => by cases h)
                exact step7_skip (i := 23) rfl (unwanted_at (j := 17) (d := 80) (b := true) (c := false) rfl (by kernel_rfl) t80 rfl) (calm7 (fun fs vs x y => yardJ_later fs vs x y) (by kernel_rfl) (by kernel_rfl) hj (later_refl _)) rfl
              · intro listed a W H hj hl hd
                have t80 : a.tmps.getD 80 undef = .bool false := H.get 17 80 (by kernel_rfl) (dep_of hd 17 (by kernel_rfl)) (fun _ h => by cases h)
                exact step7_skip (i := 24) rfl (unwanted_at (j := 17) (d := 80) (b := true) (c := false) rfl (by kernel_rfl) t80 rfl) (calm7 (fun fs vs x y => yardJ_later fs vs x y) (by kernel_rfl) (by kernel_rfl) hj (later_refl _)) rfl
              · intro listed a W H hj hl hd
                have t80 : a.tmps.getD 80 undef = .bool false := H.get 17 80 (by kernel_rfl) (dep_of hd 17 (by kernel_rfl)) (fun _ h => by cases h)
                exact step7_skip (i := 25) rfl (unwanted_at (j := 17) (d := 80) (b := true) (c := false) rfl (by kernel_rfl) t80 rfl) (calm7 (fun fs vs x y => yardJ_later fs vs x y) (by kernel_rfl) (by kernel_rfl) hj (later_refl _)) rfl
              · intro listed a W H hj hl hd
                have t80 : a.tmps.getD 80 undef = .bool false := H.get 17 80 (by kernel_rfl) (dep_of hd 17 (by kernel_rfl)) (fun _ h => by cases h)
                exact step7_skip (i := 26) rfl (unwanted_at (j := 17) (d := 80) (b := true) (c := false) rfl (by kernel_rfl) t80 rfl) (calm7 (fun fs vs x y => yardJ_later fs vs x y) (by kernel_rfl) (by kernel_rfl) hj (later_refl _)) rfl
              · intro listed a W H hj hl hd
                have t80 : a.tmps.getD 80 undef = .bool false := H.get 17 80 (by kernel_rfl) (dep_of hd 17 (by kernel_rfl)) (fun _ h => by cases h)
                exact step7_skip (i := 27) rfl (unwanted_at (j := 17) (d := 80) (b := true) (c := false) rfl (by kernel_rfl) t80 rfl) (calm7 (fun fs vs x y => yardJ_later fs vs x y) (by kernel_rfl) (by kernel_rfl) hj (later_refl _)) rfl
              · intro listed a W H hj hl hd
                have t74 : a.tmps.getD 74 undef = .bool false := H.get 11 74 (by kernel_rfl) (dep_of hd 11 (by kernel_rfl)) (fun _ h => by cases h)
                have t80 : a.tmps.getD 80 undef = .bool false := H.get 17 80 (by kernel_rfl) (dep_of hd 17 (by kernel_rfl)) (fun _ h => by cases h)
                exact step7_value (i := 28) rfl (wanted_at (j := 11) (d := 74) (b := false) rfl (by kernel_rfl) t74) (run_op_pickF rfl t80 rfl) (calm7 (fun fs vs x y => yardJ_later fs vs x y) (by kernel_rfl) (by kernel_rfl) hj (later_refl _)) rfl
              · intro listed a W H hj hl hd
                have t74 : a.tmps.getD 74 undef = .bool false := H.get 11 74 (by kernel_rfl) (dep_of hd 11 (by kernel_rfl)) (fun _ h => by cases h)
                have t91 : a.tmps.getD 91 undef = .bool false := H.get 28 91 (by kernel_rfl) (dep_of hd 28 (by kernel_rfl)) (fun _ h => by cases h)
                exact step7_value (i := 29) rfl rfl (run_op_pickF rfl t74 t91) (calm7 (fun fs vs x y => yardJ_later fs vs x y) (by kernel_rfl) (by kernel_rfl) hj (later_refl _)) rfl
            · intro a WC hdef hsz hw hall hact
              obtain ⟨u, hu⟩ : ∃ u : Nat → Value, ∀ k, a.tmps.getD k undef = u k := ⟨_, fun _ => rfl⟩
              have h92 : u 92 = .bool false := by rw [← hu]; exact hall 29 _ rfl
              simp only [hu] at hact
              have hact' : a = ([63, 64, 65, 66, 67, 68, 69, 70, 71, 72, 73, 74, 75, 76, 77, 78, 79, 80, 81, 82, 83, 84, 85, 86, 87, 88, 89, 90, 91, 92] : List Nat).foldl (fun b k => b.put (some k) (u k)) _ := hact
              simp only [List.foldl] at hact'
              simp only [Act.put, List.setIfInBounds_toArray, List.set_cons_succ, List.set_cons_zero] at hact'
              have HAC := Lib.hid hact'
              have HX := Lib.hid hw
              clear hact hact' hall hdef hsz hw
              rw [h92] at HAC
              rw [HAC.out]
              obtain ⟨fpX, c1, c2, c3⟩ := HX.out
              have c1' : YardAt WC w.heap.size fpX g s2 := c1
              have HC2 := Lib.hid c1'
              have HB2 := Lib.hid c2
              clear c1 c1' c2 c3 HX HC HB CD SD HDL HWD
              rw [← HS2.out] at HC2
              go_wp2_with (simp only [HR1.out, HR2.out, HR3.out, HBT1.out, HBT2.out, HBT3.out])
              go_roundw
              case rel => exact ⟨q + 1, fpX, by rw [HMU.out]; simp, by rw [HLU.out]; simp, by go_num, by omega, HC2, HB2⟩
              case measure => simp [intOf]; omega
          · skip
            obtain rfl : β3 = 1 := hβ3
            obtain rfl : β2 = 0 := hβ2
            obtain rfl : β1 = 1 := hβ1
            have HB2_ := HB2
            obtain ⟨s2, HS2⟩ : ∃ s, Hid (lvY 3 2 p 2 p (fW x3 (q + 1)) (dW x1 x2 x3 (q + 1)) = s) := ⟨_, rfl⟩
            have HD : Hid (dropY sp 2 q = (s2, 0)) := by show _ = _; rw [← HSP.out, ← HS2.out, ← fW_up HB3.out, ← dW_up (x1 := x1) (show (bt x3 q || bt x2 q) = true by rw [HB3.out]; rfl)]; exact lv_drop (by omega) (by decide) hltq (by unfold fW; simp)
            refine region_of_steps7 (by kernel_rfl) [some (.int .i64 x3), some (.int .i64 (q : Int)), some (.int .i64 r3), some (.int .i64 1), some (.bool true), some (.bool true), some (.pointer (some ⟨g, 0, none⟩)), some (.int .i64 (q : Int)), some (.nilIface), some (.bool false), some (.bool false), some (.bool false), some (.int .i64 x2), some (.int .i64 (q : Int)), some (.int .i64 r2), some (.int .i64 0), some (.bool false), some (.bool false), some undef, some undef, some undef, some undef, some undef, some undef, some undef, some undef, some undef, some undef, some (.bool false), some (.bool false)] [8] [] (YardJ w w.heap.size g sp s2 (fun _ _ => True)) (by kernel_rfl) (by kernel_rfl) (by rw [← HWD.out]; exact ⟨fp, CD.out, SD.out, trivial⟩) ?_ ?_
            · refine Steps7.cons ?_ (Steps7.cons ?_ (Steps7.cons ?_ (Steps7.cons ?_ (Steps7.cons ?_ (Steps7.cons ?_ (Steps7.cons ?_ (Steps7.cons ?_ (Steps7.cons ?_ (Steps7.cons ?_ (Steps7.cons ?_ (Steps7.cons ?_ (Steps7.cons ?_ (Steps7.cons ?_ (Steps7.cons ?_ (Steps7.cons ?_ (Steps7.cons ?_ (Steps7.cons ?_ (Steps7.cons ?_ (Steps7.cons ?_ (Steps7.cons ?_ (Steps7.cons ?_ (Steps7.cons ?_ (Steps7.cons ?_ (Steps7.cons ?_ (Steps7.cons ?_ (Steps7.cons ?_ (Steps7.cons ?_ (Steps7.cons ?_ (Steps7.cons ?_ (Steps7.nil))))))))))))))))))))))))))))))
              · intro listed a W H hj hl hd
                have t3 : a.tmps.getD 3 undef = .int .i64 x3 := (H.old 3 (by kernel_rfl)).trans rfl
                exact step7_value (i := 0) rfl rfl (run_op_move rfl t3) (calm7 (fun fs vs x y => yardJ_later fs vs x y) (by kernel_rfl) (by kernel_rfl) hj (later_refl _)) rfl
              · intro listed a W H hj hl hd
                have t15 : a.tmps.getD 15 undef = .int .i64 (q : Int) := (H.old 15 (by kernel_rfl)).trans rfl
                exact step7_value (i := 1) rfl rfl (run_op_move rfl t15) (calm7 (fun fs vs x y => yardJ_later fs vs x y) (by kernel_rfl) (by kernel_rfl) hj (later_refl _)) rfl
              · intro listed a W H hj hl hd
                have t63 : a.tmps.getD 63 undef = .int .i64 x3 := H.get 0 63 (by kernel_rfl) (dep_of hd 0 (by kernel_rfl)) (fun _ h => by cases h)
                have t64 : a.tmps.getD 64 undef = .int .i64 (q : Int) := H.get 1 64 (by kernel_rfl) (dep_of hd 1 (by kernel_rfl)) (fun _ h => by cases h)
                exact step7_value (i := 2) rfl rfl (run_op_bin rfl t63 t64 (bin_shr _ _ _ x3 q q63 r3 HR3.out)) (calm7 (fun fs vs x y => yardJ_later fs vs x y) (by kernel_rfl) (by kernel_rfl) hj (later_refl _)) rfl
              · intro listed a W H hj hl hd
                have t65 : a.tmps.getD 65 undef = .int .i64 r3 := H.get 2 65 (by kernel_rfl) (dep_of hd 2 (by kernel_rfl)) (fun _ h => by cases h)
                exact step7_value (i := 3) rfl rfl (run_op_bin rfl t65 rfl (bin_and _ _ _ r3 1 1 HBT3.out)) (calm7 (fun fs vs x y => yardJ_later fs vs x y) (by kernel_rfl) (by kernel_rfl) hj (later_refl _)) rfl
              · intro listed a W H hj hl hd
                have t66 : a.tmps.getD 66 undef = .int .i64 1 := H.get 3 66 (by kernel_rfl) (dep_of hd 3 (by kernel_rfl)) (fun _ h => by cases h)
                exact step7_value (i := 4) rfl rfl (run_op_bin rfl t66 rfl (bin_eql _ _ _ 1 1 true (by first | rfl | (simp; done) | (simp; omega) | decide))) (calm7 (fun fs vs x y => yardJ_later fs vs x y) (by kernel_rfl) (by kernel_rfl) hj (later_refl _)) rfl
              · intro listed a W H hj hl hd
                have t67 : a.tmps.getD 67 undef = .bool true := H.get 4 67 (by kernel_rfl) (dep_of hd 4 (by kernel_rfl)) (fun _ h => by cases h)
                exact step7_value (i := 5) rfl rfl (run_op_move rfl t67) (calm7 (fun fs vs x y => yardJ_later fs vs x y) (by kernel_rfl) (by kernel_rfl) hj (later_refl _)) rfl
              · intro listed a W H hj hl hd
                have t68 : a.tmps.getD 68 undef = .bool true := H.get 5 68 (by kernel_rfl) (dep_of hd 5 (by kernel_rfl)) (fun _ h => by cases h)
                have t9 : a.tmps.getD 9 undef = .pointer (some ⟨g, 0, none⟩) := (H.old 9 (by kernel_rfl)).trans rfl
                exact step7_value (i := 6) rfl (wanted_at (j := 5) (d := 68) (b := true) rfl (by kernel_rfl) t68) (run_op_move rfl t9) (calm7 (fun fs vs x y => yardJ_later fs vs x y) (by kernel_rfl) (by kernel_rfl) hj (later_refl _)) rfl
              · intro listed a W H hj hl hd
                have t68 : a.tmps.getD 68 undef = .bool true := H.get 5 68 (by kernel_rfl) (dep_of hd 5 (by kernel_rfl)) (fun _ h => by cases h)
                have t15 : a.tmps.getD 15 undef = .int .i64 (q : Int) := (H.old 15 (by kernel_rfl)).trans rfl
                exact step7_value (i := 7) rfl (wanted_at (j := 5) (d := 68) (b := true) rfl (by kernel_rfl) t68) (run_op_move rfl t15) (calm7 (fun fs vs x y => yardJ_later fs vs x y) (by kernel_rfl) (by kernel_rfl) hj (later_refl _)) rfl
              · intro listed a W H hj hl hd
                have t68 : a.tmps.getD 68 undef = .bool true := H.get 5 68 (by kernel_rfl) (dep_of hd 5 (by kernel_rfl)) (fun _ h => by cases h)
                have t69 : a.tmps.getD 69 undef = .pointer (some ⟨g, 0, none⟩) := H.get 6 69 (by kernel_rfl) (dep_of hd 6 (by kernel_rfl)) (fun _ h => by cases h)
                have t70 : a.tmps.getD 70 undef = .int .i64 (q : Int) := H.get 7 70 (by kernel_rfl) (dep_of hd 7 (by kernel_rfl)) (fun _ h => by cases h)
                refine step7_call (i := 8) rfl (wanted_at (j := 5) (d := 68) (b := true) rfl (by kernel_rfl) t68) (run_op_call (vs := #[.pointer (some ⟨g, 0, none⟩), .int .i64 2, .int .i64 (q : Int)]) Try.func16 (by kernel_rfl) (by kernel_rfl) rfl (by simp only [List.map_toArray, List.map_cons, List.map_nil]; show #[a.tmps.getD 69 undef, .int .i64 2, a.tmps.getD 70 undef] = _; rw [t69, t70])) ?_
                obtain ⟨fp1, h1, h2, h3⟩ := hj
                have hl0 : (flags [8] listed).getD 0 false = false := hl
                rw [hl0, if_neg (by decide)] at h1
                refine (ydrop_any 2 (q : Int) h1).mono ?_
                rw [HD.out]
                rintro e W2 ⟨v2, fp2, rfl, he, hc, hs⟩
                obtain rfl := he.nil
                refine ⟨_, rfl, ⟨fp2, ?_, hs.below h2 h1.ge h1.base_le, trivial⟩, rfl⟩
                have e : (flags [8] (listed.setIfInBounds 8 true)).getD 0 false = true := set_self7 listed 8
                rw [e, if_pos rfl]; exact hc
              · intro listed a W H hj hl hd
                have t68 : a.tmps.getD 68 undef = .bool true := H.get 5 68 (by kernel_rfl) (dep_of hd 5 (by kernel_rfl)) (fun _ h => by cases h)
                have t71 : a.tmps.getD 71 undef = .nilIface := H.get 8 71 (by kernel_rfl) (dep_of hd 8 (by kernel_rfl)) (fun _ h => by cases h)
                exact step7_value (i := 9) rfl (wanted_at (j := 5) (d := 68) (b := true) rfl (by kernel_rfl) t68) (run_op_bin rfl t71 rfl (bin_neqE _ _)) (calm7 (fun fs vs x y => yardJ_later fs vs x y) (by kernel_rfl) (by kernel_rfl) hj (later_refl _)) rfl
              · intro listed a W H hj hl hd
                have t68 : a.tmps.getD 68 undef = .bool true := H.get 5 68 (by kernel_rfl) (dep_of hd 5 (by kernel_rfl)) (fun _ h => by cases h)
                have t72 : a.tmps.getD 72 undef = .bool false := H.get 9 72 (by kernel_rfl) (dep_of hd 9 (by kernel_rfl)) (fun _ h => by cases h)
                exact step7_value (i := 10) rfl rfl (run_op_pick rfl t68 t72) (calm7 (fun fs vs x y => yardJ_later fs vs x y) (by kernel_rfl) (by kernel_rfl) hj (later_refl _)) rfl
              · intro listed a W H hj hl hd
                have t73 : a.tmps.getD 73 undef = .bool false := H.get 10 73 (by kernel_rfl) (dep_of hd 10 (by kernel_rfl)) (fun _ h => by cases h)
                exact step7_value (i := 11) rfl rfl (run_op_move rfl t73) (calm7 (fun fs vs x y => yardJ_later fs vs x y) (by kernel_rfl) (by kernel_rfl) hj (later_refl _)) rfl
              · intro listed a W H hj hl hd
                have t74 : a.tmps.getD 74 undef = .bool false := H.get 11 74 (by kernel_rfl) (dep_of hd 11 (by kernel_rfl)) (fun _ h => by cases h)
                have t2 : a.tmps.getD 2 undef = .int .i64 x2 := (H.old 2 (by kernel_rfl)).trans rfl
                exact step7_value (i := 12) rfl (wanted_at (j := 11) (d := 74) (b := false) rfl (by kernel_rfl) t74) (run_op_move rfl t2) (calm7 (fun fs vs x y => yardJ_later fs vs x y) (by kernel_rfl) (by kernel_rfl) hj (later_refl _)) rfl
              · intro listed a W H hj hl hd
                have t74 : a.tmps.getD 74 undef = .bool false := H.get 11 74 (by kernel_rfl) (dep_of hd 11 (by kernel_rfl)) (fun _ h => by cases h)
                have t15 : a.tmps.getD 15 undef = .int .i64 (q : Int) := (H.old 15 (by kernel_rfl)).trans rfl
                exact step7_value (i := 13) rfl (wanted_at (j := 11) (d := 74) (b := false) rfl (by kernel_rfl) t74) (run_op_move rfl t15) (calm7 (fun fs vs x y => yardJ_later fs vs x y) (by kernel_rfl) (by kernel_rfl) hj (later_refl _)) rfl
              · intro listed a W H hj hl hd
                have t74 : a.tmps.getD 74 undef = .bool false := H.get 11 74 (by kernel_rfl) (dep_of hd 11 (by kernel_rfl)) (fun _ h => by cases h)
                have t75 : a.tmps.getD 75 undef = .int .i64 x2 := H.get 12 75 (by kernel_rfl) (dep_of hd 12 (by kernel_rfl)) (fun _ h => by cases h)
                have t76 : a.tmps.getD 76 undef = .int .i64 (q : Int) := H.get 13 76 (by kernel_rfl) (dep_of hd 13 (by kernel_rfl)) (fun _ h => by cases h)
                exact step7_value (i := 14) rfl (wanted_at (j := 11) (d := 74) (b := false) rfl (by kernel_rfl) t74) (run_op_bin rfl t75 t76 (bin_shr _ _ _ x2 q q63 r2 HR2.out)) (calm7 (fun fs vs x y => yardJ_later fs vs x y) (by kernel_rfl) (by kernel_rfl) hj (later_refl _)) rfl
              · intro listed a W H hj hl hd
                have t74 : a.tmps.getD 74 undef = .bool false := H.get 11 74 (by kernel_rfl) (dep_of hd 11 (by kernel_rfl)) (fun _ h => by cases h)
                have t77 : a.tmps.getD 77 undef = .int .i64 r2 := H.get 14 77 (by kernel_rfl) (dep_of hd 14 (by kernel_rfl)) (fun _ h => by cases h)
                exact step7_value (i := 15) rfl (wanted_at (j := 11) (d := 74) (b := false) rfl (by kernel_rfl) t74) (run_op_bin rfl t77 rfl (bin_and _ _ _ r2 1 0 HBT2.out)) (calm7 (fun fs vs x y => yardJ_later fs vs x y) (by kernel_rfl) (by kernel_rfl) hj (later_refl _)) rfl
              · intro listed a W H hj hl hd
                have t74 : a.tmps.getD 74 undef = .bool false := H.get 11 74 (by kernel_rfl) (dep_of hd 11 (by kernel_rfl)) (fun _ h => by cases h)
                have t78 : a.tmps.getD 78 undef = .int .i64 0 := H.get 15 78 (by kernel_rfl) (dep_of hd 15 (by kernel_rfl)) (fun _ h => by cases h)
                exact step7_value (i := 16) rfl (wanted_at (j := 11) (d := 74) (b := false) rfl (by kernel_rfl) t74) (run_op_bin rfl t78 rfl (bin_eql _ _ _ 0 1 false (by first | rfl | (simp; done) | (simp; omega) | decide))) (calm7 (fun fs vs x y => yardJ_later fs vs x y) (by kernel_rfl) (by kernel_rfl) hj (later_refl _)) rfl
              · intro listed a W H hj hl hd
                have t74 : a.tmps.getD 74 undef = .bool false := H.get 11 74 (by kernel_rfl) (dep_of hd 11 (by kernel_rfl)) (fun _ h => by cases h)
                have t79 : a.tmps.getD 79 undef = .bool false := H.get 16 79 (by kernel_rfl) (dep_of hd 16 (by kernel_rfl)) (fun _ h => by cases h)
                exact step7_value (i := 17) rfl (wanted_at (j := 11) (d := 74) (b := false) rfl (by kernel_rfl) t74) (run_op_move rfl t79) (calm7 (fun fs vs x y => yardJ_later fs vs x y) (by kernel_rfl) (by kernel_rfl) hj (later_refl _)) rfl
              · intro listed a W H hj hl hd
                have t80 : a.tmps.getD 80 undef = .bool false := H.get 17 80 (by kernel_rfl) (dep_of hd 17 (by kernel_rfl)) (fun _ h => by cases h)
                exact step7_skip (i := 18) rfl (unwanted_at (j := 17) (d := 80) (b := true) (c := false) rfl (by kernel_rfl) t80 rfl) (calm7 (fun fs vs x y => yardJ_later fs vs x y) (by kernel_rfl) (by kernel_rfl) hj (later_refl _)) rfl
              · intro listed a W H hj hl hd
                have t80 : a.tmps.getD 80 undef = .bool false := H.get 17 80 (by kernel_rfl) (dep_of hd 17 (by kernel_rfl)) (fun _ h => by cases h)
                exact step7_skip (i := 19) rfl (unwanted_at (j := 17) (d := 80) (b := true) (c := false) rfl (by kernel_rfl) t80 rfl) (calm7 (fun fs vs x y => yardJ_later fs vs x y) (by kernel_rfl) (by kernel_rfl) hj (later_refl _)) rfl
              · intro listed a W H hj hl hd
                have t80 : a.tmps.getD 80 undef = .bool false := H.get 17 80 (by kernel_rfl) (dep_of hd 17 (by kernel_rfl)) (fun _ h => by cases h)
                exact step7_skip (i := 20) rfl (unwanted_at (j := 17) (d := 80) (b := true) (c := false) rfl (by kernel_rfl) t80 rfl) (calm7 (fun fs vs x y => yardJ_later fs vs x y) (by kernel_rfl) (by kernel_rfl) hj (later_refl _)) rfl
              · intro listed a W H hj hl hd
                have t80 : a.tmps.getD 80 undef = .bool false := H.get 17 80 (by kernel_rfl) (dep_of hd 17 (by kernel_rfl)) (fun _ h => by cases h)
                exact step7_skip (i := 21) rfl (unwanted_at (j := 17) (d := 80) (b := true) (c := false) rfl (by kernel_rfl) t80 rfl) (calm7 (fun fs vs x y => yardJ_later fs vs x y) (by kernel_rfl) (by kernel_rfl) hj (later_refl _)) rfl
              · intro listed a W H hj hl hd
                have t80 : a.tmps.getD 80 undef = .bool false := H.get 17 80 (by kernel_rfl) (dep_of hd 17 (by kernel_rfl)) (fun _ h => by cases h)
                exact step7_skip (i := 22) rfl (unwanted_at (j := 17) (d := 80) (b := true) (c := false) rfl (by kernel_rfl) t80 rfl) (calm7 (fun fs vs x y => yardJ_later fs vs x y) (by kernel_rfl) (by kernel_rfl) hj (later_refl _)) rfl
              · intro listed a W H hj hl hd
                have t80 : a.tmps.getD 80 undef = .bool false := H.get 17 80 (by kernel_rfl) (dep_of hd 17 (by kernel_rfl)) (fun _ h => by cases h)
                exact step7_skip (i := 23) rfl (unwanted_at (j := 17) (d := 80) (b := true) (c := false) rfl (by kernel_rfl) t80 rfl) (calm7 (fun fs vs x y => yardJ_later fs vs x y) (by kernel_rfl) (by kernel_rfl) hj (later_refl _)) rfl
              · intro listed a W H hj hl hd
                have t80 : a.tmps.getD 80 undef = .bool false := H.get 17 80 (by kernel_rfl) (dep_of hd 17 (by kernel_rfl)) (fun _ h => by cases h)
                exact step7_skip (i := 24) rfl (unwanted_at (j := 17) (d := 80) (b := true) (c := false) rfl (by kernel_rfl) t80 rfl) (calm7 (fun fs vs x y => yardJ_later fs vs x y) (by kernel_rfl) (by kernel_rfl) hj (later_refl _)) rfl
              · intro listed a W H hj hl hd
                have t80 : a.tmps.getD 80 undef = .bool false := H.get 17 80 (by kernel_rfl) (dep_of hd 17 (by kernel_rfl)) (fun _ h => by cases h)
                exact step7_skip (i := 25) rfl (unwanted_at (j := 17) (d := 80) (b := true) (c := false) rfl (by kernel_rfl) t80 rfl) (calm7 (fun fs vs x y => yardJ_later fs vs x y) (by kernel_rfl) (by kernel_rfl) hj (later_refl _)) rfl
              · intro listed a W H hj hl hd
                have t80 : a.tmps.getD 80 undef = .bool false := H.get 17 80 (by kernel_rfl) (dep_of hd 17 (by kernel_rfl)) (fun _ h => by cases h)
                exact step7_skip (i := 26) rfl (unwanted_at (j := 17) (d := 80) (b := true) (c := false) rfl (by kernel_rfl) t80 rfl) (calm7 (fun fs vs x y => yardJ_later fs vs x y) (by kernel_rfl) (by kernel_rfl) hj (later_refl _)) rfl
              · intro listed a W H hj hl hd
                have t80 : a.tmps.getD 80 undef = .bool false := H.get 17 80 (by kernel_rfl) (dep_of hd 17 (by kernel_rfl)) (fun _ h => by cases h)
                exact step7_skip (i := 27) rfl (unwanted_at (j := 17) (d := 80) (b := true) (c := false) rfl (by kernel_rfl) t80 rfl) (calm7 (fun fs vs x y => yardJ_later fs vs x y) (by kernel_rfl) (by kernel_rfl) hj (later_refl _)) rfl
              · intro listed a W H hj hl hd
                have t74 : a.tmps.getD 74 undef = .bool false := H.get 11 74 (by kernel_rfl) (dep_of hd 11 (by kernel_rfl)) (fun _ h => by cases h)
                have t80 : a.tmps.getD 80 undef = .bool false := H.get 17 80 (by kernel_rfl) (dep_of hd 17 (by kernel_rfl)) (fun _ h => by cases h)
                exact step7_value (i := 28) rfl (wanted_at (j := 11) (d := 74) (b := false) rfl (by kernel_rfl) t74) (run_op_pickF rfl t80 rfl) (calm7 (fun fs vs x y => yardJ_later fs vs x y) (by kernel_rfl) (by kernel_rfl) hj (later_refl _)) rfl
              · intro listed a W H hj hl hd
                have t74 : a.tmps.getD 74 undef = .bool false := H.get 11 74 (by kernel_rfl) (dep_of hd 11 (by kernel_rfl)) (fun _ h => by cases h)
                have t91 : a.tmps.getD 91 undef = .bool false := H.get 28 91 (by kernel_rfl) (dep_of hd 28 (by kernel_rfl)) (fun _ h => by cases h)
                exact step7_value (i := 29) rfl rfl (run_op_pickF rfl t74 t91) (calm7 (fun fs vs x y => yardJ_later fs vs x y) (by kernel_rfl) (by kernel_rfl) hj (later_refl _)) rfl
            · intro a WC hdef hsz hw hall hact
              obtain ⟨u, hu⟩ : ∃ u : Nat → Value, ∀ k, a.tmps.getD k undef = u k := ⟨_, fun _ => rfl⟩
              have h92 : u 92 = .bool false := by rw [← hu]; exact hall 29 _ rfl
              simp only [hu] at hact
              have hact' : a = ([63, 64, 65, 66, 67, 68, 69, 70, 71, 72, 73, 74, 75, 76, 77, 78, 79, 80, 81, 82, 83, 84, 85, 86, 87, 88, 89, 90, 91, 92] : List Nat).foldl (fun b k => b.put (some k) (u k)) _ := hact
              simp only [List.foldl] at hact'
              simp only [Act.put, List.setIfInBounds_toArray, List.set_cons_succ, List.set_cons_zero] at hact'
              have HAC := Lib.hid hact'
              have HX := Lib.hid hw
              clear hact hact' hall hdef hsz hw
              rw [h92] at HAC
              rw [HAC.out]
              obtain ⟨fpX, c1, c2, c3⟩ := HX.out
              have c1' : YardAt WC w.heap.size fpX g s2 := c1
              have HC2 := Lib.hid c1'
              have HB2 := Lib.hid c2
              clear c1 c1' c2 c3 HX HC HB CD SD HDL HWD
              rw [← HS2.out] at HC2
              go_wp2_with (simp only [HR1.out, HR2.out, HR3.out, HBT1.out, HBT2.out, HBT3.out])
              go_roundw
              case rel => exact ⟨q + 1, fpX, by rw [HMU.out]; simp, by rw [HLU.out]; simp, by go_num, by omega, HC2, HB2⟩
              case measure => simp [intOf]; omega
          · skip
            obtain rfl : β3 = 1 := hβ3
            obtain rfl : β2 = 1 := hβ2
            obtain rfl : β1 = 0 := hβ1
            have HB2_ := HB2
            obtain ⟨s2, HS2⟩ : ∃ s, Hid (lvY 3 2 p 2 p (fW x3 (q + 1)) (dW x1 x2 x3 (q + 1)) = s) := ⟨_, rfl⟩
            have HD : Hid (dropY sp 2 q = (s2, 0)) := by show _ = _; rw [← HSP.out, ← HS2.out, ← fW_up HB3.out, ← dW_up (x1 := x1) (show (bt x3 q || bt x2 q) = true by rw [HB3.out]; rfl)]; exact lv_drop (by omega) (by decide) hltq (by unfold fW; simp)
            have HW : Hid (washY s2 2 q = (s2, 8)) := by show _ = _; rw [← HS2.out]; exact lv_wash_no (by omega) (by decide) hltq (by unfold fW; rw [HB3.out]; simp)
            refine region_of_steps7 (by kernel_rfl) [some (.int .i64 x3), some (.int .i64 (q : Int)), some (.int .i64 r3), some (.int .i64 1), some (.bool true), some (.bool true), some (.pointer (some ⟨g, 0, none⟩)), some (.int .i64 (q : Int)), some (.nilIface), some (.bool false), some (.bool false), some (.bool false), some (.int .i64 x2), some (.int .i64 (q : Int)), some (.int .i64 r2), some (.int .i64 1), some (.bool true), some (.bool true), some (.pointer (some ⟨g, 0, none⟩)), some (.int .i64 (q : Int)), none, some (.bool false), some (.int .i64 x3), some (.int .i64 (q : Int)), some (.int .i64 r3), some (.int .i64 1), some (.bool false), some (.bool false), some (.bool false), some (.bool false)] [8, 20] [83] (YardJ w w.heap.size g sp s2 (fun fs vs => fs.getD 1 false = true → ∃ x, vs.getD 0 undef = .iface 79 x)) (by kernel_rfl) (by kernel_rfl) (by rw [← HWD.out]; exact ⟨fp, CD.out, SD.out, fun h => by cases h⟩) ?_ ?_
            · refine Steps7.cons ?_ (Steps7.cons ?_ (Steps7.cons ?_ (Steps7.cons ?_ (Steps7.cons ?_ (Steps7.cons ?_ (Steps7.cons ?_ (Steps7.cons ?_ (Steps7.cons ?_ (Steps7.cons ?_ (Steps7.cons ?_ (Steps7.cons ?_ (Steps7.cons ?_ (Steps7.cons ?_ (Steps7.cons ?_ (Steps7.cons ?_ (Steps7.cons ?_ (Steps7.cons ?_ (Steps7.cons ?_ (Steps7.cons ?_ (Steps7.cons ?_ (Steps7.cons ?_ (Steps7.cons ?_ (Steps7.cons ?_ (Steps7.cons ?_ (Steps7.cons ?_ (Steps7.cons ?_ (Steps7.cons ?_ (Steps7.cons ?_ (Steps7.cons ?_ (Steps7.nil))))))))))))))))))))))))))))))
              · intro listed a W H hj hl hd
                have t3 : a.tmps.getD 3 undef = .int .i64 x3 := (H.old 3 (by kernel_rfl)).trans rfl
                exact step7_value (i := 0) rfl rfl (run_op_move rfl t3) (calm7 (fun fs vs x y => yardJ_later fs vs x y) (by kernel_rfl) (by kernel_rfl) hj (later_refl _)) rfl
              · intro listed a W H hj hl hd
                have t15 : a.tmps.getD 15 undef = .int .i64 (q : Int) := (H.old 15 (by kernel_rfl)).trans rfl
                exact step7_value (i := 1) rfl rfl (run_op_move rfl t15) (calm7 (fun fs vs x y => yardJ_later fs vs x y) (by kernel_rfl) (by kernel_rfl) hj (later_refl _)) rfl
              · intro listed a W H hj hl hd
                have t63 : a.tmps.getD 63 undef = .int .i64 x3 := H.get 0 63 (by kernel_rfl) (dep_of hd 0 (by kernel_rfl)) (fun _ h => by cases h)
                have t64 : a.tmps.getD 64 undef = .int .i64 (q : Int) := H.get 1 64 (by kernel_rfl) (dep_of hd 1 (by kernel_rfl)) (fun _ h => by cases h)
                exact step7_value (i := 2) rfl rfl (run_op_bin rfl t63 t64 (bin_shr _ _ _ x3 q q63 r3 HR3.out)) (calm7 (fun fs vs x y => yardJ_later fs vs x y) (by kernel_rfl) (by kernel_rfl) hj (later_refl _)) rfl
              · intro listed a W H hj hl hd
                have t65 : a.tmps.getD 65 undef = .int .i64 r3 := H.get 2 65 (by kernel_rfl) (dep_of hd 2 (by kernel_rfl)) (fun _ h => by cases h)
                exact step7_value (i := 3) rfl rfl (run_op_bin rfl t65 rfl (bin_and _ _ _ r3 1 1 HBT3.out)) (calm7 (fun fs vs x y => yardJ_later fs vs x y) (by kernel_rfl) (by kernel_rfl) hj (later_refl _)) rfl
              · intro listed a W H hj hl hd
                have t66 : a.tmps.getD 66 undef = .int .i64 1 := H.get 3 66 (by kernel_rfl) (dep_of hd 3 (by kernel_rfl)) (fun _ h => by cases h)
                exact step7_value (i := 4) rfl rfl (run_op_bin rfl t66 rfl (bin_eql _ _ _ 1 1 true (by first | rfl | (simp; done) | (simp; omega) | decide))) (calm7 (fun fs vs x y => yardJ_later fs vs x y) (by kernel_rfl) (by kernel_rfl) hj (later_refl _)) rfl
              · intro listed a W H hj hl hd
                have t67 : a.tmps.getD 67 undef = .bool true := H.get 4 67 (by kernel_rfl) (dep_of hd 4 (by kernel_rfl)) (fun _ h => by cases h)
                exact step7_value (i := 5) rfl rfl (run_op_move rfl t67) (calm7 (fun fs vs x y => yardJ_later fs vs x y) (by kernel_rfl) (by kernel_rfl) hj (later_refl _)) rfl
              · intro listed a W H hj hl hd
                have t68 : a.tmps.getD 68 undef = .bool true := H.get 5 68 (by kernel_rfl) (dep_of hd 5 (by kernel_rfl)) (fun _ h => by cases h)
                have t9 : a.tmps.getD 9 undef = .pointer (some ⟨g, 0, none⟩) := (H.old 9 (by kernel_rfl)).trans rfl
                exact step7_value (i := 6) rfl (wanted_at (j := 5) (d := 68) (b := true) rfl (by kernel_rfl) t68) (run_op_move rfl t9) (calm7 (fun fs vs x y => yardJ_later fs vs x y) (by kernel_rfl) (by kernel_rfl) hj (later_refl _)) rfl
              · intro listed a W H hj hl hd
                have t68 : a.tmps.getD 68 undef = .bool true := H.get 5 68 (by kernel_rfl) (dep_of hd 5 (by kernel_rfl)) (fun _ h => by cases h)
                have t15 : a.tmps.getD 15 undef = .int .i64 (q : Int) := (H.old 15 (by kernel_rfl)).trans rfl
                exact step7_value (i := 7) rfl (wanted_at (j := 5) (d := 68) (b := true) rfl (by kernel_rfl) t68) (run_op_move rfl t15) (calm7 (fun fs vs x y => yardJ_later fs vs x y) (by kernel_rfl) (by kernel_rfl) hj (later_refl _)) rfl
              · intro listed a W H hj hl hd
                have t68 : a.tmps.getD 68 undef = .bool true := H.get 5 68 (by kernel_rfl) (dep_of hd 5 (by kernel_rfl)) (fun _ h => by cases h)
                have t69 : a.tmps.getD 69 undef = .pointer (some ⟨g, 0, none⟩) := H.get 6 69 (by kernel_rfl) (dep_of hd 6 (by kernel_rfl)) (fun _ h => by cases h)
                have t70 : a.tmps.getD 70 undef = .int .i64 (q : Int) := H.get 7 70 (by kernel_rfl) (dep_of hd 7 (by kernel_rfl)) (fun _ h => by cases h)
                refine step7_call (i := 8) rfl (wanted_at (j := 5) (d := 68) (b := true) rfl (by kernel_rfl) t68) (run_op_call (vs := #[.pointer (some ⟨g, 0, none⟩), .int .i64 2, .int .i64 (q : Int)]) Try.func16 (by kernel_rfl) (by kernel_rfl) rfl (by simp only [List.map_toArray, List.map_cons, List.map_nil]; show #[a.tmps.getD 69 undef, .int .i64 2, a.tmps.getD 70 undef] = _; rw [t69, t70])) ?_
                have e2 : slots [83] (a.put (some 71) .nilIface) = slots [83] a := slots_put (fun k e => by cases e; rfl)
                have e3 : (flags [8, 20] (listed.setIfInBounds 8 true)).getD 1 false = (flags [8, 20] listed).getD 1 false := getD_set_ne true (by decide)
                obtain ⟨fp1, h1, h2, h3⟩ := hj
                have hl0 : (flags [8, 20] listed).getD 0 false = false := hl
                rw [hl0, if_neg (by decide)] at h1
                refine (ydrop_any 2 (q : Int) h1).mono ?_
                rw [HD.out]
                rintro e W2 ⟨v2, fp2, rfl, he, hc, hs⟩
                obtain rfl := he.nil
                refine ⟨_, rfl, ⟨fp2, ?_, hs.below h2 h1.ge h1.base_le, fun h => by have k := h3 (e3.symm.trans h); rw [← e2] at k; exact k⟩, rfl⟩
                have e : (flags [8, 20] (listed.setIfInBounds 8 true)).getD 0 false = true := set_self7 listed 8
                rw [e, if_pos rfl]; exact hc
              · intro listed a W H hj hl hd
                have t68 : a.tmps.getD 68 undef = .bool true := H.get 5 68 (by kernel_rfl) (dep_of hd 5 (by kernel_rfl)) (fun _ h => by cases h)
                have t71 : a.tmps.getD 71 undef = .nilIface := H.get 8 71 (by kernel_rfl) (dep_of hd 8 (by kernel_rfl)) (fun _ h => by cases h)
                exact step7_value (i := 9) rfl (wanted_at (j := 5) (d := 68) (b := true) rfl (by kernel_rfl) t68) (run_op_bin rfl t71 rfl (bin_neqE _ _)) (calm7 (fun fs vs x y => yardJ_later fs vs x y) (by kernel_rfl) (by kernel_rfl) hj (later_refl _)) rfl
              · intro listed a W H hj hl hd
                have t68 : a.tmps.getD 68 undef = .bool true := H.get 5 68 (by kernel_rfl) (dep_of hd 5 (by kernel_rfl)) (fun _ h => by cases h)
                have t72 : a.tmps.getD 72 undef = .bool false := H.get 9 72 (by kernel_rfl) (dep_of hd 9 (by kernel_rfl)) (fun _ h => by cases h)
                exact step7_value (i := 10) rfl rfl (run_op_pick rfl t68 t72) (calm7 (fun fs vs x y => yardJ_later fs vs x y) (by kernel_rfl) (by kernel_rfl) hj (later_refl _)) rfl
              · intro listed a W H hj hl hd
                have t73 : a.tmps.getD 73 undef = .bool false := H.get 10 73 (by kernel_rfl) (dep_of hd 10 (by kernel_rfl)) (fun _ h => by cases h)
                exact step7_value (i := 11) rfl rfl (run_op_move rfl t73) (calm7 (fun fs vs x y => yardJ_later fs vs x y) (by kernel_rfl) (by kernel_rfl) hj (later_refl _)) rfl
              · intro listed a W H hj hl hd
                have t74 : a.tmps.getD 74 undef = .bool false := H.get 11 74 (by kernel_rfl) (dep_of hd 11 (by kernel_rfl)) (fun _ h => by cases h)
                have t2 : a.tmps.getD 2 undef = .int .i64 x2 := (H.old 2 (by kernel_rfl)).trans rfl
                exact step7_value (i := 12) rfl (wanted_at (j := 11) (d := 74) (b := false) rfl (by kernel_rfl) t74) (run_op_move rfl t2) (calm7 (fun fs vs x y => yardJ_later fs vs x y) (by kernel_rfl) (by kernel_rfl) hj (later_refl _)) rfl
              · intro listed a W H hj hl hd
                have t74 : a.tmps.getD 74 undef = .bool false := H.get 11 74 (by kernel_rfl) (dep_of hd 11 (by kernel_rfl)) (fun _ h => by cases h)
                have t15 : a.tmps.getD 15 undef = .int .i64 (q : Int) := (H.old 15 (by kernel_rfl)).trans rfl
                exact step7_value (i := 13) rfl (wanted_at (j := 11) (d := 74) (b := false) rfl (by kernel_rfl) t74) (run_op_move rfl t15) (calm7 (fun fs vs x y => yardJ_later fs vs x y) (by kernel_rfl) (by kernel_rfl) hj (later_refl _)) rfl
              · intro listed a W H hj hl hd
                have t74 : a.tmps.getD 74 undef = .bool false := H.get 11 74 (by kernel_rfl) (dep_of hd 11 (by kernel_rfl)) (fun _ h => by cases h)
                have t75 : a.tmps.getD 75 undef = .int .i64 x2 := H.get 12 75 (by kernel_rfl) (dep_of hd 12 (by kernel_rfl)) (fun _ h => by cases h)
                have t76 : a.tmps.getD 76 undef = .int .i64 (q : Int) := H.get 13 76 (by kernel_rfl) (dep_of hd 13 (by kernel_rfl)) (fun _ h => by cases h)
                exact step7_value (i := 14) rfl (wanted_at (j := 11) (d := 74) (b := false) rfl (by kernel_rfl) t74) (run_op_bin rfl t75 t76 (bin_shr _ _ _ x2 q q63 r2 HR2.out)) (calm7 (fun fs vs x y => yardJ_later fs vs x y) (by kernel_rfl) (by kernel_rfl) hj (later_refl _)) rfl
              · intro listed a W H hj hl hd
                have t74 : a.tmps.getD 74 undef = .bool false := H.get 11 74 (by kernel_rfl) (dep_of hd 11 (by kernel_rfl)) (fun _ h => by cases h)
                have t77 : a.tmps.getD 77 undef = .int .i64 r2 := H.get 14 77 (by kernel_rfl) (dep_of hd 14 (by kernel_rfl)) (fun _ h => by cases h)
                exact step7_value (i := 15) rfl (wanted_at (j := 11) (d := 74) (b := false) rfl (by kernel_rfl) t74) (run_op_bin rfl t77 rfl (bin_and _ _ _ r2 1 1 HBT2.out)) (calm7 (fun fs vs x y => yardJ_later fs vs x y) (by kernel_rfl) (by kernel_rfl) hj (later_refl _)) rfl
              · intro listed a W H hj hl hd
                have t74 : a.tmps.getD 74 undef = .bool false := H.get 11 74 (by kernel_rfl) (dep_of hd 11 (by kernel_rfl)) (fun _ h => by cases h)
                have t78 : a.tmps.getD 78 undef = .int .i64 1 := H.get 15 78 (by kernel_rfl) (dep_of hd 15 (by kernel_rfl)) (fun _ h => by cases h)
                exact step7_value (i := 16) rfl (wanted_at (j := 11) (d := 74) (b := false) rfl (by kernel_rfl) t74) (run_op_bin rfl t78 rfl (bin_eql _ _ _ 1 1 true (by first | rfl | (simp; done) | (simp; omega) | decide))) (calm7 (fun fs vs x y => yardJ_later fs vs x y) (by kernel_rfl) (by kernel_rfl) hj (later_refl _)) rfl
              · intro listed a W H hj hl hd
                have t74 : a.tmps.getD 74 undef = .bool false := H.get 11 74 (by kernel_rfl) (dep_of hd 11 (by kernel_rfl)) (fun _ h => by cases h)
                have t79 : a.tmps.getD 79 undef = .bool true := H.get 16 79 (by kernel_rfl) (dep_of hd 16 (by kernel_rfl)) (fun _ h => by cases h)
                exact step7_value (i := 17) rfl (wanted_at (j := 11) (d := 74) (b := false) rfl (by kernel_rfl) t74) (run_op_move rfl t79) (calm7 (fun fs vs x y => yardJ_later fs vs x y) (by kernel_rfl) (by kernel_rfl) hj (later_refl _)) rfl
              · intro listed a W H hj hl hd
                have t80 : a.tmps.getD 80 undef = .bool true := H.get 17 80 (by kernel_rfl) (dep_of hd 17 (by kernel_rfl)) (fun _ h => by cases h)
                have t9 : a.tmps.getD 9 undef = .pointer (some ⟨g, 0, none⟩) := (H.old 9 (by kernel_rfl)).trans rfl
                exact step7_value (i := 18) rfl (wanted_at (j := 17) (d := 80) (b := true) rfl (by kernel_rfl) t80) (run_op_move rfl t9) (calm7 (fun fs vs x y => yardJ_later fs vs x y) (by kernel_rfl) (by kernel_rfl) hj (later_refl _)) rfl
              · intro listed a W H hj hl hd
                have t80 : a.tmps.getD 80 undef = .bool true := H.get 17 80 (by kernel_rfl) (dep_of hd 17 (by kernel_rfl)) (fun _ h => by cases h)
                have t15 : a.tmps.getD 15 undef = .int .i64 (q : Int) := (H.old 15 (by kernel_rfl)).trans rfl
                exact step7_value (i := 19) rfl (wanted_at (j := 17) (d := 80) (b := true) rfl (by kernel_rfl) t80) (run_op_move rfl t15) (calm7 (fun fs vs x y => yardJ_later fs vs x y) (by kernel_rfl) (by kernel_rfl) hj (later_refl _)) rfl
              · intro listed a W H hj hl hd
                have t80 : a.tmps.getD 80 undef = .bool true := H.get 17 80 (by kernel_rfl) (dep_of hd 17 (by kernel_rfl)) (fun _ h => by cases h)
                have t81 : a.tmps.getD 81 undef = .pointer (some ⟨g, 0, none⟩) := H.get 18 81 (by kernel_rfl) (dep_of hd 18 (by kernel_rfl)) (fun _ h => by cases h)
                have t82 : a.tmps.getD 82 undef = .int .i64 (q : Int) := H.get 19 82 (by kernel_rfl) (dep_of hd 19 (by kernel_rfl)) (fun _ h => by cases h)
                refine step7_call (i := 20) rfl (wanted_at (j := 17) (d := 80) (b := true) rfl (by kernel_rfl) t80) (run_op_call (vs := #[.pointer (some ⟨g, 0, none⟩), .int .i64 2, .int .i64 (q : Int)]) Try.func24 (by kernel_rfl) (by kernel_rfl) rfl (by simp only [List.map_toArray, List.map_cons, List.map_nil]; show #[a.tmps.getD 81 undef, .int .i64 2, a.tmps.getD 82 undef] = _; rw [t81, t82])) ?_
                obtain ⟨fp1, h1, h2, h3⟩ := hj
                have h8 : listed.getD 8 false = true := H.dones 12 (dep_of hd 17 (by kernel_rfl)) (by kernel_rfl)
                have hf0 : (flags [8, 20] listed).getD 0 false = true := done_true h8
                rw [hf0, if_pos rfl] at h1
                refine (ywash_any 2 (q : Int) h1).mono ?_
                rw [HW.out]
                rintro e W2 ⟨v2, fp2, rfl, he, hc, hs⟩
                obtain ⟨xx, rfl⟩ := (he.wrong (show (8 : Int) ≠ 0 by decide)).ne
                refine ⟨_, rfl, ⟨fp2, ?_, hs.below h2 h1.ge h1.base_le, fun _ => ⟨xx, ?_⟩⟩, trivial⟩
                · have e : (flags [8, 20] (listed.setIfInBounds 20 true)).getD 0 false = (flags [8, 20] listed).getD 0 false := getD_set_ne true (by decide)
                  rw [e, hf0, if_pos rfl]; exact hc
                · exact put_self7 a 83 _ (by rw [H.size]; exact of_decide_eq_true (by kernel_rfl))
              · intro listed a W H hj hl hd
                have t80 : a.tmps.getD 80 undef = .bool true := H.get 17 80 (by kernel_rfl) (dep_of hd 17 (by kernel_rfl)) (fun _ h => by cases h)
                have d83 : listed.getD 20 false = true := dep_of hd 20 (by kernel_rfl)
                obtain ⟨fp1, h1, h2, h3⟩ := hj
                obtain ⟨xx, hxx⟩ := h3 (done_true (dep_of hd 20 (by kernel_rfl)))
                have t83 : a.tmps.getD 83 undef = .iface 79 xx := hxx
                exact step7_value (i := 21) rfl (wanted_at (j := 17) (d := 80) (b := true) rfl (by kernel_rfl) t80) (run_op_bin rfl t83 rfl (bin_eqlX _ _ _ _ _)) (calm7 (fun fs vs x y => yardJ_later fs vs x y) (by kernel_rfl) (by kernel_rfl) ⟨fp1, h1, h2, h3⟩ (later_refl _)) rfl
              · intro listed a W H hj hl hd
                have t80 : a.tmps.getD 80 undef = .bool true := H.get 17 80 (by kernel_rfl) (dep_of hd 17 (by kernel_rfl)) (fun _ h => by cases h)
                have t3 : a.tmps.getD 3 undef = .int .i64 x3 := (H.old 3 (by kernel_rfl)).trans rfl
                exact step7_value (i := 22) rfl (wanted_at (j := 17) (d := 80) (b := true) rfl (by kernel_rfl) t80) (run_op_move rfl t3) (calm7 (fun fs vs x y => yardJ_later fs vs x y) (by kernel_rfl) (by kernel_rfl) hj (later_refl _)) rfl
              · intro listed a W H hj hl hd
                have t80 : a.tmps.getD 80 undef = .bool true := H.get 17 80 (by kernel_rfl) (dep_of hd 17 (by kernel_rfl)) (fun _ h => by cases h)
                have t15 : a.tmps.getD 15 undef = .int .i64 (q : Int) := (H.old 15 (by kernel_rfl)).trans rfl
                exact step7_value (i := 23) rfl (wanted_at (j := 17) (d := 80) (b := true) rfl (by kernel_rfl) t80) (run_op_move rfl t15) (calm7 (fun fs vs x y => yardJ_later fs vs x y) (by kernel_rfl) (by kernel_rfl) hj (later_refl _)) rfl
              · intro listed a W H hj hl hd
                have t80 : a.tmps.getD 80 undef = .bool true := H.get 17 80 (by kernel_rfl) (dep_of hd 17 (by kernel_rfl)) (fun _ h => by cases h)
                have t85 : a.tmps.getD 85 undef = .int .i64 x3 := H.get 22 85 (by kernel_rfl) (dep_of hd 22 (by kernel_rfl)) (fun _ h => by cases h)
                have t86 : a.tmps.getD 86 undef = .int .i64 (q : Int) := H.get 23 86 (by kernel_rfl) (dep_of hd 23 (by kernel_rfl)) (fun _ h => by cases h)
                exact step7_value (i := 24) rfl (wanted_at (j := 17) (d := 80) (b := true) rfl (by kernel_rfl) t80) (run_op_bin rfl t85 t86 (bin_shr _ _ _ x3 q q63 r3 HR3.out)) (calm7 (fun fs vs x y => yardJ_later fs vs x y) (by kernel_rfl) (by kernel_rfl) hj (later_refl _)) rfl
              · intro listed a W H hj hl hd
                have t80 : a.tmps.getD 80 undef = .bool true := H.get 17 80 (by kernel_rfl) (dep_of hd 17 (by kernel_rfl)) (fun _ h => by cases h)
                have t87 : a.tmps.getD 87 undef = .int .i64 r3 := H.get 24 87 (by kernel_rfl) (dep_of hd 24 (by kernel_rfl)) (fun _ h => by cases h)
                exact step7_value (i := 25) rfl (wanted_at (j := 17) (d := 80) (b := true) rfl (by kernel_rfl) t80) (run_op_bin rfl t87 rfl (bin_and _ _ _ r3 1 1 HBT3.out)) (calm7 (fun fs vs x y => yardJ_later fs vs x y) (by kernel_rfl) (by kernel_rfl) hj (later_refl _)) rfl
              · intro listed a W H hj hl hd
                have t80 : a.tmps.getD 80 undef = .bool true := H.get 17 80 (by kernel_rfl) (dep_of hd 17 (by kernel_rfl)) (fun _ h => by cases h)
                have t88 : a.tmps.getD 88 undef = .int .i64 1 := H.get 25 88 (by kernel_rfl) (dep_of hd 25 (by kernel_rfl)) (fun _ h => by cases h)
                exact step7_value (i := 26) rfl (wanted_at (j := 17) (d := 80) (b := true) rfl (by kernel_rfl) t80) (run_op_bin rfl t88 rfl (bin_eql _ _ _ 1 0 false (by first | rfl | (simp; done) | (simp; omega) | decide))) (calm7 (fun fs vs x y => yardJ_later fs vs x y) (by kernel_rfl) (by kernel_rfl) hj (later_refl _)) rfl
              · intro listed a W H hj hl hd
                have t80 : a.tmps.getD 80 undef = .bool true := H.get 17 80 (by kernel_rfl) (dep_of hd 17 (by kernel_rfl)) (fun _ h => by cases h)
                have t84 : a.tmps.getD 84 undef = .bool false := H.get 21 84 (by kernel_rfl) (dep_of hd 21 (by kernel_rfl)) (fun _ h => by cases h)
                have t89 : a.tmps.getD 89 undef = .bool false := H.get 26 89 (by kernel_rfl) (dep_of hd 26 (by kernel_rfl)) (fun _ h => by cases h)
                exact step7_value (i := 27) rfl (wanted_at (j := 17) (d := 80) (b := true) rfl (by kernel_rfl) t80) (run_op_bin rfl t84 t89 (bin_neqB _ _ _ false false false (by first | rfl | (simp; done) | (simp; omega) | decide))) (calm7 (fun fs vs x y => yardJ_later fs vs x y) (by kernel_rfl) (by kernel_rfl) hj (later_refl _)) rfl
              · intro listed a W H hj hl hd
                have t74 : a.tmps.getD 74 undef = .bool false := H.get 11 74 (by kernel_rfl) (dep_of hd 11 (by kernel_rfl)) (fun _ h => by cases h)
                have t80 : a.tmps.getD 80 undef = .bool true := H.get 17 80 (by kernel_rfl) (dep_of hd 17 (by kernel_rfl)) (fun _ h => by cases h)
                have t90 : a.tmps.getD 90 undef = .bool false := H.get 27 90 (by kernel_rfl) (dep_of hd 27 (by kernel_rfl)) (fun _ h => by cases h)
                exact step7_value (i := 28) rfl (wanted_at (j := 11) (d := 74) (b := false) rfl (by kernel_rfl) t74) (run_op_pick rfl t80 t90) (calm7 (fun fs vs x y => yardJ_later fs vs x y) (by kernel_rfl) (by kernel_rfl) hj (later_refl _)) rfl
              · intro listed a W H hj hl hd
                have t74 : a.tmps.getD 74 undef = .bool false := H.get 11 74 (by kernel_rfl) (dep_of hd 11 (by kernel_rfl)) (fun _ h => by cases h)
                have t91 : a.tmps.getD 91 undef = .bool false := H.get 28 91 (by kernel_rfl) (dep_of hd 28 (by kernel_rfl)) (fun _ h => by cases h)
                exact step7_value (i := 29) rfl rfl (run_op_pickF rfl t74 t91) (calm7 (fun fs vs x y => yardJ_later fs vs x y) (by kernel_rfl) (by kernel_rfl) hj (later_refl _)) rfl
            · intro a WC hdef hsz hw hall hact
              obtain ⟨u, hu⟩ : ∃ u : Nat → Value, ∀ k, a.tmps.getD k undef = u k := ⟨_, fun _ => rfl⟩
              have h92 : u 92 = .bool false := by rw [← hu]; exact hall 29 _ rfl
              simp only [hu] at hact
              have hact' : a = ([63, 64, 65, 66, 67, 68, 69, 70, 71, 72, 73, 74, 75, 76, 77, 78, 79, 80, 81, 82, 83, 84, 85, 86, 87, 88, 89, 90, 91, 92] : List Nat).foldl (fun b k => b.put (some k) (u k)) _ := hact
              simp only [List.foldl] at hact'
              simp only [Act.put, List.setIfInBounds_toArray, List.set_cons_succ, List.set_cons_zero] at hact'
              have HAC := Lib.hid hact'
              have HX := Lib.hid hw
              clear hact hact' hall hdef hsz hw
              rw [h92] at HAC
              rw [HAC.out]
              obtain ⟨fpX, c1, c2, c3⟩ := HX.out
              have c1' : YardAt WC w.heap.size fpX g s2 := c1
              have HC2 := Lib.hid c1'
              have HB2 := Lib.hid c2
              clear c1 c1' c2 c3 HX HC HB CD SD HDL HWD
              rw [← HS2.out] at HC2
              go_wp2_with (simp only [HR1.out, HR2.out, HR3.out, HBT1.out, HBT2.out, HBT3.out])
              go_roundw
              case rel => exact ⟨q + 1, fpX, by rw [HMU.out]; simp, by rw [HLU.out]; simp, by go_num, by omega, HC2, HB2⟩
              case measure => simp [intOf]; omega
          · skip
            obtain rfl : β3 = 1 := hβ3
            obtain rfl : β2 = 1 := hβ2
            obtain rfl : β1 = 1 := hβ1
            have HB2_ := HB2
            obtain ⟨s2, HS2⟩ : ∃ s, Hid (lvY 3 2 p 2 p (fW x3 (q + 1)) (dW x1 x2 x3 (q + 1)) = s) := ⟨_, rfl⟩
            have HD : Hid (dropY sp 2 q = (s2, 0)) := by show _ = _; rw [← HSP.out, ← HS2.out, ← fW_up HB3.out, ← dW_up (x1 := x1) (show (bt x3 q || bt x2 q) = true by rw [HB3.out]; rfl)]; exact lv_drop (by omega) (by decide) hltq (by unfold fW; simp)
            have HW : Hid (washY s2 2 q = (s2, 8)) := by show _ = _; rw [← HS2.out]; exact lv_wash_no (by omega) (by decide) hltq (by unfold fW; rw [HB3.out]; simp)
            refine region_of_steps7 (by kernel_rfl) [some (.int .i64 x3), some (.int .i64 (q : Int)), some (.int .i64 r3), some (.int .i64 1), some (.bool true), some (.bool true), some (.pointer (some ⟨g, 0, none⟩)), some (.int .i64 (q : Int)), some (.nilIface), some (.bool false), some (.bool false), some (.bool false), some (.int .i64 x2), some (.int .i64 (q : Int)), some (.int .i64 r2), some (.int .i64 1), some (.bool true), some (.bool true), some (.pointer (some ⟨g, 0, none⟩)), some (.int .i64 (q : Int)), none, some (.bool false), some (.int .i64 x3), some (.int .i64 (q : Int)), some (.int .i64 r3), some (.int .i64 1), some (.bool false), some (.bool false), some (.bool false), some (.bool false)] [8, 20] [83] (YardJ w w.heap.size g sp s2 (fun fs vs => fs.getD 1 false = true → ∃ x, vs.getD 0 undef = .iface 79 x)) (by kernel_rfl) (by kernel_rfl) (by rw [← HWD.out]; exact ⟨fp, CD.out, SD.out, fun h => by cases h⟩) ?_ ?_
            · refine Steps7.cons ?_ (Steps7.cons ?_ (Steps7.cons ?_ (Steps7.cons ?_ (Steps7.cons ?_ (Steps7.cons ?_ (Steps7.cons ?_ (Steps7.cons ?_ (Steps7.cons ?_ (Steps7.cons ?_ (Steps7.cons ?_ (Steps7.cons ?_ (Steps7.cons ?_ (Steps7.cons ?_ (Steps7.cons ?_ (Steps7.cons ?_ (Steps7.cons ?_ (Steps7.cons ?_ (Steps7.cons ?_ (Steps7.cons ?_ (Steps7.cons ?_ (Steps7.cons ?_ (Steps7.cons ?_ (Steps7.cons ?_ (Steps7.cons ?_ (Steps7.cons ?_ (Steps7.cons ?_ (Steps7.cons ?_ (Steps7.cons ?_ (Steps7.cons ?_ (Steps7.nil))))))))))))))))))))))))))))))
              · intro listed a W H hj hl hd
                have t3 : a.tmps.getD 3 undef = .int .i64 x3 := (H.old 3 (by kernel_rfl)).trans rfl
                exact step7_value (i := 0) rfl rfl (run_op_move rfl t3) (calm7 (fun fs vs x y => yardJ_later fs vs x y) (by kernel_rfl) (by kernel_rfl) hj (later_refl _)) rfl
              · intro listed a W H hj hl hd
                have t15 : a.tmps.getD 15 undef = .int .i64 (q : Int) := (H.old 15 (by kernel_rfl)).trans rfl
                exact step7_value (i := 1) rfl rfl (run_op_move rfl t15) (calm7 (fun fs vs x y => yardJ_later fs vs x y) (by kernel_rfl) (by kernel_rfl) hj (later_refl _)) rfl
              · intro listed a W H hj hl hd
                have t63 : a.tmps.getD 63 undef = .int .i64 x3 := H.get 0 63 (by kernel_rfl) (dep_of hd 0 (by kernel_rfl)) (fun _ h => by cases h)
                have t64 : a.tmps.getD 64 undef = .int .i64 (q : Int) := H.get 1 64 (by kernel_rfl) (dep_of hd 1 (by kernel_rfl)) (fun _ h => by cases h)
                exact step7_value (i := 2) rfl rfl (run_op_bin rfl t63 t64 (bin_shr _ _ _ x3 q q63 r3 HR3.out)) (calm7 (fun fs vs x y => yardJ_later fs vs x y) (by kernel_rfl) (by kernel_rfl) hj (later_refl _)) rfl
              · intro listed a W H hj hl hd
                have t65 : a.tmps.getD 65 undef = .int .i64 r3 := H.get 2 65 (by kernel_rfl) (dep_of hd 2 (by kernel_rfl)) (fun _ h => by cases h)
                exact step7_value (i := 3) rfl rfl (run_op_bin rfl t65 rfl (bin_and _ _ _ r3 1 1 HBT3.out)) (calm7 (fun fs vs x y => yardJ_later fs vs x y) (by kernel_rfl) (by kernel_rfl) hj (later_refl _)) rfl
              · intro listed a W H hj hl hd
                have t66 : a.tmps.getD 66 undef = .int .i64 1 := H.get 3 66 (by kernel_rfl) (dep_of hd 3 (by kernel_rfl)) (fun _ h => by cases h)
                exact step7_value (i := 4) rfl rfl (run_op_bin rfl t66 rfl (bin_eql _ _ _ 1 1 true (by first | rfl | (simp; done) | (simp; omega) | decide))) (calm7 (fun fs vs x y => yardJ_later fs vs x y) (by kernel_rfl) (by kernel_rfl) hj (later_refl _)) rfl
              · intro listed a W H hj hl hd
                have t67 : a.tmps.getD 67 undef = .bool true := H.get 4 67 (by kernel_rfl) (dep_of hd 4 (by kernel_rfl)) (fun _ h => by cases h)
                exact step7_value (i := 5) rfl rfl (run_op_move rfl t67) (calm7 (fun fs vs x y => yardJ_later fs vs x y) (by kernel_rfl) (by kernel_rfl) hj (later_refl _)) rfl
              · intro listed a W H hj hl hd
                have t68 : a.tmps.getD 68 undef = .bool true := H.get 5 68 (by kernel_rfl) (dep_of hd 5 (by kernel_rfl)) (fun _ h => by cases h)
                have t9 : a.tmps.getD 9 undef = .pointer (some ⟨g, 0, none⟩) := (H.old 9 (by kernel_rfl)).trans rfl
                exact step7_value (i := 6) rfl (wanted_at (j := 5) (d := 68) (b := true) rfl (by kernel_rfl) t68) (run_op_move rfl t9) (calm7 (fun fs vs x y => yardJ_later fs vs x y) (by kernel_rfl) (by kernel_rfl) hj (later_refl _)) rfl
              · intro listed a W H hj hl hd
                have t68 : a.tmps.getD 68 undef = .bool true := H.get 5 68 (by kernel_rfl) (dep_of hd 5 (by kernel_rfl)) (fun _ h => by cases h)
                have t15 : a.tmps.getD 15 undef = .int .i64 (q : Int) := (H.old 15 (by kernel_rfl)).trans rfl
                exact step7_value (i := 7) rfl (wanted_at (j := 5) (d := 68) (b := true) rfl (by kernel_rfl) t68) (run_op_move rfl t15) (calm7 (fun fs vs x y => yardJ_later fs vs x y) (by kernel_rfl) (by kernel_rfl) hj (later_refl _)) rfl
              · intro listed a W H hj hl hd
                have t68 : a.tmps.getD 68 undef = .bool true := H.get 5 68 (by kernel_rfl) (dep_of hd 5 (by kernel_rfl)) (fun _ h => by cases h)
                have t69 : a.tmps.getD 69 undef = .pointer (some ⟨g, 0, none⟩) := H.get 6 69 (by kernel_rfl) (dep_of hd 6 (by kernel_rfl)) (fun _ h => by cases h)
                have t70 : a.tmps.getD 70 undef = .int .i64 (q : Int) := H.get 7 70 (by kernel_rfl) (dep_of hd 7 (by kernel_rfl)) (fun _ h => by cases h)
                refine step7_call (i := 8) rfl (wanted_at (j := 5) (d := 68) (b := true) rfl (by kernel_rfl) t68) (run_op_call (vs := #[.pointer (some ⟨g, 0, none⟩), .int .i64 2, .int .i64 (q : Int)]) Try.func16 (by kernel_rfl) (by kernel_rfl) rfl (by simp only [List.map_toArray, List.map_cons, List.map_nil]; show #[a.tmps.getD 69 undef, .int .i64 2, a.tmps.getD 70 undef] = _; rw [t69, t70])) ?_
                have e2 : slots [83] (a.put (some 71) .nilIface) = slots [83] a := slots_put (fun k e => by cases e; rfl)
                have e3 : (flags [8, 20] (listed.setIfInBounds 8 true)).getD 1 false = (flags [8, 20] listed).getD 1 false := getD_set_ne true (by decide)
                obtain ⟨fp1, h1, h2, h3⟩ := hj
                have hl0 : (flags [8, 20] listed).getD 0 false = false := hl
                rw [hl0, if_neg (by decide)] at h1
                refine (ydrop_any 2 (q : Int) h1).mono ?_
                rw [HD.out]
                rintro e W2 ⟨v2, fp2, rfl, he, hc, hs⟩
                obtain rfl := he.nil
                refine ⟨_, rfl, ⟨fp2, ?_, hs.below h2 h1.ge h1.base_le, fun h => by have k := h3 (e3.symm.trans h); rw [← e2] at k; exact k⟩, rfl⟩
                have e : (flags [8, 20] (listed.setIfInBounds 8 true)).getD 0 false = true := set_self7 listed 8
                rw [e, if_pos rfl]; exact hc
              · intro listed a W H hj hl hd
                have t68 : a.tmps.getD 68 undef = .bool true := H.get 5 68 (by kernel_rfl) (dep_of hd 5 (by kernel_rfl)) (fun _ h => by cases h)
                have t71 : a.tmps.getD 71 undef = .nilIface := H.get 8 71 (by kernel_rfl) (dep_of hd 8 (by kernel_rfl)) (fun _ h => by cases h)
                exact step7_value (i := 9) rfl (wanted_at (j := 5) (d := 68) (b := true) rfl (by kernel_rfl) t68) (run_op_bin rfl t71 rfl (bin_neqE _ _)) (calm7 (fun fs vs x y => yardJ_later fs vs x y) (by kernel_rfl) (by kernel_rfl) hj (later_refl _)) rfl
              · intro listed a W H hj hl hd
                have t68 : a.tmps.getD 68 undef = .bool true := H.get 5 68 (by kernel_rfl) (dep_of hd 5 (by kernel_rfl)) (fun _ h => by cases h)
                have t72 : a.tmps.getD 72 undef = .bool false := H.get 9 72 (by kernel_rfl) (dep_of hd 9 (by kernel_rfl)) (fun _ h => by cases h)
                exact step7_value (i := 10) rfl rfl (run_op_pick rfl t68 t72) (calm7 (fun fs vs x y => yardJ_later fs vs x y) (by kernel_rfl) (by kernel_rfl) hj (later_refl _)) rfl
              · intro listed a W H hj hl hd
                have t73 : a.tmps.getD 73 undef = .bool false := H.get 10 73 (by kernel_rfl) (dep_of hd 10 (by kernel_rfl)) (fun _ h => by cases h)
                exact step7_value (i := 11) rfl rfl (run_op_move rfl t73) (calm7 (fun fs vs x y => yardJ_later fs vs x y) (by kernel_rfl) (by kernel_rfl) hj (later_refl _)) rfl
              · intro listed a W H hj hl hd
                have t74 : a.tmps.getD 74 undef = .bool false := H.get 11 74 (by kernel_rfl) (dep_of hd 11 (by kernel_rfl)) (fun _ h => by cases h)
                have t2 : a.tmps.getD 2 undef = .int .i64 x2 := (H.old 2 (by kernel_rfl)).trans rfl
                exact step7_value (i := 12) rfl (wanted_at (j := 11) (d := 74) (b := false) rfl (by kernel_rfl) t74) (run_op_move rfl t2) (calm7 (fun fs vs x y => yardJ_later fs vs x y) (by kernel_rfl) (by kernel_rfl) hj (later_refl _)) rfl
              · intro listed a W H hj hl hd
                have t74 : a.tmps.getD 74 undef = .bool false := H.get 11 74 (by kernel_rfl) (dep_of hd 11 (by kernel_rfl)) (fun _ h => by cases h)
                have t15 : a.tmps.getD 15 undef = .int .i64 (q : Int) := (H.old 15 (by kernel_rfl)).trans rfl
                exact step7_value (i := 13) rfl (wanted_at (j := 11) (d := 74) (b := false) rfl (by kernel_rfl) t74) (run_op_move rfl t15) (calm7 (fun fs vs x y => yardJ_later fs vs x y) (by kernel_rfl) (by kernel_rfl) hj (later_refl _)) rfl
              · intro listed a W H hj hl hd
                have t74 : a.tmps.getD 74 undef = .bool false := H.get 11 74 (by kernel_rfl) (dep_of hd 11 (by kernel_rfl)) (fun _ h => by cases h)
                have t75 : a.tmps.getD 75 undef = .int .i64 x2 := H.get 12 75 (by kernel_rfl) (dep_of hd 12 (by kernel_rfl)) (fun _ h => by cases h)
                have t76 : a.tmps.getD 76 undef = .int .i64 (q : Int) := H.get 13 76 (by kernel_rfl) (dep_of hd 13 (by kernel_rfl)) (fun _ h => by cases h)
                exact step7_value (i := 14) rfl (wanted_at (j := 11) (d := 74) (b := false) rfl (by kernel_rfl) t74) (run_op_bin rfl t75 t76 (bin_shr _ _ _ x2 q q63 r2 HR2.out)) (calm7 (fun fs vs x y => yardJ_later fs vs x y) (by kernel_rfl) (by kernel_rfl) hj (later_refl _)) rfl
              · intro listed a W H hj hl hd
                have t74 : a.tmps.getD 74 undef = .bool false := H.get 11 74 (by kernel_rfl) (dep_of hd 11 (by kernel_rfl)) (fun _ h => by cases h)
                have t77 : a.tmps.getD 77 undef = .int .i64 r2 := H.get 14 77 (by kernel_rfl) (dep_of hd 14 (by kernel_rfl)) (fun _ h => by cases h)
                exact step7_value (i := 15) rfl (wanted_at (j := 11) (d := 74) (b := false) rfl (by kernel_rfl) t74) (run_op_bin rfl t77 rfl (bin_and _ _ _ r2 1 1 HBT2.out)) (calm7 (fun fs vs x y => yardJ_later fs vs x y) (by kernel_rfl) (by kernel_rfl) hj (later_refl _)) rfl
              · intro listed a W H hj hl hd
                have t74 : a.tmps.getD 74 undef = .bool false := H.get 11 74 (by kernel_rfl) (dep_of hd 11 (by kernel_rfl)) (fun _ h => by cases h)
                have t78 : a.tmps.getD 78 undef = .int .i64 1 := H.get 15 78 (by kernel_rfl) (dep_of hd 15 (by kernel_rfl)) (fun _ h => by cases h)
                exact step7_value (i := 16) rfl (wanted_at (j := 11) (d := 74) (b := false) rfl (by kernel_rfl) t74) (run_op_bin rfl t78 rfl (bin_eql _ _ _ 1 1 true (by first | rfl | (simp; done) | (simp; omega) | decide))) (calm7 (fun fs vs x y => yardJ_later fs vs x y) (by kernel_rfl) (by kernel_rfl) hj (later_refl _)) rfl
              · intro listed a W H hj hl hd
                have t74 : a.tmps.getD 74 undef = .bool false := H.get 11 74 (by kernel_rfl) (dep_of hd 11 (by kernel_rfl)) (fun _ h => by cases h)
                have t79 : a.tmps.getD 79 undef = .bool true := H.get 16 79 (by kernel_rfl) (dep_of hd 16 (by kernel_rfl)) (fun _ h => by cases h)
                exact step7_value (i := 17) rfl (wanted_at (j := 11) (d := 74) (b := false) rfl (by kernel_rfl) t74) (run_op_move rfl t79) (calm7 (fun fs vs x y => yardJ_later fs vs x y) (by kernel_rfl) (by kernel_rfl) hj (later_refl _)) rfl
              · intro listed a W H hj hl hd
                have t80 : a.tmps.getD 80 undef = .bool true := H.get 17 80 (by kernel_rfl) (dep_of hd 17 (by kernel_rfl)) (fun _ h => by cases h)
                have t9 : a.tmps.getD 9 undef = .pointer (some ⟨g, 0, none⟩) := (H.old 9 (by kernel_rfl)).trans rfl
                exact step7_value (i := 18) rfl (wanted_at (j := 17) (d := 80) (b := true) rfl (by kernel_rfl) t80) (run_op_move rfl t9) (calm7 (fun fs vs x y => yardJ_later fs vs x y) (by kernel_rfl) (by kernel_rfl) hj (later_refl _)) rfl
              · intro listed a W H hj hl hd
                have t80 : a.tmps.getD 80 undef = .bool true := H.get 17 80 (by kernel_rfl) (dep_of hd 17 (by kernel_rfl)) (fun _ h => by cases h)
                have t15 : a.tmps.getD 15 undef = .int .i64 (q : Int) := (H.old 15 (by kernel_rfl)).trans rfl
                exact step7_value (i := 19) rfl (wanted_at (j := 17) (d := 80) (b := true) rfl (by kernel_rfl) t80) (run_op_move rfl t15) (calm7 (fun fs vs x y => yardJ_later fs vs x y) (by kernel_rfl) (by kernel_rfl) hj (later_refl _)) rfl
              · intro listed a W H hj hl hd
                have t80 : a.tmps.getD 80 undef = .bool true := H.get 17 80 (by kernel_rfl) (dep_of hd 17 (by kernel_rfl)) (fun _ h => by cases h)
                have t81 : a.tmps.getD 81 undef = .pointer (some ⟨g, 0, none⟩) := H.get 18 81 (by kernel_rfl) (dep_of hd 18 (by kernel_rfl)) (fun _ h => by cases h)
                have t82 : a.tmps.getD 82 undef = .int .i64 (q : Int) := H.get 19 82 (by kernel_rfl) (dep_of hd 19 (by kernel_rfl)) (fun _ h => by cases h)
                refine step7_call (i := 20) rfl (wanted_at (j := 17) (d := 80) (b := true) rfl (by kernel_rfl) t80) (run_op_call (vs := #[.pointer (some ⟨g, 0, none⟩), .int .i64 2, .int .i64 (q : Int)]) Try.func24 (by kernel_rfl) (by kernel_rfl) rfl (by simp only [List.map_toArray, List.map_cons, List.map_nil]; show #[a.tmps.getD 81 undef, .int .i64 2, a.tmps.getD 82 undef] = _; rw [t81, t82])) ?_
                obtain ⟨fp1, h1, h2, h3⟩ := hj
                have h8 : listed.getD 8 false = true := H.dones 12 (dep_of hd 17 (by kernel_rfl)) (by kernel_rfl)
                have hf0 : (flags [8, 20] listed).getD 0 false = true := done_true h8
                rw [hf0, if_pos rfl] at h1
                refine (ywash_any 2 (q : Int) h1).mono ?_
                rw [HW.out]
                rintro e W2 ⟨v2, fp2, rfl, he, hc, hs⟩
                obtain ⟨xx, rfl⟩ := (he.wrong (show (8 : Int) ≠ 0 by decide)).ne
                refine ⟨_, rfl, ⟨fp2, ?_, hs.below h2 h1.ge h1.base_le, fun _ => ⟨xx, ?_⟩⟩, trivial⟩
                · have e : (flags [8, 20] (listed.setIfInBounds 20 true)).getD 0 false = (flags [8, 20] listed).getD 0 false := getD_set_ne true (by decide)
                  rw [e, hf0, if_pos rfl]; exact hc
                · exact put_self7 a 83 _ (by rw [H.size]; exact of_decide_eq_true (by kernel_rfl))
              · intro listed a W H hj hl hd
                have t80 : a.tmps.getD 80 undef = .bool true := H.get 17 80 (by kernel_rfl) (dep_of hd 17 (by kernel_rfl)) (fun _ h => by cases h)
                have d83 : listed.getD 20 false = true := dep_of hd 20 (by kernel_rfl)
                obtain ⟨fp1, h1, h2, h3⟩ := hj
                obtain ⟨xx, hxx⟩ := h3 (done_true (dep_of hd 20 (by kernel_rfl)))
                have t83 : a.tmps.getD 83 undef = .iface 79 xx := hxx
                exact step7_value (i := 21) rfl (wanted_at (j := 17) (d := 80) (b := true) rfl (by kernel_rfl) t80) (run_op_bin rfl t83 rfl (bin_eqlX _ _ _ _ _)) (calm7 (fun fs vs x y => yardJ_later fs vs x y) (by kernel_rfl) (by kernel_rfl) ⟨fp1, h1, h2, h3⟩ (later_refl _)) rfl
              · intro listed a W H hj hl hd
                have t80 : a.tmps.getD 80 undef = .bool true := H.get 17 80 (by kernel_rfl) (dep_of hd 17 (by kernel_rfl)) (fun _ h => by cases h)
                have t3 : a.tmps.getD 3 undef = .int .i64 x3 := (H.old 3 (by kernel_rfl)).trans rfl
                exact step7_value (i := 22) rfl (wanted_at (j := 17) (d := 80) (b := true) rfl (by kernel_rfl) t80) (run_op_move rfl t3) (calm7 (fun fs vs x y => yardJ_later fs vs x y) (by kernel_rfl) (by kernel_rfl) hj (later_refl _)) rfl
              · intro listed a W H hj hl hd
                have t80 : a.tmps.getD 80 undef = .bool true := H.get 17 80 (by kernel_rfl) (dep_of hd 17 (by kernel_rfl)) (fun _ h => by cases h)
                have t15 : a.tmps.getD 15 undef = .int .i64 (q : Int) := (H.old 15 (by kernel_rfl)).trans rfl
                exact step7_value (i := 23) rfl (wanted_at (j := 17) (d := 80) (b := true) rfl (by kernel_rfl) t80) (run_op_move rfl t15) (calm7 (fun fs vs x y => yardJ_later fs vs x y) (by kernel_rfl) (by kernel_rfl) hj (later_refl _)) rfl
              · intro listed a W H hj hl hd
                have t80 : a.tmps.getD 80 undef = .bool true := H.get 17 80 (by kernel_rfl) (dep_of hd 17 (by kernel_rfl)) (fun _ h => by cases h)
                have t85 : a.tmps.getD 85 undef = .int .i64 x3 := H.get 22 85 (by kernel_rfl) (dep_of hd 22 (by kernel_rfl)) (fun _ h => by cases h)
                have t86 : a.tmps.getD 86 undef = .int .i64 (q : Int) := H.get 23 86 (by kernel_rfl) (dep_of hd 23 (by kernel_rfl)) (fun _ h => by cases h)
                exact step7_value (i := 24) rfl (wanted_at (j := 17) (d := 80) (b := true) rfl (by kernel_rfl) t80) (run_op_bin rfl t85 t86 (bin_shr _ _ _ x3 q q63 r3 HR3.out)) (calm7 (fun fs vs x y => yardJ_later fs vs x y) (by kernel_rfl) (by kernel_rfl) hj (later_refl _)) rfl
              · intro listed a W H hj hl hd
                have t80 : a.tmps.getD 80 undef = .bool true := H.get 17 80 (by kernel_rfl) (dep_of hd 17 (by kernel_rfl)) (fun _ h => by cases h)
                have t87 : a.tmps.getD 87 undef = .int .i64 r3 := H.get 24 87 (by kernel_rfl) (dep_of hd 24 (by kernel_rfl)) (fun _ h => by cases h)
                exact step7_value (i := 25) rfl (wanted_at (j := 17) (d := 80) (b := true) rfl (by kernel_rfl) t80) (run_op_bin rfl t87 rfl (bin_and _ _ _ r3 1 1 HBT3.out)) (calm7 (fun fs vs x y => yardJ_later fs vs x y) (by kernel_rfl) (by kernel_rfl) hj (later_refl _)) rfl
              · intro listed a W H hj hl hd
                have t80 : a.tmps.getD 80 undef = .bool true := H.get 17 80 (by kernel_rfl) (dep_of hd 17 (by kernel_rfl)) (fun _ h => by cases h)
                have t88 : a.tmps.getD 88 undef = .int .i64 1 := H.get 25 88 (by kernel_rfl) (dep_of hd 25 (by kernel_rfl)) (fun _ h => by cases h)
                exact step7_value (i := 26) rfl (wanted_at (j := 17) (d := 80) (b := true) rfl (by kernel_rfl) t80) (run_op_bin rfl t88 rfl (bin_eql _ _ _ 1 0 false (by first | rfl | (simp; done) | (simp; omega) | decide))) (calm7 (fun fs vs x y => yardJ_later fs vs x y) (by kernel_rfl) (by kernel_rfl) hj (later_refl _)) rfl
              · intro listed a W H hj hl hd
                have t80 : a.tmps.getD 80 undef = .bool true := H.get 17 80 (by kernel_rfl) (dep_of hd 17 (by kernel_rfl)) (fun _ h => by cases h)
                have t84 : a.tmps.getD 84 undef = .bool false := H.get 21 84 (by kernel_rfl) (dep_of hd 21 (by kernel_rfl)) (fun _ h => by cases h)
                have t89 : a.tmps.getD 89 undef = .bool false := H.get 26 89 (by kernel_rfl) (dep_of hd 26 (by kernel_rfl)) (fun _ h => by cases h)
                exact step7_value (i := 27) rfl (wanted_at (j := 17) (d := 80) (b := true) rfl (by kernel_rfl) t80) (run_op_bin rfl t84 t89 (bin_neqB _ _ _ false false false (by first | rfl | (simp; done) | (simp; omega) | decide))) (calm7 (fun fs vs x y => yardJ_later fs vs x y) (by kernel_rfl) (by kernel_rfl) hj (later_refl _)) rfl
              · intro listed a W H hj hl hd
                have t74 : a.tmps.getD 74 undef = .bool false := H.get 11 74 (by kernel_rfl) (dep_of hd 11 (by kernel_rfl)) (fun _ h => by cases h)
                have t80 : a.tmps.getD 80 undef = .bool true := H.get 17 80 (by kernel_rfl) (dep_of hd 17 (by kernel_rfl)) (fun _ h => by cases h)
                have t90 : a.tmps.getD 90 undef = .bool false := H.get 27 90 (by kernel_rfl) (dep_of hd 27 (by kernel_rfl)) (fun _ h => by cases h)
                exact step7_value (i := 28) rfl (wanted_at (j := 11) (d := 74) (b := false) rfl (by kernel_rfl) t74) (run_op_pick rfl t80 t90) (calm7 (fun fs vs x y => yardJ_later fs vs x y) (by kernel_rfl) (by kernel_rfl) hj (later_refl _)) rfl
              · intro listed a W H hj hl hd
                have t74 : a.tmps.getD 74 undef = .bool false := H.get 11 74 (by kernel_rfl) (dep_of hd 11 (by kernel_rfl)) (fun _ h => by cases h)
                have t91 : a.tmps.getD 91 undef = .bool false := H.get 28 91 (by kernel_rfl) (dep_of hd 28 (by kernel_rfl)) (fun _ h => by cases h)
                exact step7_value (i := 29) rfl rfl (run_op_pickF rfl t74 t91) (calm7 (fun fs vs x y => yardJ_later fs vs x y) (by kernel_rfl) (by kernel_rfl) hj (later_refl _)) rfl
            · intro a WC hdef hsz hw hall hact
              obtain ⟨u, hu⟩ : ∃ u : Nat → Value, ∀ k, a.tmps.getD k undef = u k := ⟨_, fun _ => rfl⟩
              have h92 : u 92 = .bool false := by rw [← hu]; exact hall 29 _ rfl
              simp only [hu] at hact
              have hact' : a = ([63, 64, 65, 66, 67, 68, 69, 70, 71, 72, 73, 74, 75, 76, 77, 78, 79, 80, 81, 82, 83, 84, 85, 86, 87, 88, 89, 90, 91, 92] : List Nat).foldl (fun b k => b.put (some k) (u k)) _ := hact
              simp only [List.foldl] at hact'
              simp only [Act.put, List.setIfInBounds_toArray, List.set_cons_succ, List.set_cons_zero] at hact'
              have HAC := Lib.hid hact'
              have HX := Lib.hid hw
              clear hact hact' hall hdef hsz hw
              rw [h92] at HAC
              rw [HAC.out]
              obtain ⟨fpX, c1, c2, c3⟩ := HX.out
              have c1' : YardAt WC w.heap.size fpX g s2 := c1
              have HC2 := Lib.hid c1'
              have HB2 := Lib.hid c2
              clear c1 c1' c2 c3 HX HC HB CD SD HDL HWD
              rw [← HS2.out] at HC2
              go_wp2_with (simp only [HR1.out, HR2.out, HR3.out, HBT1.out, HBT2.out, HBT3.out])
              go_roundw
              case rel => exact ⟨q + 1, fpX, by rw [HMU.out]; simp, by rw [HLU.out]; simp, by go_num, by omega, HC2, HB2⟩
              case measure => simp [intOf]; omega
        · skip
          obtain rfl : q = p := by omega
          obtain ⟨xs, HXS⟩ : ∃ xs, Hid ((((List.range q).filter (fW x3 q)).map fun (k : Nat) => (k : Int)) = xs) := ⟨_, rfl⟩
          obtain ⟨sE, HSE⟩ : ∃ s, Hid (lvY 3 2 q 2 q (fW x3 q) (dW x1 x2 x3 q) = s) := ⟨_, rfl⟩
          have HX1 : Hid (neededY sE 2 = xs) := by show _ = _; rw [← HSE.out, ← HXS.out]; exact lv_needed (b := 2) (by omega) (by decide)
          have HX2 : Hid (((dirtyY sE 2 : Nat) : Int) = (manyW x1 x2 x3 q : Int)) := by show _ = _; rw [← HSE.out, show dirtyY (lvY 3 2 q 2 q (fW x3 q) (dW x1 x2 x3 q)) 2 = _ from lv_dirty (b := 2) (by omega) (by decide), dirty_end]
          have HXL : Hid (xs.length = leftW x3 q) := by show _ = _; rw [← HXS.out]; exact needed_len
          have HXA : Hid (∀ i, i < leftW x3 q → ∃ e : Nat, xs.getD i 0 = (e : Int) ∧ e < q ∧ bt x3 e = false) := fun i hi => by rw [← HXS.out]; exact needed_at hi
          have HXZ := Lib.hid (left_zero (x3 := x3) (P := q))
          have HXQ := Lib.hid (left_some (x3 := x3) (P := q))
          rw [HSE.out] at HC
          obtain ⟨nm, HNM⟩ : ∃ n, Hid (manyW x1 x2 x3 q = n) := ⟨_, rfl⟩
          obtain ⟨nl, HNL⟩ : ∃ n, Hid (leftW x3 q = n) := ⟨_, rfl⟩
          have hnl := left_le (x3 := x3) q
          rw [HNM.out] at HX2 ⊢
          rw [HNL.out] at HXL HXA HXZ HXQ hnl ⊢
          clear HNM HNL HXS hltq
          go_wp2_with fail
          refine (yneeded_any 2 HC.out).mono ?_
          rw [HX1.out]
          rintro e W12 ⟨A12, n12, c12, rfl, hi12, hb12⟩
          obtain rfl : nl = n12 := HXL.out.symm.trans hi12.out.len
          have I12 := Lib.hid (RestK.new hi12.out HC.out.lt)
          have S12 := Lib.hid (below_chain HB.out hb12.out)
          have C12 := Lib.hid (HC.out.since hb12.out)
          clear hb12 hi12 HB HC
          go_wp2_with fail
          go_loopw [17] (fun t17 wr => ∃ (i : Nat), t17 = .int .i64 i ∧ i ≤ nl ∧ wr = W12) (fun t17 _ => nl - (intOf t17).toNat)
          case atStart => exact ⟨0, rfl, Nat.zero_le _, rfl⟩
          case round =>
            obtain ⟨i, rfl, hi, rfl⟩ := hrel
            have j0 : (0 : Int) ≤ (i : Int) := by omega
            by_cases hlti : i < nl
            · skip
              have j1 : (i : Int) < (nl : Int) := by omega
              obtain ⟨ev, hev, he1, he2⟩ := HXA.out i hlti
              obtain ⟨ad, rfl, hblk, hc⟩ := int_at I12.out.row.lie hlti
              rw [hev] at hc
              have e0 : (0 : Int) ≤ (ev : Int) := by omega
              have e1 : (ev : Int) < (q : Int) := by omega
              have e63 : ev < 64 := by omega
              have hβ := bt_and x3 ev
              rw [he2] at hβ
              have HBT : Hid (bits .and .i64 (x3 / 2 ^ ev) 1 = 0) := hβ
              clear hβ hev
              go_wp2_with (simp only [HBT.out])
              go_roundw
              case rel => exact ⟨i + 1, by go_num, by omega, by first | rfl | trivial⟩
              case measure => simp [intOf]; omega
            · skip
              obtain rfl : i = nl := by omega
              go_wp2_with fail
              refine (ydirty_any 2 C12.out).mono ?_
              rw [HX2.out]
              rintro e W13 ⟨rfl, hb13⟩
              have S13 := Lib.hid (below_chain S12.out hb13.out)
              have C13 := Lib.hid (C12.out.since hb13.out)
              have I13 := Lib.hid (I12.out.since hb13.out)
              clear hb13 S12 C12 I12
              by_cases hz : i = 0
              · skip
                obtain ⟨sF, HSF⟩ : ∃ s, Hid (lvY 3 2 q 1 0 (fW x3 q) (dW x1 x2 x3 q) = s) := ⟨_, rfl⟩
                have HF : Hid (freeY sE 2 = (sF, 0)) := by show _ = _; rw [← HSE.out, ← HSF.out]; exact lv_free (b := 2) (by omega) (Or.inl rfl) (HXZ.out hz)
                have hzi : ((i : Int) == 0) = true := by simp; omega
                have T1 : Hid (stY sF 1 = 1) := by show _ = _; rw [← HSF.out]; exact lv_st_else (k := 1) (by omega) (by decide)
                have T2 : Hid (((dirtyY sF 1 : Nat) : Int) = 0) := by show _ = _; rw [← HSF.out]; exact congrArg (fun (k : Nat) => (k : Int)) (lv_dirty_else (k := 1) (by omega) (by decide))
                clear hz
                go_wp2_with fail
                refine (yfree_any 2 C13.out).mono ?_
                rw [HF.out]
                rintro e W14 ⟨v14, fp14, rfl, he14, hc14, hs14⟩
                have S14 := Lib.hid (hs14.below S13.out C13.out.ge S13.out.size)
                have I14 := Lib.hid (I13.out.step hs14)
                have C14 := Lib.hid hc14
                obtain rfl := he14.nil
                clear he14
                clear hc14 hs14 S13 I13 C13
                go_wp2_with fail
                refine (ystate_any 1 C14.out).mono ?_
                rw [T1.out]
                rintro e W15 ⟨rfl, hb15⟩
                have S15 := Lib.hid (below_chain S14.out hb15.out)
                have C15 := Lib.hid (C14.out.since hb15.out)
                have I15 := Lib.hid (I14.out.since hb15.out)
                clear hb15 S14 C14 I14
                go_wp2_with fail
                refine (ydirty_any 1 C15.out).mono ?_
                rw [T2.out]
                rintro e W16 ⟨rfl, hb16⟩
                have S16 := Lib.hid (below_chain S15.out hb16.out)
                have C16 := Lib.hid (C15.out.since hb16.out)
                have I16 := Lib.hid (I15.out.since hb16.out)
                clear hb16 S15 C15 I15
                go_wp2_with fail
                refine (yawake_any _).mono ?_
                rintro e W17 ⟨rfl, hb17⟩
                have S17 := Lib.hid (below_chain S16.out hb17.out)
                go_wp2_with fail
                go_ret
                exact ⟨rfl, S17⟩
              · skip
                have HF : Hid (freeY sE 2 = (sE, 9)) := by
                  show _ = _
                  obtain ⟨r, h1, h2⟩ := HXQ.out hz
                  rw [← HSE.out]
                  exact lv_free_no (q := r) (b := 2) (by omega) (by decide) h1 h2
                have hzi : ((i : Int) == 0) = false := by simp; omega
                have T1 : Hid (stY sE 1 = 1) := by show _ = _; rw [← HSE.out]; exact lv_st_else (k := 1) (by omega) (by decide)
                have T2 : Hid (((dirtyY sE 1 : Nat) : Int) = 0) := by show _ = _; rw [← HSE.out]; exact congrArg (fun (k : Nat) => (k : Int)) (lv_dirty_else (k := 1) (by omega) (by decide))
                clear hz
                go_wp2_with fail
                refine (yfree_any 2 C13.out).mono ?_
                rw [HF.out]
                rintro e W14 ⟨v14, fp14, rfl, he14, hc14, hs14⟩
                have S14 := Lib.hid (hs14.below S13.out C13.out.ge S13.out.size)
                have I14 := Lib.hid (I13.out.step hs14)
                have C14 := Lib.hid hc14
                have E14 := Lib.hid he14.at_
                clear he14
                clear hc14 hs14 S13 I13 C13
                obtain ⟨xE14, rfl⟩ := (E14.out.wrong (show (9 : Int) ≠ 0 by decide)).ne
                clear E14
                go_wp2_with fail
                refine (ystate_any 1 C14.out).mono ?_
                rw [T1.out]
                rintro e W15 ⟨rfl, hb15⟩
                have S15 := Lib.hid (below_chain S14.out hb15.out)
                have C15 := Lib.hid (C14.out.since hb15.out)
                have I15 := Lib.hid (I14.out.since hb15.out)
                clear hb15 S14 C14 I14
                go_wp2_with fail
                refine (ydirty_any 1 C15.out).mono ?_
                rw [T2.out]
                rintro e W16 ⟨rfl, hb16⟩
                have S16 := Lib.hid (below_chain S15.out hb16.out)
                have C16 := Lib.hid (C15.out.since hb16.out)
                have I16 := Lib.hid (I15.out.since hb16.out)
                clear hb16 S15 C15 I15
                go_wp2_with fail
                refine (yawake_any _).mono ?_
                rintro e W17 ⟨rfl, hb17⟩
                have S17 := Lib.hid (below_chain S16.out hb17.out)
                go_wp2_with fail
                go_ret
                exact ⟨rfl, S17⟩
end Go.Proofs.Ytmfpelgkjgpfmaa
