/- The contracts of the landed tally (package tally): Percent, Bar, Columns, Line. Conditions: numbers of an int; texts of at most a million bytes; strconv's table of powers of ten is as the library lays it. -/
import Derived.Test.YtgenkmihbnkakaaDoorRefTal
import Derived.Test.YtgenkmihbnkakaaDoorTalDiv
import Derived.Lib.SmallJoins
import Derived.Lib.AppendIntMem
set_option linter.unusedVariables false
set_option linter.unusedSimpArgs false
set_option maxRecDepth 20000
namespace Go.Proofs.YtgenkmihbnkakaaDoor
open Go Go.RowKit

/-- strconv's table of powers of ten. -/
def T10 (w : World) : Prop := Lib.TabIs Tryd.prog w "internal/strconv.uint64pow10" .u64 Lib.pow10Tab
theorem T10.since {w w' : World} (h : T10 w) (hb : Below w.heap.size w w') : T10 w' := Joins.tab_stays (g := 3) (by kernel_rfl) h hb (Nat.le_refl _)
set_option maxHeartbeats 4000000 in
set_option maxRecDepth 100000 in
theorem tpct_any (n o : Int) (hn0 : -9223372036854775808 ≤ n) (hn1 : n ≤ 9223372036854775807) (ho0 : -9223372036854775808 ≤ o) (ho1 : o ≤ 9223372036854775807) (w : World) :
    Calls Tryd.prog 8 #[.int .i64 n, .int .i64 o] w fun e w' => e = .returned (.int .i64 (pctT n o)) ∧ Below w.heap.size w w' := by
  by_cases h1 : o < 1
  · have hv : pctT n o = 0 := by unfold pctT; rw [if_pos (Or.inl h1)]
    rw [hv]; clear hv
    go_enter Tryd.func8, Tryd.ntmps8
    go_wp2_with fail
    go_ret
    exact ⟨rfl, Below.refl _ _⟩
  by_cases h2 : n < 0
  · have hv : pctT n o = 0 := by unfold pctT; rw [if_pos (Or.inr h2)]
    rw [hv]; clear hv
    go_enter Tryd.func8, Tryd.ntmps8
    go_wp2_with fail
    go_ret
    exact ⟨rfl, Below.refl _ _⟩
  by_cases h3 : o ≤ n
  · have hv : pctT n o = 100 := pct_all (by omega) h3
    rw [hv]; clear hv
    go_enter Tryd.func8, Tryd.ntmps8
    go_wp2_with fail
    go_ret
    exact ⟨rfl, Below.refl _ _⟩
  obtain ⟨n, rfl⟩ := Int.eq_ofNat_of_zero_le (show 0 ≤ n by omega)
  obtain ⟨o, rfl⟩ := Int.eq_ofNat_of_zero_le (show 0 ≤ o by omega)
  obtain ⟨P, HP⟩ : ∃ P, Hid (pctT (n : Int) (o : Int) = P) := ⟨_, rfl⟩
  have HPB : 0 ≤ P ∧ P < 100 := by have h4 := pct_bd (n : Int) (o : Int); have h5 := pct_lt (n := (n : Int)) (o := (o : Int)) (by omega) (by omega); rw [HP.out] at h4 h5; exact ⟨h4.1, h5⟩
  obtain ⟨hp0, hp1⟩ := HPB
  have hno : n < o := by omega
  obtain ⟨H, hH⟩ : ∃ H, 100 * n / 18446744073709551616 = H := ⟨_, rfl⟩
  obtain ⟨L, hL⟩ : ∃ L, 100 * n % 18446744073709551616 = L := ⟨_, rfl⟩
  have hall : H * 18446744073709551616 + L = 100 * n := by omega
  have hLb : L < 18446744073709551616 := by omega
  have hHo : H < o := by omega
  have hquo : Hid ((((H * 18446744073709551616 + L) / o : Nat) : Int) = P) := by
    show _ = _
    rw [hall, ← HP.out, pct_some (by omega) (by omega)]
    rfl
  have HM := Lib.hid (Tryd.bits_Mul64 100 n (by omega) (by omega) w)
  rw [hH, hL] at HM
  have HD : Hid (∀ w, Calls Tryd.prog 19 #[.int .u64 (H : Int), .int .u64 (L : Int), .int .u64 (o : Int)] w fun e w' => (∃ r : Int, e = .returned (.tuple #[.int .u64 P, .int .u64 r])) ∧ ∃ n, w' = w.drewN n) := by
    intro w
    rw [← hquo.out]
    rcases Nat.eq_zero_or_pos H with h0 | h0
    · rw [h0]
      have h6 := div64_zero L o hLb (by omega) (by omega) w
      rw [show (0 * 18446744073709551616 + L) / o = L / o by rw [Nat.zero_mul, Nat.zero_add]]
      exact h6
    · exact (div64_more H L o hHo h0 hLb (by omega) w).mono fun e w' h => ⟨h.1, 0, by rw [h.2]; rfl⟩
  have f1 : ¬ ((o : Int) < 1) := h1
  have f2 : ¬ ((n : Int) < 0) := h2
  have f3 : ¬ ((o : Int) ≤ (n : Int)) := h3
  rw [HP.out]
  clear hall hH hL hquo h1 h2 h3 hHo
  go_enter Tryd.func8, Tryd.ntmps8
  go_wp2_with fail
  refine HM.out.mono ?_
  rintro e w' ⟨rfl, rfl⟩
  go_wp2_with fail
  refine (HD.out _).mono ?_
  rintro e W2 ⟨⟨r, rfl⟩, nd, rfl⟩
  go_wp2_with fail
  go_ret
  exact ⟨rfl, below_drewN (Below.refl _ _) nd⟩
theorem repeat_enc {X : List UInt8} {r : Int} (h : X = Lib.encodeRune r) : ∀ k : Nat, Lib.repeatL X k = enc (List.replicate k r)
  | 0 => rfl
  | k + 1 => by rw [Lib.repeatL, List.replicate_succ, enc_cons, repeat_enc h k, h]
set_option maxHeartbeats 4000000 in
set_option maxRecDepth 100000 in
theorem tbar_any (n o c : Int) (hn0 : -9223372036854775808 ≤ n) (hn1 : n ≤ 9223372036854775807) (ho0 : -9223372036854775808 ≤ o) (ho1 : o ≤ 9223372036854775807) (hc0 : -9223372036854775808 ≤ c) (hc1 : c ≤ 9223372036854775807) (w : World) :
    Calls Tryd.prog 10 #[.int .i64 n, .int .i64 o, .int .i64 c] w fun e w' => ∃ S : ByteArray, e = .returned (.string S) ∧ Hid (S.data.toList = enc (barR n o c)) ∧ Below w.heap.size w w' := by
  by_cases h1 : c < 0
  · have HE : Hid (([] : List UInt8) = enc (barR n o c)) := by show _ = _; rw [bar_out (by omega)]; rfl
    go_enter Tryd.func10, Tryd.ntmps10
    go_wp2_with fail
    go_ret
    exact ⟨⟨#[]⟩, rfl, HE, Below.refl _ _⟩
  by_cases h2 : 200 < c
  · have HE : Hid (([] : List UInt8) = enc (barR n o c)) := by show _ = _; rw [bar_out (by omega)]; rfl
    go_enter Tryd.func10, Tryd.ntmps10
    go_wp2_with fail
    go_ret
    exact ⟨⟨#[]⟩, rfl, HE, Below.refl _ _⟩
  obtain ⟨P, HP⟩ : ∃ P, Hid (pctT n o = P) := ⟨_, rfl⟩
  have HPB : 0 ≤ P ∧ P ≤ 100 := by have h4 := pct_bd n o; rw [HP.out] at h4; exact h4
  obtain ⟨hp0, hp1⟩ := HPB
  have HC := Lib.hid (tpct_any n o hn0 hn1 ho0 ho1 w)
  rw [HP.out] at HC
  obtain ⟨a, ha⟩ : ∃ a, c * P = a := ⟨_, rfl⟩
  have a0 : 0 ≤ a := by rw [← ha]; exact Int.mul_nonneg (by omega) hp0
  have a1 : a ≤ 20000 := by rw [← ha]; have := Int.mul_le_mul (show c ≤ 200 by omega) hp1 hp0 (by decide); omega
  have hF : fullT n o c = a / 100 := by unfold fullT; rw [HP.out, ha]
  have hfb := full_bd (n := n) (o := o) (c := c) (by omega)
  rw [hF] at hfb
  obtain ⟨f, hf⟩ : ∃ f : Nat, a / 100 = (f : Int) := ⟨(a / 100).toNat, by omega⟩
  obtain ⟨g, hg⟩ : ∃ g : Nat, c - (f : Int) = (g : Int) := ⟨(c - (f : Int)).toNat, by omega⟩
  have f2 : f ≤ 200 := by omega
  have g2 : g ≤ 200 := by omega
  have HB : Hid (barR n o c = List.replicate f 9608 ++ List.replicate g 183) := by
    show _ = _
    rw [bar_in (by omega) (by omega), hF, hf, hg]
    rfl
  have R1 : Hid (∀ w, Calls Tryd.prog 20 #[.string ⟨#[226, 150, 136]⟩, .int .i64 (f : Int)] w fun e w' => e = .returned (.string ⟨(Lib.repeatL [226, 150, 136] f).toArray⟩) ∧ Below w.heap.size w w') := fun w => Tryd.strings_Repeat ⟨#[226, 150, 136]⟩ f w (by omega) (by show 3 * f ≤ _; omega)
  have R2 : Hid (∀ w, Calls Tryd.prog 20 #[.string ⟨#[194, 183]⟩, .int .i64 (g : Int)] w fun e w' => e = .returned (.string ⟨(Lib.repeatL [194, 183] g).toArray⟩) ∧ Below w.heap.size w w') := fun w => Tryd.strings_Repeat ⟨#[194, 183]⟩ g w (by omega) (by show 2 * g ≤ _; omega)
  obtain ⟨S1, HS1⟩ : ∃ S1 : ByteArray, Hid ((⟨(Lib.repeatL [226, 150, 136] f).toArray⟩ : ByteArray) = S1) := ⟨_, rfl⟩
  obtain ⟨S2, HS2⟩ : ∃ S2 : ByteArray, Hid ((⟨(Lib.repeatL [194, 183] g).toArray⟩ : ByteArray) = S2) := ⟨_, rfl⟩
  have l1 : S1.size ≤ 600 := by rw [← HS1.out, ba_size]; simp [Lib.repeatL_length]; omega
  have l2 : S2.size ≤ 600 := by rw [← HS2.out, ba_size]; simp [Lib.repeatL_length]; omega
  have HE : Hid ((S1 ++ S2).data.toList = enc (barR n o c)) := by
    show _ = _
    rw [HB.out, ba_app, ← HS1.out, ← HS2.out, enc_append, ← repeat_enc enc_full.symm, ← repeat_enc enc_rest.symm]
  rw [HS1.out] at R1
  rw [HS2.out] at R2
  have WA : Hid (wrap64 a = a) := by show _ = _; unfold wrap64; omega
  have TD : Hid (a.tdiv 100 = (f : Int)) := by show _ = _; rw [Int.tdiv_eq_ediv_of_nonneg a0]; exact hf
  have WF : Hid (wrap64 (f : Int) = (f : Int)) := by show _ = _; unfold wrap64; omega
  have HA := Lib.hid ha
  have HFF := Lib.hid hf
  have HGG := Lib.hid hg
  clear HP hF hfb ha hf hg HS1 HS2 HB
  go_enter Tryd.func10, Tryd.ntmps10
  go_wp2_with fail
  refine HC.out.mono ?_
  rintro e W1 ⟨rfl, hb1⟩
  go_wp2_with (simp only [HA.out, WA.out, TD.out, WF.out, HFF.out])
  refine (R1.out _).mono ?_
  rintro e W2 ⟨rfl, hb2⟩
  have B2 := Lib.hid (bch hb1 hb2)
  clear hb1 hb2
  go_wp2_with (simp only [HGG.out])
  refine (R2.out _).mono ?_
  rintro e W3 ⟨rfl, hb3⟩
  go_wp2_with fail
  go_ret
  exact ⟨_, rfl, HE, bch B2.out hb3⟩
/-- One rune by itself. -/
theorem one_cols (r : Int) : max 1 (columnsL (Utf8.encode r).data.toList) = colsI r := by
  by_cases hw : wideB r = true
  · have h1 := (wideB_iff r).1 hw
    rw [utf8_enc r (by unfold Scalar; omega), ← enc_one, (wide_single r h1.1 h1.2).1]
    unfold colsI
    rw [hw]
    rfl
  · have hc : colsI r = 1 := by unfold colsI; rw [if_neg hw]
    rw [hc]
    have : columnsL (Utf8.encode r).data.toList ≤ 1 := by
      by_cases hm : mayL (Utf8.encode r).data.toList = true
      · by_cases hs : Scalar r
        · rw [utf8_enc r hs, ← enc_one] at hm ⊢
          have hg : goodB r = true := by rw [may_single r hs] at hm; exact (Bool.and_eq_true_iff.1 hm).1
          have hl := good_low hg
          rw [columnsL_may hm, runes_enc [r] (fun x hx => by rw [List.mem_singleton.1 hx]; omega), colsR_cons, colsR_nil, hc]
          decide
        · exfalso
          have e : Utf8.encode r = Utf8.encode 65533 := by
            unfold Utf8.encode
            have h1 : Utf8.valid r = false := by
              unfold Utf8.valid Scalar at *
              simp
              omega
            rw [h1]
            rfl
          rw [e] at hm
          exact absurd hm (by decide +kernel)
      · unfold columnsL
        rw [if_neg hm]
        decide
    omega
theorem max_of20 (ts : Array TypeId) (ty : TypeId) (p q m : Int) (h : (q ≤ p ∧ m = p) ∨ (p ≤ q ∧ m = q)) (w : World) : (Builtin.max_ ts ty #[.int .i64 p, .int .i64 q]).run Tryd.prog w = .ok (.int .i64 m) w := by
  simp only [Builtin.max_]
  rcases h with ⟨h1, rfl⟩ | ⟨h1, rfl⟩ <;> simp [Builtin.max2] <;> omega
set_option maxHeartbeats 4000000 in
set_option maxRecDepth 100000 in
theorem tone_any (r : Int) (w : World) : Calls Tryd.prog 31 #[.int .i32 r] w fun e w' => e = .returned (.int .i64 (colsI r)) ∧ Below w.heap.size w w' := by
  obtain ⟨S, HS⟩ : ∃ S, Hid (Utf8.encode r = S) := ⟨_, rfl⟩
  have hz : S.size ≤ 4 := by rw [← HS.out]; exact encode_size_le r
  have HC := Lib.hid (columns_any S w (by omega))
  obtain ⟨c, hc⟩ : ∃ c, columnsL S.data.toList = c := ⟨_, rfl⟩
  have h1 := one_cols r
  rw [HS.out, hc] at h1
  rw [hc] at HC
  have HM : ∀ (ts : Array TypeId) (ty : TypeId) (w : World), (Builtin.max_ ts ty #[.int .i64 1, .int .i64 c]).run Tryd.prog w = .ok (.int .i64 (colsI r)) w := fun ts ty w => max_of20 ts ty _ _ _ (by omega) w
  clear h1 hc
  go_enter Tryd.func31, Tryd.ntmps31
  go_wp2_with (simp only [HS.out])
  refine HC.out.mono ?_
  rintro e W1 ⟨rfl, hb1⟩
  go_wp2_with fail
  go_ret
  exact ⟨rfl, hb1⟩
section
open Go.Lib
set_option maxHeartbeats 4000000 in
set_option maxRecDepth 100000 in
theorem tcols_any (s : ByteArray) (hs : s.size ≤ 1000000) (w : World) :
    Calls Tryd.prog 14 #[.string s] w fun e w' => e = .returned (.int .i64 (colsR (runes s.data.toList))) ∧ Below w.heap.size w w' := by
  have HD : Hid (∀ pos, decodeL (s.data.toList.drop pos) = Utf8.decode s pos) := Lib.hid (fun pos => decodeL_drop s pos)
  have HN : Hid (s.data.toList.length = s.size) := Lib.hid (Lib.size_eq s).symm
  go_enter Tryd.func14, Tryd.ntmps14
  go_wp2_with fail
  go_loopw [3] (fun vn wr => ∃ (pos : Nat) (acc : Int), vn = .int .i64 acc ∧ pos ≤ s.size ∧ 0 ≤ acc ∧ acc ≤ 2 * pos ∧ wr.heap[w.heap.size]? = some (.stringIter s pos) ∧ Below w.heap.size w wr ∧ ColAt s.data.toList pos acc) (fun _ wr => s.size - wr.iterPos w.heap.size)
  case atStart =>
    refine ⟨0, 0, rfl, by omega, by omega, by omega, ?_, (Below.refl _ w).alloc (Nat.le_refl _) _, [], at_start _, rfl⟩
    have := World.iter_heap w s 0
    simpa using this
  case round =>
    obtain ⟨pos, acc, rfl, hps, ha0, ha1, hit, hbw, hm⟩ := hrel
    by_cases hp : pos < s.size
    · have hnx : ∀ ty, (Instr.next (.pointer (some ⟨w.heap.size, 0, none⟩)) true ty).run Tryd.prog wr = _ := fun ty => Lib.run_next_any_at wr w.heap.size s pos ty hit hp
      have hm2 := ColAt.step (by rw [HN.out]; exact hp) hm
      rw [HD.out pos] at hm2
      have hci := colsI_bd ((Utf8.decode s pos).1 : Int)
      obtain ⟨hci0, hci1⟩ := hci
      have hit2 := Lib.iterAt_heap wr w.heap.size s pos (pos + (Utf8.decode s pos).2) hit
      have hbw2 := Lib.below_iterAt hbw (k := w.heap.size) (by omega) s (pos + (Utf8.decode s pos).2)
      have hwd : 1 ≤ (Utf8.decode s pos).2 := by rw [← HD.out pos]; exact decodeL_width _
      have hle : pos + (Utf8.decode s pos).2 ≤ s.size := by
        have := decodeL_le (s.data.toList.drop pos) (drop_ne (by rw [HN.out]; exact hp))
        rw [HD.out pos, List.length_drop, HN.out] at this
        omega
      obtain ⟨c, hc⟩ : ∃ c, colsI ((Utf8.decode s pos).1 : Int) = c := ⟨_, rfl⟩
      obtain ⟨d, hd⟩ : ∃ d, pos + (Utf8.decode s pos).2 = d := ⟨_, rfl⟩
      have HCC := Lib.hid (fun W => tone_any ((Utf8.decode s pos).1 : Int) W)
      rw [hc] at hci0 hci1 hm2 HCC
      rw [hd] at hit2 hbw2 hle hm2
      have hpd : pos < d := by omega
      have HDD := Lib.hid hd
      have HBW := Lib.hid hbw2
      have HM2 := Lib.hid hm2
      have HIT := Lib.hid hit2
      clear hc hd hwd hbw hbw2 hm hm2
      go_wp2_with (simp only [HDD.out])
      refine (HCC.out _).mono ?_
      rintro e W3 ⟨rfl, hb3⟩
      have hit3 : W3.heap[w.heap.size]? = some (.stringIter s d) := by
        rw [← HIT.out]
        exact hb3.block _ (by have := HBW.out.size; have h9 := HIT.out; exact (Array.getElem?_eq_some_iff.1 h9).1)
      have HB3 := Lib.hid (HBW.out.trans (hb3.mono (by have := HBW.out.size; omega)))
      clear hb3
      go_wp2_with fail
      go_roundw
      case rel => exact ⟨d, _, rfl, hle, by omega, by omega, hit3, HB3.out, HM2.out⟩
      case measure =>
        simp only [World.iterPos, hit3, hit]
        omega
    · have hnx : ∀ ty, (Instr.next (.pointer (some ⟨w.heap.size, 0, none⟩)) true ty).run Tryd.prog wr = _ := fun ty => Lib.run_next_end_at wr w.heap.size s pos ty hit hp
      have HE : Hid (acc = colsR (runes s.data.toList)) := by
        obtain ⟨done, hd, he⟩ := hm
        exact Lib.hid (by rw [at_end (by rw [HN.out]; exact hp) hd]; exact he)
      go_wp2
      go_ret
      exact ⟨ret_i HE.out, hbw⟩
end
/-! line -/
theorem tmay_at (s : ByteArray) (b : Bool) (h : mayL s.data.toList = b) (hs : s.size ≤ 1000000) (w : World) :
    Calls Tryd.prog 21 #[.string s] w fun e w' => e = .returned (.bool b) ∧ Below w.heap.size w w' := by
  rw [← h]
  exact labelmay_any s w (by omega)
theorem tmaybe_any (n : Int) (w : World) : Calls Tryd.prog 22 #[.int .i64 n] w fun e w' => e = .returned (.bool (decide (fineT n))) ∧ w = w' := by
  by_cases h1 : 0 ≤ n <;> by_cases h2 : n ≤ 1073741824
  all_goals
    have hw : decide (fineT n) = decide (0 ≤ n ∧ n ≤ 1073741824) := rfl
    simp only [h1, h2, and_self, and_false, false_and, decide_true, decide_false] at hw
    rw [hw]; clear hw
    go_enter Tryd.func22, Tryd.ntmps22
    go_wp2
    go_ret
    exact ⟨rfl, rfl⟩
theorem dec_enc : ∀ (f u : Nat), u < 10 ^ f → u ≤ 9223372036854775807 → Lib.decDigits u = enc (digR u)
  | 0, u, h, _ => by
    rw [show u = 0 by simp at h; exact h]
    decide +kernel
  | f + 1, u, h, h2 => by
    by_cases h3 : u < 10
    · rw [Lib.decDigits_one h3, dig_small (by omega) (by omega), dig_bytes (by omega) (by omega)]
      show [UInt8.ofNat (48 + u)] = [(48 + (u : Int)).toNat.toUInt8]
      rw [show (48 + (u : Int)).toNat = 48 + u by omega]
    · rw [Lib.decDigits, dif_neg h3, dig_step (by omega) (by omega), enc_append, dec_enc f (u / 10) (by rw [Nat.pow_succ] at h; omega) (by omega)]
      rw [show ((u : Int) % 10) = ((u % 10 : Nat) : Int) by omega, show ((u : Int) / 10) = ((u / 10 : Nat) : Int) by omega, dig_bytes (by omega) (by omega)]
      show _ ++ [UInt8.ofNat (48 + u % 10)] = _ ++ [UInt8.ofNat (48 + ((u % 10 : Nat) : Int)).toNat]
      rw [show (48 + ((u % 10 : Nat) : Int)).toNat = 48 + u % 10 by omega]
theorem itoa_enc {n : Int} (h0 : 0 ≤ n) (h1 : n ≤ 9223372036854775807) : Lib.itoa n = enc (digR n) := by
  obtain ⟨u, rfl⟩ := Int.eq_ofNat_of_zero_le h0
  rw [Lib.itoa_nonneg]
  exact dec_enc 19 u (by omega) (by omega)
set_option maxRecDepth 100000 in
theorem titoa_any (n : Int) (h0 : 0 ≤ n) (h1 : n ≤ 1073741824) (w : World) (hT : T10 w) :
    Calls Tryd.prog 24 #[.int .i64 n] w fun e w' => ∃ S : ByteArray, e = .returned (.string S) ∧ Hid (S.data.toList = enc (digR n)) ∧ Below w.heap.size w w' :=
  (Tryd.strconv_Itoa n (by omega) (by omega) w hT).mono fun e w' h => by
    obtain ⟨he, k, os, rfl⟩ := h
    exact ⟨_, he, itoa_enc h0 (by omega), Lib.below_grow _ _ (Nat.le_refl _) k os⟩
set_option maxHeartbeats 4000000 in
set_option maxRecDepth 100000 in
theorem tblanks_any (k j : Nat) (S : ByteArray) (hS : S.size ≤ 1000000) (hk : k ≤ 100) (h : (k : Int) - colsR (runes S.data.toList) = (j : Int)) (w : World) :
    Calls Tryd.prog 25 #[.int .i64 k, .string S] w fun e w' => ∃ R : ByteArray, e = .returned (.string R) ∧ Hid (R.data.toList = enc (List.replicate j 32)) ∧ R.size ≤ 100 ∧ Below w.heap.size w w' := by
  have h0 := (colsR_bd (runes S.data.toList)).1
  have HC := Lib.hid (tcols_any S hS w)
  obtain ⟨x, hx⟩ : ∃ x, colsR (runes S.data.toList) = x := ⟨_, rfl⟩
  rw [hx] at h h0 HC
  have hj : j ≤ 100 := by omega
  have x0 : 0 ≤ x := by omega
  have x1 : x ≤ 100 := by omega
  have R1 : Hid (∀ w, Calls Tryd.prog 20 #[.string ⟨#[32]⟩, .int .i64 (j : Int)] w fun e w' => e = .returned (.string ⟨(Lib.repeatL [32] j).toArray⟩) ∧ Below w.heap.size w w') := fun w => Tryd.strings_Repeat ⟨#[32]⟩ j w (by omega) (by show 1 * j ≤ _; omega)
  have HW : Hid (wrap64 ((k : Int) - x) = (j : Int)) := by show _ = _; unfold wrap64; omega
  have HW2 := Lib.hid h
  have HE : Hid (Lib.repeatL [32] j = enc (List.replicate j 32)) := repeat_enc (by decide +kernel) j
  clear h h0 hx
  go_enter Tryd.func25, Tryd.ntmps25
  go_wp2_with fail
  refine HC.out.mono ?_
  rintro e W1 ⟨rfl, hb1⟩
  go_wp2_with (simp only [HW.out, HW2.out])
  refine (R1.out _).mono ?_
  rintro e W2 ⟨rfl, hb2⟩
  go_wp2_with fail
  go_ret
  refine ⟨_, rfl, HE, ?_, bch hb1 hb2⟩
  rw [ba_size]
  simp [Lib.repeatL_length]
  omega
theorem dig_cols (n : Int) : colsR (digR n) = (digR n).length := cols_narrow fun r h => by
  have := dig_mem h
  unfold wideB
  simp
  omega
theorem dig_low (n : Int) : Low (digR n) := fun r h => by have := dig_mem h; omega
set_option maxHeartbeats 16000000 in
set_option maxRecDepth 100000 in
theorem tline_any (s : ByteArray) (d c m k : Int) (hs : s.size ≤ 1000000) (hd0 : -9223372036854775808 ≤ d) (hd1 : d ≤ 9223372036854775807) (hc0 : -9223372036854775808 ≤ c) (hc1 : c ≤ 9223372036854775807) (hm0 : -9223372036854775808 ≤ m) (hm1 : m ≤ 9223372036854775807) (hk0 : -9223372036854775808 ≤ k) (hk1 : k ≤ 9223372036854775807) (w : World) (hT : T10 w) :
    Calls Tryd.prog 12 #[.string s, .int .i64 d, .int .i64 c, .int .i64 m, .int .i64 k] w fun e w' => ∃ S : ByteArray, e = .returned (.string S) ∧ Hid (S.data.toList = lineL s.data.toList d c m k) ∧ Below w.heap.size w w' := by
  by_cases hmay : mayL s.data.toList = true
  rotate_left
  · have HE : Hid (([] : List UInt8) = lineL s.data.toList d c m k) := lineL_no (by unfold okT; rw [show mayL s.data.toList = false by simpa using hmay]; rfl)
    clear hT
    go_enter Tryd.func12, Tryd.ntmps12
    go_wp2_with fail
    refine (tmay_at s false (by simpa using hmay) hs _).mono ?_
    rintro e W1 ⟨rfl, hb1⟩
    go_wp2_with fail
    go_ret
    exact ⟨⟨#[]⟩, rfl, HE, hb1⟩
  by_cases hd : fineT d
  rotate_left
  · have HE : Hid (([] : List UInt8) = lineL s.data.toList d c m k) := lineL_no (by unfold okT; rw [hmay, Bool.true_and]; exact decide_eq_false fun h => hd h.1)
    have CFd : Hid (∀ W, Calls Tryd.prog 22 #[.int .i64 d] W fun e w' => e = .returned (.bool false) ∧ W = w') := fun W => by have := tmaybe_any d W; rw [decide_eq_false hd] at this; exact this
    clear hT
    go_enter Tryd.func12, Tryd.ntmps12
    go_wp2_with fail
    refine (tmay_at s true hmay hs _).mono ?_
    rintro e W1 ⟨rfl, hb1⟩
    go_wp2_with fail
    refine (CFd.out _).mono ?_
    rintro e w' ⟨rfl, rfl⟩
    go_wp2_with fail
    go_ret
    exact ⟨⟨#[]⟩, rfl, HE, hb1⟩
  by_cases hc : fineT c
  rotate_left
  · have HE : Hid (([] : List UInt8) = lineL s.data.toList d c m k) := lineL_no (by unfold okT; rw [hmay, Bool.true_and]; exact decide_eq_false fun h => hc h.2.1)
    have CFd : Hid (∀ W, Calls Tryd.prog 22 #[.int .i64 d] W fun e w' => e = .returned (.bool true) ∧ W = w') := fun W => by have := tmaybe_any d W; rw [decide_eq_true hd] at this; exact this
    have CFc : Hid (∀ W, Calls Tryd.prog 22 #[.int .i64 c] W fun e w' => e = .returned (.bool false) ∧ W = w') := fun W => by have := tmaybe_any c W; rw [decide_eq_false hc] at this; exact this
    clear hT
    go_enter Tryd.func12, Tryd.ntmps12
    go_wp2_with fail
    refine (tmay_at s true hmay hs _).mono ?_
    rintro e W1 ⟨rfl, hb1⟩
    go_wp2_with fail
    refine (CFd.out _).mono ?_
    rintro e w' ⟨rfl, rfl⟩
    go_wp2_with fail
    refine (CFc.out _).mono ?_
    rintro e w' ⟨rfl, rfl⟩
    go_wp2_with fail
    go_ret
    exact ⟨⟨#[]⟩, rfl, HE, hb1⟩
  by_cases hm : fineT m
  rotate_left
  · have HE : Hid (([] : List UInt8) = lineL s.data.toList d c m k) := lineL_no (by unfold okT; rw [hmay, Bool.true_and]; exact decide_eq_false fun h => hm h.2.2.1)
    have CFd : Hid (∀ W, Calls Tryd.prog 22 #[.int .i64 d] W fun e w' => e = .returned (.bool true) ∧ W = w') := fun W => by have := tmaybe_any d W; rw [decide_eq_true hd] at this; exact this
    have CFc : Hid (∀ W, Calls Tryd.prog 22 #[.int .i64 c] W fun e w' => e = .returned (.bool true) ∧ W = w') := fun W => by have := tmaybe_any c W; rw [decide_eq_true hc] at this; exact this
    have CFm : Hid (∀ W, Calls Tryd.prog 22 #[.int .i64 m] W fun e w' => e = .returned (.bool false) ∧ W = w') := fun W => by have := tmaybe_any m W; rw [decide_eq_false hm] at this; exact this
    clear hT
    go_enter Tryd.func12, Tryd.ntmps12
    go_wp2_with fail
    refine (tmay_at s true hmay hs _).mono ?_
    rintro e W1 ⟨rfl, hb1⟩
    go_wp2_with fail
    refine (CFd.out _).mono ?_
    rintro e w' ⟨rfl, rfl⟩
    go_wp2_with fail
    refine (CFc.out _).mono ?_
    rintro e w' ⟨rfl, rfl⟩
    go_wp2_with fail
    refine (CFm.out _).mono ?_
    rintro e w' ⟨rfl, rfl⟩
    go_wp2_with fail
    go_ret
    exact ⟨⟨#[]⟩, rfl, HE, hb1⟩
  by_cases hka : 30 ≤ k
  rotate_left
  · have HE : Hid (([] : List UInt8) = lineL s.data.toList d c m k) := lineL_no (by unfold okT; rw [hmay, Bool.true_and]; exact decide_eq_false fun h => hka h.2.2.2.1)
    have CFd : Hid (∀ W, Calls Tryd.prog 22 #[.int .i64 d] W fun e w' => e = .returned (.bool true) ∧ W = w') := fun W => by have := tmaybe_any d W; rw [decide_eq_true hd] at this; exact this
    have CFc : Hid (∀ W, Calls Tryd.prog 22 #[.int .i64 c] W fun e w' => e = .returned (.bool true) ∧ W = w') := fun W => by have := tmaybe_any c W; rw [decide_eq_true hc] at this; exact this
    have CFm : Hid (∀ W, Calls Tryd.prog 22 #[.int .i64 m] W fun e w' => e = .returned (.bool true) ∧ W = w') := fun W => by have := tmaybe_any m W; rw [decide_eq_true hm] at this; exact this
    have hlt : k < 30 := by omega
    clear hT
    go_enter Tryd.func12, Tryd.ntmps12
    go_wp2_with fail
    refine (tmay_at s true hmay hs _).mono ?_
    rintro e W1 ⟨rfl, hb1⟩
    go_wp2_with fail
    refine (CFd.out _).mono ?_
    rintro e w' ⟨rfl, rfl⟩
    go_wp2_with fail
    refine (CFc.out _).mono ?_
    rintro e w' ⟨rfl, rfl⟩
    go_wp2_with fail
    refine (CFm.out _).mono ?_
    rintro e w' ⟨rfl, rfl⟩
    go_wp2_with fail
    go_ret
    exact ⟨⟨#[]⟩, rfl, HE, hb1⟩
  by_cases hkb : k ≤ 200
  rotate_left
  · have HE : Hid (([] : List UInt8) = lineL s.data.toList d c m k) := lineL_no (by unfold okT; rw [hmay, Bool.true_and]; exact decide_eq_false fun h => hkb h.2.2.2.2)
    have CFd : Hid (∀ W, Calls Tryd.prog 22 #[.int .i64 d] W fun e w' => e = .returned (.bool true) ∧ W = w') := fun W => by have := tmaybe_any d W; rw [decide_eq_true hd] at this; exact this
    have CFc : Hid (∀ W, Calls Tryd.prog 22 #[.int .i64 c] W fun e w' => e = .returned (.bool true) ∧ W = w') := fun W => by have := tmaybe_any c W; rw [decide_eq_true hc] at this; exact this
    have CFm : Hid (∀ W, Calls Tryd.prog 22 #[.int .i64 m] W fun e w' => e = .returned (.bool true) ∧ W = w') := fun W => by have := tmaybe_any m W; rw [decide_eq_true hm] at this; exact this
    have hlt : 200 < k := by omega
    clear hT
    go_enter Tryd.func12, Tryd.ntmps12
    go_wp2_with fail
    refine (tmay_at s true hmay hs _).mono ?_
    rintro e W1 ⟨rfl, hb1⟩
    go_wp2_with fail
    refine (CFd.out _).mono ?_
    rintro e w' ⟨rfl, rfl⟩
    go_wp2_with fail
    refine (CFc.out _).mono ?_
    rintro e w' ⟨rfl, rfl⟩
    go_wp2_with fail
    refine (CFm.out _).mono ?_
    rintro e w' ⟨rfl, rfl⟩
    go_wp2_with fail
    go_ret
    exact ⟨⟨#[]⟩, rfl, HE, hb1⟩
  have hok : okT s.data.toList d c m k = true := by unfold okT; rw [hmay, Bool.true_and]; exact decide_eq_true ⟨hd, hc, hm, hka, hkb⟩
  have HY := Lib.hid (lineL_yes hok)
  have CFd : Hid (∀ W, Calls Tryd.prog 22 #[.int .i64 d] W fun e w' => e = .returned (.bool true) ∧ W = w') := fun W => by have := tmaybe_any d W; rw [decide_eq_true hd] at this; exact this
  have CFc : Hid (∀ W, Calls Tryd.prog 22 #[.int .i64 c] W fun e w' => e = .returned (.bool true) ∧ W = w') := fun W => by have := tmaybe_any c W; rw [decide_eq_true hc] at this; exact this
  have CFm : Hid (∀ W, Calls Tryd.prog 22 #[.int .i64 m] W fun e w' => e = .returned (.bool true) ∧ W = w') := fun W => by have := tmaybe_any m W; rw [decide_eq_true hm] at this; exact this
  have HCL := Lib.hid (clipL_may hmay 12)
  have HLOW : Hid (Low (runes s.data.toList)) := (may_good hmay).low
  have HN12 : Hid ((runes s.data.toList).length ≤ 12) := (may_len hmay).2
  have hmay2 : Hid (mayL s.data.toList = true) := hmay
  obtain ⟨rs, HRS⟩ : ∃ rs, Hid (runes s.data.toList = rs) := ⟨_, rfl⟩
  rw [HRS.out] at HCL HLOW HN12 HY
  rw [HY.out]
  clear hd0 hd1 hc0 hc1 hm0 hm1
  obtain ⟨hd0, hd1⟩ := hd
  obtain ⟨hc0, hc1⟩ := hc
  obtain ⟨hm0, hm1⟩ := hm
  go_enter Tryd.func12, Tryd.ntmps12
  go_wp2_with fail
  refine (tmay_at s true hmay hs _).mono ?_
  rintro e W1 ⟨rfl, hb1⟩
  go_wp2_with fail
  refine (CFd.out _).mono ?_
  rintro e w' ⟨rfl, rfl⟩
  go_wp2_with fail
  refine (CFc.out _).mono ?_
  rintro e w' ⟨rfl, rfl⟩
  go_wp2_with fail
  refine (CFm.out _).mono ?_
  rintro e w' ⟨rfl, rfl⟩
  go_wp2_with fail
  refine (clip_any s 12 _ (by omega) (by decide) (by decide)).mono ?_
  rintro e W2 ⟨rfl, hb2⟩
  rw [HCL.out]
  obtain ⟨S0, HS0⟩ : ∃ S0 : ByteArray, Hid ((⟨(enc (clipR rs 12)).toArray⟩ : ByteArray) = S0) := ⟨_, rfl⟩
  have HT0 : Hid (S0.data.toList = enc (clipR rs 12)) := by show _ = _; rw [← HS0.out]
  rw [HS0.out]
  have S2 := Lib.hid (bch hb1 hb2)
  have HK12 := clipR_fits rs 12 (by decide)
  have HLW : Low (clipR rs 12) := low_clip HLOW.out 12
  have z0 : S0.size ≤ 48 := by rw [ba_size, HT0.out]; have h1 := enc_low_len HLW; have h2 := clip_len rs 12; have h3 := HN12.out; omega
  have hc0' := (colsR_bd (clipR rs 12)).1
  obtain ⟨j0, hj0⟩ : ∃ j : Nat, (12 : Int) - colsR (clipR rs 12) = (j : Int) := ⟨(12 - colsR (clipR rs 12)).toNat, by omega⟩
  have HNM : Hid (nameR rs = clipR rs 12 ++ List.replicate j0 32) := by show _ = _; unfold nameR; rw [hj0]; rfl
  have HB0 := Lib.hid (fun W => tblanks_any 12 j0 S0 (by omega) (by decide) (by rw [HT0.out, runes_enc _ HLW]; exact hj0) W)
  have hpb := pct_bd d m
  obtain ⟨P, HP⟩ : ∃ P, Hid (pctT d m = P) := ⟨_, rfl⟩
  rw [HP.out] at hpb
  obtain ⟨hp0, hp1⟩ := hpb
  have HPC := Lib.hid (tpct_any d m (by omega) (by omega) (by omega) (by omega) W2)
  rw [HP.out] at HPC
  have TT2 := Lib.hid (hT.since S2.out)
  clear hmay hb1 hb2 HS0 hok HK12 HLW hc0' hj0 hT
  go_wp2_with fail
  refine HPC.out.mono ?_
  rintro e W3 ⟨rfl, hb3⟩
  have S3 := Lib.hid (bch S2.out hb3)
  have TT3 := Lib.hid (TT2.out.since hb3)
  clear hb3
  go_wp2_with fail
  refine (titoa_any P hp0 (by omega) _ TT3.out).mono ?_
  rintro e W4 ⟨N1, rfl, hN1, hb4⟩
  have S4 := Lib.hid (bch S3.out hb4)
  have TT4 := Lib.hid (TT3.out.since hb4)
  have l1 : (digR P).length ≤ 3 := dig_len 3 (by omega) (by decide)
  have n1 : N1.size ≤ 10 := by rw [ba_size, hN1.out, enc_dig_len]; omega
  have HB1 := Lib.hid (fun W => tblanks_any 3 (3 - (digR P).length) N1 (by omega) (by decide) (by rw [hN1.out, runes_enc _ (dig_low P), dig_cols]; omega) W)
  have HR1 : Hid (rightR (digR P) 3 = List.replicate (3 - (digR P).length) 32 ++ digR P) := rfl
  clear hb4 l1
  go_wp2_with fail
  refine (titoa_any c hc0 hc1 _ TT4.out).mono ?_
  rintro e W5 ⟨N2, rfl, hN2, hb5⟩
  have S5 := Lib.hid (bch S4.out hb5)
  have l2 : (digR c).length ≤ 10 := dig_len 10 (by omega) (by decide)
  have n2 : N2.size ≤ 10 := by rw [ba_size, hN2.out, enc_dig_len]; omega
  have HB2 := Lib.hid (fun W => tblanks_any 10 (10 - (digR c).length) N2 (by omega) (by decide) (by rw [hN2.out, runes_enc _ (dig_low c), dig_cols]; omega) W)
  have HR2 : Hid (rightR (digR c) 10 = List.replicate (10 - (digR c).length) 32 ++ digR c) := rfl
  clear hb5 l2
  go_wp2_with fail
  refine (HB0.out _).mono ?_
  rintro e W6 ⟨R0, rfl, hR0, r0, hb6⟩
  have S6 := Lib.hid (bch S5.out hb6)
  clear hb6
  go_wp2_with fail
  refine (tbar_any d m (k - 30) (by omega) (by omega) (by omega) (by omega) (by omega) (by omega) _).mono ?_
  rintro e W7 ⟨B, rfl, hBL, hb7⟩
  have S7 := Lib.hid (bch S6.out hb7)
  have hbz : B.size ≤ 600 := by
    rw [ba_size, hBL.out]
    have h1 := enc_low_len (bar_low d m (k - 30))
    have h2 := bar_len (n := d) (o := m) (c := k - 30) (by omega) (by omega)
    omega
  clear hb7
  go_wp2_with fail
  refine (HB1.out _).mono ?_
  rintro e W8 ⟨R1, rfl, hR1, r1, hb8⟩
  have S8 := Lib.hid (bch S7.out hb8)
  clear hb8
  go_wp2_with fail
  refine (HB2.out _).mono ?_
  rintro e W9 ⟨R2, rfl, hR2, r2, hb9⟩
  have S9 := Lib.hid (bch S8.out hb9)
  clear hb9
  have HALL : Hid (((((((((((S0 ++ R0) ++ (⟨#[32]⟩ : ByteArray)) ++ B) ++ ⟨#[32]⟩) ++ R1) ++ N1) ++ ⟨#[37, 32]⟩) ++ R2) ++ N2) ++ ⟨#[43]⟩ : ByteArray).data.toList = enc (lineR rs d c m k)) := by
    show _ = _
    unfold lineR
    simp only [ba_app, enc_append, HNM.out, hBL.out, HR1.out, HR2.out, HP.out, HT0.out, hR0.out, hR1.out, hR2.out, hN1.out, hN2.out, List.append_assoc]
    rfl
  go_wp2_with fail
  go_ret
  exact ⟨_, rfl, HALL, S9.out⟩
end Go.Proofs.YtgenkmihbnkakaaDoor
