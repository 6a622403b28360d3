/- slices.SortStableFunc: two halves merged where one of them is one element. Conditions: the row's cells; at most 8000 elements; the comparison's contract. -/
import Derived.Test.YtggijifealljiaaStableSwap
set_option linter.unusedVariables false
set_option linter.unusedSimpArgs false
namespace Go.Proofs.Ytggijifealljiaa
open Go.RowKit

/-- What is known of the comparison, once. -/
structure Cmp3 (h : Nat) (p : Addr) (cf : Int → Int → Int) (tg : Int → Int) (ll : Int → Int → Prop) (ok : Int → Prop) (g : Nat) (W0 : World) : Prop where
  ent : ∀ args w, (callFunc h args).run Try.prog w = .ok (.enter h args) w
  at_ : CmpAt h p cf g W0 ok
  ord : Ord3 cf tg ll
/-- All of the row may be compared. -/
def AllOk (ok : Int → Prop) (V : List Int) : Prop := ∀ x ∈ V, ok x
section
variable {h : Nat} {p : Addr} {cf : Int → Int → Int} {tg : Int → Int} {ll : Int → Int → Prop} {ok : Int → Prop} {g n c : Nat} {W0 : World} {V X L R Y : List Int} {a m b : Nat}
theorem SRow.cmp3 (C : Cmp3 h p cf tg ll ok g W0) {W : World} (S : SRow g n c W0 V W) (hok : AllOk ok V) {i j : Nat} (hi : i < n) (hj : j < n) (q : Nat) :
    Calls Try.prog h #[.int .i64 (V.getD i 0), .int .i64 (V.getD j 0), .pointer (some p)] (W.drewN q) fun e w' => e = .returned (.int .i64 (cf (V.getD i 0) (V.getD j 0))) ∧ ∃ r, w' = (W.drewN q).drewN r :=
  C.at_ _ (S.drewN q).turn _ _ (hok _ (gd_mem (by rw [S.len]; exact hi))) (hok _ (gd_mem (by rw [S.len]; exact hj)))
/-- From lo up to hi all are less than the one at y. -/
def PreLt (cf : Int → Int → Int) (V : List Int) (y lo hi : Nat) : Prop := ∀ k, lo ≤ k → k < hi → cf (V.getD k 0) (V.getD y 0) < 0
/-- From lo up to hi none is. -/
def PostGe (cf : Int → Int → Int) (V : List Int) (y lo hi : Nat) : Prop := ∀ k, lo ≤ k → k < hi → ¬ cf (V.getD k 0) (V.getD y 0) < 0
def PostLt (cf : Int → Int → Int) (V : List Int) (y lo hi : Nat) : Prop := ∀ k, lo ≤ k → k < hi → cf (V.getD y 0) (V.getD k 0) < 0
def PreGe (cf : Int → Int → Int) (V : List Int) (y lo hi : Nat) : Prop := ∀ k, lo ≤ k → k < hi → ¬ cf (V.getD y 0) (V.getD k 0) < 0
/-- What a merge leaves. -/
def Merges (ll : Int → Int → Prop) (g n c : Nat) (W0 : World) (X L R Y : List Int) (e : Ending) (w' : World) : Prop :=
  e = .returned (.tuple #[]) ∧ Hid (∃ M : List Int, SRow g n c W0 (X ++ (M ++ Y)) w' ∧ M.Perm (L ++ R) ∧ M.Pairwise ll)
set_option maxRecDepth 100000 in
set_option maxHeartbeats 4000000 in
theorem sym_one1 (C : Cmp3 h p cf tg ll ok g W0) (w : World) (hn : n ≤ 8000) (S0 : SRow g n c W0 V w) (H : Halves tg ll V X L R Y a m b) (hok : AllOk ok V) (hm : m = a + 1) (hmb : m < b) :
    Calls Try.prog 34 #[.slice (some ⟨g, 0, none⟩) n c, .int .i64 a, .int .i64 m, .int .i64 b, .func (.func h) #[] #[.pointer (some p)]] w (Merges ll g n c W0 X L R Y) := by
  have hbn : b ≤ n := by rw [← S0.len, H.eq]; have := H.la; have := H.lm; have := H.lb; simp; omega
  have HS := Lib.hid S0
  have HH := Lib.hid H
  have HOK := Lib.hid hok
  have eg := C.ent
  have HC := Lib.hid C
  have HM := Lib.hid hm
  have z0 : (m : Int) - (a : Int) = 1 := by omega
  clear S0 H hok C hm
  go_enter Try.func34, Try.ntmps34
  go_wp2_with fail
  go_loopw [10, 11] (fun t10 t11 wr => ∃ i j : Nat, t10 = .int .i64 i ∧ t11 = .int .i64 j ∧ m ≤ i ∧ i ≤ j ∧ j ≤ b ∧ Hid (SRow g n c W0 V wr) ∧ Hid (PreLt cf V a m i) ∧ Hid (PostGe cf V a j b)) (fun t10 t11 _ => (intOf t11).toNat - (intOf t10).toNat)
  case atStart => exact ⟨m, b, rfl, rfl, Nat.le_refl _, by omega, Nat.le_refl _, HS, fun k h1 h2 => by omega, fun k h1 h2 => by omega⟩
  case round =>
    clear HS
    obtain ⟨i, j, rfl, rfl, him, hij, hjb, HS, HLT, HGE⟩ := hrel
    by_cases hlt : i < j
    · have hltz : (i : Int) < (j : Int) := by omega
      obtain ⟨q, hq⟩ : ∃ q, q = (i + j) / 2 := ⟨_, rfl⟩
      have hqz : ((i : Int) + (j : Int)) / 2 = (q : Int) := by omega
      have hq1 : i ≤ q := by omega
      have hq2 : q < j := by omega
      have hma : a < m := by have := HM.out; omega
      clear hq
      go_wp2_with fail
      clear hqz
      obtain ⟨x, HX⟩ : ∃ x, Hid (V.getD q 0 = x) := ⟨_, rfl⟩
      obtain ⟨y, HY⟩ : ∃ y, Hid (V.getD a 0 = y) := ⟨_, rfl⟩
      have c1 := HS.out.cell (i := q) (by omega)
      have c2 := HS.out.cell (i := a) (by omega)
      have hc := HS.out.cmp3 HC.out HOK.out (i := q) (j := a) (by omega) (by omega)
      rw [HX.out] at c1
      rw [HY.out] at c2
      rw [HX.out, HY.out] at hc
      have i0 : (0 : Int) ≤ (q : Int) := by omega
      have i1 : (q : Int) < (n : Int) := by omega
      have i2 : (0 : Int) ≤ (a : Int) := by omega
      have i3 : (a : Int) < (n : Int) := by omega
      by_cases hv : cf x y < 0
      · have HLT2 : Hid (PreLt cf V a m (q + 1)) := fun k h1 h2 => HH.out.mono HC.out.ord (Nat.le_refl _) (Nat.le_refl _) hma h1 (show k ≤ q by omega) (by omega) (by rw [HX.out, HY.out]; exact hv)
        have hd : decide (cf x y < 0) = true := decide_eq_true hv
        go_quiet (refine Calls.quiet_of (hc _))
        have S2 := Lib.hid (HS.out.drewN nq)
        clear hc c1 c2 HS HX HY HLT
        generalize wr.drewN nq = w2 at S2 ⊢
        clear nq
        go_wp2_with fail
        go_roundw
        case rel => exact ⟨q + 1, j, by go_num, rfl, by omega, by omega, hjb, S2, HLT2, HGE⟩
        case measure => simp [intOf]; omega
      · have HGE2 : Hid (PostGe cf V a q b) := fun k h1 h2 hk => hv (by
          have := HH.out.mono HC.out.ord (d := 0) (c := a) (c' := a) (q' := q) (q := k) (Nat.le_refl _) (Nat.le_refl _) hma (by omega) h1 h2 hk
          rwa [HX.out, HY.out] at this)
        have hd : decide (cf x y < 0) = false := decide_eq_false hv
        go_quiet (refine Calls.quiet_of (hc _))
        have S2 := Lib.hid (HS.out.drewN nq)
        clear hc c1 c2 HS HX HY HGE
        generalize wr.drewN nq = w2 at S2 ⊢
        clear nq
        go_wp2_with fail
        go_roundw
        case rel => exact ⟨i, q, rfl, rfl, him, by omega, by omega, S2, HLT, HGE2⟩
        case measure => simp [intOf]; omega
    · obtain rfl : j = i := by omega
      have HO : Hid (∃ x R1 R2, L = [x] ∧ R = R1 ++ R2 ∧ m + R1.length = j ∧ (R1 ++ x :: R2).Pairwise ll) := HH.out.one1 HC.out.ord HM.out him hjb HLT.out HGE.out
      obtain ⟨x, R1, R2, hL, hR, hi, hp⟩ := HO.out
      have HR1 : Hid (m + R1.length = j) := hi
      have HP := Lib.hid hp
      have HLX := Lib.hid hL
      have HRR := Lib.hid hR
      have HXL := Lib.hid HH.out.la
      have HN : R1.length ≤ n := by omega
      have HV : Hid (SRow g n c W0 (X ++ (R1.take 0 ++ x :: (R1.drop 0 ++ (R2 ++ Y)))) wr) := HS.out.same (by rw [HH.out.eq, hL, hR]; simp)
      clear HO hL hR hi hp HLT HGE HS
      go_wp2_with fail
      go_loopw [13] (fun t13 wr => ∃ k t : Nat, t13 = .int .i64 k ∧ t ≤ R1.length ∧ Hid (a + t = k) ∧ Hid (SRow g n c W0 (X ++ (R1.take t ++ x :: (R1.drop t ++ (R2 ++ Y)))) wr)) (fun t13 _ => n - (intOf t13).toNat)
      case atStart => exact ⟨a, 0, rfl, Nat.zero_le _, rfl, HV⟩
      case round =>
        clear HV
        obtain ⟨k, t, rfl, ht, HK, HS⟩ := hrel
        by_cases hlt2 : t < R1.length
        · have hkj : (k : Int) < (j : Int) - 1 := by have := HK.out; have := HR1.out; have := HM.out; omega
          obtain ⟨y, HY⟩ : ∃ y, Hid (y = R1.getD t 0) := ⟨_, rfl⟩
          have HV1 : Hid (X ++ (R1.take t ++ x :: (R1.drop t ++ (R2 ++ Y))) = (X ++ R1.take t) ++ x :: ([] ++ y :: (R1.drop (t + 1) ++ (R2 ++ Y)))) := by
            show _ = _
            rw [drop_cons (d := 0) (L := R1) hlt2, HY.out]; simp
          have HV2 : Hid ((X ++ R1.take t) ++ y :: ([] ++ x :: (R1.drop (t + 1) ++ (R2 ++ Y))) = X ++ (R1.take (t + 1) ++ x :: (R1.drop (t + 1) ++ (R2 ++ Y)))) := by
            show _ = _
            rw [take_snoc (d := 0) (L := R1) hlt2, HY.out]; simp
          have e1 : k = (X ++ R1.take t).length := by rw [List.length_append, List.length_take, HXL.out, ← HK.out]; omega
          have e2 : k + 1 = (X ++ R1.take t).length + 1 + ([] : List Int).length := by rw [← e1]; rfl
          have hk1 : k + 1 < n := by have := HK.out; have := HR1.out; have := HM.out; omega
          have c1 := HS.out.at_ HV1.out e1
          have c2 : wr.cell? ⟨g, k + 1, none⟩ = some (.int .i64 y) := HS.out.at_ (P := (X ++ R1.take t) ++ [x]) (S := R1.drop (t + 1) ++ (R2 ++ Y)) (HV1.out.trans (by simp)) (by rw [e2]; simp [Nat.add_assoc])
          have f1 := HS.out.free k
          have f2 := HS.out.free (k + 1)
          have NS := Lib.hid ((HS.out.swap HV1.out e1 e2).same HV2.out)
          have i0 : (0 : Int) ≤ (k : Int) := by omega
          have i1 : (k : Int) < (n : Int) := by omega
          have i2 : (0 : Int) ≤ (k : Int) + 1 := by omega
          have i3 : (k : Int) + 1 < (n : Int) := by omega
          have z2 : ((k : Int) + 1).toNat = k + 1 := by omega
          clear e1 e2 HV1 HV2 HS HY
          go_wp2_with fail
          go_region
          have NS2 := Lib.hid (NS.out.drewN 1)
          clear NS c1 c2 f1 f2
          go_wp2_with fail
          go_roundw
          case rel => exact ⟨k + 1, t + 1, by go_num, by omega, by have := HK.out; show _ = _; omega, NS2⟩
          case measure => simp [intOf]; omega
        · have hkj : ¬ (k : Int) < (j : Int) - 1 := by have := HK.out; have := HR1.out; have := HM.out; omega
          obtain rfl : t = R1.length := by omega
          have HF : Hid (∃ M : List Int, SRow g n c W0 (X ++ (M ++ Y)) wr ∧ M.Perm (L ++ R) ∧ M.Pairwise ll) := by
            refine ⟨R1 ++ x :: R2, HS.out.same (by simp), ?_, HP.out⟩
            rw [HLX.out, HRR.out]
            exact List.perm_middle
          clear HS
          go_wp2_with fail
          go_end0
          exact ⟨rfl, HF⟩
set_option maxRecDepth 100000 in
set_option maxHeartbeats 4000000 in
theorem sym_one2 (C : Cmp3 h p cf tg ll ok g W0) (w : World) (hn : n ≤ 8000) (S0 : SRow g n c W0 V w) (H : Halves tg ll V X L R Y a m b) (hok : AllOk ok V) (hb : b = m + 1) (ham : a + 1 < m) :
    Calls Try.prog 34 #[.slice (some ⟨g, 0, none⟩) n c, .int .i64 a, .int .i64 m, .int .i64 b, .func (.func h) #[] #[.pointer (some p)]] w (Merges ll g n c W0 X L R Y) := by
  have hbn : b ≤ n := by rw [← S0.len, H.eq]; have := H.la; have := H.lm; have := H.lb; simp; omega
  have HS := Lib.hid S0
  have HH := Lib.hid H
  have HOK := Lib.hid hok
  have eg := C.ent
  have HC := Lib.hid C
  have HM := Lib.hid hb
  have z0 : (b : Int) - (m : Int) = 1 := by omega
  have z1 : ¬ (m : Int) - (a : Int) = 1 := by omega
  have hmb : m < b := by omega
  clear S0 H hok C hb
  go_enter Try.func34, Try.ntmps34
  go_wp2_with fail
  go_loopw [14, 15] (fun t14 t15 wr => ∃ i j : Nat, t14 = .int .i64 i ∧ t15 = .int .i64 j ∧ a ≤ i ∧ i ≤ j ∧ j ≤ m ∧ Hid (SRow g n c W0 V wr) ∧ Hid (PreGe cf V m a i) ∧ Hid (PostLt cf V m j m)) (fun t14 t15 _ => (intOf t15).toNat - (intOf t14).toNat)
  case atStart => exact ⟨a, m, rfl, rfl, Nat.le_refl _, by omega, Nat.le_refl _, HS, fun k h1 h2 => by omega, fun k h1 h2 => by omega⟩
  case round =>
    clear HS
    obtain ⟨i, j, rfl, rfl, hia, hij, hjm, HS, HGE, HLT⟩ := hrel
    by_cases hlt : i < j
    · have hltz : (i : Int) < (j : Int) := by omega
      obtain ⟨q, hq⟩ : ∃ q, q = (i + j) / 2 := ⟨_, rfl⟩
      have hqz : ((i : Int) + (j : Int)) / 2 = (q : Int) := by omega
      have hq1 : i ≤ q := by omega
      have hq2 : q < j := by omega
      clear hq
      go_wp2_with fail
      clear hqz
      obtain ⟨x, HX⟩ : ∃ x, Hid (V.getD m 0 = x) := ⟨_, rfl⟩
      obtain ⟨y, HY⟩ : ∃ y, Hid (V.getD q 0 = y) := ⟨_, rfl⟩
      have c1 := HS.out.cell (i := m) (by omega)
      have c2 := HS.out.cell (i := q) (by omega)
      have hc := HS.out.cmp3 HC.out HOK.out (i := m) (j := q) (by omega) (by omega)
      rw [HX.out] at c1
      rw [HY.out] at c2
      rw [HX.out, HY.out] at hc
      have i0 : (0 : Int) ≤ (q : Int) := by omega
      have i1 : (q : Int) < (n : Int) := by omega
      have i2 : (0 : Int) ≤ (m : Int) := by omega
      have i3 : (m : Int) < (n : Int) := by omega
      by_cases hv : cf x y < 0
      · have HLT2 : Hid (PostLt cf V m q m) := fun k h1 h2 => HH.out.mono HC.out.ord (show a ≤ q by omega) h1 h2 (Nat.le_refl _) (Nat.le_refl _) hmb (by rw [HX.out, HY.out]; exact hv)
        have hd : decide (cf x y < 0) = true := decide_eq_true hv
        go_quiet (refine Calls.quiet_of (hc _))
        have S2 := Lib.hid (HS.out.drewN nq)
        clear hc c1 c2 HS HX HY HLT
        generalize wr.drewN nq = w2 at S2 ⊢
        clear nq
        go_wp2_with fail
        go_roundw
        case rel => exact ⟨i, q, rfl, rfl, by omega, by omega, by omega, S2, HGE, HLT2⟩
        case measure => simp [intOf]; omega
      · have HGE2 : Hid (PreGe cf V m a (q + 1)) := fun k h1 h2 hk => hv (by
          have := HH.out.mono HC.out.ord (d := 0) (c := k) (c' := q) (q' := m) (q := m) h1 (by omega) (by omega) (Nat.le_refl _) (Nat.le_refl _) hmb hk
          rwa [HX.out, HY.out] at this)
        have hd : decide (cf x y < 0) = false := decide_eq_false hv
        go_quiet (refine Calls.quiet_of (hc _))
        have S2 := Lib.hid (HS.out.drewN nq)
        clear hc c1 c2 HS HX HY HGE
        generalize wr.drewN nq = w2 at S2 ⊢
        clear nq
        go_wp2_with fail
        go_roundw
        case rel => exact ⟨q + 1, j, by go_num, rfl, by omega, by omega, hjm, S2, HGE2, HLT⟩
        case measure => simp [intOf]; omega
    · obtain rfl : j = i := by omega
      have HO : Hid (∃ x L1 L2, R = [x] ∧ L = L1 ++ L2 ∧ a + L1.length = j ∧ (L1 ++ x :: L2).Pairwise ll) := HH.out.one2 HC.out.ord HM.out hia hjm HGE.out HLT.out
      obtain ⟨x, L1, L2, hR, hL, hi, hp⟩ := HO.out
      have HL1 : Hid (a + L1.length = j) := hi
      have HL2 : Hid (j + L2.length = m) := by
        have := HH.out.lm
        rw [hL, List.length_append] at this
        show _ = _
        omega
      have HP := Lib.hid hp
      have HLX := Lib.hid hL
      have HRR := Lib.hid hR
      have HXL := Lib.hid HH.out.la
      have HV : Hid (SRow g n c W0 (X ++ (L1 ++ (L2.take L2.length ++ x :: (L2.drop L2.length ++ Y)))) wr) := HS.out.same (by rw [HH.out.eq, hL, hR]; simp)
      clear HO hL hR hi hp HLT HGE HS
      go_wp2_with fail
      go_loopw [17] (fun t17 wr => ∃ k t : Nat, t17 = .int .i64 k ∧ t ≤ L2.length ∧ Hid (j + t = k) ∧ Hid (SRow g n c W0 (X ++ (L1 ++ (L2.take t ++ x :: (L2.drop t ++ Y)))) wr)) (fun t17 _ => (intOf t17).toNat)
      case atStart => exact ⟨m, L2.length, rfl, Nat.le_refl _, HL2, HV⟩
      case round =>
        clear HV
        obtain ⟨k, t, rfl, ht, HK, HS⟩ := hrel
        by_cases hlt2 : 0 < t
        · obtain ⟨s, rfl⟩ : ∃ s, t = s + 1 := ⟨t - 1, by omega⟩
          obtain ⟨kp, HKP⟩ : ∃ kp, Hid (k = kp + 1) := ⟨k - 1, by have := HK.out; show _ = _; omega⟩
          have hkz : (k : Int) - 1 = (kp : Int) := by have := HKP.out; omega
          have hkj : (j : Int) < (k : Int) := by have := HK.out; omega
          obtain ⟨y, HY⟩ : ∃ y, Hid (y = L2.getD s 0) := ⟨_, rfl⟩
          have HV1 : Hid (X ++ (L1 ++ (L2.take (s + 1) ++ x :: (L2.drop (s + 1) ++ Y))) = (X ++ (L1 ++ L2.take s)) ++ y :: ([] ++ x :: (L2.drop (s + 1) ++ Y))) := by
            show _ = _
            rw [take_snoc (d := 0) (L := L2) (by omega), HY.out]; simp
          have HV2 : Hid ((X ++ (L1 ++ L2.take s)) ++ x :: ([] ++ y :: (L2.drop (s + 1) ++ Y)) = X ++ (L1 ++ (L2.take s ++ x :: (L2.drop s ++ Y)))) := by
            show _ = _
            rw [drop_cons (d := 0) (L := L2) (t := s) (by omega), HY.out]; simp
          have e1 : kp = (X ++ (L1 ++ L2.take s)).length := by have := HK.out; have := HKP.out; have := HL1.out; simp only [List.length_append, List.length_take, HXL.out]; omega
          have e2 : k = (X ++ (L1 ++ L2.take s)).length + 1 + ([] : List Int).length := by rw [← e1]; exact HKP.out
          have hk1 : k < n := by have := HK.out; have := HL2.out; omega
          have hk2 : kp < n := by have := HKP.out; omega
          have c1 := HS.out.at_ HV1.out e1
          have c2 : wr.cell? ⟨g, k, none⟩ = some (.int .i64 x) := HS.out.at_ (P := (X ++ (L1 ++ L2.take s)) ++ [y]) (S := L2.drop (s + 1) ++ Y) (HV1.out.trans (by simp)) (by rw [e2]; simp [Nat.add_assoc])
          have f1 := HS.out.free kp
          have f2 := HS.out.free k
          have NS := Lib.hid ((HS.out.swap' HV1.out e1 e2).same HV2.out)
          have i0 : (0 : Int) ≤ (k : Int) := by omega
          have i1 : (k : Int) < (n : Int) := by omega
          have i2 : (0 : Int) ≤ (kp : Int) := by omega
          have i3 : (kp : Int) < (n : Int) := by omega
          have ne : kp ≠ k := by have := HKP.out; omega
          have ne' : k ≠ kp := by have := HKP.out; omega
          clear e1 e2 HV1 HV2 HS HY
          go_wp2_with fail
          go_region
          have NS2 := Lib.hid (NS.out.drewN 1)
          clear NS c1 c2 f1 f2
          go_wp2_with fail
          go_roundw
          case rel => exact ⟨kp, s, by go_num, by omega, by have := HK.out; have := HKP.out; show _ = _; omega, NS2⟩
          case measure => have := HKP.out; simp [intOf]; omega
        · have hkj : ¬ (j : Int) < (k : Int) := by have := HK.out; omega
          obtain rfl : t = 0 := by omega
          have HF : Hid (∃ M : List Int, SRow g n c W0 (X ++ (M ++ Y)) wr ∧ M.Perm (L ++ R) ∧ M.Pairwise ll) := by
            refine ⟨L1 ++ x :: L2, HS.out.same (by simp), ?_, HP.out⟩
            rw [HLX.out, HRR.out, List.append_assoc]
            exact List.Perm.append_left _ (List.perm_append_singleton x L2).symm
          clear HS
          go_wp2_with fail
          go_end0
          exact ⟨rfl, HF⟩
end
end Go.Proofs.Ytggijifealljiaa
