/- slices.SortStableFunc: the insertion sort of one block. Conditions: the row's cells; at most 8000 elements; the comparison's contract. -/
import Derived.Test.YtggijifealljiaaStableOne
set_option linter.unusedVariables false
set_option linter.unusedSimpArgs false
namespace Go.Proofs.Ytggijifealljiaa
open Go.RowKit

/-- What a sort leaves. -/
def Sorted3 (ll : Int → Int → Prop) (g n c : Nat) (W0 : World) (X L Y : List Int) (e : Ending) (w' : World) : Prop :=
  e = .returned (.tuple #[]) ∧ Hid (∃ M : List Int, SRow g n c W0 (X ++ (M ++ Y)) w' ∧ M.Perm L ∧ M.Pairwise ll)
/-- The first t of L are in order. -/
structure InsO (tg : Int → Int) (ll : Int → Int → Prop) (g n c : Nat) (W0 : World) (X L Y : List Int) (t : Nat) (M : List Int) (W : World) : Prop where
  row : SRow g n c W0 (X ++ (M ++ (L.drop t ++ Y))) W
  perm : M.Perm (L.take t)
  up : M.Pairwise ll
/-- x is on its way. -/
structure InsI (ll : Int → Int → Prop) (g n c : Nat) (W0 : World) (X M : List Int) (x : Int) (D : List Int) (M1 M2 : List Int) (W : World) : Prop where
  row : SRow g n c W0 (X ++ (M1 ++ x :: (M2 ++ D))) W
  eq : M = M1 ++ M2
  gt : ∀ y ∈ M2, ll x y
section
variable {h : Nat} {p : Addr} {cf : Int → Int → Int} {tg : Int → Int} {ll : Int → Int → Prop} {ok : Int → Prop} {g n c : Nat} {W0 : World} {V X L R Y : List Int} {a m b : Nat}
set_option maxRecDepth 100000 in
set_option maxHeartbeats 4000000 in
theorem inssort_any (C : Cmp3 h p cf tg ll ok g W0) (w : World) (hn : n ≤ 8000) (S0 : SRow g n c W0 (X ++ (L ++ Y)) w) (hok : AllOk ok (X ++ (L ++ Y))) (ha : X.length = a) (hb : a + L.length = b) (ht : L.Pairwise fun x y => tg x < tg y) :
    Calls Try.prog 33 #[.slice (some ⟨g, 0, none⟩) n c, .int .i64 a, .int .i64 b, .func (.func h) #[] #[.pointer (some p)]] w (Sorted3 ll g n c W0 X L Y) := by
  have hbn : b ≤ n := by rw [← S0.len]; simp; omega
  have HOK : Hid (∀ x ∈ L, ok x) := fun x hx => hok x (by simp [hx])
  have eg := C.ent
  have HC := Lib.hid C
  have HXL := Lib.hid ha
  have HLL := Lib.hid hb
  have HT := Lib.hid ht
  have H0 : Hid (InsO tg ll g n c W0 X L Y 1 (L.take 1) w) := ⟨S0.same (by rw [tk_dr]), List.Perm.refl _, by
    rcases L with _ | ⟨x, L⟩
    · exact List.Pairwise.nil
    · exact List.pairwise_singleton _ _⟩
  have hab : a ≤ b := by omega
  clear S0 hok C ha hb ht
  go_enter Try.func33, Try.ntmps33
  go_wp2_with fail
  go_loopw [8] (fun t8 wr => ∃ (i t : Nat) (M : List Int), t8 = .int .i64 i ∧ Hid (a + t = i) ∧ 1 ≤ t ∧ i ≤ b + 1 ∧ Hid (InsO tg ll g n c W0 X L Y t M wr)) (fun t8 _ => n + 1 - (intOf t8).toNat)
  case atStart => exact ⟨a + 1, 1, L.take 1, by go_num, rfl, Nat.le_refl _, by omega, H0⟩
  case round =>
    clear H0
    obtain ⟨i, t, M, rfl, HI, ht1, hib, HO⟩ := hrel
    by_cases hlt : i < b
    · have hltz : (i : Int) < (b : Int) := by omega
      obtain ⟨x, HX⟩ : ∃ x, Hid (x = L.getD t 0) := ⟨_, rfl⟩
      have htl : Hid (t < L.length) := by have := HI.out; have := HLL.out; show _ < _; omega
      have HML : Hid (M.length = t) := by
        have := HO.out.perm.length_eq
        rw [List.length_take] at this
        have := htl.out
        show _ = _
        omega
      have HXT : Hid (∀ y ∈ M, tg y < tg x) := fun y hy => by
        have hm := HO.out.perm.mem_iff.1 hy
        obtain ⟨k, hk, rfl⟩ := List.mem_iff_getElem.1 hm
        rw [List.length_take] at hk
        rw [List.getElem_take, HX.out, gd_get htl.out]
        exact List.pairwise_iff_getElem.1 HT.out k t (by omega) htl.out (by omega)
      have HXO : Hid (ok x) := HOK.out x (by rw [HX.out]; exact gd_mem htl.out)
      have HMO : Hid (∀ y ∈ M, ok y) := fun y hy => HOK.out y (List.mem_of_mem_take (HO.out.perm.mem_iff.1 hy))
      have HJ : Hid (InsI ll g n c W0 X M x (L.drop (t + 1) ++ Y) M [] wr) := ⟨HO.out.row.same (by rw [drop_cons (d := 0) htl.out, HX.out]; simp), by simp, fun y hy => by cases hy⟩
      have HMU := Lib.hid HO.out.up
      have HMP := Lib.hid HO.out.perm
      clear HO
      go_wp2_with fail
      go_loopw [9] (fun t9 wr => ∃ (j : Nat) (M1 M2 : List Int), t9 = .int .i64 j ∧ Hid (a + M1.length = j) ∧ a ≤ j ∧ j ≤ i ∧ Hid (InsI ll g n c W0 X M x (L.drop (t + 1) ++ Y) M1 M2 wr)) (fun t9 _ => (intOf t9).toNat)
      case atStart => exact ⟨i, M, [], rfl, by have := HML.out; have := HI.out; show _ = _; omega, by have := HI.out; omega, Nat.le_refl _, HJ⟩
      case round =>
        clear HJ
        obtain ⟨j, M1, M2, rfl, HJL, haj, hji, HS⟩ := hrel
        have hjn : j < n := by omega
        have HD : Hid (∀ W2, SRow g n c W0 (X ++ (M1 ++ x :: (M2 ++ (L.drop (t + 1) ++ Y)))) W2 → (M1 = [] ∨ ∃ M z, M1 = M ++ [z] ∧ ¬ cf x z < 0) → InsO tg ll g n c W0 X L Y (t + 1) (M1 ++ x :: M2) W2) := fun W2 hs hd => by
          have e := HS.out.eq
          refine ⟨hs.same (by simp), ?_, ?_⟩
          · rw [take_snoc (d := 0) htl.out, ← HX.out]
            refine List.perm_middle.trans (List.Perm.trans ?_ (List.perm_append_singleton x _).symm)
            rw [← e]; exact List.Perm.cons _ HMP.out
          · exact ins_done HC.out.ord (by rw [← e]; exact HMU.out) HS.out.gt (fun y hy => HXT.out y (by rw [e]; simp [hy])) hd
        by_cases hja : a < j
        · have hjz : (a : Int) < (j : Int) := by omega
          obtain ⟨M0, z, HM0⟩ : ∃ M0 z, Hid (M1 = M0 ++ [z]) := by
            have hne : M1 ≠ [] := fun e => by have := HJL.out; rw [e] at this; simp at this; omega
            exact ⟨M1.dropLast, M1.getLast hne, (List.dropLast_concat_getLast hne).symm⟩
          obtain ⟨kp, HKP⟩ : ∃ kp, Hid (j = kp + 1) := ⟨j - 1, by show _ = _; omega⟩
          have hkz : (j : Int) - 1 = (kp : Int) := by have := HKP.out; omega
          have hkn : kp < n := by have := HKP.out; omega
          have HV1 : Hid (X ++ (M1 ++ x :: (M2 ++ (L.drop (t + 1) ++ Y))) = (X ++ M0) ++ z :: ([] ++ x :: (M2 ++ (L.drop (t + 1) ++ Y)))) := by show _ = _; rw [HM0.out]; simp
          have e1 : kp = (X ++ M0).length := by have := HKP.out; have := HJL.out; rw [HM0.out] at this; simp only [List.length_append, List.length_cons, List.length_nil, HXL.out] at this ⊢; omega
          have e2 : j = (X ++ M0).length + 1 + ([] : List Int).length := by rw [← e1]; exact HKP.out
          have c1 := HS.out.row.at_ HV1.out e1
          have c2 : wr.cell? ⟨g, j, none⟩ = some (.int .i64 x) := HS.out.row.at_ (P := (X ++ M0) ++ [z]) (S := M2 ++ (L.drop (t + 1) ++ Y)) (HV1.out.trans (by simp)) (by rw [e2]; simp [Nat.add_assoc])
          have f1 := HS.out.row.free kp
          have f2 := HS.out.row.free j
          have HZM : Hid (z ∈ M) := by show _ ∈ _; rw [HS.out.eq, HM0.out]; simp
          have hc : ∀ q, Calls Try.prog h #[.int .i64 x, .int .i64 z, .pointer (some p)] (wr.drewN q) fun e w' => e = .returned (.int .i64 (cf x z)) ∧ ∃ r, w' = (wr.drewN q).drewN r := fun q => HC.out.at_ _ (HS.out.row.drewN q).turn _ _ HXO.out (HMO.out z HZM.out)
          have i0 : (0 : Int) ≤ (j : Int) := by omega
          have i1 : (j : Int) < (n : Int) := by omega
          have i2 : (0 : Int) ≤ (kp : Int) := by omega
          have i3 : (kp : Int) < (n : Int) := by omega
          by_cases hv : cf x z < 0
          · have hd : decide (cf x z < 0) = true := decide_eq_true hv
            have NS : Hid (∀ W2, SRow g n c W0 (X ++ (M1 ++ x :: (M2 ++ (L.drop (t + 1) ++ Y)))) W2 → SRow g n c W0 (X ++ (M0 ++ x :: ((z :: M2) ++ (L.drop (t + 1) ++ Y)))) ((W2.setCell ⟨g, j, none⟩ (.int .i64 z)).setCell ⟨g, kp, none⟩ (.int .i64 x))) := fun W2 hs => (hs.swap' HV1.out e1 e2).same (by simp)
            have ne : kp ≠ j := by have := HKP.out; omega
            have ne' : j ≠ kp := by have := HKP.out; omega
            clear e1 e2 HV1 HD
            go_wp2_with fail
            go_quiet (refine Calls.quiet_of (hc _))
            have S2 := Lib.hid (HS.out.row.drewN nq)
            have c1' : (wr.drewN nq).cell? ⟨g, kp, none⟩ = some (.int .i64 z) := c1
            have c2' : (wr.drewN nq).cell? ⟨g, j, none⟩ = some (.int .i64 x) := c2
            have f1' : (wr.drewN nq).frozen? ⟨g, kp, none⟩ = false := f1
            have f2' : (wr.drewN nq).frozen? ⟨g, j, none⟩ = false := f2
            have HG := Lib.hid HS.out.gt
            have HE := Lib.hid HS.out.eq
            clear c1 c2 f1 f2 hc HS
            generalize wr.drewN nq = w2 at S2 c1' c2' f1' f2' ⊢
            clear nq
            go_wp2_with fail
            go_region
            have S3 := Lib.hid ((NS.out _ S2.out).drewN 1)
            clear c1' c2' f1' f2' S2 NS
            have HJ2 : Hid (InsI ll g n c W0 X M x (L.drop (t + 1) ++ Y) M0 (z :: M2) ((w2.setCell ⟨g, j, none⟩ (.int .i64 z)).setCell ⟨g, kp, none⟩ (.int .i64 x)).drew) := ⟨S3.out, by rw [HE.out, HM0.out]; simp, fun y hy => by
              rcases List.mem_cons.1 hy with rfl | hy
              · exact HC.out.ord.hi (HXT.out _ HZM.out) hv
              · exact HG.out y hy⟩
            clear S3
            go_wp2_with fail
            go_roundw
            case rel => exact ⟨kp, M0, z :: M2, by go_num, by have := HJL.out; rw [HM0.out] at this; have := HKP.out; simp at *; show _ = _; omega, by have := HKP.out; omega, by have := HKP.out; omega, HJ2⟩
            case measure => have := HKP.out; simp [intOf]; omega
          · have hd : decide (cf x z < 0) = false := decide_eq_false hv
            clear e1 e2 HV1
            go_wp2_with fail
            go_quiet (refine Calls.quiet_of (hc _))
            have HN2 := Lib.hid (HD.out _ (HS.out.row.drewN nq) (Or.inr ⟨M0, z, HM0.out, hv⟩))
            clear c1 c2 f1 f2 hc HS HD
            generalize wr.drewN nq = w2 at HN2 ⊢
            clear nq
            go_wp2_with fail
            go_roundw
            case rel => exact ⟨i + 1, t + 1, _, by go_num, by have := HI.out; show _ = _; omega, by omega, by omega, HN2⟩
            case measure => simp [intOf]; omega
        · have hjz : decide ((a : Int) < (j : Int)) = false := decide_eq_false (by omega)
          have hjz' : ¬ (a : Int) < (j : Int) := by omega
          have hE : M1 = [] := List.eq_nil_of_length_eq_zero (by have := HJL.out; omega)
          have HE := Lib.hid hE
          clear hE
          go_wp2_with fail
          go_quiet (fail)
          have HN2 := Lib.hid (HD.out _ (HS.out.row.drewN nq) (Or.inl HE.out))
          clear HS HD
          generalize wr.drewN nq = w2 at HN2 ⊢
          clear nq
          go_wp2_with fail
          go_roundw
          case rel => exact ⟨i + 1, t + 1, _, by go_num, by have := HI.out; show _ = _; omega, by omega, by omega, HN2⟩
          case measure => simp [intOf]; omega
    · have hltz : ¬ (i : Int) < (b : Int) := by omega
      have HF : Hid (∃ M : List Int, SRow g n c W0 (X ++ (M ++ Y)) wr ∧ M.Perm L ∧ M.Pairwise ll) := by
        have h1 : L.length ≤ t := by have := HI.out; have := HLL.out; omega
        have h2 := HO.out.row
        have h3 := HO.out.perm
        rw [List.drop_of_length_le h1] at h2
        rw [List.take_of_length_le h1] at h3
        exact ⟨M, h2.same (by simp), h3, HO.out.up⟩
      clear HO
      go_wp2_with fail
      go_end0
      exact ⟨rfl, HF⟩
end
end Go.Proofs.Ytggijifealljiaa
