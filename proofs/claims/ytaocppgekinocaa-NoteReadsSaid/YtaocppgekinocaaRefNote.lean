/- The document's own Size, Fit, Lay. Conditions: the slice's cells; at most 100 notes. -/
import Derived.Test.YtaocppgekinocaaRefBytes
import Derived.Test.YtaocppgekinocaaRefMay
set_option linter.unusedVariables false
set_option linter.unusedSimpArgs false
namespace Go.Proofs.Ytaocppgekinocaa
open Go.RowKit

theorem refsize_any (A : Option Addr) (n c : Nat) (vs : List V) (w : World) (hn : n ≤ 100) (hA : Notes w w.heap.size A n vs) :
    Calls Try.prog 15 #[.slice A n c] w fun e w' => e = .returned (.int .i64 ((sizeM vs : Nat) : Int)) ∧ Hid (Below w.heap.size w w') := by
  have HA := Lib.hid hA
  clear hA
  go_enter Try.func15, Try.ntmps15
  go_wp2_with fail
  refine (refall_any A n c vs _ (by omega) HA.out).mono ?_
  rcases hok : allB vs
  · rintro e W1 ⟨rfl, hb⟩
    have HS : Hid (sizeM vs = 0) := if_neg (by rw [hok]; simp)
    go_wp2_with fail
    go_ret
    rw [HS.out]
    exact ⟨rfl, hb⟩
  · rintro e W1 ⟨rfl, hb⟩
    have HS : Hid (sizeM vs = (encL vs).length) := if_pos hok
    have HA1 := Lib.hid (HA.out.since hb.out)
    go_wp2_with fail
    refine (refbytes_any A n c vs _ hn hok HA1.out).mono ?_
    rintro e W2 ⟨A2, n2, c2, rfl, ho2, hb2⟩
    have HS2 : Hid (sizeM vs = n2) := by show _ = _; rw [HS.out, ho2.len]
    have S2 := Lib.hid (below_chain hb.out hb2)
    have hc := ho2.cap
    clear ho2 hb2
    go_wp2_with fail
    go_ret
    rw [HS2.out]
    exact ⟨rfl, S2⟩
theorem encL_sz {vs : List V} {k : Nat} (hk : k ≤ vs.length) : (encL (vs.take k)).length = Nt.sz (vs.map toN) k := by unfold encL Nt.sz; rw [List.map_take]
theorem allB_first {vs : List V} (h : allB vs = true) (k : Nat) : allB (vs.take k) = true := by
  unfold allB at h ⊢
  rw [List.all_eq_true] at h ⊢
  exact fun v hv => h v (List.mem_of_mem_take hv)
set_option maxHeartbeats 2000000 in
theorem reffit_any (A : Option Addr) (n c : Nat) (x : Int) (vs : List V) (w : World) (hn : n ≤ 100) (hc : n ≤ c) (hA : Notes w w.heap.size A n vs) :
    Calls Try.prog 17 #[.int .i64 x, .slice A n c] w (GivesN w (FitM x vs)) := by
  have HA := Lib.hid hA
  have HL := Lib.hid hA.len
  have HC := Lib.hid hc
  clear hA
  go_enter Try.func17, Try.ntmps17
  go_wp2_with fail
  refine (refall_any A n c vs _ (by omega) HA.out).mono ?_
  rcases hok : allB vs
  · rintro e W1 ⟨rfl, hb⟩
    have HF : Hid (FitM x vs 0) := ⟨fun h => (by rw [hok] at h; cases h), fun _ => rfl⟩
    go_wp2_with fail
    go_ret
    exact ⟨0, rfl, HF, hb⟩
  · rintro e W1 ⟨rfl, hb⟩
    have HOK := Lib.hid hok
    clear hok
    go_wp2_with fail
    go_loopw [5] (fun t5 wr => ∃ (k : Nat), t5 = .int .i64 k ∧ k ≤ n ∧ Hid (k = n ∨ x < (Nt.sz (vs.map toN) (k + 1) : Int)) ∧ Hid (Below w.heap.size w wr)) (fun t5 _ => (intOf t5).toNat)
    case atStart => exact ⟨n, rfl, Nat.le_refl _, Or.inl rfl, hb⟩
    case round =>
      obtain ⟨k, rfl, hk, HK, HB⟩ := hrel
      by_cases h0 : 0 < k
      · have N1 := Lib.hid ((HA.out.since HB.out).first hk)
        have hsl : ∀ W : World, (Instr.slice 22 (.slice A n c) none (some (.int .i64 (k : Int))) none).run Try.prog W = .ok (.slice A k c) W := fun W => sliceN_to A n c k hk hc W
        go_wp2_with fail
        refine (refbytes_any A k c (vs.take k) _ (by omega) (allB_first HOK.out k) N1.out).mono ?_
        rintro e W2 ⟨A2, n2, c2, rfl, ho2, hb2⟩
        have S2 := Lib.hid (below_chain HB.out hb2)
        have HN2 : Hid (n2 = Nt.sz (vs.map toN) k) := by show _ = _; rw [← ho2.len, encL_sz (by rw [HL.out]; exact hk)]
        have hc2 := ho2.cap
        clear ho2 hb2 N1 hsl
        by_cases hle : (n2 : Int) ≤ x
        · have HF : Hid (FitM x vs k) := ⟨fun _ => ⟨by rw [List.length_map, HL.out]; exact hk, Or.inr (by rw [← HN2.out]; exact hle), by
            rcases HK.out with h | h
            · exact Or.inl (by rw [List.length_map, HL.out]; exact h)
            · exact Or.inr h⟩, fun e => by rw [HOK.out] at e; cases e⟩
          go_wp2_with fail
          go_ret
          exact ⟨k, rfl, HF, S2⟩
        · have HK2 : Hid (k - 1 = n ∨ x < (Nt.sz (vs.map toN) (k - 1 + 1) : Int)) := Or.inr (by rw [show k - 1 + 1 = k by omega, ← HN2.out]; omega)
          go_wp2_with fail
          go_roundw
          case rel => exact ⟨k - 1, by go_num, by omega, HK2, S2⟩
          case measure => simp [intOf]; omega
      · have hk0 : k = 0 := by omega
        subst hk0
        have HF : Hid (FitM x vs 0) := ⟨fun _ => ⟨Nat.zero_le _, Or.inl rfl, by
          rcases HK.out with h | h
          · exact Or.inl (by rw [List.length_map, HL.out]; exact h)
          · exact Or.inr h⟩, fun _ => rfl⟩
        go_wp2_with fail
        go_ret
        exact ⟨0, rfl, HF, HB⟩
/-- What the document's own Lay leaves. -/
def RefLays (w : World) : Sum Nat (List Nat) → Ending → World → Prop
  | .inl k, e, w' => e = .returned (.tuple #[.slice none 0 0, .int .i64 (k : Int)]) ∧ Hid (Below w.heap.size w w')
  | .inr ps, e, w' => ∃ A n c, e = .returned (.tuple #[.slice A n c, .int .i64 0]) ∧ Hid (Own w' w.heap.size A n c ps) ∧ Hid (Below w.heap.size w w')
set_option maxHeartbeats 2000000 in
theorem reflay_any (A : Option Addr) (n c : Nat) (x : Int) (vs : List V) (w : World) (hn : n ≤ 100) (hA : Notes w w.heap.size A n vs) :
    Calls Try.prog 11 #[.int .i64 x, .slice A n c] w (RefLays w (layR x vs)) := by
  have HA := Lib.hid hA
  have HL := Lib.hid hA.len
  clear hA
  go_enter Try.func11, Try.ntmps11
  go_wp2_with fail
  refine (refall_any A n c vs _ (by omega) HA.out).mono ?_
  rcases hok : allB vs
  · have HR : Hid (layR x vs = .inl 2) := layR_no (Or.inr hok)
    rintro e W1 ⟨rfl, hb⟩
    go_wp2_with fail
    go_ret2
    rw [HR.out]
    exact ⟨rfl, hb⟩
  · rintro e W1 ⟨rfl, hb⟩
    by_cases hx0 : x < 128
    · have HR : Hid (layR x vs = .inl 2) := layR_no (Or.inl (pageB_no (by omega)))
      go_wp2_with fail
      go_ret2
      rw [HR.out]
      exact ⟨rfl, hb⟩
    by_cases hx1 : 256 < x
    · have HR : Hid (layR x vs = .inl 2) := layR_no (Or.inl (pageB_no (by omega)))
      go_wp2_with fail
      go_ret2
      rw [HR.out]
      exact ⟨rfl, hb⟩
    have hpg : pageB x = true := pageB_yes (by omega) (by omega)
    have HA1 := Lib.hid (HA.out.since hb.out)
    go_wp2_with fail
    refine (refbytes_any A n c vs _ hn hok HA1.out).mono ?_
    rintro e W2 ⟨A2, n2, c2, rfl, ho2, hb2⟩
    have HO2 := Lib.hid (ho2.elder (base' := w.heap.size) hb.out.size)
    have HB2 := Lib.hid (below_chain hb.out hb2)
    have HN2 : Hid (n2 = (encL vs).length) := ho2.len.symm
    have hc2 := ho2.cap
    have h2 : n2 ≤ 2000 := by
      rw [HN2.out, encL_eq, List.length_append]
      have h1 := flatL_len hok HA.out.all vs.length
      rw [flatL_all] at h1
      have h3 := Pk.put_len10 (v := vs.length) (by rw [HL.out]; omega)
      have h4 := HL.out
      omega
    clear ho2 hb2
    by_cases hgt : x < (n2 : Int)
    · have HR : Hid (layR x vs = .inl 7) := layR_full hpg hok (by rw [← HN2.out]; exact hgt)
      go_wp2_with fail
      go_ret2
      rw [HR.out]
      exact ⟨rfl, HB2⟩
    · have HR : Hid (layR x vs = .inr (Nt.page x.toNat (vs.map toN))) := layR_yes hpg hok (by rw [← HN2.out]; omega)
      have h0 : 0 < n2 := by
        rw [HN2.out, encL_eq, List.length_append]
        have := Pk.put_pos vs.length
        omega
      obtain ⟨k, HK⟩ : ∃ k : Nat, Hid (x = (n2 : Int) + k) := ⟨(x - n2).toNat, by show _ = _; omega⟩
      obtain ⟨A3, c3, W3, hr, ho3, hb3⟩ := own_append_zeros (k := k) HB2.out HO2.out (x - (n2 : Int)) (by have := HK.out; omega) h0 (by have := HK.out; omega)
      have R := Lib.hid hr
      have HO3 := Lib.hid ho3
      have HB3 := Lib.hid hb3
      have HPG : Hid (encL vs ++ List.replicate k 0 = Nt.page x.toNat (vs.map toN)) := by
        show _ = _
        unfold Nt.page
        have hk := HK.out
        have e : x.toNat - (Nt.encs (vs.map toN)).length = k := by
          have : (Nt.encs (vs.map toN)).length = n2 := HN2.out.symm
          omega
        rw [e]; rfl
      clear hr ho3 hb3
      go_wp2_with (at_builtin; refine Lib.wpList_append_run _ rfl (.tmp 24) (.tmp 28) 25 3 rfl _ _ rfl rfl _ _ R.out ?_)
      go_ret2
      rw [HR.out]
      exact ⟨_, _, _, rfl, HO3.out.same HPG.out, HB3.out⟩
end Go.Proofs.Ytaocppgekinocaa
