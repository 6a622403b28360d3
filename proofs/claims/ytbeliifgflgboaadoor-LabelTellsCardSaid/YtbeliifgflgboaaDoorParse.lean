/- The contract of internal/strconv.ParseUint at base 16 and 64 bits. Condition: the text is not empty and has a length that a string may have. -/
import Derived.Test.YtbeliifgflgboaaDoorNumPlain
import Derived.Test.YtbeliifgflgboaaDoorShelf
import Derived.Lib.Strings
import Derived.Lib.Walk
import Derived.Lib.ConvBytes
import Derived.Lib.AtoiErrMem
import Derived.Lib.Hide
import Derived.Laws.Strings3
import Derived.Laws.Closers25
import Derived.Laws.Closers25b
import Derived.WalkKit
import Derived.BigCall
import Derived.BigGuard
set_option linter.unusedVariables false
set_option linter.unusedSimpArgs false
namespace Go.Proofs.YtbeliifgflgboaaDoor
open Go.RowKit

theorem lower_at (c v : Int) (h : bits .or .u8 c 32 = v) (w : World) : Calls Tryd.prog 50 #[.int .u8 c] w fun e w' => e = .returned (.int .u8 v) ∧ w = w' := by
  refine (Tryd.internal_strconv_lower c w).mono ?_
  rintro e w' ⟨rfl, rfl⟩
  exact ⟨by rw [h], rfl⟩

set_option maxHeartbeats 8000000 in
set_option maxRecDepth 100000 in
theorem parse_16 (t : ByteArray) (hne : t.size ≠ 0) (hmax : t.size ≤ 9223372036854775806) (w : World) :
    Calls Tryd.prog 44 #[.string t, .int .i64 16, .int .i64 64] w fun e w' => e = .returned (rdTuple (parse16 0 t.data.toList)) ∧ Below w.heap.size w w' := by
  have hemp : t.toList.isEmpty = false := by
    rw [← decide_eq_emptyBytes]
    exact decide_eq_false (fun h => hne (by rw [h]; rfl))
  have hcv := Lib.run_convert_string_bytes (P := Tryd.prog) w 9 43 5 t (u := .string) Tryd.underlying9 Tryd.underlying43 Tryd.underlying5
  have hB : ∀ j, j < t.size → (Lib.bytesWorld w 5 t).cell? ⟨w.heap.size, j, none⟩ = some (.int .u8 (t.data.toList.getD j 0).toNat) := fun j hj => Lib.bytesWorld_cell w 5 t j hj
  have HB := Lib.hid (Lib.bytesWorld_below w 5 t)
  obtain ⟨W1, hW1⟩ : ∃ W1, W1 = Lib.bytesWorld w 5 t := ⟨_, rfl⟩
  rw [← hW1] at hcv hB HB
  clear hW1
  obtain ⟨bs, hL⟩ : ∃ bs, bs = t.data.toList := ⟨_, rfl⟩
  have hLn : bs.length = t.size := by rw [hL, Lib.size_eq]
  rw [← hL] at hB ⊢
  clear hL
  have hmv : IntKind.u64.wrap (IntKind.u64.wrap 18446744073709551616 - 1) = 18446744073709551615 := by
    rw [IntKind.wrap_u64, IntKind.wrap_u64]
    decide
  go_enter Tryd.func44, Tryd.ntmps44
  go_wp2
  go_loop [12, 13, 101] (fun vu vn vi => ∃ (k acc : Nat) (a : Int), vu = .bool false ∧ vn = .int .u64 a ∧ vi = .int .i64 k ∧ k ≤ t.size ∧ Hid (a = (acc : Int) ∧ acc < 18446744073709551616 ∧ parse16 0 bs = parse16 acc (bs.drop k)))
    (fun _ _ vi => t.size - (intOf vi).toNat)
  case atStart => exact ⟨0, 0, 0, rfl, rfl, rfl, by omega, rfl, by omega, rfl⟩
  case round =>
    obtain ⟨k, acc, a, rfl, rfl, rfl, hk, hh⟩ := hrel
    obtain ⟨ha, hacc, hdec⟩ := hh.out
    clear hh
    have a0 : 0 ≤ a := by omega
    have a1 : a < 18446744073709551616 := by omega
    by_cases hkn : k < t.size
    · have hc := hB k hkn
      have hdrop : bs.drop k = bs[k]'(by omega) :: bs.drop (k + 1) := List.drop_eq_getElem_cons (by omega)
      have hget : bs.getD k 0 = bs[k]'(by omega) := by simp [List.getD, List.getElem?_eq_getElem (show k < bs.length by omega)]
      rw [hdrop] at hdec
      rw [hget] at hc
      generalize bs[k]'(by omega) = c at hc hdec
      have hc256 : c.toNat < 256 := c.toNat_lt
      clear hB hdrop hget
      by_cases hdig : 48 ≤ c.toNat ∧ c.toNat ≤ 57
      · obtain ⟨hd0, hd1⟩ := hdig
        have hv : hexV c = some (c.toNat - 48) := by unfold hexV; rw [if_pos ⟨hd0, hd1⟩]
        by_cases hcut : 1152921504606846976 ≤ acc
        · have hF : parse16 acc (c :: bs.drop (k + 1)) = .range := by rw [parse16, hv]; simp only; rw [if_pos hcut]
          have HE := Lib.hid (hdec.trans hF)
          have icut : 1152921504606846976 ≤ a := by omega
          clear hcut hacc hF ha hv hdec
          go_wp2
          go_ret2
          exact ⟨by rw [HE.out]; rfl, HB.out⟩
        · have hF : parse16 acc (c :: bs.drop (k + 1)) = parse16 (acc * 16 + (c.toNat - 48)) (bs.drop (k + 1)) := by rw [parse16, hv]; simp only; rw [if_neg hcut]
          have HN : Hid (a * 16 + ((c.toNat : Int) - 48) = ((acc * 16 + (c.toNat - 48) : Nat) : Int) ∧ acc * 16 + (c.toNat - 48) < 18446744073709551616 ∧ parse16 0 bs = parse16 (acc * 16 + (c.toNat - 48)) (bs.drop (k + 1))) := Lib.hid ⟨by omega, by omega, hdec.trans hF⟩
          have icut : a < 1152921504606846976 := by omega
          have iov : a * 16 + ((c.toNat : Int) - 48) < 18446744073709551616 := by omega
          clear hcut hacc hF hdec ha hv
          go_wp2
          refine ⟨⟨k + 1, acc * 16 + (c.toNat - 48), a * 16 + ((c.toNat : Int) - 48), rfl, (by first | rfl | (congr 1; omega)), (by first | rfl | (congr 1; omega)), by omega, HN⟩, by simp [intOf]; omega⟩
      · by_cases hlet : (97 ≤ c.toNat ∧ c.toNat ≤ 102) ∨ (65 ≤ c.toNat ∧ c.toNat ≤ 70)
        · obtain ⟨d, v, hv, hlo, hv0, hv1, hd⟩ : ∃ (d : Nat) (v : Int), hexV c = some d ∧ bits .or .u8 (c.toNat : Int) 32 = v ∧ 97 ≤ v ∧ v ≤ 102 ∧ (d : Int) = v - 87 := by
            rcases hlet with ⟨h0, h1⟩ | ⟨h0, h1⟩
            · exact ⟨c.toNat - 87, _, by unfold hexV; rw [if_neg hdig, if_pos ⟨h0, h1⟩], lowV_az c h0 h1, by omega, by omega, by omega⟩
            · exact ⟨c.toNat - 55, _, by unfold hexV; rw [if_neg hdig, if_neg (by omega), if_pos ⟨h0, h1⟩], lowV_AZ c h0 h1, by omega, by omega, by omega⟩
          have HLO := Lib.hid hlo
          clear hlo
          have hne95 : ((c.toNat : Int) == 95) = false := by
            rw [beq_eq_false_iff_ne]
            omega
          by_cases hcut : 1152921504606846976 ≤ acc
          · have hF : parse16 acc (c :: bs.drop (k + 1)) = .range := by rw [parse16, hv]; simp only; rw [if_pos hcut]
            have HE := Lib.hid (hdec.trans hF)
            have icut : 1152921504606846976 ≤ a := by omega
            clear hcut hacc hF ha hv hdec
            go_wp2_with (go_at_call 50; refine (lower_at _ _ HLO.out _).mono ?_; rintro e w' ⟨rfl, rfl⟩)
            all_goals go_ret2
            all_goals exact ⟨by rw [HE.out]; rfl, HB.out⟩
          · have hF : parse16 acc (c :: bs.drop (k + 1)) = parse16 (acc * 16 + d) (bs.drop (k + 1)) := by rw [parse16, hv]; simp only; rw [if_neg hcut]
            have HN : Hid (a * 16 + (v - 97 + 10) = ((acc * 16 + d : Nat) : Int) ∧ acc * 16 + d < 18446744073709551616 ∧ parse16 0 bs = parse16 (acc * 16 + d) (bs.drop (k + 1))) := Lib.hid ⟨by omega, by omega, hdec.trans hF⟩
            have icut : a < 1152921504606846976 := by omega
            have iov : a * 16 + (v - 97 + 10) < 18446744073709551616 := by omega
            clear hcut hacc hF hdec ha hv hd
            go_wp2_with (go_at_call 50; refine (lower_at _ _ HLO.out _).mono ?_; rintro e w' ⟨rfl, rfl⟩)
            refine ⟨⟨k + 1, acc * 16 + d, a * 16 + (v - 97 + 10), rfl, rfl, (by first | rfl | (congr 1; omega)), by omega, HN⟩, by simp [intOf]; omega⟩
        · have hv : hexV c = none := by unfold hexV; rw [if_neg hdig, if_neg (by omega), if_neg (by omega)]
          have hF : parse16 acc (c :: bs.drop (k + 1)) = .bad := by rw [parse16, hv]
          have HE := Lib.hid (hdec.trans hF)
          obtain ⟨v, hlo, hv0, hv1, hv2⟩ := lowV_no c (by omega) (by omega)
          have HLO := Lib.hid hlo
          clear hlo hacc hF ha hv hdec hlet
          by_cases h95 : (c.toNat : Int) = 95
          · have h127 : bits .or .u8 95 32 = 127 := by decide +kernel
            have H127 := Lib.hid h127
            rw [h95] at hc
            clear h127 hv2 hv0 hv1 HLO h95 hdig hc256
            go_wp2_with (go_at_call 50; refine (lower_at _ _ H127.out _).mono ?_; rintro e w' ⟨rfl, rfl⟩)
            all_goals go_ret2
            all_goals exact ⟨by rw [HE.out]; rfl, HB.out⟩
          · have hne95 : ((c.toNat : Int) == 95) = false := by
              rw [beq_eq_false_iff_ne]
              exact h95
            clear h95
            rcases hv2 with hv2 | hv2
            · go_wp2_with (go_at_call 50; refine (lower_at _ _ HLO.out _).mono ?_; rintro e w' ⟨rfl, rfl⟩)
              all_goals go_ret2
              all_goals exact ⟨by rw [HE.out]; rfl, HB.out⟩
            · go_wp2_with (go_at_call 50; refine (lower_at _ _ HLO.out _).mono ?_; rintro e w' ⟨rfl, rfl⟩)
              all_goals go_ret2
              all_goals exact ⟨by rw [HE.out]; rfl, HB.out⟩
    · have hkk : k = t.size := by omega
      subst hkk
      have hF : parse16 acc (bs.drop t.size) = .ok acc := by rw [List.drop_eq_nil_of_le (by omega)]; rfl
      have HE := Lib.hid (hdec.trans hF)
      subst ha
      clear hacc hF a0 a1 hdec
      go_wp2
      go_ret2
      exact ⟨by rw [HE.out]; rfl, HB.out⟩
end Go.Proofs.YtbeliifgflgboaaDoor
