/- The contract of the document's own Number (package sculleryref1): the same answer as label.Number's. Condition: the text has a length that a string may have. -/
import Derived.Test.YtbeliifgflgboaaDoorRefHex
import Derived.Test.YtbeliifgflgboaaDoorNumber
import Derived.BigGuard
set_option linter.unusedVariables false
set_option linter.unusedSimpArgs false
namespace Go.Proofs.YtbeliifgflgboaaDoor
open Go.RowKit

def shl4 (x : Int) : Int := IntKind.u64.wrap (x * 16)
def stepV (x : Int) (c : UInt8) : Int :=
  if 48 ≤ c.toNat ∧ c.toNat ≤ 57 then bits .or .u64 (shl4 x) ((c.toNat : Int) - 48)
  else if 97 ≤ c.toNat ∧ c.toNat ≤ 102 then bits .or .u64 (shl4 x) ((c.toNat : Int) - 97 + 10)
  else x
theorem bits_u64_bd (op : BinOp) (a b : Int) : 0 ≤ bits op .u64 a b ∧ bits op .u64 a b ≤ 18446744073709551615 := bits_within op .u64 a b
theorem stepV_bd (x : Int) (c : UInt8) (h : 0 ≤ x ∧ x ≤ 18446744073709551615) : 0 ≤ stepV x c ∧ stepV x c ≤ 18446744073709551615 := by
  unfold stepV
  split
  · exact bits_u64_bd _ _ _
  · split
    · exact bits_u64_bd _ _ _
    · exact h

def refV (l : List UInt8) : Int := (l.drop 2).foldl stepV 0
def refNumL (l : List UInt8) : Nat × Bool :=
  if 3 ≤ l.length ∧ l.length ≤ 18 then if hexF (refV l).toNat = l then ((refV l).toNat, true) else (0, false) else (0, false)
theorem take_step (l : List UInt8) (k : Nat) (c : UInt8) (h2 : 2 ≤ k) (h : k < l.length) (hc : c = l[k]) : ((l.drop 2).take (k + 1 - 2)).foldl stepV 0 = stepV (((l.drop 2).take (k - 2)).foldl stepV 0) c := by
  have e : k + 1 - 2 = k - 2 + 1 := by omega
  have hl : k - 2 < (l.drop 2).length := by rw [List.length_drop]; omega
  rw [e, List.take_succ_eq_append_getElem hl, List.foldl_append]
  have : (l.drop 2)[k - 2] = c := by
    rw [hc, List.getElem_drop]
    congr 1
    omega
  rw [this]
  rfl

set_option maxHeartbeats 4000000 in
set_option maxRecDepth 100000 in
theorem refNum_in (s : ByteArray) (hs0 : 3 ≤ s.size) (hs1 : s.size ≤ 18) (w : World) :
    Calls Tryd.prog 24 #[.string s] w fun e w' => RetN (refNumL s.data.toList) e ∧ w = w' := by
  have HN := Lib.hid (Lib.size_eq s).symm
  obtain ⟨l, hl⟩ : ∃ l, l = s.data.toList := ⟨_, rfl⟩
  have HL := Lib.hid hl
  rw [← hl]
  clear hl
  go_enter Tryd.func24, Tryd.ntmps24
  go_wp2
  go_loop [4, 5] (fun vn vi => ∃ (k : Nat) (x : Int), vn = .int .u64 x ∧ vi = .int .i64 k ∧ 2 ≤ k ∧ k ≤ s.size ∧ 0 ≤ x ∧ x ≤ 18446744073709551615 ∧ Hid (x = (l.drop 2 |>.take (k - 2)).foldl stepV 0)) (fun _ vi => s.size - (intOf vi).toNat)
  case atStart => exact ⟨2, 0, rfl, rfl, by omega, by omega, by omega, by omega, Lib.hid (by simp)⟩
  case round =>
    obtain ⟨k, x, rfl, rfl, hk0, hk1, hx0, hx1, hh⟩ := hrel
    by_cases hk : k < s.size
    · have hll : k < l.length := by rw [HL.out, ← Lib.size_eq]; exact hk
      obtain ⟨c, hc⟩ : ∃ c : UInt8, c = l[k]'hll := ⟨_, rfl⟩
      have hcs : c = s[k]'hk := by
        rw [hc]
        have e : ∀ (l' : List UInt8) (h' : k < l'.length), l' = s.data.toList → l'[k]'h' = s[k]'hk := by
          intro l' h' e'
          subst e'
          rfl
        exact e l hll HL.out
      have hstep := take_step l k c hk0 hll hc
      rw [← hh.out] at hstep
      have HS := Lib.hid hstep.symm
      have hidx : ∀ W, (Instr.index 9 (.string s) (.int .i64 k)).run Tryd.prog W = .ok (.int .u8 (c.toNat : Int)) W := fun W => by
        rw [run_index_string W 9 s .i64 k Tryd.underlying9, dif_pos ⟨by omega, by omega⟩, hcs]
        simp
      have hc256 : c.toNat < 256 := c.toNat_lt
      clear hc hcs hstep hll
      by_cases hd : 48 ≤ c.toNat ∧ c.toNat ≤ 57
      · have e : stepV x c = bits .or .u64 (IntKind.u64.wrap (x * 16)) ((c.toNat : Int) - 48) := by unfold stepV; rw [if_pos hd]; rfl
        rw [e] at HS
        clear e
        have hb := bits_u64_bd .or (IntKind.u64.wrap (x * 16)) ((c.toNat : Int) - 48)
        have HB := Lib.hid hb
        clear hb
        obtain ⟨hd0, hd1⟩ := hd
        go_wp2_with fail
        refine ⟨⟨k + 1, _, rfl, by go_num, by omega, by omega, HB.out.1, HB.out.2, HS⟩, by simp [intOf]; omega⟩
      · by_cases hf : 97 ≤ c.toNat ∧ c.toNat ≤ 102
        · have e : stepV x c = bits .or .u64 (IntKind.u64.wrap (x * 16)) ((c.toNat : Int) - 97 + 10) := by unfold stepV; rw [if_neg hd, if_pos hf]; rfl
          rw [e] at HS
          clear e
          have HB := Lib.hid (bits_u64_bd .or (IntKind.u64.wrap (x * 16)) ((c.toNat : Int) - 97 + 10))
          obtain ⟨hf0, hf1⟩ := hf
          clear hd
          go_wp2_with fail
          refine ⟨⟨k + 1, _, rfl, by go_num, by omega, by omega, HB.out.1, HB.out.2, HS⟩, by simp [intOf]; omega⟩
        · have e : stepV x c = x := by unfold stepV; rw [if_neg hd, if_neg hf]
          rw [e] at HS
          clear e
          have h4 : c.toNat < 48 ∨ (57 < c.toNat ∧ c.toNat < 97) ∨ 102 < c.toNat := by omega
          clear hd hf
          rcases h4 with h4 | ⟨h4, h5⟩ | h4
          all_goals
            go_wp2_with fail
            refine ⟨⟨k + 1, _, rfl, by go_num, by omega, by omega, hx0, hx1, HS⟩, by simp [intOf]; omega⟩
    · have hE : x = refV l := by
        rw [hh.out]
        unfold refV
        rw [List.take_of_length_le (by rw [List.length_drop, HL.out, ← Lib.size_eq]; omega)]
      have hlen : 3 ≤ l.length ∧ l.length ≤ 18 := by rw [HL.out, ← Lib.size_eq]; omega
      have hrn : refNumL l = if hexF x.toNat = l then (x.toNat, true) else (0, false) := by unfold refNumL; rw [if_pos hlen, hE]
      have HR := Lib.hid hrn
      have hcall := refHex_any x.toNat x (by omega) (by omega)
      clear hE hlen hrn hh
      by_cases hx : hexF x.toNat = l
      · have hq : (hexF x.toNat == s.toList) = true := by rw [Lib.toList_data, ← HL.out, hx]; exact beq_self_eq_true _
        rw [if_pos hx] at HR
        clear hx
        go_wp2_with fail
        refine (hcall _).mono ?_
        rintro e W1 ⟨rfl, rfl⟩
        go_wp2_with fail
        go_ret2
        exact ⟨retN (by rw [HR.out]; show x = (x.toNat : Int); omega) (by rw [HR.out]), rfl⟩
      · have hq : (hexF x.toNat == s.toList) = false := by rw [Lib.toList_data, ← HL.out]; simpa using hx
        rw [if_neg hx] at HR
        clear hx
        go_wp2_with fail
        refine (hcall _).mono ?_
        rintro e W1 ⟨rfl, rfl⟩
        go_wp2_with fail
        go_ret2
        exact ⟨retN (by rw [HR.out]; rfl) (by rw [HR.out]), rfl⟩
theorem refNum_ret (s : ByteArray) (hs : s.size ≤ 9223372036854775807) (w : World) :
    Calls Tryd.prog 24 #[.string s] w fun e w' => RetN (refNumL s.data.toList) e ∧ w = w' := by
  by_cases h0 : s.size < 3
  · have HR : Hid (refNumL s.data.toList = (0, false)) := Lib.hid (by unfold refNumL; rw [if_neg (by rw [← Lib.size_eq]; omega)])
    go_enter Tryd.func24, Tryd.ntmps24
    go_wp2
    go_ret2
    exact ⟨retN (by rw [HR.out]; rfl) (by rw [HR.out]), rfl⟩
  · by_cases h1 : 18 < s.size
    · have HR : Hid (refNumL s.data.toList = (0, false)) := Lib.hid (by unfold refNumL; rw [if_neg (by rw [← Lib.size_eq]; omega)])
      go_enter Tryd.func24, Tryd.ntmps24
      go_wp2
      go_ret2
      exact ⟨retN (by rw [HR.out]; rfl) (by rw [HR.out]), rfl⟩
    · exact refNum_in s (by omega) (by omega) w
end Go.Proofs.YtbeliifgflgboaaDoor
