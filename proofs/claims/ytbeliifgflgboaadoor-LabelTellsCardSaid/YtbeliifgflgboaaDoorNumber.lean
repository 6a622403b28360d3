/- The contract of label.Number: the number whose Hex the text is. Conditions: what the package's listed variables hold; the text at most 2^48 bytes. -/
import Derived.Test.YtbeliifgflgboaaDoorParse
import Derived.Test.YtbeliifgflgboaaDoorHex
set_option linter.unusedVariables false
set_option linter.unusedSimpArgs false
namespace Go.Proofs.YtbeliifgflgboaaDoor
open Go.RowKit

/- what the walk needs of the package variables: the table's cell that TrailingZeros(16) reads; an error in each sentinel -/
structure Laid (w : World) : Prop where
  tab : w.cell? ⟨4, 15, none⟩ = some (.int .u8 4)
  e0 : ∃ ev, w.cell? ⟨0, 0, none⟩ = some ev ∧ (ev = .nilIface ∨ ∃ te pe, ev = .iface te pe)
  e1 : ∃ ev, w.cell? ⟨1, 0, none⟩ = some ev ∧ (ev = .nilIface ∨ ∃ te pe, ev = .iface te pe)
  h4 : 4 < w.heap.size
theorem Laid.below {w w' : World} (h : Laid w) (hb : Below w.heap.size w w') : Laid w' := by
  obtain ⟨t, ⟨ev0, a0, b0⟩, ⟨ev1, a1, b1⟩, h4⟩ := h
  refine ⟨(hb.cell (p := ⟨4, 15, none⟩) h4).trans t, ⟨ev0, (hb.cell (p := ⟨0, 0, none⟩) (by show 0 < w.heap.size; omega)).trans a0, b0⟩, ⟨ev1, (hb.cell (p := ⟨1, 0, none⟩) (by show 1 < w.heap.size; omega)).trans a1, b1⟩, ?_⟩
  have := hb.size
  omega

def parseL (l : List UInt8) : Rd := if l = [] then .bad else parse16 0 l

theorem parseIn (t : ByteArray) (hmax : t.size ≤ 9223372036854775806) (w : World) :
    Calls Tryd.prog 44 #[.string t, .int .i64 16, .int .i64 64] w fun e w' => e = .returned (rdTuple (parseL t.data.toList)) ∧ Below w.heap.size w w' := by
  by_cases h : t.size = 0
  · have ht : t = ⟨#[]⟩ := by
      apply ByteArray.ext
      exact Array.eq_empty_of_size_eq_zero h
    subst ht
    refine (Tryd.internal_strconv_ParseUint_empty 16 64 w).mono ?_
    rintro e w' ⟨rfl, rfl⟩
    exact ⟨rfl, Below.refl _ _⟩
  · refine (parse_16 t h hmax w).mono ?_
    rintro e w' ⟨rfl, hb⟩
    refine ⟨?_, hb⟩
    have : t.data.toList ≠ [] := by
      intro e
      rw [Lib.size_eq, e] at h
      exact h rfl
    unfold parseL
    rw [if_neg this]

set_option maxRecDepth 100000 in
theorem parseUint_ok (t : ByteArray) (hmax : t.size ≤ 281474976710656) (u : Nat) (h : parseL t.data.toList = .ok u) (w : World) :
    Calls Tryd.prog 38 #[.string t, .int .i64 16, .int .i64 64] w fun e w' => e = .returned (.tuple #[.int .u64 u, .nilIface]) ∧ Below w.heap.size w w' := by
  have hI : Calls Tryd.prog 44 #[.string t, .int .i64 16, .int .i64 64] w fun e w' => e = .returned (.tuple #[.int .u64 u, .nilIface]) ∧ Below w.heap.size w w' := by
    have := parseIn t (by omega) w
    rw [h] at this
    exact this
  clear h
  go_enter Tryd.func38, Tryd.ntmps38
  go_wp2_with fail
  refine hI.mono ?_
  rintro e W1 ⟨rfl, hb⟩
  go_wp2_with fail
  go_ret2
  exact ⟨rfl, hb⟩
def SomeErr (e : Ending) : Prop := ∃ (v : Int) (N : Nat), e = .returned (.tuple #[.int .u64 v, .iface 66 (.pointer (some ⟨N, 0, none⟩))])
theorem someErr (v : Int) (N : Nat) : SomeErr (.returned (.tuple #[.int .u64 v, .iface 66 (.pointer (some ⟨N, 0, none⟩))])) := ⟨v, N, rfl⟩
set_option maxRecDepth 100000 in
theorem parseUint_err (t : ByteArray) (hmax : t.size ≤ 281474976710656) (h : ∀ u, parseL t.data.toList ≠ .ok u) (w : World) (hL : Laid w) :
    Calls Tryd.prog 38 #[.string t, .int .i64 16, .int .i64 64] w fun e w' => SomeErr e ∧ Below w.heap.size w w' := by
  cases hp : parseL t.data.toList with
  | ok u => exact absurd hp (h u)
  | bad =>
    have hI : Calls Tryd.prog 44 #[.string t, .int .i64 16, .int .i64 64] w fun e w' => e = .returned (.tuple #[.int .u64 0, .iface 64 (.int .i64 2)]) ∧ Below w.heap.size w w' := by
      have := parseIn t (by omega) w
      rw [hp] at this
      exact this
    clear h hp
    have HL := Lib.hid hL
    clear hL
    go_enter Tryd.func38, Tryd.ntmps38
    go_wp2_with fail
    refine hI.mono ?_
    rintro e W1 ⟨rfl, hb⟩
    clear hI
    obtain ⟨ev, hv, hev⟩ := (HL.out.below hb).e0
    have hte := Tryd.strconv_toError_syntax ⟨#[80, 97, 114, 115, 101, 85, 105, 110, 116]⟩ t 16 64 ev W1 hmax hv hev
    clear hv hev
    go_wp2_with fail
    refine hte.mono ?_
    rintro e W2 ⟨N, rfl, _, _, hb2⟩
    go_wp2_with fail
    go_ret2
    exact ⟨someErr _ _, hb.trans (hb2.mono (by have := hb.size; omega))⟩
  | range =>
    have hI : Calls Tryd.prog 44 #[.string t, .int .i64 16, .int .i64 64] w fun e w' => e = .returned (.tuple #[.int .u64 18446744073709551615, .iface 64 (.int .i64 1)]) ∧ Below w.heap.size w w' := by
      have := parseIn t (by omega) w
      rw [hp] at this
      exact this
    clear h hp
    have HL := Lib.hid hL
    clear hL
    go_enter Tryd.func38, Tryd.ntmps38
    go_wp2_with fail
    refine hI.mono ?_
    rintro e W1 ⟨rfl, hb⟩
    clear hI
    obtain ⟨ev, hv, hev⟩ := (HL.out.below hb).e1
    have hte := Tryd.strconv_toError_range ⟨#[80, 97, 114, 115, 101, 85, 105, 110, 116]⟩ t 16 64 ev W1 hmax hv hev
    clear hv hev
    go_wp2_with fail
    refine hte.mono ?_
    rintro e W2 ⟨N, rfl, _, _, hb2⟩
    go_wp2_with fail
    go_ret2
    exact ⟨someErr _ _, hb.trans (hb2.mono (by have := hb.size; omega))⟩

def numL (l : List UInt8) : Nat × Bool :=
  if Lib.hasPrefix l [48, 120] then
    match parseL (Lib.trimPrefix l [48, 120]) with
    | .ok u => if hexF u = l then (u, true) else (0, false)
    | _ => (0, false)
  else (0, false)
theorem numL_no {l : List UInt8} (h : Lib.hasPrefix l [48, 120] = false) : numL l = (0, false) := by unfold numL; rw [h]; rfl
theorem numL_err {l : List UInt8} (h : Lib.hasPrefix l [48, 120] = true) (h2 : ∀ u, parseL (Lib.trimPrefix l [48, 120]) ≠ .ok u) : numL l = (0, false) := by
  unfold numL
  rw [h, if_pos rfl]
  split
  · rename_i u hu
    exact absurd hu (h2 u)
  · rfl
theorem numL_ok {l : List UInt8} (h : Lib.hasPrefix l [48, 120] = true) {u : Nat} (h2 : parseL (Lib.trimPrefix l [48, 120]) = .ok u) : numL l = if hexF u = l then (u, true) else (0, false) := by
  unfold numL
  rw [h, if_pos rfl, h2]
theorem trim_len (l p : List UInt8) : (Lib.trimPrefix l p).length ≤ l.length := by
  unfold Lib.trimPrefix
  split
  · simp
  · exact Nat.le_refl _
theorem ba_toList (s : ByteArray) : s.toList = s.data.toList := by
  have h := Lib.extract_toList s 0 s.size
  rw [ByteArray.extract_zero_size] at h
  rw [h, List.drop_zero, List.take_of_length_le (by rw [← Lib.size_eq]; exact Nat.le_refl _)]
def RetN (x : Nat × Bool) (e : Ending) : Prop := e = .returned (.tuple #[.int .u64 x.1, .bool x.2])
theorem retN {x : Nat × Bool} {n : Int} {b : Bool} (h1 : n = x.1) (h2 : b = x.2) : RetN x (.returned (.tuple #[.int .u64 n, .bool b])) := by unfold RetN; rw [h1, h2]
theorem parseL_lt {l : List UInt8} {u : Nat} (h : parseL l = .ok u) : u < 18446744073709551616 := by
  unfold parseL at h
  split at h
  · simp at h
  · exact parse16_lt _ _ _ (by omega) h

set_option maxHeartbeats 1000000 in
set_option maxRecDepth 100000 in
theorem number_ret (s : ByteArray) (hs : s.size ≤ 281474976710656) (w : World) (hL : Laid w) :
    Calls Tryd.prog 23 #[.string s] w fun e w' => RetN (numL s.data.toList) e ∧ Below w.heap.size w w' := by
  cases hp : Lib.hasPrefix s.data.toList [48, 120] with
  | false =>
    have HE := Lib.hid (numL_no hp)
    have hcp : Calls Tryd.prog 37 #[.string s, .string ⟨#[48, 120]⟩] w fun e w' => e = .returned (.tuple #[.string ⟨(Lib.trimPrefix s.data.toList [48, 120]).toArray⟩, .bool false]) ∧ w' = w := by
      have := Tryd.strings_CutPrefix s ⟨#[48, 120]⟩ w
      rw [show (⟨#[48, 120]⟩ : ByteArray).data.toList = [48, 120] from rfl, hp] at this
      exact this
    clear hp
    have HL := Lib.hid hL
    clear hL
    go_enter Tryd.func23, Tryd.ntmps23
    go_wp2_with fail
    refine hcp.mono ?_
    rintro e W1 ⟨rfl, rfl⟩
    go_wp2_with fail
    go_ret2
    exact ⟨retN (by rw [HE.out]; rfl) (by rw [HE.out]), Below.refl _ _⟩
  | true =>
    obtain ⟨t, ht⟩ : ∃ t : ByteArray, t = ⟨(Lib.trimPrefix s.data.toList [48, 120]).toArray⟩ := ⟨_, rfl⟩
    have htl : t.data.toList = Lib.trimPrefix s.data.toList [48, 120] := by rw [ht]
    have hts : t.size ≤ 281474976710656 := by
      rw [Lib.size_eq, htl]
      have := trim_len s.data.toList [48, 120]
      rw [Lib.size_eq] at hs
      omega
    have hcp : Calls Tryd.prog 37 #[.string s, .string ⟨#[48, 120]⟩] w fun e w' => e = .returned (.tuple #[.string t, .bool true]) ∧ w' = w := by
      have := Tryd.strings_CutPrefix s ⟨#[48, 120]⟩ w
      rw [show (⟨#[48, 120]⟩ : ByteArray).data.toList = [48, 120] from rfl, hp, ← ht] at this
      exact this
    by_cases hok : ∃ u, parseL t.data.toList = .ok u
    · obtain ⟨u, hu⟩ := hok
      have hlt := parseL_lt hu
      have hpu := parseUint_ok t hts u hu w
      rw [htl] at hu
      have HE := Lib.hid (numL_ok hp hu)
      clear hp ht htl hu
      have HL := Lib.hid hL
      clear hL
      go_enter Tryd.func23, Tryd.ntmps23
      go_wp2_with fail
      refine hcp.mono ?_
      rintro e W0 ⟨rfl, hW0⟩
      obtain rfl : w = W0 := hW0.symm
      clear hcp
      go_wp2_with fail
      refine hpu.mono ?_
      rintro e W1 ⟨rfl, hb⟩
      clear hpu
      have hx := hex_any u hlt W1 (HL.out.below hb).tab (HL.out.below hb).h4
      go_wp2_with fail
      refine hx.mono ?_
      rintro e W2 ⟨rfl, hb2⟩
      clear hx
      have hbb : Below w.heap.size w W2 := hb.trans (hb2.mono (by have := hb.size; omega))
      by_cases hx : hexF u = s.data.toList
      · have hq : (hexF u == s.toList) = true := by rw [ba_toList, hx]; exact beq_self_eq_true _
        rw [if_pos hx] at HE
        clear hx
        go_wp2_with fail
        go_ret2
        exact ⟨retN (by rw [HE.out]) (by rw [HE.out]), hbb⟩
      · have hq : (hexF u == s.toList) = false := by rw [ba_toList]; simpa using hx
        rw [if_neg hx] at HE
        clear hx
        go_wp2_with fail
        go_ret2
        exact ⟨retN (by rw [HE.out]; rfl) (by rw [HE.out]), hbb⟩
    · have hpu := parseUint_err t hts (fun u hu => hok ⟨u, hu⟩) w hL
      have HE := Lib.hid (numL_err hp (fun u hu => hok ⟨u, by rw [htl]; exact hu⟩))
      clear hp ht htl hok hL
      go_enter Tryd.func23, Tryd.ntmps23
      go_wp2_with fail
      refine hcp.mono ?_
      rintro e W0 ⟨rfl, hW0⟩
      obtain rfl : w = W0 := hW0.symm
      clear hcp
      go_wp2_with fail
      refine hpu.mono ?_
      rintro e W1 ⟨⟨v, N, rfl⟩, hb⟩
      clear hpu
      go_wp2_with fail
      go_ret2
      exact ⟨retN (by rw [HE.out]; rfl) (by rw [HE.out]), hb⟩
end Go.Proofs.YtbeliifgflgboaaDoor
