/- SegMixed's lists: entries by rising numbers; their parts mixed; what may not be. No conditions. -/
import Derived.Test.YtopfdeihjjikiaaSegAwake
import Derived.Test.YtopfdeihjjikiaaSegStore
set_option linter.unusedVariables false
set_option linter.unusedSimpArgs false
namespace Go.Proofs.Ytopfdeihjjikiaa
open Go.RowKit

/-- The statement's four labels. -/
def namesL (i : Nat) : List Nat := if i = 0 then [97] else if i = 1 then [98] else if i = 2 then [115, 104, 101, 108, 102] else [230, 151, 165]
theorem namesL_ok (i : Nat) : OkN (namesL i) := by
  unfold namesL
  split
  · exact ⟨by decide, by decide +kernel⟩
  · split
    · exact ⟨by decide, by decide +kernel⟩
    · split
      · exact ⟨by decide, by decide +kernel⟩
      · exact ⟨by decide, by decide +kernel⟩
def mixE (sh k : Nat) : Sg.E := ⟨k, k, false, 1 + sh⟩
def mixL (sh m : Nat) : List Sg.E := (List.range m).map (mixE sh)
theorem mixL_len (sh m : Nat) : (mixL sh m).length = m := by simp [mixL]
theorem mixL_next (sh k : Nat) : mixL sh (k + 1) = mixL sh k ++ [mixE sh k] := by unfold mixL; rw [List.range_succ, List.map_append]; rfl
theorem mixL_at {sh m k : Nat} (h : k < m) : (mixL sh m)[k]? = some (mixE sh k) := by unfold mixL; rw [List.getElem?_map, List.getElem?_range h]; rfl
theorem mixE_ok {sh k : Nat} (h : k < 256) (hs : sh < 3) : Sg.OkE (mixE sh k) := ⟨by show k < _; omega, by show 1 ≤ 1 + sh; omega, by show 1 + sh ≤ _; omega, by show k ≤ _; omega⟩
theorem mixL_ok {sh m : Nat} (h : m ≤ 256) (hs : sh < 3) : Sg.Ok (mixL sh m) := by
  refine ⟨fun e he => ?_, ?_, ?_, by rw [mixL_len]; exact h⟩
  · obtain ⟨k, hk, rfl⟩ := List.mem_map.1 he
    exact mixE_ok (by have := List.mem_range.1 hk; omega) hs
  · unfold mixL
    rw [List.pairwise_map, List.pairwise_iff_getElem]
    intro i j hi hj hij
    simp only [List.getElem_range]
    exact hij
  · unfold mixL
    rw [List.map_map, List.Nodup, List.pairwise_map, List.pairwise_iff_getElem]
    intro i j hi hj hij
    simp only [List.getElem_range]
    show i ≠ j
    omega
theorem mixL_addr (a b m : Nat) : (mixL a m).map Sg.E.addr = (mixL b m).map Sg.E.addr := by unfold mixL; rw [List.map_map, List.map_map]; rfl
theorem mixL_page (a b m : Nat) : (mixL a m).map Sg.E.page = (mixL b m).map Sg.E.page := by unfold mixL; rw [List.map_map, List.map_map]; rfl
theorem mixL_first {sh m : Nat} : (mixL sh m).map Sg.E.page = List.range m := by unfold mixL; rw [List.map_map]; show (List.range m).map (fun k => k) = _; simp
/-- In what is mixed the last entry's page is the last number. -/
theorem mix_last {a b m k : Nat} (hk : k * Sg.each 128 ≤ m) (hm : 0 < m) : ∃ e, (Sg.mix 128 (mixL a m) (mixL b m) k)[m - 1]? = some e ∧ e.page = m - 1 := by
  have hl : (mixL a m).length = (mixL b m).length := by rw [mixL_len, mixL_len]
  have h := congrArg (fun l => l[m - 1]?) (Sg.mix_map Sg.E.page (s := 128) (k := k) hl (by rw [mixL_len]; exact hk) (mixL_page a b m))
  simp only [List.getElem?_map, mixL_at (show m - 1 < m by omega)] at h
  cases he : (Sg.mix 128 (mixL a m) (mixL b m) k)[m - 1]? with
  | none => rw [he] at h; cases h
  | some e =>
    rw [he] at h
    exact ⟨e, rfl, Option.some.inj h⟩
/-- The parts with one exchanged. -/
def mixP (nx ny : List Nat) (es fs : List Sg.E) (k : Nat) : List Pt := (ptsOf 128 nx es).set k ⟨k, Sg.parts 128 fs.length, ny, Sg.chunk 128 fs k⟩
theorem mixP_pts {nx ny : List Nat} {es fs : List Sg.E} {k : Nat} (hx : OkN nx) (hy : OkN ny) (he : Sg.Ok es) (hf : Sg.Ok fs) (hl : es.length = fs.length) (hk : k < Sg.parts 128 es.length) :
    Pts 128 (mixP nx ny es fs k) ((Sg.cut 128 nx es).set k (Sg.part 128 k (Sg.parts 128 fs.length) ny (Sg.chunk 128 fs k))) := by
  have h0 := cut_pts size128 hx he
  refine ⟨by unfold mixP; rw [List.length_set, List.length_set]; exact h0.len, fun j hj => ?_⟩
  unfold mixP at hj ⊢
  rw [List.length_set] at hj
  have hjc : j < (Sg.cut 128 nx es).length := by rw [← h0.len]; exact hj
  unfold ptAt
  by_cases e : k = j
  · subst e
    rw [List.getD_eq_getElem?_getD, List.getElem?_set_self hjc, List.getD_eq_getElem?_getD, List.getElem?_set_self hj]
    exact ⟨Sg.cut_part size128 hy hy.len hf (by rw [← hl]; exact hk), Sg.part_len size128 hy.len (Sg.chunk_few 128 fs k)⟩
  · rw [List.getD_eq_getElem?_getD, List.getElem?_set_ne e, List.getD_eq_getElem?_getD, List.getElem?_set_ne e, ← List.getD_eq_getElem?_getD, ← List.getD_eq_getElem?_getD]
    exact h0.each j hj
theorem mixP_not {nx ny : List Nat} {es fs : List Sg.E} {k : Nat} (hk : k < Sg.parts 128 es.length) (h2 : 2 ≤ Sg.parts 128 es.length) (hn : nx ≠ ny) : ¬ Joint (mixP nx ny es fs k) := by
  rintro ⟨⟨_, hg⟩, _⟩
  have hlen : (mixP nx ny es fs k).length = Sg.parts 128 es.length := by unfold mixP; rw [List.length_set, ptsOf_len]
  have hat : ∀ j, j < Sg.parts 128 es.length → (ptAt (mixP nx ny es fs k) j).nm = if k = j then ny else nx := by
    intro j hj
    unfold mixP ptAt
    by_cases e : k = j
    · subst e
      rw [List.getD_eq_getElem?_getD, List.getElem?_set_self (by rw [ptsOf_len]; exact hj), if_pos rfl]; rfl
    · rw [List.getD_eq_getElem?_getD, List.getElem?_set_ne e, ← List.getD_eq_getElem?_getD, if_neg e]
      exact congrArg Pt.nm (ptsOf_at hj)
  by_cases h0 : k = 0
  · have := (hg 1 (by omega)).2.2
    rcases this with h | h
    · omega
    · rw [hat 1 (by omega), hat 0 (by omega), if_neg (by omega), if_pos h0] at h
      exact hn h
  · have := (hg k (by omega)).2.2
    rcases this with h | h
    · omega
    · rw [hat k hk, hat (k - 1) (by omega), if_pos rfl, if_neg (by omega)] at h
      exact hn h.symm
/-- Two neighbours exchanged may not be. -/
theorem swap_not {ns : List E} {i : Nat} (hi : i + 1 < ns.length) (h : (getE ns i).addr < (getE ns (i + 1)).addr) : mayE ((ns.set i (getE ns (i + 1))).set (i + 1) (getE ns i)) = false := by
  refine mayE_no (k := i + 1) (by simp; exact hi) ?_
  have e1 : getE ((ns.set i (getE ns (i + 1))).set (i + 1) (getE ns i)) (i + 1) = getE ns i := by
    show ((ns.set i (getE ns (i + 1))).set (i + 1) (getE ns i)).getD (i + 1) E.zero = _
    rw [List.getD_eq_getElem?_getD, List.getElem?_set_self (by rw [List.length_set]; exact hi)]; rfl
  have e2 : getE ((ns.set i (getE ns (i + 1))).set (i + 1) (getE ns i)) i = getE ns (i + 1) := by
    show ((ns.set i (getE ns (i + 1))).set (i + 1) (getE ns i)).getD i E.zero = _
    rw [List.getD_eq_getElem?_getD, List.getElem?_set_ne (by omega), List.getElem?_set_self (by omega)]; rfl
  unfold stepB
  rw [Nat.add_sub_cancel, e1, e2, decide_eq_false (by omega)]
  simp
/-- One page twice may not be. -/
theorem twice_not {ns : List E} {i : Nat} (hi : i + 1 < ns.length) : mayE (ns.set i { getE ns i with page := (getE ns (i + 1)).page }) = false := by
  refine mayE_no (k := i + 1) (by simp; exact hi) ?_
  have e1 : getE (ns.set i { getE ns i with page := (getE ns (i + 1)).page }) (i + 1) = getE ns (i + 1) := by
    show (ns.set i _).getD (i + 1) E.zero = ns.getD (i + 1) E.zero
    rw [List.getD_eq_getElem?_getD, List.getElem?_set_ne (by omega), ← List.getD_eq_getElem?_getD]
  have e2 : seenB (ns.set i { getE ns i with page := (getE ns (i + 1)).page }) (i + 1) (getE ns (i + 1)).page = true := by
    unfold seenB
    rw [List.any_eq_true]
    refine ⟨{ getE ns i with page := (getE ns (i + 1)).page }, List.mem_take_iff_getElem.2 ⟨i, by rw [List.length_set]; omega, ?_⟩, by simp⟩
    rw [List.getElem_set_self]
  unfold stepB
  rw [e1, e2]
  simp
end Go.Proofs.Ytopfdeihjjikiaa
