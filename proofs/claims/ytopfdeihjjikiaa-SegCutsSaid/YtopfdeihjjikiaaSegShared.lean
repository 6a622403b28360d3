/- What the statements share of entries: SameEntries of equal lists; what was cut is joined. Conditions: the slices' cells. -/
import Derived.Test.YtopfdeihjjikiaaSegJoin
import Derived.Test.YtopfdeihjjikiaaSegCut
import Derived.Test.YtopfdeihjjikiaaShared
set_option linter.unusedVariables false
set_option linter.unusedSimpArgs false
namespace Go.Proofs.Ytopfdeihjjikiaa
open Go.RowKit

set_option maxHeartbeats 1000000 in
theorem sameentries_yes (A A' : Option Addr) (n c c' : Nat) (es : List E) (w : World) (hn : n ≤ 9223372036854775807) (hA : entK.Lie w w.heap.size A n es) (hA' : entK.Lie w w.heap.size A' n es) :
    Calls Try.prog 19 #[.slice A n c, .slice A' n c'] w fun e w' => e = .returned (.bool true) ∧ ∃ m, w' = w.drewN m := by
  have HA := Lib.hid hA
  have HA' := Lib.hid hA'
  clear hA hA'
  go_enter Try.func19, Try.ntmps19
  go_wp2
  go_loopw [5] (fun t5 wr => ∃ (k m : Nat), k ≤ n ∧ t5 = .int .i64 k ∧ wr = w.drewN m) (fun t5 _ => n - (intOf t5).toNat)
  case atStart => exact ⟨0, 0, Nat.zero_le _, rfl, rfl⟩
  case round =>
    obtain ⟨k, m, hk, rfl, rfl⟩ := hrel
    by_cases hlt : k < n
    · obtain ⟨ad, hA, hblk, hat⟩ := HA.out.each k hlt
      obtain ⟨ad', hA', hblk', hat'⟩ := HA'.out.each k hlt
      obtain ⟨v, HV⟩ : ∃ v, Hid (es.getD k entK.dflt = v) := ⟨_, rfl⟩
      rw [HV.out] at hat hat'
      obtain ⟨c0, c1, c2, c3⟩ := entAt_of (show entK.At w (ad.add (k * 4)) v from hat)
      obtain ⟨e0, e1, e2, e3⟩ := entAt_of (show entK.At w (ad'.add (k * 4)) v from hat')
      subst hA hA'
      have i0 : (0 : Int) ≤ (k : Int) := by omega
      have i1 : (k : Int) < (n : Int) := by omega
      clear hat hat'
      go_wp2
      go_quiet (fail)
      go_wp2
      go_roundw
      case rel => exact ⟨k + 1, m + nq, by omega, by go_num, rfl⟩
      case measure => simp [intOf]; omega
    · go_wp2
      go_ret
      exact ⟨rfl, _, rfl⟩
theorem sameentries_since (A A' : Option Addr) (n c c' : Nat) (es : List E) (w : World) (hn : n ≤ 9223372036854775807) (hA : entK.Lie w w.heap.size A n es) (hA' : entK.Lie w w.heap.size A' n es) :
    Calls Try.prog 19 #[.slice A n c, .slice A' n c'] w (SaysB w true) :=
  (sameentries_yes A A' n c c' es w hn hA hA').mono fun e w' ⟨he, m, hw⟩ => ⟨he, hw ▸ below_drewN (Below.refl _ _) m⟩
/-- The parts of what was cut. -/
def ptsOf (s : Nat) (nm : List Nat) (ns : List Sg.E) : List Pt := (List.range (Sg.parts s ns.length)).map fun i => ⟨i, Sg.parts s ns.length, nm, Sg.chunk s ns i⟩
theorem ptsOf_len (s : Nat) (nm : List Nat) (ns : List Sg.E) : (ptsOf s nm ns).length = Sg.parts s ns.length := by simp [ptsOf]
theorem ptsOf_at {s : Nat} {nm : List Nat} {ns : List Sg.E} {k : Nat} (h : k < Sg.parts s ns.length) : ptAt (ptsOf s nm ns) k = ⟨k, Sg.parts s ns.length, nm, Sg.chunk s ns k⟩ := by
  unfold ptAt ptsOf
  rw [List.getD_eq_getElem?_getD, List.getElem?_map, List.getElem?_range h]; rfl
theorem cut_pts {s : Nat} {nm : List Nat} {ns : List Sg.E} (hs : Sg.sizeOk s) (hn : OkN nm) (ho : Sg.Ok ns) : Pts s (ptsOf s nm ns) (Sg.cut s nm ns) := by
  refine ⟨by rw [ptsOf_len, Sg.cut_len], fun k hk => ?_⟩
  rw [ptsOf_len] at hk
  rw [ptsOf_at hk, cut_getD hk]
  exact ⟨Sg.cut_part hs hn hn.len ho hk, Sg.part_len hs hn.len (Sg.chunk_few s ns k)⟩
theorem cut_good {s : Nat} {nm : List Nat} {ns : List Sg.E} (hs : Sg.sizeOk s) : AllGood (ptsOf s nm ns) := by
  have := (Sg.parts_bd (n := ns.length) hs).1
  refine ⟨by rw [ptsOf_len]; omega, fun k hk => ?_⟩
  have hk' := hk
  rw [ptsOf_len] at hk
  unfold goodAt
  rw [ptsOf_at hk, ptsOf_len]
  refine ⟨rfl, rfl, ?_⟩
  by_cases h : k = 0
  · exact Or.inl h
  · right
    rw [ptsOf_at (by omega)]
theorem cut_flat {s : Nat} {nm : List Nat} {ns : List Sg.E} (hs : Sg.sizeOk s) : flatP (ptsOf s nm ns) (ptsOf s nm ns).length = ns := by
  unfold flatP
  rw [List.take_length]
  unfold ptsOf
  rw [List.flatMap_map]
  exact Sg.chunks_all hs
theorem cut_joint {s : Nat} {nm : List Nat} {ns : List Sg.E} (hs : Sg.sizeOk s) (ho : Sg.Ok ns) : Joint (ptsOf s nm ns) := ⟨cut_good hs, by rw [cut_flat hs]; exact ho⟩
theorem cut_name {s : Nat} {nm : List Nat} {ns : List Sg.E} (hs : Sg.sizeOk s) : (ptAt (ptsOf s nm ns) ((ptsOf s nm ns).length - 1)).nm = nm := by
  have := (Sg.parts_bd (n := ns.length) hs).1
  rw [ptsOf_len, ptsOf_at (by omega)]
/-- What was cut, joined. -/
theorem join_cut (A : Option Addr) (n c s : Nat) (vs : List SV) (nm : List Nat) (ns : List Sg.E) (w : World) (hs : Sg.sizeOk s) (hn : OkN nm) (ho : Sg.Ok ns) (hA : Lays w w.heap.size A n vs (Sg.cut s nm ns)) :
    Calls Try.prog 21 #[.slice A n c] w fun e w' => ∃ A' n' c', e = .returned (.tuple #[.string (strOf nm), .slice A' n' c', .nilIface]) ∧ Hid (entK.Row w' w.heap.size A' n' c' (ns.map ofE)) ∧ Hid (Below w.heap.size w w') := by
  have hl : n ≤ 300 := by
    have h1 := hA.len
    rw [Sg.cut_len] at h1
    have := Sg.parts_few hs ho.many
    omega
  refine (join_any A n c s vs _ _ w hl (cut_pts hs hn ho) hA).mono ?_
  rintro e w' ⟨h1, _, S⟩
  obtain ⟨A', n', c', rfl, O⟩ := h1 (cut_joint hs ho)
  rw [cut_flat hs] at O
  rw [cut_name hs]
  exact ⟨A', n', c', rfl, O, S⟩
/-- Parts that are not all, in their order, are joined to nothing. -/
theorem join_none (A : Option Addr) (n c s : Nat) (vs : List SV) (ps : List Pt) (bss : List (List Nat)) (w : World) (hn : n ≤ 300) (hP : Pts s ps bss) (hA : Lays w w.heap.size A n vs bss) (h : ¬ Joint ps) :
    Calls Try.prog 21 #[.slice A n c] w fun e w' => ∃ v, e = .returned (.tuple #[.string ⟨#[]⟩, .slice none 0 0, v]) ∧ Hid (Wrong 3 w' v) ∧ Hid (Below w.heap.size w w') := by
  refine (join_any A n c s vs ps bss w hn hP hA).mono ?_
  rintro e w' ⟨_, h2, S⟩
  obtain ⟨v, rfl, W⟩ := h2 h
  exact ⟨v, rfl, W, S⟩
theorem none_pts (s : Nat) : Pts s [] [] := ⟨rfl, fun k hk => absurd hk (Nat.not_lt_zero k)⟩
theorem none_joint : ¬ Joint [] := fun h => absurd h.1.1 (Nat.not_lt_zero 0)
end Go.Proofs.Ytopfdeihjjikiaa
