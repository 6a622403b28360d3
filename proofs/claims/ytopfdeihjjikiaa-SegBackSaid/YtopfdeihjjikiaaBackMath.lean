/- SegBack's lists: parts without one, parts with two the other way round. No conditions. -/
import Derived.Test.YtopfdeihjjikiaaSegAwake
import Derived.Test.YtopfdeihjjikiaaSegStore
set_option linter.unusedVariables false
set_option linter.unusedSimpArgs false
namespace Go.Proofs.Ytopfdeihjjikiaa
open Go.RowKit

theorem getD_less {α : Type} (l : List α) (i k : Nat) (d : α) (hi : i < l.length) : (l.take i ++ l.drop (i + 1)).getD k d = if k < i then l.getD k d else l.getD (k + 1) d := by
  have ht : (l.take i).length = i := by rw [List.length_take]; omega
  by_cases h : k < i
  · rw [if_pos h, List.getD_eq_getElem?_getD, List.getElem?_append_left (by omega), List.getElem?_take_of_lt h, List.getD_eq_getElem?_getD]
  · rw [if_neg h, List.getD_eq_getElem?_getD, List.getElem?_append_right (by omega), ht, List.getElem?_drop, List.getD_eq_getElem?_getD]
    congr 2
    omega
theorem len_less {α : Type} (l : List α) (i : Nat) (hi : i < l.length) : (l.take i ++ l.drop (i + 1)).length = l.length - 1 := by
  rw [List.length_append, List.length_take, List.length_drop]; omega
theorem Hold.less {w : World} {B : Nat} {vs : List SV} {ps : List (List Nat)} (h : Hold w B vs ps) {i : Nat} (hi : i < vs.length) : Hold w B (vs.take i ++ vs.drop (i + 1)) (ps.take i ++ ps.drop (i + 1)) := by
  have hp : i < ps.length := by rw [← h.len]; exact hi
  refine ⟨by rw [len_less _ _ hi, len_less _ _ hp, h.len], fun k hk => ?_⟩
  rw [len_less _ _ hi] at hk
  rw [getD_less _ _ _ _ hi, getD_less _ _ _ _ hp]
  split
  · exact h.each k (by omega)
  · exact h.each (k + 1) (by omega)
theorem Pts.less {s : Nat} {ps : List Pt} {bss : List (List Nat)} (h : Pts s ps bss) {i : Nat} (hi : i < ps.length) : Pts s (ps.take i ++ ps.drop (i + 1)) (bss.take i ++ bss.drop (i + 1)) := by
  have hp : i < bss.length := by rw [← h.len]; exact hi
  refine ⟨by rw [len_less _ _ hi, len_less _ _ hp, h.len], fun k hk => ?_⟩
  rw [len_less _ _ hi] at hk
  unfold ptAt
  rw [getD_less _ _ _ _ hi, getD_less _ _ _ _ hp]
  split
  · exact h.each k (by omega)
  · exact h.each (k + 1) (by omega)
theorem Pts.set {s : Nat} {ps : List Pt} {bss : List (List Nat)} (h : Pts s ps bss) {i : Nat} (hi : i < ps.length) (p : Pt) (bs : List Nat) (hp : Sg.IsPart OkN bs p.i p.m p.nm p.ns) (hs : bs.length = s) : Pts s (ps.set i p) (bss.set i bs) := by
  refine ⟨by rw [List.length_set, List.length_set]; exact h.len, fun k hk => ?_⟩
  rw [List.length_set] at hk
  have hkb : k < bss.length := by rw [← h.len]; exact hk
  unfold ptAt
  by_cases e : i = k
  · subst e
    rw [List.getD_eq_getElem?_getD, List.getElem?_set_self hkb, List.getD_eq_getElem?_getD, List.getElem?_set_self hk]
    exact ⟨hp, hs⟩
  · rw [List.getD_eq_getElem?_getD, List.getElem?_set_ne e, List.getD_eq_getElem?_getD, List.getElem?_set_ne e, ← List.getD_eq_getElem?_getD, ← List.getD_eq_getElem?_getD]
    exact h.each k hk
/-- Without one part the others are not all. -/
theorem less_not {s : Nat} {nm : List Nat} {ns : List Sg.E} {i : Nat} (hi : i < Sg.parts s ns.length) : ¬ Joint ((ptsOf s nm ns).take i ++ (ptsOf s nm ns).drop (i + 1)) := by
  rintro ⟨⟨h0, hg⟩, _⟩
  have hl : i < (ptsOf s nm ns).length := by rw [ptsOf_len]; exact hi
  rw [len_less _ _ hl, ptsOf_len] at h0 hg
  have := (hg 0 h0).2.1
  rw [len_less _ _ hl, ptsOf_len] at this
  unfold ptAt at this
  rw [getD_less _ _ _ _ hl] at this
  have h1 : ∀ j, j < Sg.parts s ns.length → ((ptsOf s nm ns).getD j ⟨0, 0, [], []⟩).m = Sg.parts s ns.length := fun j hj => congrArg Pt.m (ptsOf_at hj)
  split at this
  · rw [h1 0 (by omega)] at this; omega
  · rw [h1 (0 + 1) (by omega)] at this; omega
/-- With two the other way round they are not in their order. -/
theorem turn_not {s : Nat} {nm : List Nat} {ns : List Sg.E} {i j : Nat} (hi : i < Sg.parts s ns.length) (hj : j < Sg.parts s ns.length) (hn : i ≠ j) : ¬ Joint (((ptsOf s nm ns).set i (ptAt (ptsOf s nm ns) j)).set j (ptAt (ptsOf s nm ns) i)) := by
  rintro ⟨⟨_, hg⟩, _⟩
  have := (hg i (by rw [List.length_set, List.length_set, ptsOf_len]; exact hi)).1
  have e : ptAt (((ptsOf s nm ns).set i (ptAt (ptsOf s nm ns) j)).set j (ptAt (ptsOf s nm ns) i)) i = ptAt (ptsOf s nm ns) j := by
    show List.getD _ _ _ = _
    rw [List.getD_eq_getElem?_getD, List.getElem?_set_ne (fun e => hn e.symm), List.getElem?_set_self (by rw [ptsOf_len]; exact hi)]; rfl
  rw [e, ptsOf_at hj] at this
  exact hn this.symm
/-- Facts that tell no memory, beside others. -/
def factFree (g : Nat → Option (Value → Prop)) (l : List Fact2) (i : Nat) (v : Value) (w : World) : Prop := match g i with | some p => p v | none => fact2Of l i v w
theorem factFree_stays (g : Nat → Option (Value → Prop)) (ops : Array Oper) (l : List Fact2) (m B : Nat) (ds : List (Nat × Nat)) (hds : ∀ i, (∃ v, l[i]? = some (.is v)) ∨ deadOf ds i = some m ∨ l[i]? = none ∨ i = m ∨ needs ops i m = true) (i j : Nat) (v : Value) (w w' : World) (hm : i ≠ j) (hd : deadOf ds i ≠ some j) (hnn : needs ops i j = false) (h : factFree g l i v w) (hR : But m B j w w') : factFree g l i v w' := by
  unfold factFree at h ⊢
  cases hg : g i with
  | some p => rw [hg] at h; exact h
  | none => rw [hg] at h; exact fact2_stays ops l m B ds hds i j v w w' hm hd hnn h hR
end Go.Proofs.Ytopfdeihjjikiaa
