/- Slices of notes: their cells, loads of one, rows of the call's own. Conditions: the slices' cells. -/
import Derived.Test.YtaocppgekinocaaNoteMay
import Derived.Test.YtaocppgekinocaaOver
set_option linter.unusedVariables false
set_option linter.unusedSimpArgs false
namespace Go.Proofs.Ytaocppgekinocaa
open Go.RowKit

/-- The note's numbers are ones of their types. -/
structure Wf (v : V) : Prop where
  a0 : 0 ≤ v.addr
  a1 : v.addr ≤ 18446744073709551615
  p0 : -9223372036854775808 ≤ v.page
  p1 : v.page ≤ 9223372036854775807
  s0 : -9223372036854775808 ≤ v.seq
  s1 : v.seq ≤ 9223372036854775807
/-- A note's five cells. -/
structure NoteAt (w : World) (p : Addr) (v : V) : Prop where
  c0 : w.cell? p = some (.bool v.gone)
  c1 : w.cell? ⟨p.block, p.off + 1, none⟩ = some (.int .u64 v.addr)
  c2 : w.cell? ⟨p.block, p.off + 2, none⟩ = some (.int .i64 v.page)
  c3 : w.cell? ⟨p.block, p.off + 3, none⟩ = some (.bool v.dirty)
  c4 : w.cell? ⟨p.block, p.off + 4, none⟩ = some (.int .i64 v.seq)
def V.zero : V := ⟨false, 0, 0, false, 0⟩
theorem wf_zero : Wf V.zero := ⟨by decide, by decide, by decide, by decide, by decide, by decide⟩
structure Notes (w : World) (B : Nat) (A : Option Addr) (n : Nat) (vs : List V) : Prop where
  len : vs.length = n
  each : ∀ k, k < n → ∃ ad, A = some ad ∧ ad.block < B ∧ NoteAt w (ad.add (k * 5)) (vs.getD k V.zero)
  wf : ∀ k, Wf (vs.getD k V.zero)
section
variable {w w' : World} {B B' n : Nat} {A : Option Addr} {vs us : List V} {p : Addr} {v : V}
theorem NoteAt.kept (h : NoteAt w p v) (e : ∀ q : Addr, q.block = p.block → w'.cell? q = w.cell? q) : NoteAt w' p v :=
  ⟨(e _ rfl).trans h.c0, (e ⟨p.block, p.off + 1, none⟩ rfl).trans h.c1, (e ⟨p.block, p.off + 2, none⟩ rfl).trans h.c2, (e ⟨p.block, p.off + 3, none⟩ rfl).trans h.c3, (e ⟨p.block, p.off + 4, none⟩ rfl).trans h.c4⟩
theorem NoteAt.lt (h : NoteAt w p v) : p.block < w.heap.size := World.block_lt_of_cell? w _ h.c0
theorem NoteAt.since (h : NoteAt w p v) (hb : Below w.heap.size w w') : NoteAt w' p v := h.kept fun q hq => hb.cell (by rw [hq]; exact h.lt)
theorem Notes.none_ : Notes w B A 0 [] := ⟨rfl, fun k hk => absurd hk (Nat.not_lt_zero k), fun k => wf_zero⟩
theorem Notes.below (h : Notes w B A n vs) (hb : Below B w w') : Notes w' B A n vs := ⟨h.len, fun k hk => by
  obtain ⟨ad, e1, e2, e3⟩ := h.each k hk
  exact ⟨ad, e1, e2, e3.kept fun q hq => hb.cell (by rw [hq, addr_block]; exact e2)⟩, h.wf⟩
theorem Notes.wider (h : Notes w B A n vs) (hB : B ≤ B') : Notes w B' A n vs := ⟨h.len, fun k hk => by
  obtain ⟨ad, e1, e2, e3⟩ := h.each k hk
  exact ⟨ad, e1, Nat.lt_of_lt_of_le e2 hB, e3⟩, h.wf⟩
theorem Notes.since (h : Notes w w.heap.size A n vs) (hb : Below w.heap.size w w') : Notes w' w'.heap.size A n vs := (h.below hb).wider hb.size
theorem Notes.same (h : Notes w B A n vs) (e : vs = us) : Notes w B A n us := e ▸ h
theorem getDN_take (k j : Nat) (h : j < k) : (vs.take k).getD j V.zero = vs.getD j V.zero := by
  rw [List.getD_eq_getElem?_getD, List.getD_eq_getElem?_getD, List.getElem?_take_of_lt h]
theorem getDN_drop (k j : Nat) : (vs.drop k).getD j V.zero = vs.getD (k + j) V.zero := by
  rw [List.getD_eq_getElem?_getD, List.getD_eq_getElem?_getD, List.getElem?_drop]
theorem Notes.first (h : Notes w B A n vs) {k : Nat} (hk : k ≤ n) : Notes w B A k (vs.take k) :=
  ⟨by rw [List.length_take, h.len]; omega, fun j hj => by
    obtain ⟨ad, e1, e2, e3⟩ := h.each j (by omega)
    exact ⟨ad, e1, e2, by rw [getDN_take _ _ hj]; exact e3⟩,
   fun j => by
    by_cases hj : j < k
    · rw [getDN_take _ _ hj]; exact h.wf j
    · rw [List.getD_eq_getElem?_getD, List.getElem?_eq_none (by rw [List.length_take]; omega)]; exact wf_zero⟩
theorem Notes.rest (h : Notes w B A n vs) {k c : Nat} (hk : k ≤ n) (hc : n ≤ c) : Notes w B (if c = k then A else A.map (·.add (k * 5))) (n - k) (vs.drop k) :=
  ⟨by rw [List.length_drop, h.len], fun j hj => by
    obtain ⟨ad, e1, e2, e3⟩ := h.each (k + j) (by omega)
    rw [if_neg (by omega), e1]
    refine ⟨ad.add (k * 5), rfl, by rw [addr_block]; exact e2, ?_⟩
    rw [addr_add, getDN_drop, show k * 5 + j * 5 = (k + j) * 5 by omega]
    exact e3, fun j => by rw [getDN_drop]; exact h.wf _⟩
theorem Notes.all (h : Notes w B A n vs) : ∀ v ∈ vs, Wf v := by
  intro v hv
  obtain ⟨i, hi, rfl⟩ := List.mem_iff_getElem.1 hv
  have := h.wf i
  rw [List.getD_eq_getElem?_getD, List.getElem?_eq_getElem hi] at this
  exact this
theorem getDN_wf (h : ∀ v ∈ vs, Wf v) (k : Nat) : Wf (vs.getD k V.zero) := by
  rw [List.getD_eq_getElem?_getD]
  cases hk : vs[k]? with
  | none => exact wf_zero
  | some b => exact h b (List.mem_of_getElem? hk)
end
theorem run_load_note {W : World} {p : Addr} {v : V} (h : NoteAt W p v) : (Instr.loadAt 43 (.pointer (some p))).run Try.prog W = .ok (noteV v) W := by
  obtain ⟨c0, c1, c2, c3, c4⟩ := h
  unfold noteV
  go_simp

/- all of them -/
def allB (vs : List V) : Bool := vs.all okB
theorem allB_no {vs : List V} {k : Nat} (hk : k < vs.length) (h : okB (vs.getD k V.zero) = false) : allB vs = false := by
  unfold allB
  rw [Bool.eq_false_iff]
  intro e
  rw [List.all_eq_true] at e
  have := e (vs.getD k V.zero) (by rw [List.getD_eq_getElem?_getD, List.getElem?_eq_getElem hk]; exact List.getElem_mem hk)
  rw [h] at this
  cases this
theorem allB_yes {vs : List V} (h : ∀ k, k < vs.length → okB (vs.getD k V.zero) = true) : allB vs = true := by
  unfold allB
  rw [List.all_eq_true]
  intro v hv
  obtain ⟨i, hi, rfl⟩ := List.mem_iff_getElem.1 hv
  have := h i hi
  rw [List.getD_eq_getElem?_getD, List.getElem?_eq_getElem hi] at this
  exact this
theorem allB_at {vs : List V} (h : allB vs = true) {k : Nat} (hk : k < vs.length) : okB (vs.getD k V.zero) = true := by
  unfold allB at h
  rw [List.all_eq_true] at h
  exact h _ (by rw [List.getD_eq_getElem?_getD, List.getElem?_eq_getElem hk]; exact List.getElem_mem hk)
set_option maxHeartbeats 1000000 in
theorem mayall_any (A : Option Addr) (n c : Nat) (vs : List V) (w : World) (hn : n ≤ 9223372036854775807) (hA : Notes w w.heap.size A n vs) :
    Calls Try.prog 31 #[.slice A n c] w (SaysB w (allB vs)) := by
  have HA := Lib.hid hA
  have HL := Lib.hid hA.len
  clear hA
  go_enter Try.func31, Try.ntmps31
  go_wp2
  go_loopw [7] (fun t7 wr => ∃ (k : Nat), k ≤ n ∧ t7 = .int .i64 k ∧ Hid (∀ j, j < k → okB (vs.getD j V.zero) = true) ∧ Hid (Below w.heap.size w wr)) (fun t7 _ => n - (intOf t7).toNat)
  case atStart => exact ⟨0, Nat.zero_le _, rfl, fun j hj => absurd hj (Nat.not_lt_zero j), Below.refl _ _⟩
  case round =>
    obtain ⟨k, hk, rfl, HK, HB⟩ := hrel
    by_cases hlt : k < n
    · obtain ⟨ad, hA, hblk, hat⟩ := (HA.out.since HB.out).each k hlt
      subst hA
      obtain ⟨v, HV⟩ : ∃ v, Hid (v = vs.getD k V.zero) := ⟨_, rfl⟩
      rw [← HV.out] at hat
      have i0 : (0 : Int) ≤ (k : Int) := by omega
      have i1 : (k : Int) < (n : Int) := by omega
      obtain ⟨c0, c1, c2, c3, c4⟩ := hat
      go_wp2_with fail
      refine (may_any v _).mono ?_
      rcases hok : okB v
      · rintro e W1 ⟨rfl, hb⟩
        have HN : Hid (allB vs = false) := allB_no (k := k) (by have := HL.out; omega) (by rw [← HV.out]; exact hok)
        go_wp2_with fail
        go_ret
        rw [HN.out]
        exact ⟨rfl, below_chain (since_alloc HB.out _) hb.out⟩
      · rintro e W1 ⟨rfl, hb⟩
        have S2 := Lib.hid (below_chain (since_alloc HB.out _) hb.out)
        have HK2 : Hid (∀ j, j < k + 1 → okB (vs.getD j V.zero) = true) := fun j hj => by
          by_cases e : j = k
          · subst e; rw [← HV.out]; exact hok
          · exact HK.out j (by omega)
        go_wp2_with fail
        go_roundw
        case rel => exact ⟨k + 1, by omega, by go_num, HK2, S2⟩
        case measure => simp [intOf]; omega
    · have HY : Hid (allB vs = true) := allB_yes (vs := vs) (fun j hj => HK.out j (by have := HL.out; omega))
      go_wp2
      go_ret
      rw [HY.out]
      exact ⟨rfl, HB⟩
end Go.Proofs.Ytaocppgekinocaa
