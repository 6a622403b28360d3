/- What a chip's calls do inside, as plain mathematics: what is left of an operation under its mishap, and then its power. No conditions. -/
import Derived.Test.YtgamjffedlkbeaaNandMath
set_option linter.unusedVariables false
set_option linter.unusedSimpArgs false
namespace Go.Proofs.Ytgamjffedlkbeaa

namespace Chip
/-- What is left of a Program under a mishap, but for the power. -/
def progIn (s : Chip) (m : M) (b p : Int) (raw : List Nat) : Chip × Int :=
  if (s.blk b).marked = true ∨ p ≠ ((s.blk b).next : Int) then ({ s with misuse := s.misuse + 1 }, 6)
  else if (s.blk b).failed = true then (s.setB b { s.blk b with next := (s.blk b).next + 1 }, 5)
  else if m.kind = 1 then (s.setB b { wrote (s.blk b) p (part raw (s.page b p) (min m.bytes.toNat (raw.length - 1))) with failed := true }, 5)
  else if m.kind = 2 then (s.setB b (wrote (s.blk b) p (part raw (s.page b p) (min m.bytes.toNat raw.length))), 0)
  else ({ s.setB b (wrote (s.blk b) p (part raw (s.page b p) raw.length)) with programs := s.programs + 1 }, 0)
/-- What is left of an Erase. -/
def eraseIn (s : Chip) (m : M) (b : Int) : Chip × Int :=
  if (s.blk b).marked = true then ({ s with misuse := s.misuse + 1 }, 6)
  else if (s.blk b).failed = true ∨ m.kind = 1 then (s.setB b { s.blk b with failed := true }, 5)
  else if m.kind = 2 then (s.setB b { s.blk b with pg := s.filled m.fill.toNat, next := if m.fill = 255 then 0 else s.np, wear := (s.blk b).wear + 1 }, 0)
  else (s.setB b { s.blk b with pg := s.filled 255, next := 0, wear := (s.blk b).wear + 1 }, 0)
/-- What is left of a Mark. -/
def markIn (s : Chip) (m : M) (b : Int) : Chip := if m.kind = 2 then s else s.setB b { s.blk b with marked := true }
/-- The power. -/
def endIn (r : Chip × Int) (m : M) : Chip × Int := if m.kind = 2 then (r.1.off, 4) else r
section
variable {s : Chip} {b p : Int} {raw : List Nat}
theorem part_all (raw old : List Nat) (h : old.length = raw.length) : part raw old raw.length = raw := by
  unfold part
  rw [List.take_length, List.drop_eq_nil_of_le (by omega), List.append_nil]
theorem part_min (raw old : List Nat) (k : Nat) (h : old.length = raw.length) : part raw old (min k raw.length) = part raw old k := by
  by_cases hk : k ≤ raw.length
  · rw [Nat.min_eq_left hk]
  · rw [Nat.min_eq_right (by omega), part_all raw old h]
    unfold part
    rw [List.take_of_length_le (by omega), List.drop_eq_nil_of_le (by omega), List.append_nil]
theorem why_zero {l : Nat} (h : s.why b p l = 0) : s.on = true ∧ 0 ≤ b ∧ b < (s.nb : Int) ∧ 0 ≤ p ∧ p < (s.np : Int) ∧ l = s.long := by
  unfold why at h
  cases ho : s.on with
  | false => rw [ho, if_pos rfl] at h; cases h
  | true =>
    rw [ho, if_neg (by decide)] at h
    by_cases hc : 0 ≤ b ∧ b < (s.nb : Int) ∧ 0 ≤ p ∧ p < (s.np : Int) ∧ l = s.long
    · exact ⟨rfl, hc⟩
    · rw [if_neg hc] at h; cases h
theorem offIf_yes (t : Chip) (ht : t.on = true) : t.offIf true = t.off := by
  unfold offIf off; simp
theorem offIf_no (t : Chip) : t.offIf false = t := by
  cases t; simp [offIf]
theorem dark_yes (h : s.bef.kind = 2) : s.dark = true := decide_eq_true h
theorem dark_no (h : s.bef.kind ≠ 2) : s.dark = false := decide_eq_false h
theorem tick_blk : s.tick.blk b = s.blk b := rfl
theorem tick_page : s.tick.page b p = s.page b p := rfl
theorem program_in (h : s.why b p raw.length = 0) (hp : (s.page b p).length = s.long) : s.program b p raw = endIn (s.tick.progIn s.bef b p raw) s.bef := by
  obtain ⟨ho, b0, b1, p0, p1, hl⟩ := why_zero h
  have hlr : (s.page b p).length = raw.length := by omega
  have hlo : s.tick.on = true := ho
  unfold program endIn progIn
  rw [if_neg (by rw [h]; decide), tick_blk, tick_page]
  by_cases hd : s.bef.kind = 2
  · simp only [dark_yes hd, if_pos hd]
    by_cases h1 : (s.blk b).marked = true ∨ p ≠ ((s.blk b).next : Int)
    · simp only [if_pos h1, offIf_yes _ hlo]; rfl
    · simp only [if_neg h1]
      by_cases h2 : (s.blk b).failed = true
      · simp only [if_pos h2, offIf_yes _ hlo]; rfl
      · have h3 : ¬ s.bef.kind = 1 := by omega
        simp only [if_neg h2, if_neg h3, if_true, part_min _ _ _ hlr]; rfl
  · simp only [dark_no hd, if_neg hd]
    by_cases h1 : (s.blk b).marked = true ∨ p ≠ ((s.blk b).next : Int)
    · simp only [if_pos h1, offIf_no]; rfl
    · simp only [if_neg h1]
      by_cases h2 : (s.blk b).failed = true
      · simp only [if_pos h2, offIf_no]; rfl
      · simp only [if_neg h2]
        by_cases h3 : s.bef.kind = 1
        · have hf : s.fails = true := decide_eq_true h3
          simp only [hf, if_pos h3, if_true, hl]; rfl
        · have hf : s.fails = false := decide_eq_false h3
          simp only [hf, if_neg h3, part_all _ _ hlr]; rfl
theorem erase_in (h : s.why b 0 s.long = 0) : s.erase b = endIn (s.tick.eraseIn s.bef b) s.bef := by
  obtain ⟨ho, b0, b1, p0, p1, hl⟩ := why_zero h
  have hlo : s.tick.on = true := ho
  unfold erase endIn eraseIn
  rw [if_neg (by rw [h]; decide), tick_blk]
  by_cases hd : s.bef.kind = 2
  · simp only [dark_yes hd, if_pos hd]
    by_cases h1 : (s.blk b).marked = true
    · simp only [if_pos h1, offIf_yes _ hlo]; rfl
    · simp only [if_neg h1]
      have hf : s.fails = false := decide_eq_false (by omega)
      by_cases h2 : (s.blk b).failed = true
      · simp only [if_pos (Or.inl h2 : (s.blk b).failed = true ∨ s.fails = true), if_pos (Or.inl h2 : (s.blk b).failed = true ∨ s.bef.kind = 1), offIf_yes _ hlo]; rfl
      · have h4 : ¬ ((s.blk b).failed = true ∨ s.fails = true) := by rw [hf]; simpa using h2
        have h5 : ¬ ((s.blk b).failed = true ∨ s.bef.kind = 1) := by intro h; rcases h with h | h; exact h2 h; omega
        simp only [if_neg h4, if_neg h5, if_true]; rfl
  · simp only [dark_no hd, if_neg hd]
    by_cases h1 : (s.blk b).marked = true
    · simp only [if_pos h1, offIf_no]; rfl
    · simp only [if_neg h1]
      by_cases h3 : (s.blk b).failed = true ∨ s.bef.kind = 1
      · have h4 : (s.blk b).failed = true ∨ s.fails = true := h3.imp id fun e => decide_eq_true e
        simp only [if_pos h3, if_pos h4, offIf_no]; rfl
      · have h4 : ¬ ((s.blk b).failed = true ∨ s.fails = true) := fun e => h3 (e.imp id fun e => of_decide_eq_true e)
        simp only [if_neg h3, if_neg h4]; rfl
theorem mark_in (h : s.why b 0 s.long = 0) : s.mark b = endIn (s.tick.markIn s.bef b, 0) s.bef := by
  unfold mark endIn markIn
  rw [if_neg (by rw [h]; decide)]
  by_cases hd : s.bef.kind = 2
  · rw [dark_yes hd, if_pos rfl, if_pos hd, if_pos hd]
  · rw [dark_no hd, if_neg (by decide), if_neg hd, if_neg hd]; rfl
theorem read_in (h : s.why b p s.long = 0) : s.read b p = ((endIn (s.tick, 0) s.bef).1, (endIn (s.tick, 0) s.bef).2, if s.bef.kind = 2 then [] else s.page b p) := by
  unfold read endIn
  rw [if_neg (by rw [h]; decide)]
  by_cases hd : s.bef.kind = 2
  · rw [dark_yes hd, if_pos rfl, if_pos hd, if_pos hd]
  · rw [dark_no hd, if_neg (by decide), if_neg hd, if_neg hd]
/- what holds of every chip -/
/-- Each count has room for one operation more. -/
structure Tk (s : Chip) : Prop where
  misuse : s.misuse < s.ops
  programs : s.programs < s.ops
  wear : ∀ b, b < s.nb → (s.bs.getD b Blk.zero).wear < s.ops
theorem Wf.tick (h : s.Wf) : s.tick.Wf := ⟨h.nb1, h.nb2, h.np1, h.np2, h.ns1, h.ns2, h.may, h.len, h.pages, h.bytes, h.next, fun b hb => Nat.le_succ_of_le (h.wear b hb), Nat.le_succ_of_le h.misuse, Nat.le_succ_of_le h.programs⟩
theorem Wf.tk (h : s.Wf) : s.tick.Tk := ⟨Nat.lt_succ_of_le h.misuse, Nat.lt_succ_of_le h.programs, fun b hb => Nat.lt_succ_of_le (h.wear b hb)⟩
theorem Wf.turn (h : s.Wf) (o : Bool) : ({ s with on := o } : Chip).Wf := ⟨h.nb1, h.nb2, h.np1, h.np2, h.ns1, h.ns2, h.may, h.len, h.pages, h.bytes, h.next, h.wear, h.misuse, h.programs⟩
theorem Wf.misused (h : s.Wf) (k : s.Tk) : ({ s with misuse := s.misuse + 1 } : Chip).Wf := ⟨h.nb1, h.nb2, h.np1, h.np2, h.ns1, h.ns2, h.may, h.len, h.pages, h.bytes, h.next, h.wear, k.misuse, h.programs⟩
theorem Wf.programmed (h : s.Wf) (k : s.programs < s.ops) : ({ s with programs := s.programs + 1 } : Chip).Wf := ⟨h.nb1, h.nb2, h.np1, h.np2, h.ns1, h.ns2, h.may, h.len, h.pages, h.bytes, h.next, h.wear, h.misuse, k⟩
theorem Wf.setB (h : s.Wf) {k : Nat} (hk : k < s.nb) (y : Blk) (h1 : y.pg.length = s.np) (h2 : ∀ p, p < s.np → (y.pg.getD p []).length = s.long) (h3 : y.next ≤ s.np) (h4 : y.wear ≤ s.ops) : (s.setB (k : Int) y).Wf := by
  have hl := h.len
  have hg : ∀ j, (s.setB (k : Int) y).bs.getD j Blk.zero = if j = k then y else s.bs.getD j Blk.zero := fun j => by
    unfold Chip.setB
    simp only [Int.toNat_natCast, List.getD_eq_getElem?_getD, List.getElem?_set]
    by_cases e : k = j
    · subst e; simp [show k < s.bs.length by omega]
    · simp [e, Ne.symm e]
  refine ⟨h.nb1, h.nb2, h.np1, h.np2, h.ns1, h.ns2, h.may, ?_, fun b hb => ?_, fun b p hb hp => ?_, fun b hb => ?_, fun b hb => ?_, h.misuse, h.programs⟩
  · unfold Chip.setB; simpa using hl
  · rw [hg]; split
    · exact h1
    · exact h.pages b hb
  · rw [hg]; split
    · exact h2 p hp
    · exact h.bytes b p hb hp
  · rw [hg]; split
    · exact h3
    · exact h.next b hb
  · rw [hg]; split
    · exact h4
    · exact h.wear b hb
theorem bef_wf (h : s.Wf) : 0 ≤ s.bef.bytes ∧ s.bef.bytes ≤ 65536 ∧ (s.bef.kind = 0 ∨ s.bef.kind = 1 ∨ s.bef.kind = 2) := by
  have hz : ∀ {x : Int} {ms : List M} {m : M}, atM x ms = some m → m ∈ ms := by
    intro x ms
    induction ms with
    | nil => intro m e; cases e
    | cons a r ih =>
      intro m e
      unfold atM at e
      split at e
      · rw [← Option.some.inj e]; simp
      · exact List.mem_cons_of_mem _ (ih e)
  unfold bef
  cases e : atM ((s.ops + 1 : Nat) : Int) s.ms with
  | none => exact ⟨by decide, by decide, Or.inl rfl⟩
  | some m =>
    obtain ⟨k, hk, hm⟩ := List.mem_iff_getElem.1 (hz e)
    have h1 := (mayM_out h.may).2 k hk
    unfold stepM at h1
    rw [Bool.and_eq_true] at h1
    have h2 := okM_out h1.1
    have h3 : getM s.ms k = m := by
      unfold getM
      rw [List.getD_eq_getElem?_getD, List.getElem?_eq_getElem hk, ← hm]; rfl
    rw [h3] at h2
    exact ⟨h2.2.2.2.1, h2.2.2.2.2, Or.inr h2.2.2.1⟩
/- pages side by side -/
theorem flat_len {z : Nat} : ∀ {pg : List (List Nat)}, (∀ i, i < pg.length → (pg.getD i []).length = z) → pg.flatten.length = pg.length * z
  | [], _ => by simp
  | x :: r, h => by
    have h0 : x.length = z := h 0 (by simp)
    have h1 := flat_len (pg := r) fun i hi => h (i + 1) (by simpa using hi)
    rw [List.flatten_cons, List.length_append, h0, h1, List.length_cons, Nat.add_mul, Nat.one_mul]; omega
theorem flat_page {z : Nat} : ∀ {pg : List (List Nat)} {q : Nat}, (∀ i, i < pg.length → (pg.getD i []).length = z) → q < pg.length → (pg.flatten.drop (q * z)).take z = pg.getD q []
  | [], q, _, hq => by simp at hq
  | x :: r, 0, h, _ => by
    have h0 : x.length = z := h 0 (by simp)
    rw [Nat.zero_mul, List.drop_zero, List.flatten_cons, List.take_append_of_le_length (by omega), List.take_of_length_le (by omega)]; rfl
  | x :: r, q + 1, h, hq => by
    have h0 : x.length = z := h 0 (by simp)
    have e : (q + 1) * z = x.length + q * z := by rw [Nat.add_mul, Nat.one_mul, h0]; omega
    rw [List.flatten_cons, e, List.drop_append, List.drop_eq_nil_of_le (by omega), List.nil_append, show x.length + q * z - x.length = q * z by omega]
    exact flat_page (pg := r) (fun i hi => h (i + 1) (by simpa using hi)) (by simpa using hq)
theorem flat_set {z : Nat} : ∀ {pg : List (List Nat)} {q : Nat} (x : List Nat), (∀ i, i < pg.length → (pg.getD i []).length = z) → q < pg.length → (pg.set q x).flatten = pg.flatten.take (q * z) ++ x ++ pg.flatten.drop (q * z + z)
  | [], q, _, _, hq => by simp at hq
  | y :: r, 0, x, h, _ => by
    have h0 : y.length = z := h 0 (by simp)
    rw [Nat.zero_mul, List.take_zero, Nat.zero_add, List.flatten_cons, List.drop_append, List.drop_eq_nil_of_le (by omega), List.nil_append, show z - y.length = 0 by omega]
    simp
  | y :: r, q + 1, x, h, hq => by
    have h0 : y.length = z := h 0 (by simp)
    have ih := flat_set (pg := r) (q := q) x (fun i hi => h (i + 1) (by simpa using hi)) (by simpa using hq)
    have e : (q + 1) * z = y.length + q * z := by rw [Nat.add_mul, Nat.one_mul, h0]; omega
    have a1 : ∀ (F : List Nat) (m : Nat), (y ++ F).take (y.length + m) = y ++ F.take m := fun F m => by
      rw [List.take_append, List.take_of_length_le (Nat.le_add_right _ _), Nat.add_sub_cancel_left]
    have a2 : ∀ (F : List Nat) (m : Nat), (y ++ F).drop (y.length + m) = F.drop m := fun F m => by
      rw [List.drop_append, List.drop_eq_nil_of_le (Nat.le_add_right _ _), Nat.add_sub_cancel_left, List.nil_append]
    show (y :: r.set q x).flatten = _
    rw [List.flatten_cons, ih, List.flatten_cons, e, a1, Nat.add_assoc, a2]
    simp
/-- The first k bytes of a page are others. -/
theorem flat_part {z k q : Nat} {pg : List (List Nat)} (raw : List Nat) (h : ∀ i, i < pg.length → (pg.getD i []).length = z) (hq : q < pg.length) (hk : k ≤ raw.length) (hr : raw.length = z) :
    (pg.set q (part raw (pg.getD q []) k)).flatten = pg.flatten.take (q * z) ++ raw.take k ++ pg.flatten.drop (q * z + k) := by
  have hfl := flat_len h
  have hlen : (raw.take k).length = k := by rw [List.length_take]; omega
  rw [flat_set _ h hq]
  have e : part raw (pg.getD q []) k = raw.take k ++ ((pg.flatten.drop (q * z)).take z).drop k := by rw [flat_page h hq]; rfl
  rw [e, List.drop_take, List.drop_drop, List.append_assoc, List.append_assoc, List.append_assoc]
  congr 2
  have e2 : q * z + z = q * z + k + (z - k) := by omega
  have e3 : pg.flatten.drop (q * z + k + (z - k)) = (pg.flatten.drop (q * z + k)).drop (z - k) := by rw [List.drop_drop]
  rw [e2, e3, List.take_append_drop]
theorem filled_flat (s : Chip) (x : Nat) : (s.filled x).flatten = List.replicate (s.np * s.long) x := by
  unfold filled
  induction s.np with
  | zero => simp
  | succ n ih => rw [List.replicate_succ, List.flatten_cons, ih, List.replicate_append_replicate]; congr 1; rw [Nat.add_mul, Nat.one_mul]; omega
theorem filled_len (s : Chip) (x : Nat) : (s.filled x).length = s.np := by simp [filled]
theorem filled_each (s : Chip) (x : Nat) (p : Nat) (hp : p < s.np) : ((s.filled x).getD p []).length = s.long := by
  unfold filled
  rw [List.getD_eq_getElem?_getD, List.getElem?_replicate, if_pos hp]
  simp
end
end Chip
end Go.Proofs.Ytgamjffedlkbeaa
