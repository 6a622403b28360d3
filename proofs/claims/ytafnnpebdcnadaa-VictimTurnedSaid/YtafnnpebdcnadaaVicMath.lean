/- Which block is emptied, as mathematics: what counts, what stands ahead, the order, the first, the gain. No conditions; no program. -/
import Derived.Test.YtafnnpebdcnadaaVBlocks
set_option linter.unusedVariables false
set_option linter.unusedSimpArgs false
namespace Go.Proofs.Ytafnnpebdcnadaa

def fineI (n : Int) : Bool := decide (0 ≤ n) && decide (n ≤ 1073741824)
theorem fineI_yes {n : Int} : fineI n = true ↔ 0 ≤ n ∧ n ≤ 1073741824 := by unfold fineI; simp
theorem fineI_no {n : Int} : fineI n = false ↔ n < 0 ∨ 1073741824 < n := by
  rw [← Bool.not_eq_true, fineI_yes]; omega
def mayV (b : VB) : Bool := fineI b.id && fineI b.cl && fineI b.di && fineI b.ot && fineI b.we
theorem mayV_yes {b : VB} : mayV b = true ↔ (0 ≤ b.id ∧ b.id ≤ 1073741824) ∧ (0 ≤ b.cl ∧ b.cl ≤ 1073741824) ∧ (0 ≤ b.di ∧ b.di ≤ 1073741824) ∧ (0 ≤ b.ot ∧ b.ot ≤ 1073741824) ∧ (0 ≤ b.we ∧ b.we ≤ 1073741824) := by
  unfold mayV
  simp only [Bool.and_eq_true, fineI_yes, and_assoc]
/-- Does it count? -/
def cntV (b : VB) : Bool := mayV b && !decide (0 < b.ot)
theorem cntV_yes {b : VB} : cntV b = true ↔ mayV b = true ∧ b.ot = 0 := by
  unfold cntV
  rw [Bool.and_eq_true, Bool.not_eq_true', decide_eq_false_iff_not]
  constructor
  · rintro ⟨h1, h2⟩
    have := (mayV_yes.1 h1).2.2.2.1
    exact ⟨h1, by omega⟩
  · rintro ⟨h1, h2⟩; exact ⟨h1, by omega⟩
/-- Does a stand ahead of b? -/
def aheadV (a b : VB) : Prop := a.di < b.di ∨ (a.di = b.di ∧ (b.cl < a.cl ∨ (a.cl = b.cl ∧ (a.we < b.we ∨ (a.we = b.we ∧ a.id < b.id)))))
instance (a b : VB) : Decidable (aheadV a b) := by unfold aheadV; infer_instance
def keptV (a b : VB) : Prop := ¬ aheadV b a
theorem ahead_irr {a : VB} : ¬ aheadV a a := fun h => by unfold aheadV at h; omega
theorem kept_trans {a b c : VB} (h1 : keptV a b) (h2 : keptV b c) : keptV a c := by unfold keptV aheadV at *; omega
theorem ahead_kept {a b : VB} (h : aheadV a b) : keptV a b := by unfold keptV aheadV at *; omega
/-- Two that count, neither ahead of the other, are one. -/
theorem cnt_one {a b : VB} (ha : cntV a = true) (hb : cntV b = true) (h1 : keptV a b) (h2 : keptV b a) : a = b := by
  have e1 := (cntV_yes.1 ha).2
  have e2 := (cntV_yes.1 hb).2
  rcases a with ⟨i, c, d, o, w⟩
  rcases b with ⟨i', c', d', o', w'⟩
  unfold keptV aheadV at *
  simp only at *
  obtain rfl : d = d' := by omega
  obtain rfl : c = c' := by omega
  obtain rfl : w = w' := by omega
  obtain rfl : i = i' := by omega
  rw [e1, e2]
def insV (x : VB) : List VB → List VB
  | [] => [x]
  | a :: l => if aheadV x a then x :: a :: l else a :: insV x l
def ordN (bs : List VB) : Nat → List VB
  | 0 => []
  | i + 1 => if cntV (bs.getD i VB.zero) = true then insV (bs.getD i VB.zero) (ordN bs i) else ordN bs i
def ordV (bs : List VB) : List VB := ordN bs bs.length
def idsV (o : List VB) : List Int := o.map (·.id)
def firstV (o : List VB) : Int × Bool := match o with
  | [] => (0, false)
  | a :: _ => (a.id, true)
def gainV (pages : Int) (b : VB) : Int := if cntV b = true ∧ fineI pages = true then (if pages - b.di < 0 then 0 else pages - b.di) else 0
theorem ins_perm (x : VB) : ∀ l : List VB, (insV x l).Perm (x :: l)
  | [] => List.Perm.refl _
  | a :: l => by
    unfold insV
    split
    · exact List.Perm.refl _
    · exact ((ins_perm x l).cons a).trans (List.Perm.swap x a l)
theorem ins_up (x : VB) : ∀ {l : List VB}, l.Pairwise keptV → (insV x l).Pairwise keptV
  | [], _ => by simp [insV]
  | a :: l, h => by
    obtain ⟨ha, hl⟩ := List.pairwise_cons.1 h
    unfold insV
    split
    · rename_i hx
      refine List.pairwise_cons.2 ⟨fun y hy => ?_, h⟩
      rcases List.mem_cons.1 hy with rfl | hy
      · exact ahead_kept hx
      · exact kept_trans (ahead_kept hx) (ha y hy)
    · rename_i hx
      refine List.pairwise_cons.2 ⟨fun y hy => ?_, ins_up x hl⟩
      rcases List.mem_cons.1 ((ins_perm x l).mem_iff.1 hy) with rfl | hy
      · exact hx
      · exact ha y hy
/-- What the order is: those that count, each behind none that it is ahead of. -/
structure IsOrd (bs o : List VB) : Prop where
  perm : o.Perm (bs.filter cntV)
  up : o.Pairwise keptV
theorem ord_len : ∀ {bs : List VB} (n : Nat), (ordN bs n).length ≤ n
  | bs, 0 => Nat.le_refl _
  | bs, n + 1 => by
    unfold ordN
    have ih := ord_len (bs := bs) n
    split
    · rw [(ins_perm _ _).length_eq]; simp; omega
    · omega
theorem ord_is_n {bs : List VB} : ∀ n, n ≤ bs.length → IsOrd (bs.take n) (ordN bs n)
  | 0, _ => ⟨by simp [ordN], by simp [ordN]⟩
  | n + 1, h => by
    have ih := ord_is_n (bs := bs) n (by omega)
    have e : bs.take (n + 1) = bs.take n ++ [bs.getD n VB.zero] := by
      rw [List.take_succ_eq_append_getElem (by omega), List.getD_eq_getElem?_getD, List.getElem?_eq_getElem (by omega)]; rfl
    unfold ordN
    rw [e]
    generalize bs.getD n VB.zero = x
    by_cases hc : cntV x = true
    · rw [if_pos hc]
      refine ⟨?_, ins_up _ ih.up⟩
      rw [List.filter_append, show List.filter cntV [x] = [x] by simp [hc]]
      exact (ins_perm _ _).trans ((ih.perm.cons _).trans (List.perm_append_singleton _ _).symm)
    · rw [if_neg hc]
      refine ⟨?_, ih.up⟩
      rw [List.filter_append, show List.filter cntV [x] = [] by simp [hc], List.append_nil]
      exact ih.perm
theorem ord_is (bs : List VB) : IsOrd bs (ordV bs) := by
  have := ord_is_n (bs := bs) bs.length (Nat.le_refl _)
  rwa [List.take_length] at this
theorem ord_cnt {bs : List VB} {n : Nat} {x : VB} (hn : n ≤ bs.length) (h : x ∈ ordN bs n) : x ∈ bs ∧ cntV x = true := by
  have := ((ord_is_n n hn).perm.mem_iff).1 h
  rw [List.mem_filter] at this
  exact ⟨List.mem_of_mem_take this.1, this.2⟩
/-- Two lists in order of the same blocks that count are one. -/
theorem sorted_one : ∀ {o o' : List VB}, o.Perm o' → (∀ x ∈ o, cntV x = true) → o.Pairwise keptV → o'.Pairwise keptV → o = o'
  | [], o', hp, _, _, _ => (List.nil_perm.1 hp).symm
  | a :: l, o', hp, hc, h1, h2 => by
    cases o' with
    | nil => have := hp.length_eq; simp at this
    | cons b l' =>
      obtain ⟨ha, hl⟩ := List.pairwise_cons.1 h1
      obtain ⟨hb, hl'⟩ := List.pairwise_cons.1 h2
      have e : a = b := by
        have m1 : a ∈ b :: l' := hp.mem_iff.1 (by simp)
        have m2 : b ∈ a :: l := hp.mem_iff.2 (by simp)
        rcases List.mem_cons.1 m1 with e | e
        · exact e
        · rcases List.mem_cons.1 m2 with e2 | e2
          · exact e2.symm
          · exact cnt_one (hc a (by simp)) (hc b m2) (ha b e2) (hb a e)
      subst e
      rw [sorted_one ((List.perm_cons a).1 hp) (fun x hx => hc x (by simp [hx])) hl hl']
theorem IsOrd.one {bs bs' o o' : List VB} (h : IsOrd bs o) (h' : IsOrd bs' o') (hp : (bs.filter cntV).Perm (bs'.filter cntV)) : o = o' :=
  sorted_one (h.perm.trans (hp.trans h'.perm.symm)) (fun x hx => (List.mem_filter.1 (h.perm.mem_iff.1 hx)).2) h.up h'.up
/-- Where the new one is put. -/
theorem insV_split (x : VB) : ∀ {o : List VB} {k : Nat}, k ≤ o.length → (∀ j, j < k → ¬ aheadV x (o.getD j VB.zero)) → (k < o.length → aheadV x (o.getD k VB.zero)) → insV x o = o.take k ++ x :: o.drop k
  | [], k, hk, _, _ => by
    obtain rfl : k = 0 := by simpa using hk
    rfl
  | a :: l, 0, _, _, h2 => by
    have := h2 (by simp)
    unfold insV
    rw [if_pos (by simpa using this)]; rfl
  | a :: l, k + 1, hk, h1, h2 => by
    have h0 := h1 0 (by omega)
    unfold insV
    rw [if_neg (by simpa using h0), insV_split x (o := l) (k := k) (by simpa using hk) (fun j hj => by simpa using h1 (j + 1) (by omega)) (fun hl => by simpa using h2 (by simpa using hl))]
    rfl
/-- In an order: behind one that x is ahead of, it is ahead of all. -/
theorem up_ahead {o : List VB} (h : o.Pairwise keptV) {x : VB} {i j : Nat} (hij : i ≤ j) (hj : j < o.length) (hx : ¬ aheadV x (o.getD j VB.zero)) : ¬ aheadV x (o.getD i VB.zero) := by
  by_cases e : i = j
  · rw [e]; exact hx
  · have := List.pairwise_iff_getElem.1 h i j (by omega) hj (by omega)
    rw [List.getD_eq_getElem?_getD, List.getElem?_eq_getElem (show i < o.length by omega)]
    rw [List.getD_eq_getElem?_getD, List.getElem?_eq_getElem hj] at hx
    exact kept_trans this hx
end Go.Proofs.Ytafnnpebdcnadaa
