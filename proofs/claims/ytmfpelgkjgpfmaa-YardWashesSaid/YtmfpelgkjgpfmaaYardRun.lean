/- Runs of a yard of which one block turns: its states, as mathematics. No conditions; no program. -/
import Derived.Test.YtmfpelgkjgpfmaaYardMath
namespace Go.Proofs.Ytmfpelgkjgpfmaa

def rowF (P : Nat) (f : Nat → Bool) : List Bool := (List.range P).map f
def zf : Nat → Bool := fun _ => false
def upF (f : Nat → Bool) (q : Nat) (v : Bool) : Nat → Bool := fun r => if r = q then v else f r
/-- All blocks are free but b, whose state, taken pages, needed pages and dirty ones are told. -/
def lvY (n b P : Nat) (st tk : Int) (f d : Nat → Bool) : Yd :=
  ⟨(List.replicate n 1).set b st, (List.replicate n 0).set b tk, (List.replicate n (List.replicate P false)).set b (rowF P f), (List.replicate n (List.replicate P false)).set b (rowF P d), P⟩
section
variable {n b P : Nat} {st tk x : Int} {f d : Nat → Bool}
theorem rowF_len : (rowF P f).length = P := by simp [rowF]
theorem rowF_at {q : Nat} (hq : q < P) : (rowF P f).getD q false = f q := by
  unfold rowF
  rw [List.getD_eq_getElem?_getD, List.getElem?_map, List.getElem?_range hq]; rfl
theorem rowF_out {q : Nat} (hq : P ≤ q) : (rowF P f).getD q false = false := by
  rw [List.getD_eq_getElem?_getD, List.getElem?_eq_none (by rw [rowF_len]; exact hq)]; rfl
theorem rowF_eq {g : Nat → Bool} (h : ∀ q, q < P → f q = g q) : rowF P f = rowF P g := by
  unfold rowF
  exact List.map_congr_left fun q hq => h q (List.mem_range.1 hq)
theorem rowF_set {q : Nat} (v : Bool) : (rowF P f).set q v = rowF P (upF f q v) := by
  apply List.ext_getElem?
  intro i
  unfold rowF upF
  rw [List.getElem?_set, List.getElem?_map, List.getElem?_map, List.length_map, List.length_range]
  by_cases hi : i < P
  · rw [List.getElem?_range hi]
    by_cases e : q = i
    · subst e; simp [hi]
    · simp [e, Ne.symm e]
  · rw [List.getElem?_eq_none (by simpa using hi)]
    by_cases e : q = i
    · subst e; simp [hi]
    · simp [e]
theorem rowF_zero : rowF P zf = List.replicate P false := by
  unfold rowF zf
  rw [List.map_const', List.length_range]
theorem lv_len : (lvY n b P st tk f d).S.length = n := by simp [lvY]
theorem lv_fresh : freshY n P = lvY n b P 1 0 zf zf := by
  have h : ∀ {α : Type} (x : α), (List.replicate n x).set b x = List.replicate n x := fun x => by
    apply List.ext_getElem?
    intro i
    rw [List.getElem?_set, List.length_replicate, List.getElem?_replicate]
    by_cases e : b = i
    · subst e; rw [if_pos rfl]
    · rw [if_neg e]
  unfold freshY lvY
  rw [rowF_zero, h, h, h]
theorem set_at {α : Type} (x y dd : α) (hb : b < n) : ((List.replicate n x).set b y).getD b dd = y := by
  rw [getD_setY, List.length_replicate, if_pos ⟨rfl, hb⟩]
theorem set_else {α : Type} (x y dd : α) {k : Nat} (hk : k < n) (h : k ≠ b) : ((List.replicate n x).set b y).getD k dd = x := by
  rw [getD_setY, List.length_replicate, if_neg (fun e => h e.1), getD_rep _ _ _ _ hk]
theorem lv_same {f' d' : Nat → Bool} (h1 : ∀ q, q < P → f q = f' q) (h2 : ∀ q, q < P → d q = d' q) : lvY n b P st tk f d = lvY n b P st tk f' d' := by
  unfold lvY
  rw [rowF_eq h1, rowF_eq h2]
theorem lv_st (hb : b < n) : stY (lvY n b P st tk f d) (b : Int) = st := by
  rw [stY_at (by rw [lv_len]; exact hb)]
  exact set_at _ _ _ hb
theorem lv_st_else {k : Nat} (hk : k < n) (h : k ≠ b) : stY (lvY n b P st tk f d) (k : Int) = 1 := by
  rw [stY_at (by rw [lv_len]; exact hk)]
  exact set_else _ _ _ hk h
theorem lv_tk (hb : b < n) : (lvY n b P st tk f d).T.getD b 0 = tk := set_at _ _ _ hb
theorem lv_setST {y t : Int} : ((lvY n b P st tk f d).setS b y).setT b t = lvY n b P y t f d := by
  unfold Yd.setS Yd.setT lvY
  dsimp only
  rw [List.set_set, List.set_set]
theorem lv_setS {y : Int} : (lvY n b P st tk f d).setS b y = lvY n b P y tk f d := by
  unfold Yd.setS lvY
  dsimp only
  rw [List.set_set]
theorem lv_setT {t : Int} : (lvY n b P st tk f d).setT b t = lvY n b P st t f d := by
  unfold Yd.setT lvY
  dsimp only
  rw [List.set_set]
theorem lv_setN {q : Nat} (hb : b < n) (v : Bool) : (lvY n b P st tk f d).setN b q v = lvY n b P st tk (upF f q v) d := by
  unfold Yd.setN lvY
  dsimp only
  rw [List.set_set, set_at _ _ _ hb, rowF_set]
theorem lv_setD {q : Nat} (hb : b < n) (v : Bool) : (lvY n b P st tk f d).setD b q v = lvY n b P st tk f (upF d q v) := by
  unfold Yd.setD lvY
  dsimp only
  rw [List.set_set, set_at _ _ _ hb, rowF_set]
/- the calls -/
theorem lv_open (hb : b < n) : openY (lvY n b P 1 tk f d) (b : Int) = (lvY n b P 2 0 f d, 0) := by
  unfold openY
  rw [lv_st hb, if_neg (by decide), if_pos rfl, Int.toNat_natCast, lv_setST]
theorem lv_open_no (hb : b < n) (h0 : st ≠ 0) (h1 : st ≠ 1) : openY (lvY n b P st tk f d) (b : Int) = (lvY n b P st tk f d, 9) := by
  unfold openY
  rw [lv_st hb, if_neg h0, if_neg h1]
theorem lv_next {k : Nat} (hb : b < n) (hk : k < P) : nextY (lvY n b P 2 k f d) (b : Int) = (lvY n b P 2 ((k + 1 : Nat) : Int) f d, (k : Int), 0) := by
  unfold nextY
  rw [lv_st hb, if_neg (by decide), if_neg (by decide), Int.toNat_natCast, lv_tk hb, if_neg (by show ¬ ((P : Int) ≤ (k : Int)); omega), lv_setT]
  rfl
theorem lv_next_full (hb : b < n) : nextY (lvY n b P 2 (P : Int) f d) (b : Int) = (lvY n b P 2 (P : Int) f d, 0, 7) := by
  unfold nextY
  rw [lv_st hb, if_neg (by decide), if_neg (by decide), Int.toNat_natCast, lv_tk hb, if_pos (show ((lvY n b P 2 (P : Int) f d).P : Int) ≤ (P : Int) from Int.le_refl _)]
theorem lv_seal (hb : b < n) : sealY (lvY n b P 2 tk f d) (b : Int) = (lvY n b P 3 tk f d, 0) := by
  unfold sealY
  rw [lv_st hb, if_neg (by decide), if_neg (by decide), Int.toNat_natCast, lv_setS]
theorem lv_page {q : Nat} (hb : b < n) (h0 : st ≠ 0) (hq : q < P) : pageY (lvY n b P st tk f d) (b : Int) (q : Int) :=
  ⟨by rw [lv_st hb]; exact h0, by omega, by show (q : Int) < (P : Int); omega⟩
theorem lv_isN {q : Nat} (hb : b < n) (hq : q < P) : isN (lvY n b P st tk f d) (b : Int) (q : Int) = f q := by
  unfold isN
  rw [Int.toNat_natCast, Int.toNat_natCast]
  show ((List.set _ b (rowF P f)).getD b []).getD q false = f q
  rw [set_at _ _ _ hb, rowF_at hq]
theorem lv_want {q : Nat} (hb : b < n) (h0 : st ≠ 0) (hq : q < P) (ht : (q : Int) < tk) (hf : f q = false) (v : Bool) : wantY (lvY n b P st tk f d) (b : Int) (q : Int) v = (lvY n b P st tk (upF f q true) (upF d q v), 0) := by
  unfold wantY
  rw [if_neg (fun h => h (lv_page hb h0 hq)), Int.toNat_natCast, lv_tk hb, lv_isN hb hq, if_neg (by rw [hf]; intro h; rcases h with h | h; omega; cases h), Int.toNat_natCast, lv_setN hb, lv_setD hb]
theorem lv_drop {q : Nat} (hb : b < n) (h0 : st ≠ 0) (hq : q < P) (hf : f q = true) : dropY (lvY n b P st tk f d) (b : Int) (q : Int) = (lvY n b P st tk (upF f q false) (upF d q false), 0) := by
  unfold dropY
  rw [if_neg (fun h => h (lv_page hb h0 hq)), lv_isN hb hq, if_neg (by rw [hf]; decide), Int.toNat_natCast, Int.toNat_natCast, lv_setN hb, lv_setD hb]
theorem lv_wash {q : Nat} (hb : b < n) (h0 : st ≠ 0) (hq : q < P) (hf : f q = true) : washY (lvY n b P st tk f d) (b : Int) (q : Int) = (lvY n b P st tk f (upF d q false), 0) := by
  unfold washY
  rw [if_neg (fun h => h (lv_page hb h0 hq)), lv_isN hb hq, if_neg (by rw [hf]; decide), Int.toNat_natCast, Int.toNat_natCast, lv_setD hb]
theorem lv_wash_no {q : Nat} (hb : b < n) (h0 : st ≠ 0) (hq : q < P) (hf : f q = false) : washY (lvY n b P st tk f d) (b : Int) (q : Int) = (lvY n b P st tk f d, 8) := by
  unfold washY
  rw [if_neg (fun h => h (lv_page hb h0 hq)), lv_isN hb hq, if_pos hf]
theorem lv_needed (hb : b < n) (h0 : st ≠ 0) : neededY (lvY n b P st tk f d) (b : Int) = ((List.range P).filter f).map fun (k : Nat) => (k : Int) := by
  unfold neededY
  rw [lv_st hb, if_neg h0, Int.toNat_natCast]
  show idxB ((List.set _ b (rowF P f)).getD b []) = _
  rw [set_at _ _ _ hb]
  unfold idxB
  rw [rowF_len]
  congr 1
  exact List.filter_congr fun q hq => rowF_at (List.mem_range.1 hq)
theorem lv_free (hb : b < n) (h : st = 2 ∨ st = 3) (hf : ∀ q, q < P → f q = false) : freeY (lvY n b P st tk f d) (b : Int) = (lvY n b P 1 0 f d, 0) := by
  have h0 : st ≠ 0 := by omega
  unfold freeY
  rw [lv_st hb, if_neg h0, lv_needed hb h0, if_neg (by
    intro hh
    rcases hh with hh | hh
    · omega
    · apply hh
      rw [List.map_eq_nil_iff, List.filter_eq_nil_iff]
      intro q hq
      rw [hf q (List.mem_range.1 hq)]; decide), Int.toNat_natCast, lv_setST]
theorem lv_free_no {q : Nat} (hb : b < n) (h0 : st ≠ 0) (hq : q < P) (hf : f q = true) : freeY (lvY n b P st tk f d) (b : Int) = (lvY n b P st tk f d, 9) := by
  unfold freeY
  rw [lv_st hb, if_neg h0, lv_needed hb h0, if_pos (Or.inr (by
    intro e
    rw [List.map_eq_nil_iff, List.filter_eq_nil_iff] at e
    exact e q (List.mem_range.2 hq) hf))]
theorem lv_free_bad (hb : b < n) (h : st = 4) : freeY (lvY n b P st tk f d) (b : Int) = (lvY n b P st tk f d, 9) := by
  unfold freeY
  rw [lv_st hb, if_neg (by omega), if_pos (Or.inl (by omega))]
theorem lv_retire (hb : b < n) (h0 : st ≠ 0) (h : st ≠ 4) : retireY (lvY n b P st tk f d) (b : Int) = (lvY n b P 4 tk f d, 0) := by
  unfold retireY
  rw [lv_st hb, if_neg h0, if_neg h, Int.toNat_natCast, lv_setS]
theorem lv_retire_no (hb : b < n) : retireY (lvY n b P 4 tk f d) (b : Int) = (lvY n b P 4 tk f d, 9) := by
  unfold retireY
  rw [lv_st hb, if_neg (by decide), if_pos rfl]
theorem lv_dirty (hb : b < n) (h0 : st ≠ 0) : dirtyY (lvY n b P st tk f d) (b : Int) = (List.range P).countP d := by
  unfold dirtyY
  rw [lv_st hb, if_neg h0, Int.toNat_natCast]
  show ((List.set _ b (rowF P d)).getD b []).count true = _
  rw [set_at _ _ _ hb]
  unfold rowF List.count
  rw [List.countP_map]
  congr 1
  funext q
  cases h : d q <;> simp [h]
theorem lv_dirty_zero (hb : b < n) (h0 : st ≠ 0) (hd : ∀ q, q < P → d q = false) : dirtyY (lvY n b P st tk f d) (b : Int) = 0 := by
  rw [lv_dirty hb h0, List.countP_eq_zero]
  intro q hq
  rw [hd q (List.mem_range.1 hq)]; decide
theorem lv_dn (hw : YW (lvY n b P st tk f d)) (hb : b < n) {q : Nat} (hq : q < P) (h : d q = true) : f q = true := by
  have := hw.dn b (by rw [lv_len]; exact hb) q
  have e1 : ((lvY n b P st tk f d).D.getD b []).getD q false = d q := by show ((List.set _ b (rowF P d)).getD b []).getD q false = _; rw [set_at _ _ _ hb, rowF_at hq]
  have e2 : ((lvY n b P st tk f d).N.getD b []).getD q false = f q := by show ((List.set _ b (rowF P f)).getD b []).getD q false = _; rw [set_at _ _ _ hb, rowF_at hq]
  rw [e1, e2] at this
  exact this h
theorem lv_dirty_else {k : Nat} (hk : k < n) (h : k ≠ b) : dirtyY (lvY n b P st tk f d) (k : Int) = 0 := by
  unfold dirtyY
  rw [lv_st_else hk h, if_neg (by decide), Int.toNat_natCast]
  show ((List.set _ b (rowF P d)).getD k []).count true = _
  rw [set_else _ _ _ hk h, List.count_replicate]
  rfl
theorem filt_eq : ∀ {n b : Nat}, b < n → ((List.range n).filter fun k => k == b) = [b]
  | n + 1, b, h => by
    rw [List.range_succ, List.filter_append]
    by_cases e : b = n
    · subst e
      rw [List.filter_eq_nil_iff.2 (fun k hk => by have := List.mem_range.1 hk; simp; omega)]
      simp
    · rw [filt_eq (show b < n by omega), List.filter_cons_of_neg (by simp; omega)]; rfl
theorem filt_ne : ∀ {n b : Nat}, b < n → ((List.range n).filter fun k => !(k == b)).length = n - 1
  | n + 1, b, h => by
    rw [List.range_succ, List.filter_append, List.length_append]
    by_cases e : b = n
    · subst e
      rw [List.filter_eq_self.2 (fun k hk => by have := List.mem_range.1 hk; simp; omega), List.length_range]
      simp
    · rw [filt_ne (show b < n by omega), List.filter_cons_of_pos (by simp; omega)]; simp; omega
theorem lv_list_all (hb : b < n) : (listY (lvY n b P 1 tk f d) 1).length = n := by
  unfold listY
  rw [List.length_map, lv_len, List.filter_eq_self.2 (fun k hk => ?_), List.length_range]
  have hk' := List.mem_range.1 hk
  show ((List.set _ b 1).getD k 0 == 1) = true
  by_cases e : k = b
  · subst e; rw [set_at _ _ _ hb]; rfl
  · rw [set_else _ _ _ hk' e]; rfl
theorem lv_list_ne (hb : b < n) : (listY (lvY n b P 4 tk f d) 1).length = n - 1 := by
  unfold listY
  rw [List.length_map, lv_len, List.filter_congr (q := fun k => !(k == b)) (fun k hk => ?_), filt_ne hb]
  have hk' := List.mem_range.1 hk
  show ((List.set _ b 4).getD k 0 == 1) = _
  by_cases e : k = b
  · subst e; rw [set_at _ _ _ hb]; simp
  · rw [set_else _ _ _ hk' e]; simp [e]
theorem lv_list_bad (hb : b < n) : listY (lvY n b P 4 tk f d) 4 = [(b : Int)] := by
  unfold listY
  rw [lv_len, List.filter_congr (q := fun k => k == b) (fun k hk => ?_), filt_eq hb]
  · rfl
  have hk' := List.mem_range.1 hk
  show ((List.set _ b 4).getD k 0 == 4) = _
  by_cases e : k = b
  · subst e; rw [set_at _ _ _ hb]; simp
  · rw [set_else _ _ _ hk' e]; simp [e]
end
end Go.Proofs.Ytmfpelgkjgpfmaa
