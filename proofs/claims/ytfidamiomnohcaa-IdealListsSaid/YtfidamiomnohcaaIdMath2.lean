/- Things that may be at an address, as mathematics: their order, sorted lists of them, one put in, many put in, each block clean. No conditions; no program. A thing of the landed ideal as a kind of element; what a call that answers new things leaves. No conditions. -/
import Derived.Test.YtfidamiomnohcaaBase
import Derived.Test.YtfidamiomnohcaaKinds
import Derived.Test.YtfidamiomnohcaaKindMade
import Derived.Test.YtfidamiomnohcaaInsRow
import Derived.Test.YtfidamiomnohcaaSays
import Derived.Test.YtfidamiomnohcaaGives
set_option linter.unusedVariables false
set_option linter.unusedSimpArgs false
set_option maxRecDepth 20000
namespace Go.Proofs.Ytfidamiomnohcaa
section
open Go.RowKit

/-- A thing: its kind (0 nothing, 1 clean, 2 dirty), its bytes. -/
structure Th where
  k : Int
  d : List UInt8
deriving DecidableEq
def Th.zero : Th := ⟨0, []⟩
def ltL : List UInt8 → List UInt8 → Bool := Op.bytesLess
theorem ltL_cons (a b : UInt8) (x y : List UInt8) : ltL (a :: x) (b :: y) = (decide (a < b) || (a == b && ltL x y)) := rfl
theorem ltL_irrefl : ∀ x, ltL x x = false
  | [] => rfl
  | a :: x => by
    rw [ltL_cons, ltL_irrefl x]
    simp
theorem ltL_trans : ∀ {x y z : List UInt8}, ltL x y = true → ltL y z = true → ltL x z = true
  | [], [], _, h, _ => by cases h
  | _ :: _, [], _, h, _ => by cases h
  | _, _ :: _, [], _, h => by cases h
  | [], _ :: _, _ :: _, _, _ => rfl
  | a :: x, b :: y, c :: z, h, k => by
    rw [ltL_cons] at h k ⊢
    simp only [Bool.or_eq_true, decide_eq_true_eq, Bool.and_eq_true, beq_iff_eq] at h k ⊢
    rcases h with h | ⟨rfl, h⟩
    · rcases k with k | ⟨rfl, k⟩
      · exact Or.inl (UInt8.lt_trans h k)
      · exact Or.inl h
    · rcases k with k | ⟨rfl, k⟩
      · exact Or.inl k
      · exact Or.inr ⟨rfl, ltL_trans h k⟩
theorem ltL_tri : ∀ {x y : List UInt8}, ltL x y = false → ltL y x = false → x = y
  | [], [], _, _ => rfl
  | [], _ :: _, h, _ => by cases h
  | _ :: _, [], _, h => by cases h
  | a :: x, b :: y, h, k => by
    rw [ltL_cons] at h k
    simp only [Bool.or_eq_false_iff, decide_eq_false_iff_not] at h k
    have e : a = b := UInt8.le_antisymm (UInt8.not_lt.1 k.1) (UInt8.not_lt.1 h.1)
    subst e
    simp only [beq_self_eq_true, Bool.true_and] at h k
    rw [ltL_tri h.2 k.2]
/-- Which of two things a list has first. -/
def ltT (a b : Th) : Prop := a.k < b.k ∨ a.k = b.k ∧ ltL a.d b.d = true
instance (a b : Th) : Decidable (ltT a b) := by unfold ltT; infer_instance
theorem ltT_irrefl (a : Th) : ¬ ltT a a := by
  rintro (h | ⟨_, h⟩)
  · omega
  · rw [ltL_irrefl] at h; cases h
theorem ltT_trans {a b c : Th} (h : ltT a b) (k : ltT b c) : ltT a c := by
  rcases h with h | ⟨e, h⟩
  · rcases k with k | ⟨e2, k⟩
    · exact Or.inl (by omega)
    · exact Or.inl (by omega)
  · rcases k with k | ⟨e2, k⟩
    · exact Or.inl (by omega)
    · exact Or.inr ⟨e.trans e2, ltL_trans h k⟩
theorem ltT_tri {a b : Th} (h : ¬ ltT a b) (k : ¬ ltT b a) : a = b := by
  have e : a.k = b.k := by
    have h1 : ¬ a.k < b.k := fun x => h (Or.inl x)
    have k1 : ¬ b.k < a.k := fun x => k (Or.inl x)
    omega
  have hd : ltL a.d b.d = false := by
    cases hb : ltL a.d b.d with
    | false => rfl
    | true => exact absurd (Or.inr ⟨e, hb⟩) h
  have kd : ltL b.d a.d = false := by
    cases hb : ltL b.d a.d with
    | false => rfl
    | true => exact absurd (Or.inr ⟨e.symm, hb⟩) k
  cases a; cases b
  simp only at e hd kd
  rw [e, ltL_tri hd kd]
def Srt (l : List Th) : Prop := l.Pairwise ltT
theorem Srt.nodup {l : List Th} (h : Srt l) : l.Nodup := by
  refine List.Pairwise.imp (fun {a b} hab e => ?_) h
  subst e
  exact ltT_irrefl _ hab
theorem srt_one (t : Th) : Srt [t] := List.pairwise_singleton _ _
theorem srt_nil : Srt [] := List.Pairwise.nil
/-- Two sorted lists of the same things are the same. -/
theorem srt_ext : ∀ {l m : List Th}, Srt l → Srt m → (∀ t, t ∈ l ↔ t ∈ m) → l = m
  | [], [], _, _, _ => rfl
  | [], b :: m, _, _, h => by have := (h b).2 List.mem_cons_self; cases this
  | a :: l, [], _, _, h => by have := (h a).1 List.mem_cons_self; cases this
  | a :: l, b :: m, hl, hm, h => by
    obtain ⟨h1, h2⟩ := List.pairwise_cons.1 hl
    obtain ⟨k1, k2⟩ := List.pairwise_cons.1 hm
    have e : a = b := by
      refine ltT_tri (fun hab => ?_) (fun hba => ?_)
      · rcases List.mem_cons.1 ((h a).1 List.mem_cons_self) with e | hm
        · exact ltT_irrefl b (e ▸ hab)
        · exact ltT_irrefl a (ltT_trans hab (k1 a hm))
      · rcases List.mem_cons.1 ((h b).2 List.mem_cons_self) with e | hm
        · exact ltT_irrefl a (e ▸ hba)
        · exact ltT_irrefl b (ltT_trans hba (h1 b hm))
    subst e
    rw [srt_ext h2 k2 fun t => ?_]
    constructor
    · intro ht
      rcases List.mem_cons.1 ((h t).1 (List.mem_cons_of_mem _ ht)) with e | hm
      · exact absurd (h1 t ht) (e ▸ ltT_irrefl t)
      · exact hm
    · intro ht
      rcases List.mem_cons.1 ((h t).2 (List.mem_cons_of_mem _ ht)) with e | hm
      · exact absurd (k1 t ht) (e ▸ ltT_irrefl t)
      · exact hm
/-- How many are ahead of a thing. -/
def aheadT : List Th → Th → Nat
  | [], _ => 0
  | y :: r, x => if ltT y x then aheadT r x + 1 else 0
theorem ahead_le : ∀ (l : List Th) (x : Th), aheadT l x ≤ l.length
  | [], _ => Nat.le_refl _
  | y :: r, x => by
    unfold aheadT
    have := ahead_le r x
    split
    · simp; omega
    · omega
theorem ahead_lt : ∀ {l : List Th} {x : Th} {i : Nat}, Srt l → i < l.length → (ltT (l.getD i Th.zero) x ↔ i < aheadT l x)
  | [], _, _, _, h => by simp at h
  | y :: r, x, i, hs, hi => by
    obtain ⟨h1, h2⟩ := List.pairwise_cons.1 hs
    unfold aheadT
    by_cases hy : ltT y x
    · rw [if_pos hy]
      cases i with
      | zero => exact ⟨fun _ => by omega, fun _ => hy⟩
      | succ i =>
        have := ahead_lt (x := x) (i := i) h2 (by simpa using hi)
        show ltT (r.getD i Th.zero) x ↔ _
        rw [this]; omega
    · rw [if_neg hy]
      refine ⟨fun h => absurd ?_ hy, fun h => by omega⟩
      cases i with
      | zero => exact h
      | succ i =>
        have hi' : i < r.length := by simpa using hi
        refine ltT_trans (h1 (r.getD i Th.zero) ?_) h
        rw [List.getD_eq_getElem?_getD, List.getElem?_eq_getElem hi']
        exact List.getElem_mem hi'
/-- Whether it stands there. -/
def isT (l : List Th) (x : Th) : Bool := decide (aheadT l x < l.length ∧ l.getD (aheadT l x) Th.zero = x)
theorem isT_iff : ∀ {l : List Th} {x : Th}, Srt l → (isT l x = true ↔ x ∈ l)
  | [], x, _ => by simp [isT]
  | y :: r, x, hs => by
    obtain ⟨h1, h2⟩ := List.pairwise_cons.1 hs
    unfold isT aheadT
    by_cases hy : ltT y x
    · rw [if_pos hy]
      have ih := isT_iff (x := x) h2
      unfold isT at ih
      simp only [decide_eq_true_eq] at ih ⊢
      show (aheadT r x + 1 < r.length + 1 ∧ r.getD (aheadT r x) Th.zero = x) ↔ _
      rw [show (aheadT r x + 1 < r.length + 1) ↔ aheadT r x < r.length by omega, ih]
      exact ⟨fun h => List.mem_cons_of_mem _ h, fun h => by
        rcases List.mem_cons.1 h with e | h
        · exact absurd (e ▸ hy) (ltT_irrefl _)
        · exact h⟩
    · rw [if_neg hy]
      simp only [decide_eq_true_eq]
      show (0 < r.length + 1 ∧ y = x) ↔ _
      refine ⟨fun h => by rw [h.2]; exact List.mem_cons_self, fun h => ⟨by omega, ?_⟩⟩
      rcases List.mem_cons.1 h with e | h
      · exact e.symm
      · exact absurd (h1 x h) hy
/-- One put in, unless it is there. -/
def insT (l : List Th) (x : Th) : List Th := if isT l x then l else l.take (aheadT l x) ++ x :: l.drop (aheadT l x)
theorem insT_cons (y : Th) (r : List Th) (x : Th) : insT (y :: r) x = if ltT y x then y :: insT r x else if y = x then y :: r else x :: y :: r := by
  by_cases hy : ltT y x
  · rw [if_pos hy]
    have e1 : aheadT (y :: r) x = aheadT r x + 1 := by show (if ltT y x then _ else _) = _; rw [if_pos hy]
    have e2 : isT (y :: r) x = isT r x := by
      unfold isT
      rw [e1]
      show decide (aheadT r x + 1 < r.length + 1 ∧ r.getD (aheadT r x) Th.zero = x) = _
      congr 1
      rw [Nat.add_lt_add_iff_right]
    unfold insT
    rw [e1, e2]
    by_cases hi : isT r x = true
    · rw [if_pos hi, if_pos hi]
    · rw [if_neg hi, if_neg hi]; rfl
  · rw [if_neg hy]
    have e1 : aheadT (y :: r) x = 0 := by show (if ltT y x then _ else _) = _; rw [if_neg hy]
    have e2 : isT (y :: r) x = decide (y = x) := by
      unfold isT
      rw [e1]
      show decide (0 < r.length + 1 ∧ y = x) = _
      congr 1
      simp
    unfold insT
    rw [e1, e2]
    by_cases he : y = x
    · rw [if_pos (by simpa using he), if_pos he]
    · rw [if_neg (by simpa using he), if_neg he]; rfl
theorem mem_ins : ∀ {l : List Th} {x t : Th}, t ∈ insT l x ↔ t = x ∨ t ∈ l
  | [], x, t => by simp [insT, isT, aheadT]
  | y :: r, x, t => by
    rw [insT_cons]
    split
    · rw [List.mem_cons, mem_ins, List.mem_cons]
      exact ⟨fun h => by rcases h with h | h | h <;> simp [h], fun h => by rcases h with h | h | h <;> simp [h]⟩
    · split
      · next e => subst e; simp
      · simp
theorem srt_ins : ∀ {l : List Th} {x : Th}, Srt l → Srt (insT l x)
  | [], x, _ => by simp [insT, isT, aheadT, Srt]
  | y :: r, x, hs => by
    obtain ⟨h1, h2⟩ := List.pairwise_cons.1 hs
    rw [insT_cons]
    split
    · next hy =>
      refine List.pairwise_cons.2 ⟨fun t ht => ?_, srt_ins h2⟩
      rcases mem_ins.1 ht with rfl | ht
      · exact hy
      · exact h1 t ht
    · next hy =>
      split
      · exact hs
      · next hne =>
        have hxy : ltT x y := by
          by_cases h : ltT x y
          · exact h
          · exact absurd (ltT_tri hy h) hne
        refine List.pairwise_cons.2 ⟨fun t ht => ?_, hs⟩
        rcases List.mem_cons.1 ht with rfl | ht
        · exact hxy
        · exact ltT_trans hxy (h1 t ht)
theorem len_ins (l : List Th) (x : Th) : (insT l x).length ≤ l.length + 1 := by
  unfold insT
  split
  · omega
  · rw [List.length_append, List.length_cons, List.length_take, List.length_drop]; omega
theorem len_ins_ge (l : List Th) (x : Th) : l.length ≤ (insT l x).length := by
  unfold insT
  split
  · omega
  · rw [List.length_append, List.length_cons, List.length_take, List.length_drop]; omega
theorem ins_ne (l : List Th) (x : Th) : insT l x ≠ [] := by
  intro h
  have : x ∈ insT l x := mem_ins.2 (Or.inl rfl)
  rw [h] at this; cases this
/-- Some more put in: where a clean one is put, nothing is put, too. -/
def stepT (o : List Th) (it : Th) : List Th := if it.k = 1 then insT (insT o it) Th.zero else insT o it
def withT (l more : List Th) : List Th := more.foldl stepT l
theorem mem_step {o : List Th} {it t : Th} : t ∈ stepT o it ↔ t = it ∨ (t = Th.zero ∧ it.k = 1) ∨ t ∈ o := by
  unfold stepT
  split
  · next h =>
    rw [mem_ins, mem_ins]
    exact ⟨fun x => by rcases x with x | x | x <;> simp [x, h], fun x => by rcases x with x | ⟨x, _⟩ | x <;> simp [x]⟩
  · next h =>
    rw [mem_ins]
    exact ⟨fun x => by rcases x with x | x <;> simp [x], fun x => by
      rcases x with x | ⟨_, x⟩ | x
      · exact Or.inl x
      · exact absurd x h
      · exact Or.inr x⟩
theorem mem_with : ∀ {more l : List Th} {t : Th}, t ∈ withT l more ↔ t ∈ l ∨ t ∈ more ∨ (t = Th.zero ∧ ∃ it ∈ more, it.k = 1)
  | [], l, t => by simp [withT]
  | it :: more, l, t => by
    show t ∈ withT (stepT l it) more ↔ _
    rw [mem_with, mem_step]
    simp only [List.mem_cons, exists_eq_or_imp]
    constructor
    · rintro ((h | ⟨h, k⟩ | h) | h | ⟨h, k⟩)
      · exact Or.inr (Or.inl (Or.inl h))
      · exact Or.inr (Or.inr ⟨h, Or.inl k⟩)
      · exact Or.inl h
      · exact Or.inr (Or.inl (Or.inr h))
      · exact Or.inr (Or.inr ⟨h, Or.inr k⟩)
    · rintro (h | (h | h) | ⟨h, k | k⟩)
      · exact Or.inl (Or.inr (Or.inr h))
      · exact Or.inl (Or.inl h)
      · exact Or.inr (Or.inl h)
      · exact Or.inl (Or.inr (Or.inl ⟨h, k⟩))
      · exact Or.inr (Or.inr ⟨h, k⟩)
theorem srt_step {o : List Th} {it : Th} (h : Srt o) : Srt (stepT o it) := by
  unfold stepT
  split
  · exact srt_ins (srt_ins h)
  · exact srt_ins h
theorem srt_with : ∀ {more l : List Th}, Srt l → Srt (withT l more)
  | [], _, h => h
  | it :: more, l, h => srt_with (more := more) (l := stepT l it) (srt_step h)
theorem len_step (o : List Th) (it : Th) : (stepT o it).length ≤ o.length + 2 := by
  unfold stepT
  split
  · have := len_ins (insT o it) Th.zero; have := len_ins o it; omega
  · have := len_ins o it; omega
theorem len_step_ge (o : List Th) (it : Th) : o.length ≤ (stepT o it).length := by
  unfold stepT
  split
  · have := len_ins_ge (insT o it) Th.zero; have := len_ins_ge o it; omega
  · exact len_ins_ge o it
theorem with_snoc (l more : List Th) (it : Th) : withT l (more ++ [it]) = stepT (withT l more) it := by
  unfold withT; rw [List.foldl_append]; rfl
theorem len_with_ge : ∀ (more l : List Th), l.length ≤ (withT l more).length
  | [], _ => Nat.le_refl _
  | it :: more, l => Nat.le_trans (len_step_ge l it) (len_with_ge more (stepT l it))
theorem len_with : ∀ (more l : List Th), (withT l more).length ≤ l.length + 2 * more.length
  | [], _ => Nat.le_refl _
  | it :: more, l => by
    have h1 := len_step l it
    have h2 := len_with more (stepT l it)
    show (withT (stepT l it) more).length ≤ _
    rw [List.length_cons]; omega
/-- Each block is clean. -/
def cleanT (t : Th) : Th := if t.k = 2 then ⟨1, t.d⟩ else t
def cleanedT (l : List Th) : List Th := withT [] (l.map cleanT)
/-- A thing as it may be: nothing has no bytes. -/
structure ThOk (t : Th) : Prop where
  lo : 0 ≤ t.k
  hi : t.k ≤ 2
  no : t.k = 0 → t.d = []
theorem ok_zero : ThOk Th.zero := ⟨by decide, by decide, fun _ => rfl⟩
theorem ThOk.eq_zero {t : Th} (h : ThOk t) (e : t.k = 0) : t = Th.zero := by
  cases t
  have := h.no e
  simp only at this e
  rw [this, e]; rfl
theorem ok_clean {t : Th} (h : ThOk t) : ThOk (cleanT t) := by
  unfold cleanT
  split
  · exact ⟨by show (0 : Int) ≤ 1; decide, by show (1 : Int) ≤ 2; decide, fun e => absurd (show (1 : Int) = 0 from e) (by decide)⟩
  · exact h
theorem ok_ins {l : List Th} {x : Th} (h : ∀ t ∈ l, ThOk t) (hx : ThOk x) : ∀ t ∈ insT l x, ThOk t := fun t ht => by
  rcases mem_ins.1 ht with rfl | ht
  · exact hx
  · exact h t ht
theorem ok_step {l : List Th} {x : Th} (h : ∀ t ∈ l, ThOk t) (hx : ThOk x) : ∀ t ∈ stepT l x, ThOk t := fun t ht => by
  rcases mem_step.1 ht with rfl | ⟨rfl, _⟩ | ht
  · exact hx
  · exact ok_zero
  · exact h t ht
theorem ok_with {l more : List Th} (h : ∀ t ∈ l, ThOk t) (hm : ∀ t ∈ more, ThOk t) : ∀ t ∈ withT l more, ThOk t := fun t ht => by
  rcases mem_with.1 ht with ht | ht | ⟨rfl, _⟩
  · exact h t ht
  · exact hm t ht
  · exact ok_zero
end

section
open Go.RowKit

def strB (d : List UInt8) : ByteArray := ⟨d.toArray⟩
theorem strB_list (d : List UInt8) : (strB d).toList = d := by rw [ByteArray.toList_eq]; simp [strB]
theorem strB_nil : strB [] = ByteArray.empty := rfl
def thCells (t : Th) : List Value := [.int .i64 t.k, .string (strB t.d)]
def thV (t : Th) : Value := .agg #[.int .i64 t.k, .string (strB t.d)]
theorem infoTh : (Try.prog.info? 85).map (fun i => (i.zero, i.size, i.bytes)) = some (some (.agg #[.int .i64 0, .string (strB [])]), 2, 24) := by kernel_rfl
def thK : Kind Th where
  T := 85
  L := 72
  k := 2
  cv := thCells
  wf := ThOk
  dflt := Th.zero
  len := fun v => rfl
  one := fun v u hu => by
    simp only [thCells, List.mem_cons, List.not_mem_nil, or_false] at hu
    rcases hu with rfl | rfl <;> rfl
  pos := by decide
  ok := ok_zero
  under := Try.underlying72
  elem := by kernel_rfl
  info := by
    obtain ⟨i0, hi, hz0, hz1, hz2⟩ := info_parts infoTh
    exact ⟨i0, _, hi, hz0, hz1, by rw [hz2]; omega, rfl⟩
theorem thK_zero : ∃ i z, Try.prog.info? thK.T = some i ∧ i.zero = some z ∧ i.size = thK.k ∧ i.bytes ≤ 1000 ∧ z.cells = (thK.cv thK.dflt).toArray := by
  obtain ⟨i0, hi, hz0, hz1, hz2⟩ := info_parts infoTh
  exact ⟨i0, _, hi, hz0, hz1, by rw [hz2]; omega, rfl⟩
/-- The cells, as a walk wants them. -/
structure ThAt (w : World) (p : Addr) (t : Th) : Prop where
  c0 : w.cell? p = some (.int .i64 t.k)
  c1 : w.cell? ⟨p.block, p.off + 1, none⟩ = some (.string (strB t.d))
theorem thAt_of {w : World} {p : Addr} {t : Th} (h : thK.At w p t) : ThAt w p t :=
  ⟨by have := h 0 (.int .i64 t.k) rfl; rwa [add_none] at this, by have := h 1 (.string (strB t.d)) rfl; rwa [add_at p 0] at this⟩
theorem th_at {w : World} {B n : Nat} {A : Option Addr} {l : List Th} (h : thK.Lie w B A n l) {k : Nat} (hk : k < n) : ∃ ad, A = some ad ∧ ad.block < B ∧ ThAt w (ad.add (k * 2)) (l.getD k Th.zero) := by
  obtain ⟨ad, e1, e2, e3⟩ := h.each k hk
  exact ⟨ad, e1, e2, thAt_of e3⟩
theorem ThAt.below {w w' : World} {p : Addr} {t : Th} {B : Nat} (h : ThAt w p t) (hb : Below B w w') (hp : p.block < B) : ThAt w' p t :=
  ⟨(hb.cell (p := p) hp).trans h.c0, (hb.cell (p := ⟨p.block, p.off + 1, none⟩) hp).trans h.c1⟩
theorem th_new (W : World) (t : Th) (cs : Array Value) (hcs : cs = (thCells t).toArray) (ty : TypeId) : ThAt (W.alloc (.cells cs ty)) ⟨W.heap.size, 0, none⟩ t := by
  subst hcs
  exact ⟨cell_first rfl, cell_first rfl⟩
/-- What a call that answers new things leaves. -/
def GivesT (w : World) (l : List Th) (e : Ending) (w' : World) : Prop := ∃ A n c, e = .returned (.slice A n c) ∧ Hid (thK.Row w' w.heap.size A n c l) ∧ Hid (Below w.heap.size w w')
/-- A literal of one thing. -/
theorem lie_lit_th (W : World) (t : Th) (ht : ThOk t) : thK.Row (W.alloc (.cells (thCells t).toArray 85)) W.heap.size (some ⟨W.heap.size, 0, none⟩) 1 1 [t] := by
  refine ⟨?_, fun v hv => by rw [List.mem_singleton.1 hv]; exact ht⟩
  have := World.ownsRow_lit (base := W.heap.size) (e := thK.T) (size := thK.k) W (thCells t).toArray 1 (Nat.le_refl _) (by unfold maxLen; omega) (by show (thCells t).toArray.size = 1 * 2; rfl)
  exact this
end
end Go.Proofs.Ytfidamiomnohcaa
