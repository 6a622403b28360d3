/- The document's own yard: New. No conditions. -/
import Derived.Test.YtmfpelgkjgpfmaaRefYard
import Derived.Test.YtmfpelgkjgpfmaaChains
set_option linter.unusedVariables false
set_option linter.unusedSimpArgs false
namespace Go.Proofs.Ytmfpelgkjgpfmaa
open Go.RowKit

/-- The yard while it is made: so many blocks have states, so many have pages. -/
structure RPre (w : World) (base g m n P : Nat) (L : YL) : Prop where
  base_le : base ≤ g
  base_lt : base ≤ w.heap.size
  row : w.heap[g]? = some (.cells #[.slice L.AS m L.cS, .slice L.AT m L.cT, .slice L.AN n L.cN, .slice L.AD n L.cD, .int .i64 (P : Int)] 74 (0, 0))
  sr : intK.Row w base L.AS m L.cS (List.replicate m 1)
  tr : intK.Row w base L.AT m L.cT (List.replicate m 0)
  st : ∀ b ∈ blk L.AS, b ∉ blk L.AT
  nr : bsK.Row w base L.AN n L.cN (rowsV L.bN n P)
  dr : bsK.Row w base L.AD n L.cD (rowsV L.bD n P)
  nd : ∀ b ∈ blk L.AN, b ∉ blk L.AD
  nb : ∀ k, k < n → base ≤ L.bN k ∧ w.heap[L.bN k]? = some (.cells (bitsC (List.replicate P false)) 4 (0, 0))
  db : ∀ k, k < n → base ≤ L.bD k ∧ w.heap[L.bD k]? = some (.cells (bitsC (List.replicate P false)) 4 (0, 0))
  nn : ∀ j k, j < n → k < n → L.bN j = L.bN k → j = k
  dd : ∀ j k, j < n → k < n → L.bD j = L.bD k → j = k
  xx : ∀ j k, j < n → k < n → L.bN j ≠ L.bD k
section
variable {w w' WD W : World} {base g m n P i m1 m2 : Nat} {L : YL} {fs : List Bool} {vs : List Value}
theorem RPre.lt (h : RPre w base g m n P L) : g < w.heap.size := (Array.getElem?_eq_some_iff.1 h.row).1
theorem RPre.since (h : RPre w base g m n P L) (hb : Below w.heap.size w w') : RPre w' base g m n P L :=
  ⟨h.base_le, Nat.le_trans h.base_lt hb.size, (hb.block g h.lt).trans h.row, h.sr.since hb, h.tr.since hb, h.st, h.nr.since hb, h.dr.since hb, h.nd,
   fun k hk => ⟨(h.nb k hk).1, (hb.block _ (Array.getElem?_eq_some_iff.1 (h.nb k hk).2).1).trans (h.nb k hk).2⟩, fun k hk => ⟨(h.db k hk).1, (hb.block _ (Array.getElem?_eq_some_iff.1 (h.db k hk).2).1).trans (h.db k hk).2⟩, h.nn, h.dd, h.xx⟩
theorem RPre.yard (h : RPre w base g n n P L) (hn : n ≤ 32) (hp : P ≤ 8) : RYard w base g (freshY n P) L := by
  have hl : (freshY n P).S.length = n := by simp [freshY]
  have hN : ∀ k, k < n → (freshY n P).N.getD k [] = List.replicate P false := fun k hk => getD_rep _ _ _ _ hk
  refine ⟨h.base_le, ?_, ?_, ?_, h.st, ?_, ?_, h.nd, ?_, ?_, ?_, ?_, ?_, ?_, ?_, ?_, ?_, hp, ?_⟩
  all_goals simp only [hl]
  · exact h.row
  · exact h.sr
  · exact h.tr
  · exact h.nr
  · exact h.dr
  · exact fun k hk => by rw [hN k hk]; exact h.nb k hk
  · exact fun k hk => by rw [show (freshY n P).D.getD k [] = List.replicate P false from getD_rep _ _ _ _ hk]; exact h.db k hk
  · exact h.nn
  · exact h.dd
  · exact h.xx
  · simp [freshY]
  · simp [freshY]
  · exact fun k hk => by rw [hN k hk]; simp [freshY]
  · exact fun k hk => by rw [show (freshY n P).D.getD k [] = List.replicate P false from getD_rep _ _ _ _ hk]; simp [freshY]
  · exact hn
/- states, and pages taken -/
def t7 (WD : World) (base g i P : Nat) (L : YL) : T2 intK :=
  { WD := WD, base := base, g := g, YT := 74, R := fun a b => #[a, b, .slice L.AN i L.cN, .slice L.AD i L.cD, .int .i64 (P : Int)], p1 := 0, p2 := 1, n := i, A1 := L.AS, c1 := L.cS, us1 := List.replicate i 1, e1 := 1, A2 := L.AT, c2 := L.cT, us2 := List.replicate i 0, e2 := 0 }
theorem j7_start (h : RPre WD base g i i P L) (hi : i < 32) (hv : 4 ≤ vs.length) : J2 (t7 WD base g i P L) [false, false, false, false, false, false] vs WD := by
  have hok : (t7 WD base g i P L).Ok := ⟨by show intK.wf 1; exact ⟨by decide, by decide⟩, by show intK.wf 0; exact ⟨by decide, by decide⟩, by show i + 1 ≤ 8000; omega, by show 3 ≠ 74; decide, fun _ _ => rfl, fun _ _ => rfl, fun _ _ _ => rfl, fun _ _ _ => rfl, h.base_lt⟩
  exact J2.start (t := t7 WD base g i P L) (fs := [false, false, false, false, false, false]) hok rfl hv h.sr h.tr h.st h.row
/-- Blocks of other types stay. -/
theorem t2_keeps {α : Type} {K : Kind α} {t : T2 K} (ht : Turn t.set t.WD W) {b : Nat} {x : Array Value} {T : TypeId} (hc : t.WD.heap[b]? = some (.cells x T (0, 0))) (h1 : K.T ≠ T) (h2 : b ≠ t.g) : W.heap[b]? = some (.cells x T (0, 0)) :=
  (ht.block b (Array.getElem?_eq_some_iff.1 hc).1 fun hs => by
    rcases hs with hs | ⟨_, cur, hs⟩
    · exact h2 hs
    · exact h1 (other_type hs hc)).trans hc
theorem t2_row {α β : Type} {K : Kind α} {K' : Kind β} {t : T2 K} (ht : Turn t.set t.WD W) {b n c : Nat} {A : Option Addr} {us : List β} (hr : K'.Row t.WD b A n c us) (h1 : K.T ≠ K'.T) {x : Array Value} (hg : t.WD.heap[t.g]? = some (.cells x t.YT (0, 0))) (h2 : K'.T ≠ t.YT) : K'.Row W b A n c us :=
  Row.at_block hr fun q hq => by
    obtain ⟨y, hy⟩ := Row.typed hr q hq
    rw [t2_keeps ht hy h1 (fun e => h2 (by subst e; exact other_type hy hg)), hy]
theorem rep_snoc {α : Type} (n : Nat) (x : α) : List.replicate n x ++ [x] = List.replicate (n + 1) x := by rw [List.replicate_succ']
theorem j7_done (h : RPre WD base g i i P L) (hj : J2 (t7 WD base g i P L) [true, true, true, true, true, true] vs W) : ∃ L', RPre W base g (i + 1) i P L' := by
  obtain ⟨A1, c1, A2, c2, r1, r2, hd, hrow, ht⟩ := hj.done rfl
  have hb : ∀ {b : Nat} {x : Array Value}, WD.heap[b]? = some (.cells x 4 (0, 0)) → W.heap[b]? = some (.cells x 4 (0, 0)) := fun hc => t2_keeps (t := t7 WD base g i P L) ht hc (by show 3 ≠ 4; decide) (fun e => by
    have h5 := h.row
    rw [show (t7 WD base g i P L).g = g from rfl] at e
    rw [e] at hc
    exact absurd (other_type hc h5) (by decide))
  refine ⟨{ L with AS := A1, cS := c1, AT := A2, cT := c2 }, h.base_le, hj.base_le, hrow, ?_, ?_, hd, ?_, ?_, h.nd, fun k hk => ⟨(h.nb k hk).1, hb (h.nb k hk).2⟩, fun k hk => ⟨(h.db k hk).1, hb (h.db k hk).2⟩, h.nn, h.dd, h.xx⟩
  · exact r1.same (rep_snoc i 1)
  · exact r2.same (rep_snoc i 0)
  · exact t2_row (t := t7 WD base g i P L) ht h.nr (by show 3 ≠ 22; decide) h.row (by show 22 ≠ 74; decide)
  · exact t2_row (t := t7 WD base g i P L) ht h.dr (by show 3 ≠ 22; decide) h.row (by show 22 ≠ 74; decide)
/- needed, and dirty -/
def t8 (WD : World) (base g i P : Nat) (L : YL) (m1 m2 : Nat) : T2 bsK :=
  { WD := WD, base := base, g := g, YT := 74, R := fun a b => #[.slice L.AS (i + 1) L.cS, .slice L.AT (i + 1) L.cT, a, b, .int .i64 (P : Int)], p1 := 2, p2 := 3, n := i, A1 := L.AN, c1 := L.cN, us1 := rowsV L.bN i P, e1 := ⟨some ⟨m1, 0, none⟩, P, P⟩, A2 := L.AD, c2 := L.cD, us2 := rowsV L.bD i P, e2 := ⟨some ⟨m2, 0, none⟩, P, P⟩ }
/-- A row of bools that was made since. -/
def Mk (WD W : World) (P m : Nat) (v : Value) : Prop := v = .slice (some ⟨m, 0, none⟩) P P ∧ WD.heap.size ≤ m ∧ W.heap[m]? = some (.cells (bitsC (List.replicate P false)) 4 (0, 0))
def J8 (WD : World) (base g i P : Nat) (L : YL) (fs : List Bool) (vs : List Value) (W : World) : Prop :=
  ∃ m1 m2, J2 (t8 WD base g i P L m1 m2) fs vs W ∧ fs.length = 8 ∧ vs.length = 6 ∧ (fs.getD 6 false = true → Mk WD W P m1 (vs.getD 4 undef)) ∧ (fs.getD 7 false = true → Mk WD W P m2 (vs.getD 5 undef)) ∧ (fs.getD 6 false = true → fs.getD 7 false = true → m1 ≠ m2)
theorem Mk.keep {m : Nat} {v : Value} (h : Mk WD W P m v) {fq : Nat → Prop} (ht : Turn fq W w') (hn : ¬ fq m) : Mk WD w' P m v := ⟨h.1, h.2.1, (ht.block m (Array.getElem?_eq_some_iff.1 h.2.2).1 hn).trans h.2.2⟩
theorem Mk.later {m : Nat} {v : Value} (h : Mk WD W P m v) (hl : Later W w') : Mk WD w' P m v := h.keep (fq := fun _ => False) (Turn.of_below hl) fun hh => hh
theorem J8.later (h : J8 WD base g i P L fs vs W) (hl : Later W w') : J8 WD base g i P L fs vs w' := by
  obtain ⟨m1, m2, h1, h2, h3, h4, h5, h6⟩ := h
  exact ⟨m1, m2, h1.later hl, h2, h3, fun e => (h4 e).later hl, fun e => (h5 e).later hl, h6⟩
theorem j8_start (h : RPre WD base g (i + 1) i P L) (hi : i < 32) (hv : vs.length = 6) : J8 WD base g i P L [false, false, false, false, false, false, false, false] vs WD := by
  have hok : (t8 WD base g i P L 0 0).Ok := ⟨trivial, trivial, by show i + 1 ≤ 8000; omega, by show 22 ≠ 74; decide, fun _ _ => rfl, fun _ _ => rfl, fun _ _ _ => rfl, fun _ _ _ => rfl, h.base_lt⟩
  exact ⟨0, 0, J2.start (t := t8 WD base g i P L 0 0) hok rfl (by omega) h.nr h.dr h.nd h.row, rfl, hv, fun e => (by cases e), fun e => (by cases e), fun e => (by cases e)⟩
theorem bits_made (P : Nat) : madeCells #[.bool false] P = bitsC (List.replicate P false) := by
  apply Array.ext'
  have := boolK.made_cells P
  rw [show P * boolK.k = P from Nat.mul_one P] at this
  have key : ∀ l : List Bool, boolK.cells l = l.map fun x => Value.bool x := fun l => by
    induction l with
    | nil => rfl
    | cons x r ih =>
      show boolK.cv x ++ boolK.cells r = _
      rw [ih]; rfl
  rw [show madeCells #[.bool false] P = madeCells (boolK.cv boolK.dflt).toArray P from rfl, this, key]
  rfl
theorem run_make_bits (P : Nat) (hP : P ≤ 8) (W : World) : (Instr.makeSlice 22 (.int .i64 (P : Int)) (.int .i64 (P : Int))).run Try.prog W = .ok (.slice (some ⟨W.heap.size, 0, none⟩) P P) (W.alloc (.cells (bitsC (List.replicate P false)) 4)) := by
  obtain ⟨i0, hi, hz0, hz1, hz2⟩ := info_parts infoB
  have h := run_make (P := Try.prog) W 22 4 i0 _ Try.underlying22 hi hz0 .i64 .i64 (P : Int) (P : Int) (by omega) (by omega) (by rw [hz2]; omega) (by omega)
  rw [h, hz1, Nat.mul_one, ← bits_made]
  rfl
/-- What is made is new: it is no block of the chains. -/
theorem J2.made_apart {m : Nat} {t : T2 bsK} (h : J2 t fs vs W) (hc : W.heap[m]? = some (.cells (bitsC (List.replicate P false)) 4 (0, 0))) : ∀ {f : Nat → Prop} {A : Option Addr} {n c : Nat} {us : List BV} {v : BV} {fb fa : Bool} {vb va : Value}, Ch bsK t.base A n c us v fb fa vb va f W → ¬ f m := fun hch hf => by
  obtain ⟨_, cur, h2⟩ := hch.typed m hf
  exact absurd (other_type h2 hc) (by decide)
theorem J8.make1 (h : J8 WD base g i P L fs vs W) (h0 : fs.getD 6 false = false) (hb : fs.getD 0 false = false) (ha : fs.getD 1 false = false) :
    J8 WD base g i P L (fs.set 6 true) (vs.set 4 (.slice (some ⟨W.heap.size, 0, none⟩) P P)) (W.alloc (.cells (bitsC (List.replicate P false)) 4)) := by
  have hl : Later W (W.alloc (.cells (bitsC (List.replicate P false)) 4)) := (Below.refl _ _).alloc (Nat.le_refl _) _
  obtain ⟨m1, m2, h1, h2, h3, h4, h5, h6⟩ := h
  have k1 := ((h1.elem1 hb ha (⟨some ⟨W.heap.size, 0, none⟩, P, P⟩ : BV) trivial).later hl).beyond (j := 6) (k := 4) (by decide) (by decide) true (.slice (some ⟨W.heap.size, 0, none⟩) P P)
  have hsz : WD.heap.size ≤ W.heap.size := h1.turn.size
  have hmk : Mk WD (W.alloc (.cells (bitsC (List.replicate P false)) 4)) P W.heap.size (.slice (some ⟨W.heap.size, 0, none⟩) P P) := ⟨rfl, hsz, heap_alloc_new W _⟩
  refine ⟨W.heap.size, m2, k1, by simpa using h2, by simpa using h3, ?_, ?_, ?_⟩
  · exact fun _ => by rw [gs_self (show 4 < vs.length by omega)]; exact hmk
  · exact fun e => by rw [gs_ne (show 6 ≠ 7 by decide)] at e; rw [gs_ne (show 4 ≠ 5 by decide)]; exact (h5 e).later hl
  · intro _ e
    rw [gs_ne (show 6 ≠ 7 by decide)] at e
    have := (Array.getElem?_eq_some_iff.1 (h5 e).2.2).1
    omega
theorem J8.build1 (h : J8 WD base g i P L fs vs W) (hm : fs.getD 6 false = true) (hb : fs.getD 0 false = false) (ha : fs.getD 1 false = false) :
    ∃ m : Nat, vs.getD 4 undef = .slice (some ⟨m, 0, none⟩) P P ∧ J8 WD base g i P L (fs.set 0 true) (vs.set 0 (.slice (some ⟨W.heap.size, 0, none⟩) 1 1)) (W.alloc (.cells #[.slice (some ⟨m, 0, none⟩) P P] 22)) := by
  obtain ⟨m1, m2, h1, h2, h3, h4, h5, h6⟩ := h
  have hl : Later W (W.alloc (.cells #[.slice (some ⟨m1, 0, none⟩) P P] 22)) := (Below.refl _ _).alloc (Nat.le_refl _) _
  refine ⟨m1, (h4 hm).1, m1, m2, h1.build1 hb ha _ rfl, by simpa using h2, by simpa using h3, fun e => ?_, fun e => ?_, fun e e2 => ?_⟩
  · rw [gs_ne (show 0 ≠ 6 by decide)] at e; rw [gs_ne (show 0 ≠ 4 by decide)]; exact (h4 e).later hl
  · rw [gs_ne (show 0 ≠ 7 by decide)] at e; rw [gs_ne (show 0 ≠ 5 by decide)]; exact (h5 e).later hl
  · rw [gs_ne (show 0 ≠ 6 by decide)] at e; rw [gs_ne (show 0 ≠ 7 by decide)] at e2; exact h6 e e2
theorem J8.append1 (h : J8 WD base g i P L fs vs W) (hb : fs.getD 0 false = true) (ha : fs.getD 1 false = false) (hs : fs.getD 4 false = false) :
    ∃ A' c' W2, (Builtin.append_ #[72, 72] 72 #[.slice L.AN i L.cN, vs.getD 0 undef]).run Try.prog W = .ok (.slice A' (i + 1) c') W2 ∧ J8 WD base g i P L (fs.set 1 true) (vs.set 1 (.slice A' (i + 1) c')) W2 := by
  obtain ⟨m1, m2, h1, h2, h3, h4, h5, h6⟩ := h
  obtain ⟨A', c', W2, hr, hk, ht⟩ := h1.append1t hb ha hs
  refine ⟨A', c', W2, hr, m1, m2, hk, by simpa using h2, by simpa using h3, fun e => ?_, fun e => ?_, fun e e2 => ?_⟩
  · rw [gs_ne (show 1 ≠ 6 by decide)] at e; rw [gs_ne (show 1 ≠ 4 by decide)]; exact (h4 e).keep ht fun ⟨x, hx⟩ => absurd (other_type hx (h4 e).2.2) (by decide)
  · rw [gs_ne (show 1 ≠ 7 by decide)] at e; rw [gs_ne (show 1 ≠ 5 by decide)]; exact (h5 e).keep ht fun ⟨x, hx⟩ => absurd (other_type hx (h5 e).2.2) (by decide)
  · rw [gs_ne (show 1 ≠ 6 by decide)] at e; rw [gs_ne (show 1 ≠ 7 by decide)] at e2; exact h6 e e2
theorem J8.store1 (h : J8 WD base g i P L fs vs W) (hs : fs.getD 4 false = false) : J8 WD base g i P L (fs.set 4 true) vs (W.setCell ⟨g, 2, none⟩ (vs.getD 1 undef)) := by
  obtain ⟨m1, m2, h1, h2, h3, h4, h5, h6⟩ := h
  have ht : Turn (fun b => b = g) W (W.setCell ⟨g, 2, none⟩ (vs.getD 1 undef)) := Turn.of_setCell ⟨g, 2, none⟩ _ rfl
  refine ⟨m1, m2, h1.store1 hs, by simpa using h2, h3, fun e => ?_, fun e => ?_, fun e e2 => ?_⟩
  · rw [gs_ne (show 4 ≠ 6 by decide)] at e; exact (h4 e).keep ht fun hx => by
      have hc := (h4 e).2.2
      rw [hx] at hc
      exact absurd (other_type hc h1.row) (by show 4 ≠ 74; decide)
  · rw [gs_ne (show 4 ≠ 7 by decide)] at e; exact (h5 e).keep ht fun hx => by
      have hc := (h5 e).2.2
      rw [hx] at hc
      exact absurd (other_type hc h1.row) (by show 4 ≠ 74; decide)
  · rw [gs_ne (show 4 ≠ 6 by decide)] at e; rw [gs_ne (show 4 ≠ 7 by decide)] at e2; exact h6 e e2
theorem J8.make2 (h : J8 WD base g i P L fs vs W) (h0 : fs.getD 7 false = false) (hb : fs.getD 2 false = false) (ha : fs.getD 3 false = false) :
    J8 WD base g i P L (fs.set 7 true) (vs.set 5 (.slice (some ⟨W.heap.size, 0, none⟩) P P)) (W.alloc (.cells (bitsC (List.replicate P false)) 4)) := by
  have hl : Later W (W.alloc (.cells (bitsC (List.replicate P false)) 4)) := (Below.refl _ _).alloc (Nat.le_refl _) _
  obtain ⟨m1, m2, h1, h2, h3, h4, h5, h6⟩ := h
  have k1 := ((h1.elem2 hb ha (⟨some ⟨W.heap.size, 0, none⟩, P, P⟩ : BV) trivial).later hl).beyond (j := 7) (k := 5) (by decide) (by decide) true (.slice (some ⟨W.heap.size, 0, none⟩) P P)
  have hsz : WD.heap.size ≤ W.heap.size := h1.turn.size
  have hmk : Mk WD (W.alloc (.cells (bitsC (List.replicate P false)) 4)) P W.heap.size (.slice (some ⟨W.heap.size, 0, none⟩) P P) := ⟨rfl, hsz, heap_alloc_new W _⟩
  refine ⟨m1, W.heap.size, k1, by simpa using h2, by simpa using h3, ?_, ?_, ?_⟩
  · exact fun e => by rw [gs_ne (show 7 ≠ 6 by decide)] at e; rw [gs_ne (show 5 ≠ 4 by decide)]; exact (h4 e).later hl
  · exact fun _ => by rw [gs_self (show 5 < vs.length by omega)]; exact hmk
  · intro e _
    rw [gs_ne (show 7 ≠ 6 by decide)] at e
    have := (Array.getElem?_eq_some_iff.1 (h4 e).2.2).1
    omega
theorem J8.build2 (h : J8 WD base g i P L fs vs W) (hm : fs.getD 7 false = true) (hb : fs.getD 2 false = false) (ha : fs.getD 3 false = false) :
    ∃ m : Nat, vs.getD 5 undef = .slice (some ⟨m, 0, none⟩) P P ∧ J8 WD base g i P L (fs.set 2 true) (vs.set 2 (.slice (some ⟨W.heap.size, 0, none⟩) 1 1)) (W.alloc (.cells #[.slice (some ⟨m, 0, none⟩) P P] 22)) := by
  obtain ⟨m1, m2, h1, h2, h3, h4, h5, h6⟩ := h
  have hl : Later W (W.alloc (.cells #[.slice (some ⟨m2, 0, none⟩) P P] 22)) := (Below.refl _ _).alloc (Nat.le_refl _) _
  refine ⟨m2, (h5 hm).1, m1, m2, h1.build2 hb ha _ rfl, by simpa using h2, by simpa using h3, fun e => ?_, fun e => ?_, fun e e2 => ?_⟩
  · rw [gs_ne (show 2 ≠ 6 by decide)] at e; rw [gs_ne (show 2 ≠ 4 by decide)]; exact (h4 e).later hl
  · rw [gs_ne (show 2 ≠ 7 by decide)] at e; rw [gs_ne (show 2 ≠ 5 by decide)]; exact (h5 e).later hl
  · rw [gs_ne (show 2 ≠ 6 by decide)] at e; rw [gs_ne (show 2 ≠ 7 by decide)] at e2; exact h6 e e2
theorem J8.append2 (h : J8 WD base g i P L fs vs W) (hb : fs.getD 2 false = true) (ha : fs.getD 3 false = false) (hs : fs.getD 5 false = false) :
    ∃ A' c' W2, (Builtin.append_ #[72, 72] 72 #[.slice L.AD i L.cD, vs.getD 2 undef]).run Try.prog W = .ok (.slice A' (i + 1) c') W2 ∧ J8 WD base g i P L (fs.set 3 true) (vs.set 3 (.slice A' (i + 1) c')) W2 := by
  obtain ⟨m1, m2, h1, h2, h3, h4, h5, h6⟩ := h
  obtain ⟨A', c', W2, hr, hk, ht⟩ := h1.append2t hb ha hs
  refine ⟨A', c', W2, hr, m1, m2, hk, by simpa using h2, by simpa using h3, fun e => ?_, fun e => ?_, fun e e2 => ?_⟩
  · rw [gs_ne (show 3 ≠ 6 by decide)] at e; rw [gs_ne (show 3 ≠ 4 by decide)]; exact (h4 e).keep ht fun ⟨x, hx⟩ => absurd (other_type hx (h4 e).2.2) (by decide)
  · rw [gs_ne (show 3 ≠ 7 by decide)] at e; rw [gs_ne (show 3 ≠ 5 by decide)]; exact (h5 e).keep ht fun ⟨x, hx⟩ => absurd (other_type hx (h5 e).2.2) (by decide)
  · rw [gs_ne (show 3 ≠ 6 by decide)] at e; rw [gs_ne (show 3 ≠ 7 by decide)] at e2; exact h6 e e2
theorem J8.store2 (h : J8 WD base g i P L fs vs W) (hs : fs.getD 5 false = false) : J8 WD base g i P L (fs.set 5 true) vs (W.setCell ⟨g, 3, none⟩ (vs.getD 3 undef)) := by
  obtain ⟨m1, m2, h1, h2, h3, h4, h5, h6⟩ := h
  have ht : Turn (fun b => b = g) W (W.setCell ⟨g, 3, none⟩ (vs.getD 3 undef)) := Turn.of_setCell ⟨g, 3, none⟩ _ rfl
  refine ⟨m1, m2, h1.store2 hs, by simpa using h2, h3, fun e => ?_, fun e => ?_, fun e e2 => ?_⟩
  · rw [gs_ne (show 5 ≠ 6 by decide)] at e; exact (h4 e).keep ht fun hx => by
      have hc := (h4 e).2.2
      rw [hx] at hc
      exact absurd (other_type hc h1.row) (by show 4 ≠ 74; decide)
  · rw [gs_ne (show 5 ≠ 7 by decide)] at e; exact (h5 e).keep ht fun hx => by
      have hc := (h5 e).2.2
      rw [hx] at hc
      exact absurd (other_type hc h1.row) (by show 4 ≠ 74; decide)
  · rw [gs_ne (show 5 ≠ 6 by decide)] at e; rw [gs_ne (show 5 ≠ 7 by decide)] at e2; exact h6 e e2
theorem j8_done (h : RPre WD base g (i + 1) i P L) (hj : J8 WD base g i P L [true, true, true, true, true, true, true, true] vs W) : ∃ L', RPre W base g (i + 1) (i + 1) P L' := by
  obtain ⟨m1, m2, h1, h2, h3, h4, h5, h6⟩ := hj
  obtain ⟨A1, c1, A2, c2, r1, r2, hd, hrow, ht⟩ := h1.done rfl
  have k4 := h4 rfl
  have k5 := h5 rfl
  have k6 := h6 rfl rfl
  have hb : ∀ {b : Nat} {x : Array Value}, WD.heap[b]? = some (.cells x 4 (0, 0)) → W.heap[b]? = some (.cells x 4 (0, 0)) := fun hc => t2_keeps (t := t8 WD base g i P L m1 m2) ht hc (by show 22 ≠ 4; decide) (fun e => by
    have h5 := h.row
    rw [show (t8 WD base g i P L m1 m2).g = g from rfl] at e
    rw [e] at hc
    exact absurd (other_type hc h5) (by decide))
  have lN : ∀ k, k < i → L.bN k < WD.heap.size := fun k hk => (Array.getElem?_eq_some_iff.1 (h.nb k hk).2).1
  have lD : ∀ k, k < i → L.bD k < WD.heap.size := fun k hk => (Array.getElem?_eq_some_iff.1 (h.db k hk).2).1
  have n1 := k4.2.1
  have n2 := k5.2.1
  have hbl := h.base_lt
  have cse : ∀ k, k < i + 1 → k < i ∨ k = i := fun k hk => by omega
  refine ⟨{ L with AN := A1, cN := c1, AD := A2, cD := c2, bN := fun k => if k = i then m1 else L.bN k, bD := fun k => if k = i then m2 else L.bD k }, h.base_le, h1.base_le, hrow, ?_, ?_, h.st, ?_, ?_, hd, fun k hk => ?_, fun k hk => ?_, fun j k hj hk e => ?_, fun j k hj hk e => ?_, fun j k hj hk e => ?_⟩
  · exact t2_row (t := t8 WD base g i P L m1 m2) ht h.sr (by show 22 ≠ 3; decide) h.row (by show 3 ≠ 74; decide)
  · exact t2_row (t := t8 WD base g i P L m1 m2) ht h.tr (by show 22 ≠ 3; decide) h.row (by show 3 ≠ 74; decide)
  · exact r1.same rowsV_snoc.symm
  · exact r2.same rowsV_snoc.symm
  · dsimp only
    by_cases e : k = i
    · rw [if_pos e]; exact ⟨by omega, k4.2.2⟩
    · rw [if_neg e]; exact ⟨(h.nb k (by omega)).1, hb (h.nb k (by omega)).2⟩
  · dsimp only
    by_cases e : k = i
    · rw [if_pos e]; exact ⟨by omega, k5.2.2⟩
    · rw [if_neg e]; exact ⟨(h.db k (by omega)).1, hb (h.db k (by omega)).2⟩
  · dsimp only at e
    rcases cse j hj with hj | rfl <;> rcases cse k hk with hk | hk
    · rw [if_neg (by omega), if_neg (by omega)] at e; exact h.nn j k hj hk e
    · rw [if_neg (by omega), if_pos hk] at e; have := lN j hj; omega
    · rw [if_pos rfl, if_neg (by omega)] at e; have := lN k hk; omega
    · exact hk.symm
  · dsimp only at e
    rcases cse j hj with hj | rfl <;> rcases cse k hk with hk | hk
    · rw [if_neg (by omega), if_neg (by omega)] at e; exact h.dd j k hj hk e
    · rw [if_neg (by omega), if_pos hk] at e; have := lD j hj; omega
    · rw [if_pos rfl, if_neg (by omega)] at e; have := lD k hk; omega
    · exact hk.symm
  · dsimp only at e
    rcases cse j hj with hj | rfl <;> rcases cse k hk with hk | hk
    · rw [if_neg (by omega), if_neg (by omega)] at e; exact h.xx j k hj hk e
    · rw [if_neg (by omega), if_pos hk] at e; have := lN j hj; omega
    · rw [if_pos rfl, if_neg (by omega)] at e; have := lD k hk; omega
    · rw [if_pos rfl, if_pos hk] at e; exact k6 e
end
section
theorem run_load_i (p : Addr) (A : Option Addr) (n c : Nat) (w : World) (hc : w.cell? p = some (.slice A n c)) : (Instr.loadAt 36 (.pointer (some p))).run Try.prog w = .ok (.slice A n c) w := by go_simp
theorem run_load_b (p : Addr) (A : Option Addr) (n c : Nat) (w : World) (hc : w.cell? p = some (.slice A n c)) : (Instr.loadAt 72 (.pointer (some p))).run Try.prog w = .ok (.slice A n c) w := by go_simp
theorem run_store_i (p : Addr) (A : Option Addr) (n c : Nat) (u : Value) (w : World) (hc : w.cell? p = some u) (hf : w.frozen? p = false) : (Instr.storeAt 36 (.pointer (some p)) (.slice A n c)).run Try.prog w = .ok () (w.setCell p (.slice A n c)) := by go_simp
theorem run_store_b (p : Addr) (A : Option Addr) (n c : Nat) (u : Value) (w : World) (hc : w.cell? p = some u) (hf : w.frozen? p = false) : (Instr.storeAt 72 (.pointer (some p)) (.slice A n c)).run Try.prog w = .ok () (w.setCell p (.slice A n c)) := by go_simp
theorem run_build_i (x : Int) (w : World) : (Instr.buildSlice 36 1 #[(0, .int .i64 x)]).run Try.prog w = .ok (.slice (some ⟨w.heap.size, 0, none⟩) 1 1) (w.alloc (.cells #[.int .i64 x] 3)) := by go_simp
theorem run_build_b (A : Option Addr) (n c : Nat) (w : World) : (Instr.buildSlice 72 1 #[(0, .slice A n c)]).run Try.prog w = .ok (.slice (some ⟨w.heap.size, 0, none⟩) 1 1) (w.alloc (.cells #[.slice A n c] 22)) := by go_simp
theorem run_field_y (g k : Nat) (hk : k < 5) (w : World) : (Instr.fieldAt 74 (.pointer (some ⟨g, 0, none⟩)) k).run Try.prog w = .ok (.pointer (some ⟨g, k, none⟩)) w := by
  rcases (by omega : k = 0 ∨ k = 1 ∨ k = 2 ∨ k = 3 ∨ k = 4) with rfl | rfl | rfl | rfl | rfl <;> go_simp
theorem run_op_makeS {P : Program} {a : Act} {o : Oper} {w w' : World} {t : TypeId} {x y : Operand} {vx vy r : Value} (ho : o.op = .makeSlice t x y) (hx : a.eval x = vx) (hy : a.eval y = vy) (hrun : (Instr.makeSlice t vx vy).run P w = .ok r w') : (execOp a.eval o).run P w = .ok (.value r) w' := by
  unfold execOp
  simp only [ho, Sem.run_bind, hx, hy, hrun, Result.andThen_ok]
  rfl
def RNew (w : World) (o : Option Yd) (e : Ending) (w' : World) : Prop :=
  match o with
  | none => e = .returned (.pointer none) ∧ Below w.heap.size w w'
  | some s => ∃ g fp, e = .returned (.pointer (some ⟨g, 0, none⟩)) ∧ RefY w' w.heap.size fp g s ∧ Below w.heap.size w w'
set_option maxHeartbeats 16000000 in
set_option maxRecDepth 20000 in
theorem rnew_any (x y : Int) (w : World) : Calls Try.prog 21 #[.int .i64 x, .int .i64 y] w (RNew w (if mayY x y = true then some (freshY x.toNat y.toNat) else none)) := by
  by_cases h1 : x < 1
  · rw [if_neg (show ¬ mayY x y = true by unfold mayY; simp; omega)]
    go_enter Try.func21, Try.ntmps21
    go_wp2_with fail
    go_ret
    exact ⟨rfl, Below.refl _ _⟩
  by_cases h2 : 32 < x
  · rw [if_neg (show ¬ mayY x y = true by unfold mayY; simp; omega)]
    go_enter Try.func21, Try.ntmps21
    go_wp2_with fail
    go_ret
    exact ⟨rfl, Below.refl _ _⟩
  by_cases h3 : y < 1
  · rw [if_neg (show ¬ mayY x y = true by unfold mayY; simp; omega)]
    go_enter Try.func21, Try.ntmps21
    go_wp2_with fail
    go_ret
    exact ⟨rfl, Below.refl _ _⟩
  by_cases h4 : 8 < y
  · rw [if_neg (show ¬ mayY x y = true by unfold mayY; simp; omega)]
    go_enter Try.func21, Try.ntmps21
    go_wp2_with fail
    go_ret
    exact ⟨rfl, Below.refl _ _⟩
  rw [if_pos (show mayY x y = true by unfold mayY; simp; omega)]
  obtain ⟨n, rfl⟩ : ∃ n : Nat, x = (n : Int) := ⟨x.toNat, by omega⟩
  obtain ⟨P, rfl⟩ : ∃ P : Nat, y = (P : Int) := ⟨y.toNat, by omega⟩
  rw [Int.toNat_natCast, Int.toNat_natCast]
  have hP8 : P ≤ 8 := by omega
  have hP1 : 1 ≤ P := by omega
  have hn1 : 1 ≤ n := by omega
  have hn32 : n ≤ 32 := by omega
  obtain ⟨g, HG⟩ : ∃ g, Hid (w.heap.size = g) := ⟨_, rfl⟩
  go_enter Try.func21, Try.ntmps21
  go_wp2_with fail
  have HP0 : Hid (RPre (w.alloc (.cells #[.slice none 0 0, .slice none 0 0, .slice none 0 0, .slice none 0 0, .int .i64 (P : Int)] 74)) w.heap.size w.heap.size 0 0 P ⟨none, 0, none, 0, none, 0, none, 0, fun _ => 0, fun _ => 0⟩) :=
    ⟨Nat.le_refl _, by simp, heap_alloc_new w _, Kind.Row.none_, Kind.Row.none_, fun b hb => (by cases hb), Kind.Row.none_, Kind.Row.none_, fun b hb => (by cases hb), fun k hk => (by omega), fun k hk => (by omega), fun j k hj => (by omega), fun j k hj => (by omega), fun j k hj => (by omega)⟩
  have HB0 : Hid (Below w.heap.size w (w.alloc (.cells #[.slice none 0 0, .slice none 0 0, .slice none 0 0, .slice none 0 0, .int .i64 (P : Int)] 74))) := (Below.refl _ _).alloc (Nat.le_refl _) _
  rw [HG.out]
  have HP0' : Hid (RPre (w.alloc (.cells #[.slice none 0 0, .slice none 0 0, .slice none 0 0, .slice none 0 0, .int .i64 (P : Int)] 74)) w.heap.size g 0 0 P ⟨none, 0, none, 0, none, 0, none, 0, fun _ => 0, fun _ => 0⟩) := by rw [← HG.out]; exact HP0.out
  clear HP0 HG
  go_loopw [6] (fun t6 wr => ∃ (i : Nat) (L : YL), t6 = .int .i64 i ∧ i ≤ n ∧ Hid (RPre wr w.heap.size g i i P L) ∧ Hid (Below w.heap.size w wr)) (fun t6 _ => n - (intOf t6).toNat)
  case atStart => exact ⟨0, _, rfl, Nat.zero_le _, HP0', HB0⟩
  clear HP0' HB0
  case round =>
    obtain ⟨Wa, rfl⟩ : ∃ Wa, Wa = wr := ⟨_, rfl⟩
    obtain ⟨i, L, rfl, hi, HP, HB⟩ := hrel
    have i0 : (0 : Int) ≤ (i : Int) := by omega
    by_cases hlt : i < n
    · have i1 : (i : Int) < (n : Int) := by omega
      go_wp2_with fail
      obtain ⟨WD, HWD⟩ : ∃ W, Hid (W = Wa.drew) := ⟨_, rfl⟩
      have HDL : Hid (Later Wa WD) := by rw [HWD.out]; exact (Below.refl _ _).drew
      have PD := Lib.hid (HP.out.since HDL.out)
      have BD := Lib.hid (below_chain HB.out HDL.out)
      refine region_of_steps7 (by kernel_rfl) [some (.pointer (some ⟨g, 0, none⟩)), some (.pointer (some ⟨g, 0, none⟩)), some (.pointer (some ⟨g, 0, none⟩)), some (.pointer (some ⟨g, 0, none⟩)), some (.pointer (some ⟨g, 0, none⟩)), some (.slice L.AS i L.cS), none, none, some (.pointer (some ⟨g, 0, none⟩)), some (.pointer (some ⟨g, 0, none⟩)), some (.pointer (some ⟨g, 1, none⟩)), some (.slice L.AT i L.cT), none, none, some (.pointer (some ⟨g, 0, none⟩)), some (.pointer (some ⟨g, 0, none⟩)), none, some (.pointer (some ⟨g, 0, none⟩)), some (.pointer (some ⟨g, 1, none⟩)), none] [6, 7, 12, 13, 16, 19] [35, 36, 41, 42] (J2 (t7 WD w.heap.size g i P L)) (by kernel_rfl) (by kernel_rfl) (by rw [← HWD.out]; exact j7_start PD.out (by omega) (by rw [slots_len]; decide)) ?_ ?_
      · refine Steps7.cons ?_ (Steps7.cons ?_ (Steps7.cons ?_ (Steps7.cons ?_ (Steps7.cons ?_ (Steps7.cons ?_ (Steps7.cons ?_ (Steps7.cons ?_ (Steps7.cons ?_ (Steps7.cons ?_ (Steps7.cons ?_ (Steps7.cons ?_ (Steps7.cons ?_ (Steps7.cons ?_ (Steps7.cons ?_ (Steps7.cons ?_ (Steps7.cons ?_ (Steps7.cons ?_ (Steps7.cons ?_ (Steps7.cons ?_ (Steps7.nil))))))))))))))))))))
        · intro listed a W H hj hl hd
          have t5 : a.tmps.getD 5 undef = .pointer (some ⟨g, 0, none⟩) := (H.old 5 (by kernel_rfl)).trans rfl
          exact step7_value (i := 0) rfl rfl (run_op_move rfl t5) (calm7 (fun fs vs x y h hl => J2.later h hl) (by kernel_rfl) (by kernel_rfl) hj (later_refl _)) rfl
        · intro listed a W H hj hl hd
          have t5 : a.tmps.getD 5 undef = .pointer (some ⟨g, 0, none⟩) := (H.old 5 (by kernel_rfl)).trans rfl
          exact step7_value (i := 1) rfl rfl (run_op_move rfl t5) (calm7 (fun fs vs x y h hl => J2.later h hl) (by kernel_rfl) (by kernel_rfl) hj (later_refl _)) rfl
        · intro listed a W H hj hl hd
          have t5 : a.tmps.getD 5 undef = .pointer (some ⟨g, 0, none⟩) := (H.old 5 (by kernel_rfl)).trans rfl
          exact step7_value (i := 2) rfl rfl (run_op_move rfl t5) (calm7 (fun fs vs x y h hl => J2.later h hl) (by kernel_rfl) (by kernel_rfl) hj (later_refl _)) rfl
        · intro listed a W H hj hl hd
          have t31 : a.tmps.getD 31 undef = .pointer (some ⟨g, 0, none⟩) := H.get 2 31 (by kernel_rfl) (dep_of hd 2 (by kernel_rfl)) (fun _ h => by cases h)
          exact step7_value (i := 3) rfl rfl (run_op_nilCheck rfl t31) (calm7 (fun fs vs x y h hl => J2.later h hl) (by kernel_rfl) (by kernel_rfl) hj (later_refl _)) rfl
        · intro listed a W H hj hl hd
          have t32 : a.tmps.getD 32 undef = .pointer (some ⟨g, 0, none⟩) := H.get 3 32 (by kernel_rfl) (dep_of hd 3 (by kernel_rfl)) (fun _ h => by cases h)
          exact step7_value (i := 4) rfl rfl (run_op_fieldAddr rfl t32 (run_field_y g 0 (by decide) W)) (calm7 (fun fs vs x y h hl => J2.later h hl) (by kernel_rfl) (by kernel_rfl) hj (later_refl _)) rfl
        · intro listed a W H hj hl hd
          have t33 : a.tmps.getD 33 undef = .pointer (some ⟨g, 0, none⟩) := H.get 4 33 (by kernel_rfl) (dep_of hd 4 (by kernel_rfl)) (fun _ h => by cases h)
          have f4 : (flags [6, 7, 12, 13, 16, 19] listed).getD 4 false = false := H.notyets 8 hl (by kernel_rfl)
          have hc : W.cell? ⟨g, 0, none⟩ = some (.slice L.AS i L.cS) := hj.cell1 f4
          exact step7_value (i := 5) rfl rfl (run_op_load rfl t33 (run_load_i _ _ _ _ W hc)) (calm7 (fun fs vs x y h hl => J2.later h hl) (by kernel_rfl) (by kernel_rfl) hj (later_refl _)) rfl
        · intro listed a W H hj hl hd
          have f0 : (flags [6, 7, 12, 13, 16, 19] listed).getD 0 false = false := hl
          have f1 : (flags [6, 7, 12, 13, 16, 19] listed).getD 1 false = false := H.notyets 4 hl (by kernel_rfl)
          have hk := hj.build1 f0 f1 #[.int .i64 1] rfl
          rw [← flags_put (m := 6) 0 rfl (by decide), ← slots_at (a := a) (d := 35) 0 rfl (by decide) (by rw [H.size]; exact of_decide_eq_true (by kernel_rfl))] at hk
          exact step7_value (i := 6) rfl rfl (run_op_build rfl (by simp only [List.map_toArray, List.map_cons, List.map_nil]; exact run_build_i 1 W)) hk trivial
        · intro listed a W H hj hl hd
          have t34 : a.tmps.getD 34 undef = .slice L.AS i L.cS := H.get 5 34 (by kernel_rfl) (dep_of hd 5 (by kernel_rfl)) (fun _ h => by cases h)
          have d35 : listed.getD 6 false = true := dep_of hd 6 (by kernel_rfl)
          have f0 : (flags [6, 7, 12, 13, 16, 19] listed).getD 0 false = true := done_true (dep_of hd 6 (by kernel_rfl))
          have f1 : (flags [6, 7, 12, 13, 16, 19] listed).getD 1 false = false := hl
          have f4 : (flags [6, 7, 12, 13, 16, 19] listed).getD 4 false = false := H.notyets 8 hl (by kernel_rfl)
          obtain ⟨A9, c9, W9, hr, hk⟩ := hj.append1 f0 f1 f4
          rw [← flags_put (m := 7) 1 rfl (by decide), ← slots_at (a := a) (d := 36) 1 rfl (by decide) (by rw [H.size]; exact of_decide_eq_true (by kernel_rfl))] at hk
          exact step7_value (i := 7) rfl rfl (run_op_append rfl t34 rfl hr) hk trivial
        · intro listed a W H hj hl hd
          have t5 : a.tmps.getD 5 undef = .pointer (some ⟨g, 0, none⟩) := (H.old 5 (by kernel_rfl)).trans rfl
          exact step7_value (i := 8) rfl rfl (run_op_move rfl t5) (calm7 (fun fs vs x y h hl => J2.later h hl) (by kernel_rfl) (by kernel_rfl) hj (later_refl _)) rfl
        · intro listed a W H hj hl hd
          have t37 : a.tmps.getD 37 undef = .pointer (some ⟨g, 0, none⟩) := H.get 8 37 (by kernel_rfl) (dep_of hd 8 (by kernel_rfl)) (fun _ h => by cases h)
          exact step7_value (i := 9) rfl rfl (run_op_nilCheck rfl t37) (calm7 (fun fs vs x y h hl => J2.later h hl) (by kernel_rfl) (by kernel_rfl) hj (later_refl _)) rfl
        · intro listed a W H hj hl hd
          have t38 : a.tmps.getD 38 undef = .pointer (some ⟨g, 0, none⟩) := H.get 9 38 (by kernel_rfl) (dep_of hd 9 (by kernel_rfl)) (fun _ h => by cases h)
          exact step7_value (i := 10) rfl rfl (run_op_fieldAddr rfl t38 (run_field_y g 1 (by decide) W)) (calm7 (fun fs vs x y h hl => J2.later h hl) (by kernel_rfl) (by kernel_rfl) hj (later_refl _)) rfl
        · intro listed a W H hj hl hd
          have t39 : a.tmps.getD 39 undef = .pointer (some ⟨g, 1, none⟩) := H.get 10 39 (by kernel_rfl) (dep_of hd 10 (by kernel_rfl)) (fun _ h => by cases h)
          have f5 : (flags [6, 7, 12, 13, 16, 19] listed).getD 5 false = false := H.notyets 8 hl (by kernel_rfl)
          have hc : W.cell? ⟨g, 1, none⟩ = some (.slice L.AT i L.cT) := hj.cell2 f5
          exact step7_value (i := 11) rfl rfl (run_op_load rfl t39 (run_load_i _ _ _ _ W hc)) (calm7 (fun fs vs x y h hl => J2.later h hl) (by kernel_rfl) (by kernel_rfl) hj (later_refl _)) rfl
        · intro listed a W H hj hl hd
          have f2 : (flags [6, 7, 12, 13, 16, 19] listed).getD 2 false = false := hl
          have f3 : (flags [6, 7, 12, 13, 16, 19] listed).getD 3 false = false := H.notyets 4 hl (by kernel_rfl)
          have hk := hj.build2 f2 f3 #[.int .i64 0] rfl
          rw [← flags_put (m := 12) 2 rfl (by decide), ← slots_at (a := a) (d := 41) 2 rfl (by decide) (by rw [H.size]; exact of_decide_eq_true (by kernel_rfl))] at hk
          exact step7_value (i := 12) rfl rfl (run_op_build rfl (by simp only [List.map_toArray, List.map_cons, List.map_nil]; exact run_build_i 0 W)) hk trivial
        · intro listed a W H hj hl hd
          have t40 : a.tmps.getD 40 undef = .slice L.AT i L.cT := H.get 11 40 (by kernel_rfl) (dep_of hd 11 (by kernel_rfl)) (fun _ h => by cases h)
          have d41 : listed.getD 12 false = true := dep_of hd 12 (by kernel_rfl)
          have f2 : (flags [6, 7, 12, 13, 16, 19] listed).getD 2 false = true := done_true (dep_of hd 12 (by kernel_rfl))
          have f3 : (flags [6, 7, 12, 13, 16, 19] listed).getD 3 false = false := hl
          have f5 : (flags [6, 7, 12, 13, 16, 19] listed).getD 5 false = false := H.notyets 8 hl (by kernel_rfl)
          obtain ⟨A9, c9, W9, hr, hk⟩ := hj.append2 f2 f3 f5
          rw [← flags_put (m := 13) 3 rfl (by decide), ← slots_at (a := a) (d := 42) 3 rfl (by decide) (by rw [H.size]; exact of_decide_eq_true (by kernel_rfl))] at hk
          exact step7_value (i := 13) rfl rfl (run_op_append rfl t40 rfl hr) hk trivial
        · intro listed a W H hj hl hd
          have t29 : a.tmps.getD 29 undef = .pointer (some ⟨g, 0, none⟩) := H.get 0 29 (by kernel_rfl) (dep_of hd 0 (by kernel_rfl)) (fun _ h => by cases h)
          exact step7_value (i := 14) rfl rfl (run_op_nilCheck rfl t29) (calm7 (fun fs vs x y h hl => J2.later h hl) (by kernel_rfl) (by kernel_rfl) hj (later_refl _)) rfl
        · intro listed a W H hj hl hd
          have t43 : a.tmps.getD 43 undef = .pointer (some ⟨g, 0, none⟩) := H.get 14 43 (by kernel_rfl) (dep_of hd 14 (by kernel_rfl)) (fun _ h => by cases h)
          exact step7_value (i := 15) rfl rfl (run_op_fieldAddr rfl t43 (run_field_y g 0 (by decide) W)) (calm7 (fun fs vs x y h hl => J2.later h hl) (by kernel_rfl) (by kernel_rfl) hj (later_refl _)) rfl
        · intro listed a W H hj hl hd
          have t44 : a.tmps.getD 44 undef = .pointer (some ⟨g, 0, none⟩) := H.get 15 44 (by kernel_rfl) (dep_of hd 15 (by kernel_rfl)) (fun _ h => by cases h)
          have d36 : listed.getD 7 false = true := dep_of hd 7 (by kernel_rfl)
          have f1 : (flags [6, 7, 12, 13, 16, 19] listed).getD 1 false = true := done_true (H.dones 6 (dep_of hd 7 (by kernel_rfl)) (by kernel_rfl))
          have f4 : (flags [6, 7, 12, 13, 16, 19] listed).getD 4 false = false := hl
          obtain ⟨A9, c9, hv⟩ := hj.value1 f1
          obtain ⟨⟨u9, hc9⟩, hf9⟩ := hj.free1
          have hk := hj.store1 f4
          have hv2 : a.tmps.getD 36 undef = .slice A9 (i + 1) c9 := hv
          rw [← flags_put (m := 16) 4 rfl (by decide), show (slots [35, 36, 41, 42] a).getD 1 undef = .slice A9 (i + 1) c9 from hv] at hk
          exact step7_done (i := 16) rfl rfl rfl (run_op_store rfl t44 hv2 (run_store_i _ _ _ _ _ W hc9 hf9)) hk trivial
        · intro listed a W H hj hl hd
          have t30 : a.tmps.getD 30 undef = .pointer (some ⟨g, 0, none⟩) := H.get 1 30 (by kernel_rfl) (dep_of hd 1 (by kernel_rfl)) (fun _ h => by cases h)
          exact step7_value (i := 17) rfl rfl (run_op_nilCheck rfl t30) (calm7 (fun fs vs x y h hl => J2.later h hl) (by kernel_rfl) (by kernel_rfl) hj (later_refl _)) rfl
        · intro listed a W H hj hl hd
          have t45 : a.tmps.getD 45 undef = .pointer (some ⟨g, 0, none⟩) := H.get 17 45 (by kernel_rfl) (dep_of hd 17 (by kernel_rfl)) (fun _ h => by cases h)
          exact step7_value (i := 18) rfl rfl (run_op_fieldAddr rfl t45 (run_field_y g 1 (by decide) W)) (calm7 (fun fs vs x y h hl => J2.later h hl) (by kernel_rfl) (by kernel_rfl) hj (later_refl _)) rfl
        · intro listed a W H hj hl hd
          have t46 : a.tmps.getD 46 undef = .pointer (some ⟨g, 1, none⟩) := H.get 18 46 (by kernel_rfl) (dep_of hd 18 (by kernel_rfl)) (fun _ h => by cases h)
          have d42 : listed.getD 13 false = true := dep_of hd 13 (by kernel_rfl)
          have f3 : (flags [6, 7, 12, 13, 16, 19] listed).getD 3 false = true := done_true (H.dones 6 (dep_of hd 13 (by kernel_rfl)) (by kernel_rfl))
          have f5 : (flags [6, 7, 12, 13, 16, 19] listed).getD 5 false = false := hl
          obtain ⟨A9, c9, hv⟩ := hj.value2 f3
          obtain ⟨⟨u9, hc9⟩, hf9⟩ := hj.free2
          have hk := hj.store2 f5
          have hv2 : a.tmps.getD 42 undef = .slice A9 (i + 1) c9 := hv
          rw [← flags_put (m := 19) 5 rfl (by decide), show (slots [35, 36, 41, 42] a).getD 3 undef = .slice A9 (i + 1) c9 from hv] at hk
          exact step7_done (i := 19) rfl rfl rfl (run_op_store rfl t46 hv2 (run_store_i _ _ _ _ _ W hc9 hf9)) hk trivial
      · intro a WC hdef hsz hw hall hact
        obtain ⟨u, hu⟩ : ∃ u : Nat → Value, ∀ k, a.tmps.getD k undef = u k := ⟨_, fun _ => rfl⟩
        simp only [hu] at hact
        have hact' : a = ([29, 30, 31, 32, 33, 34, 35, 36, 37, 38, 39, 40, 41, 42, 43, 44, 45, 46] : List Nat).foldl (fun b k => b.put (some k) (u k)) _ := hact
        simp only [List.foldl] at hact'
        simp only [Act.put, List.setIfInBounds_toArray, List.set_cons_succ, List.set_cons_zero] at hact'
        have HAC := Lib.hid hact'
        have HX := Lib.hid hw
        clear hact hact' hall hdef hsz hw
        rw [HAC.out]
        obtain ⟨L2, r1⟩ := j7_done PD.out HX.out
        have P2 := Lib.hid r1
        have B2 : Hid (Below w.heap.size w WC) := (HX.out.turn.chain BD.out (fun b hb => by
          rcases hb with rfl | hb
          · exact PD.out.base_le
          · exact hb.1) PD.out.base_lt)
        clear r1 HX HP HB PD BD HWD HDL hu
        go_wp2_with fail
        obtain ⟨WE, HWE⟩ : ∃ W, Hid (W = WC.drew) := ⟨_, rfl⟩
        have HEL : Hid (Later WC WE) := by rw [HWE.out]; exact (Below.refl _ _).drew
        have PE := Lib.hid (P2.out.since HEL.out)
        have BE := Lib.hid (below_chain B2.out HEL.out)
        clear P2 B2
        refine region_of_steps7 (by kernel_rfl) [some (.pointer (some ⟨g, 0, none⟩)), some (.pointer (some ⟨g, 0, none⟩)), some (.pointer (some ⟨g, 0, none⟩)), some (.pointer (some ⟨g, 0, none⟩)), some (.pointer (some ⟨g, 2, none⟩)), some (.slice L2.AN i L2.cN), some (.int .i64 (P : Int)), none, none, none, some (.pointer (some ⟨g, 0, none⟩)), some (.pointer (some ⟨g, 0, none⟩)), some (.pointer (some ⟨g, 3, none⟩)), some (.slice L2.AD i L2.cD), some (.int .i64 (P : Int)), none, none, none, some (.pointer (some ⟨g, 0, none⟩)), some (.pointer (some ⟨g, 2, none⟩)), none, some (.pointer (some ⟨g, 0, none⟩)), some (.pointer (some ⟨g, 3, none⟩)), none] [8, 9, 16, 17, 20, 23, 7, 15] [55, 56, 63, 64, 54, 62] (J8 WE w.heap.size g i P L2) (by kernel_rfl) (by kernel_rfl) (by rw [← HWE.out]; exact j8_start PE.out (by omega) (by rw [slots_len]; rfl)) ?_ ?_
        · refine Steps7.cons ?_ (Steps7.cons ?_ (Steps7.cons ?_ (Steps7.cons ?_ (Steps7.cons ?_ (Steps7.cons ?_ (Steps7.cons ?_ (Steps7.cons ?_ (Steps7.cons ?_ (Steps7.cons ?_ (Steps7.cons ?_ (Steps7.cons ?_ (Steps7.cons ?_ (Steps7.cons ?_ (Steps7.cons ?_ (Steps7.cons ?_ (Steps7.cons ?_ (Steps7.cons ?_ (Steps7.cons ?_ (Steps7.cons ?_ (Steps7.cons ?_ (Steps7.cons ?_ (Steps7.cons ?_ (Steps7.cons ?_ (Steps7.nil))))))))))))))))))))))))
          · intro listed a W H hj hl hd
            have t5 : a.tmps.getD 5 undef = .pointer (some ⟨g, 0, none⟩) := (H.old 5 (by kernel_rfl)).trans rfl
            exact step7_value (i := 0) rfl rfl (run_op_move rfl t5) (calm7 (fun fs vs x y h hl => J8.later h hl) (by kernel_rfl) (by kernel_rfl) hj (later_refl _)) rfl
          · intro listed a W H hj hl hd
            have t5 : a.tmps.getD 5 undef = .pointer (some ⟨g, 0, none⟩) := (H.old 5 (by kernel_rfl)).trans rfl
            exact step7_value (i := 1) rfl rfl (run_op_move rfl t5) (calm7 (fun fs vs x y h hl => J8.later h hl) (by kernel_rfl) (by kernel_rfl) hj (later_refl _)) rfl
          · intro listed a W H hj hl hd
            have t5 : a.tmps.getD 5 undef = .pointer (some ⟨g, 0, none⟩) := (H.old 5 (by kernel_rfl)).trans rfl
            exact step7_value (i := 2) rfl rfl (run_op_move rfl t5) (calm7 (fun fs vs x y h hl => J8.later h hl) (by kernel_rfl) (by kernel_rfl) hj (later_refl _)) rfl
          · intro listed a W H hj hl hd
            have t49 : a.tmps.getD 49 undef = .pointer (some ⟨g, 0, none⟩) := H.get 2 49 (by kernel_rfl) (dep_of hd 2 (by kernel_rfl)) (fun _ h => by cases h)
            exact step7_value (i := 3) rfl rfl (run_op_nilCheck rfl t49) (calm7 (fun fs vs x y h hl => J8.later h hl) (by kernel_rfl) (by kernel_rfl) hj (later_refl _)) rfl
          · intro listed a W H hj hl hd
            have t50 : a.tmps.getD 50 undef = .pointer (some ⟨g, 0, none⟩) := H.get 3 50 (by kernel_rfl) (dep_of hd 3 (by kernel_rfl)) (fun _ h => by cases h)
            exact step7_value (i := 4) rfl rfl (run_op_fieldAddr rfl t50 (run_field_y g 2 (by decide) W)) (calm7 (fun fs vs x y h hl => J8.later h hl) (by kernel_rfl) (by kernel_rfl) hj (later_refl _)) rfl
          · intro listed a W H hj hl hd
            have t51 : a.tmps.getD 51 undef = .pointer (some ⟨g, 2, none⟩) := H.get 4 51 (by kernel_rfl) (dep_of hd 4 (by kernel_rfl)) (fun _ h => by cases h)
            obtain ⟨m1, m2, hj2, hj3⟩ := hj
            have hj : J8 WE w.heap.size g i P L2 (flags [8, 9, 16, 17, 20, 23, 7, 15] listed) (slots [55, 56, 63, 64, 54, 62] a) W := ⟨m1, m2, hj2, hj3⟩
            have f4 : (flags [8, 9, 16, 17, 20, 23, 7, 15] listed).getD 4 false = false := H.notyets 8 hl (by kernel_rfl)
            have hc : W.cell? ⟨g, 2, none⟩ = some (.slice L2.AN i L2.cN) := hj2.cell1 f4
            exact step7_value (i := 5) rfl rfl (run_op_load rfl t51 (run_load_b _ _ _ _ W hc)) (calm7 (fun fs vs x y h hl => J8.later h hl) (by kernel_rfl) (by kernel_rfl) hj (later_refl _)) rfl
          · intro listed a W H hj hl hd
            have t1 : a.tmps.getD 1 undef = .int .i64 (P : Int) := (H.old 1 (by kernel_rfl)).trans rfl
            exact step7_value (i := 6) rfl rfl (run_op_move rfl t1) (calm7 (fun fs vs x y h hl => J8.later h hl) (by kernel_rfl) (by kernel_rfl) hj (later_refl _)) rfl
          · intro listed a W H hj hl hd
            have t53 : a.tmps.getD 53 undef = .int .i64 (P : Int) := H.get 6 53 (by kernel_rfl) (dep_of hd 6 (by kernel_rfl)) (fun _ h => by cases h)
            have f6 : (flags [8, 9, 16, 17, 20, 23, 7, 15] listed).getD 6 false = false := hl
            have f0 : (flags [8, 9, 16, 17, 20, 23, 7, 15] listed).getD 0 false = false := H.notyets 4 hl (by kernel_rfl)
            have f1 : (flags [8, 9, 16, 17, 20, 23, 7, 15] listed).getD 1 false = false := H.notyets 4 hl (by kernel_rfl)
            have hk := J8.make1 hj f6 f0 f1
            rw [← flags_put (m := 7) 6 rfl (by decide), ← slots_at (a := a) (d := 54) 4 rfl (by decide) (by rw [H.size]; exact of_decide_eq_true (by kernel_rfl))] at hk
            exact step7_value (i := 7) rfl rfl (run_op_makeS rfl t53 t53 (run_make_bits P hP8 W)) hk trivial
          · intro listed a W H hj hl hd
            have d54 : listed.getD 7 false = true := dep_of hd 7 (by kernel_rfl)
            have f6 : (flags [8, 9, 16, 17, 20, 23, 7, 15] listed).getD 6 false = true := done_true (dep_of hd 7 (by kernel_rfl))
            have f0 : (flags [8, 9, 16, 17, 20, 23, 7, 15] listed).getD 0 false = false := hl
            have f1 : (flags [8, 9, 16, 17, 20, 23, 7, 15] listed).getD 1 false = false := H.notyets 4 hl (by kernel_rfl)
            obtain ⟨mm, hmm, hk⟩ := J8.build1 hj f6 f0 f1
            have t54 : a.tmps.getD 54 undef = .slice (some ⟨mm, 0, none⟩) P P := hmm
            rw [← flags_put (m := 8) 0 rfl (by decide), ← slots_at (a := a) (d := 55) 0 rfl (by decide) (by rw [H.size]; exact of_decide_eq_true (by kernel_rfl))] at hk
            exact step7_value (i := 8) rfl rfl (run_op_build rfl (by simp only [List.map_toArray, List.map_cons, List.map_nil]; show (Instr.buildSlice 72 1 #[(0, a.tmps.getD 54 undef)]).run _ _ = _; rw [t54]; exact run_build_b _ _ _ W)) hk trivial
          · intro listed a W H hj hl hd
            have t52 : a.tmps.getD 52 undef = .slice L2.AN i L2.cN := H.get 5 52 (by kernel_rfl) (dep_of hd 5 (by kernel_rfl)) (fun _ h => by cases h)
            have d55 : listed.getD 8 false = true := dep_of hd 8 (by kernel_rfl)
            have f0 : (flags [8, 9, 16, 17, 20, 23, 7, 15] listed).getD 0 false = true := done_true (dep_of hd 8 (by kernel_rfl))
            have f1 : (flags [8, 9, 16, 17, 20, 23, 7, 15] listed).getD 1 false = false := hl
            have f4 : (flags [8, 9, 16, 17, 20, 23, 7, 15] listed).getD 4 false = false := H.notyets 8 hl (by kernel_rfl)
            obtain ⟨A9, c9, W9, hr, hk⟩ := J8.append1 hj f0 f1 f4
            rw [← flags_put (m := 9) 1 rfl (by decide), ← slots_at (a := a) (d := 56) 1 rfl (by decide) (by rw [H.size]; exact of_decide_eq_true (by kernel_rfl))] at hk
            exact step7_value (i := 9) rfl rfl (run_op_append rfl t52 rfl hr) hk trivial
          · intro listed a W H hj hl hd
            have t5 : a.tmps.getD 5 undef = .pointer (some ⟨g, 0, none⟩) := (H.old 5 (by kernel_rfl)).trans rfl
            exact step7_value (i := 10) rfl rfl (run_op_move rfl t5) (calm7 (fun fs vs x y h hl => J8.later h hl) (by kernel_rfl) (by kernel_rfl) hj (later_refl _)) rfl
          · intro listed a W H hj hl hd
            have t57 : a.tmps.getD 57 undef = .pointer (some ⟨g, 0, none⟩) := H.get 10 57 (by kernel_rfl) (dep_of hd 10 (by kernel_rfl)) (fun _ h => by cases h)
            exact step7_value (i := 11) rfl rfl (run_op_nilCheck rfl t57) (calm7 (fun fs vs x y h hl => J8.later h hl) (by kernel_rfl) (by kernel_rfl) hj (later_refl _)) rfl
          · intro listed a W H hj hl hd
            have t58 : a.tmps.getD 58 undef = .pointer (some ⟨g, 0, none⟩) := H.get 11 58 (by kernel_rfl) (dep_of hd 11 (by kernel_rfl)) (fun _ h => by cases h)
            exact step7_value (i := 12) rfl rfl (run_op_fieldAddr rfl t58 (run_field_y g 3 (by decide) W)) (calm7 (fun fs vs x y h hl => J8.later h hl) (by kernel_rfl) (by kernel_rfl) hj (later_refl _)) rfl
          · intro listed a W H hj hl hd
            have t59 : a.tmps.getD 59 undef = .pointer (some ⟨g, 3, none⟩) := H.get 12 59 (by kernel_rfl) (dep_of hd 12 (by kernel_rfl)) (fun _ h => by cases h)
            obtain ⟨m1, m2, hj2, hj3⟩ := hj
            have hj : J8 WE w.heap.size g i P L2 (flags [8, 9, 16, 17, 20, 23, 7, 15] listed) (slots [55, 56, 63, 64, 54, 62] a) W := ⟨m1, m2, hj2, hj3⟩
            have f5 : (flags [8, 9, 16, 17, 20, 23, 7, 15] listed).getD 5 false = false := H.notyets 8 hl (by kernel_rfl)
            have hc : W.cell? ⟨g, 3, none⟩ = some (.slice L2.AD i L2.cD) := hj2.cell2 f5
            exact step7_value (i := 13) rfl rfl (run_op_load rfl t59 (run_load_b _ _ _ _ W hc)) (calm7 (fun fs vs x y h hl => J8.later h hl) (by kernel_rfl) (by kernel_rfl) hj (later_refl _)) rfl
          · intro listed a W H hj hl hd
            have t1 : a.tmps.getD 1 undef = .int .i64 (P : Int) := (H.old 1 (by kernel_rfl)).trans rfl
            exact step7_value (i := 14) rfl rfl (run_op_move rfl t1) (calm7 (fun fs vs x y h hl => J8.later h hl) (by kernel_rfl) (by kernel_rfl) hj (later_refl _)) rfl
          · intro listed a W H hj hl hd
            have t61 : a.tmps.getD 61 undef = .int .i64 (P : Int) := H.get 14 61 (by kernel_rfl) (dep_of hd 14 (by kernel_rfl)) (fun _ h => by cases h)
            have f7 : (flags [8, 9, 16, 17, 20, 23, 7, 15] listed).getD 7 false = false := hl
            have f2 : (flags [8, 9, 16, 17, 20, 23, 7, 15] listed).getD 2 false = false := H.notyets 4 hl (by kernel_rfl)
            have f3 : (flags [8, 9, 16, 17, 20, 23, 7, 15] listed).getD 3 false = false := H.notyets 4 hl (by kernel_rfl)
            have hk := J8.make2 hj f7 f2 f3
            rw [← flags_put (m := 15) 7 rfl (by decide), ← slots_at (a := a) (d := 62) 5 rfl (by decide) (by rw [H.size]; exact of_decide_eq_true (by kernel_rfl))] at hk
            exact step7_value (i := 15) rfl rfl (run_op_makeS rfl t61 t61 (run_make_bits P hP8 W)) hk trivial
          · intro listed a W H hj hl hd
            have d62 : listed.getD 15 false = true := dep_of hd 15 (by kernel_rfl)
            have f7 : (flags [8, 9, 16, 17, 20, 23, 7, 15] listed).getD 7 false = true := done_true (dep_of hd 15 (by kernel_rfl))
            have f2 : (flags [8, 9, 16, 17, 20, 23, 7, 15] listed).getD 2 false = false := hl
            have f3 : (flags [8, 9, 16, 17, 20, 23, 7, 15] listed).getD 3 false = false := H.notyets 4 hl (by kernel_rfl)
            obtain ⟨mm, hmm, hk⟩ := J8.build2 hj f7 f2 f3
            have t62 : a.tmps.getD 62 undef = .slice (some ⟨mm, 0, none⟩) P P := hmm
            rw [← flags_put (m := 16) 2 rfl (by decide), ← slots_at (a := a) (d := 63) 2 rfl (by decide) (by rw [H.size]; exact of_decide_eq_true (by kernel_rfl))] at hk
            exact step7_value (i := 16) rfl rfl (run_op_build rfl (by simp only [List.map_toArray, List.map_cons, List.map_nil]; show (Instr.buildSlice 72 1 #[(0, a.tmps.getD 62 undef)]).run _ _ = _; rw [t62]; exact run_build_b _ _ _ W)) hk trivial
          · intro listed a W H hj hl hd
            have t60 : a.tmps.getD 60 undef = .slice L2.AD i L2.cD := H.get 13 60 (by kernel_rfl) (dep_of hd 13 (by kernel_rfl)) (fun _ h => by cases h)
            have d63 : listed.getD 16 false = true := dep_of hd 16 (by kernel_rfl)
            have f2 : (flags [8, 9, 16, 17, 20, 23, 7, 15] listed).getD 2 false = true := done_true (dep_of hd 16 (by kernel_rfl))
            have f3 : (flags [8, 9, 16, 17, 20, 23, 7, 15] listed).getD 3 false = false := hl
            have f5 : (flags [8, 9, 16, 17, 20, 23, 7, 15] listed).getD 5 false = false := H.notyets 8 hl (by kernel_rfl)
            obtain ⟨A9, c9, W9, hr, hk⟩ := J8.append2 hj f2 f3 f5
            rw [← flags_put (m := 17) 3 rfl (by decide), ← slots_at (a := a) (d := 64) 3 rfl (by decide) (by rw [H.size]; exact of_decide_eq_true (by kernel_rfl))] at hk
            exact step7_value (i := 17) rfl rfl (run_op_append rfl t60 rfl hr) hk trivial
          · intro listed a W H hj hl hd
            have t47 : a.tmps.getD 47 undef = .pointer (some ⟨g, 0, none⟩) := H.get 0 47 (by kernel_rfl) (dep_of hd 0 (by kernel_rfl)) (fun _ h => by cases h)
            exact step7_value (i := 18) rfl rfl (run_op_nilCheck rfl t47) (calm7 (fun fs vs x y h hl => J8.later h hl) (by kernel_rfl) (by kernel_rfl) hj (later_refl _)) rfl
          · intro listed a W H hj hl hd
            have t65 : a.tmps.getD 65 undef = .pointer (some ⟨g, 0, none⟩) := H.get 18 65 (by kernel_rfl) (dep_of hd 18 (by kernel_rfl)) (fun _ h => by cases h)
            exact step7_value (i := 19) rfl rfl (run_op_fieldAddr rfl t65 (run_field_y g 2 (by decide) W)) (calm7 (fun fs vs x y h hl => J8.later h hl) (by kernel_rfl) (by kernel_rfl) hj (later_refl _)) rfl
          · intro listed a W H hj hl hd
            have t66 : a.tmps.getD 66 undef = .pointer (some ⟨g, 2, none⟩) := H.get 19 66 (by kernel_rfl) (dep_of hd 19 (by kernel_rfl)) (fun _ h => by cases h)
            have d56 : listed.getD 9 false = true := dep_of hd 9 (by kernel_rfl)
            obtain ⟨m1, m2, hj2, hj3⟩ := hj
            have hj : J8 WE w.heap.size g i P L2 (flags [8, 9, 16, 17, 20, 23, 7, 15] listed) (slots [55, 56, 63, 64, 54, 62] a) W := ⟨m1, m2, hj2, hj3⟩
            have f1 : (flags [8, 9, 16, 17, 20, 23, 7, 15] listed).getD 1 false = true := done_true (H.dones 6 (dep_of hd 9 (by kernel_rfl)) (by kernel_rfl))
            have f4 : (flags [8, 9, 16, 17, 20, 23, 7, 15] listed).getD 4 false = false := hl
            obtain ⟨A9, c9, hv⟩ := hj2.value1 f1
            obtain ⟨⟨u9, hc9⟩, hf9⟩ := hj2.free1
            have hk := hj.store1 f4
            have hv2 : a.tmps.getD 56 undef = .slice A9 (i + 1) c9 := hv
            rw [← flags_put (m := 20) 4 rfl (by decide), show (slots [55, 56, 63, 64, 54, 62] a).getD 1 undef = .slice A9 (i + 1) c9 from hv] at hk
            exact step7_done (i := 20) rfl rfl rfl (run_op_store rfl t66 hv2 (run_store_b _ _ _ _ _ W hc9 hf9)) hk trivial
          · intro listed a W H hj hl hd
            have t48 : a.tmps.getD 48 undef = .pointer (some ⟨g, 0, none⟩) := H.get 1 48 (by kernel_rfl) (dep_of hd 1 (by kernel_rfl)) (fun _ h => by cases h)
            exact step7_value (i := 21) rfl rfl (run_op_nilCheck rfl t48) (calm7 (fun fs vs x y h hl => J8.later h hl) (by kernel_rfl) (by kernel_rfl) hj (later_refl _)) rfl
          · intro listed a W H hj hl hd
            have t67 : a.tmps.getD 67 undef = .pointer (some ⟨g, 0, none⟩) := H.get 21 67 (by kernel_rfl) (dep_of hd 21 (by kernel_rfl)) (fun _ h => by cases h)
            exact step7_value (i := 22) rfl rfl (run_op_fieldAddr rfl t67 (run_field_y g 3 (by decide) W)) (calm7 (fun fs vs x y h hl => J8.later h hl) (by kernel_rfl) (by kernel_rfl) hj (later_refl _)) rfl
          · intro listed a W H hj hl hd
            have t68 : a.tmps.getD 68 undef = .pointer (some ⟨g, 3, none⟩) := H.get 22 68 (by kernel_rfl) (dep_of hd 22 (by kernel_rfl)) (fun _ h => by cases h)
            have d64 : listed.getD 17 false = true := dep_of hd 17 (by kernel_rfl)
            obtain ⟨m1, m2, hj2, hj3⟩ := hj
            have hj : J8 WE w.heap.size g i P L2 (flags [8, 9, 16, 17, 20, 23, 7, 15] listed) (slots [55, 56, 63, 64, 54, 62] a) W := ⟨m1, m2, hj2, hj3⟩
            have f3 : (flags [8, 9, 16, 17, 20, 23, 7, 15] listed).getD 3 false = true := done_true (H.dones 6 (dep_of hd 17 (by kernel_rfl)) (by kernel_rfl))
            have f5 : (flags [8, 9, 16, 17, 20, 23, 7, 15] listed).getD 5 false = false := hl
            obtain ⟨A9, c9, hv⟩ := hj2.value2 f3
            obtain ⟨⟨u9, hc9⟩, hf9⟩ := hj2.free2
            have hk := hj.store2 f5
            have hv2 : a.tmps.getD 64 undef = .slice A9 (i + 1) c9 := hv
            rw [← flags_put (m := 23) 5 rfl (by decide), show (slots [55, 56, 63, 64, 54, 62] a).getD 3 undef = .slice A9 (i + 1) c9 from hv] at hk
            exact step7_done (i := 23) rfl rfl rfl (run_op_store rfl t68 hv2 (run_store_b _ _ _ _ _ W hc9 hf9)) hk trivial
        · intro a WC hdef hsz hw hall hact
          obtain ⟨u, hu⟩ : ∃ u : Nat → Value, ∀ k, a.tmps.getD k undef = u k := ⟨_, fun _ => rfl⟩
          simp only [hu] at hact
          have hact' : a = ([47, 48, 49, 50, 51, 52, 53, 54, 55, 56, 57, 58, 59, 60, 61, 62, 63, 64, 65, 66, 67, 68] : List Nat).foldl (fun b k => b.put (some k) (u k)) _ := hact
          simp only [List.foldl] at hact'
          simp only [Act.put, List.setIfInBounds_toArray, List.set_cons_succ, List.set_cons_zero] at hact'
          have HAC := Lib.hid hact'
          have HX := Lib.hid hw
          clear hact hact' hall hdef hsz hw
          rw [HAC.out]
          obtain ⟨L3, r1⟩ := j8_done PE.out HX.out
          have P3 := Lib.hid r1
          have B3 : Hid (Below w.heap.size w WC) := by
            obtain ⟨m1, m2, q1, _⟩ := HX.out
            exact q1.turn.chain BE.out (fun b hb => by
              rcases hb with rfl | hb
              · exact PE.out.base_le
              · exact hb.1) PE.out.base_lt
          clear r1 HX PE BE HWE HEL hu
          go_wp2_with fail
          go_roundw
          case rel => exact ⟨i + 1, L3, by go_num, by omega, P3, B3⟩
          case measure => simp [intOf]; omega
    · obtain rfl : i = n := by omega
      go_wp2_with fail
      go_ret
      have hr := HP.out.yard hn32 hP8
      have hsz := HB.out.size
      refine ⟨g, fun b => w.heap.size ≤ b ∧ b < Wa.heap.size, rfl, ⟨⟨L, hr, ?_⟩, ⟨HP.out.base_le, HP.out.lt⟩, fun b hb => hb.1, fun b hb => hb.2, fresh_yw hn1 hn32 hP1 hP8⟩, HB.out⟩
      have hl : (freshY i P).S.length = i := by simp [freshY]
      rw [hl]
      exact ⟨fun b hb => ⟨Row.blk_ge HP.out.sr b hb, Row.blk_lt HP.out.sr b hb⟩, fun b hb => ⟨Row.blk_ge HP.out.tr b hb, Row.blk_lt HP.out.tr b hb⟩, fun b hb => ⟨Row.blk_ge HP.out.nr b hb, Row.blk_lt HP.out.nr b hb⟩, fun b hb => ⟨Row.blk_ge HP.out.dr b hb, Row.blk_lt HP.out.dr b hb⟩,
        fun k hk => ⟨(HP.out.nb k hk).1, (Array.getElem?_eq_some_iff.1 (HP.out.nb k hk).2).1⟩, fun k hk => ⟨(HP.out.db k hk).1, (Array.getElem?_eq_some_iff.1 (HP.out.db k hk).2).1⟩⟩
end
end Go.Proofs.Ytmfpelgkjgpfmaa
