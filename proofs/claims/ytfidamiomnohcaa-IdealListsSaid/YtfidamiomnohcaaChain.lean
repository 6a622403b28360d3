/- A row that is appended to within a region that draws its order: one element is laid, the row is appended to, in that order, while other rows do the same. No conditions. -/
import Derived.Test.YtfidamiomnohcaaRegion7
import Derived.Test.YtfidamiomnohcaaTurn
set_option linter.unusedVariables false
set_option linter.unusedSimpArgs false
set_option maxRecDepth 20000
namespace Go.Proofs.Ytfidamiomnohcaa
open Go.RowKit

theorem lie_at_blk {α : Type} {K : Kind α} {w w' : World} {B B' n : Nat} {A : Option Addr} {vs : List α} (h : K.Lie w B A n vs) (hB : B ≤ B') (hb : ∀ b ∈ blk A, w'.heap[b]? = w.heap[b]?) : K.Lie w' B' A n vs :=
  ⟨h.len, fun i hi => by
    obtain ⟨ad, rfl, e2, e3⟩ := h.each i hi
    exact ⟨ad, rfl, Nat.lt_of_lt_of_le e2 hB, e3.kept fun q hq => same_cell (hb ad.block (by simp [blk])) (hq.trans (addr_block _ _))⟩, h.wf⟩
/-- The row is appended to: fb: the element is laid, fa: it is appended; vb, va: what both left; f: the blocks of all that. -/
structure Ch {α : Type} (K : Kind α) (base : Nat) (A : Option Addr) (n c : Nat) (us : List α) (v : α) (fb fa : Bool) (vb va : Value) (f : Nat → Prop) (W : World) : Prop where
  old : fa = false → K.Row W base A n c us ∧ ∀ b ∈ blk A, f b
  lit : fb = true → fa = false → ∃ gb, vb = .slice (some ⟨gb, 0, none⟩) 1 1 ∧ K.Lie W W.heap.size (some ⟨gb, 0, none⟩) 1 [v] ∧ f gb ∧ gb ∉ blk A
  new : fa = true → ∃ A' c', va = .slice A' (n + 1) c' ∧ K.Row W base A' (n + 1) c' (us ++ [v]) ∧ ∀ b ∈ blk A', f b
  typed : ∀ b, f b → base ≤ b ∧ ∃ cur, W.heap[b]? = some (.cells cur K.T (0, 0))
section
variable {α : Type} {K : Kind α} {base n c : Nat} {A : Option Addr} {us : List α} {v : α} {fb fa : Bool} {vb va : Value} {f fq : Nat → Prop} {W W' : World}
theorem Ch.lt (h : Ch K base A n c us v fb fa vb va f W) : ∀ b, f b → b < W.heap.size := fun b hb => by
  obtain ⟨_, cur, hc⟩ := h.typed b hb
  exact (Array.getElem?_eq_some_iff.1 hc).1
theorem Ch.turn (h : Ch K base A n c us v fb fa vb va f W) (ht : Turn fq W W') (hd : Two fq f) : Ch K base A n c us v fb fa vb va f W' := by
  have hb : ∀ b, f b → W'.heap[b]? = W.heap[b]? := fun b hb => ht.block b (h.lt b hb) fun hq => hd b hq hb
  refine ⟨fun h1 => ?_, fun h1 h2 => ?_, fun h1 => ?_, fun b hf => ?_⟩
  · obtain ⟨h2, h3⟩ := h.old h1
    exact ⟨Row.at_block h2 fun b hm => hb b (h3 b hm), h3⟩
  · obtain ⟨gb, h3, h4, h5, h6⟩ := h.lit h1 h2
    have hgb : ∀ b ∈ blk (some (⟨gb, 0, none⟩ : Addr)), W'.heap[b]? = W.heap[b]? := fun b hm => by
      have e : b = gb := by simpa [blk] using hm
      rw [e]; exact hb gb h5
    exact ⟨gb, h3, lie_at_blk h4 ht.size hgb, h5, h6⟩
  · obtain ⟨A', c', h2, h3, h4⟩ := h.new h1
    exact ⟨A', c', h2, Row.at_block h3 fun b hm => hb b (h4 b hm), h4⟩
  · obtain ⟨h1, cur, h2⟩ := h.typed b hf
    exact ⟨h1, cur, (hb b hf).trans h2⟩
theorem Ch.later (h : Ch K base A n c us v fb fa vb va f W) (hl : Later W W') : Ch K base A n c us v fb fa vb va f W' := h.turn (fq := fun _ => False) (Turn.of_below hl) fun b hb => hb.elim
/-- Nothing is done yet. -/
theorem Ch.start (h : K.Row W base A n c us) : Ch K base A n c us v false false vb va (fun b => b ∈ blk A) W :=
  ⟨fun _ => ⟨h, fun b hb => hb⟩, fun h1 => (by cases h1), fun h1 => (by cases h1), fun b hb => ⟨Row.blk_ge h b hb, Row.typed h b hb⟩⟩
/-- Nothing is laid yet: the element may be another one. -/
theorem Ch.other (h : Ch K base A n c us v false false vb va f W) (v' : α) (vb' va' : Value) : Ch K base A n c us v' false false vb' va' f W :=
  ⟨h.old, fun h1 => (by cases h1), fun h1 => (by cases h1), h.typed⟩
/-- The element is laid. -/
theorem Ch.build (h : Ch K base A n c us v false false vb va f W) (hb : base ≤ W.heap.size) (hv : K.wf v) (cs : Array Value) (hcs : cs = (K.cv v).toArray) :
    Ch K base A n c us v true false (.slice (some ⟨W.heap.size, 0, none⟩) 1 1) va (fun b => f b ∨ b = W.heap.size) (W.alloc (.cells cs K.T)) := by
  have hl : Later W (W.alloc (.cells cs K.T)) := (Below.refl _ _).alloc (Nat.le_refl _) _
  have h' := h.later hl
  obtain ⟨h1, h2⟩ := h'.old rfl
  refine ⟨fun _ => ⟨h1, fun b hm => Or.inl (h2 b hm)⟩, fun _ _ => ⟨W.heap.size, rfl, Kind.new1 W v hv cs hcs, Or.inr rfl, fun hm => ?_⟩, fun h1 => (by cases h1), fun b hf => ?_⟩
  · have := h.lt _ ((h.old rfl).2 _ hm); omega
  · rcases hf with hf | rfl
    · exact h'.typed b hf
    · exact ⟨hb, cs, heap_alloc_new W _⟩
/-- The row is appended to. -/
theorem Ch.append (h : Ch K base A n c us v true false vb va f W) (hb : base ≤ W.heap.size) (hn : n + 1 ≤ 8000) :
    ∃ A2 c2 W2 f2, (Builtin.append_ #[K.L, K.L] K.L #[.slice A n c, vb]).run Try.prog W = .ok (.slice A2 (n + 1) c2) W2 ∧ Ch K base A n c us v true true vb (.slice A2 (n + 1) c2) f2 W2 ∧ Turn f W W2 ∧ ∀ b, f2 b → f b ∨ W.heap.size ≤ b := by
  obtain ⟨h1, h2⟩ := h.old rfl
  obtain ⟨gb, rfl, h4, h5, h6⟩ := h.lit rfl rfl
  obtain ⟨A2, c2, W2, hr, ho, hg⟩ := Kind.append_b (c' := 1) hb h1 h4 hn
  have hat := Kind.append_at h1 h4 hn hr
  have hbk : ∀ {A : Option Addr} {n c b : Nat}, (Value.slice A n c).ownBlock = some b → b ∈ blk A := fun {A n c b} e => by
    cases A with
    | none => cases e
    | some a => simp [blk]; simpa [Value.ownBlock] using e.symm
  have hkb : ∀ {A : Option Addr} {n c b : Nat} {vs : List α} {W : World}, K.Row W base A n c vs → b ∈ blk A → (Value.slice A n c).ownBlock = some b := fun {A n c b vs W} hr hm => by
    rcases hr.row.2 with ⟨hv, _⟩ | ⟨g, cap, cur, hv, _⟩
    · injection hv with e1; rw [e1] at hm; cases hm
    · injection hv with e1
      rw [e1] at hm ⊢
      have : b = g := by simpa [blk] using hm
      rw [this]; rfl
  have ht : Turn (fun b => b ∈ blk A) W W2 := Turn.of_grown hg fun b e => hbk e
  refine ⟨A2, c2, W2, fun b => (f b ∧ b ∉ blk A) ∨ b ∈ blk A2, hr, ⟨fun h => (by cases h), fun _ h => (by cases h), fun _ => ⟨A2, c2, rfl, ho, fun b hm => Or.inr hm⟩, fun b hf => ?_⟩, ht.mono fun b hm => Or.inl (h2 b hm), fun b hf => ?_⟩
  · rcases hf with ⟨hf, hm⟩ | hm
    · obtain ⟨h7, cur, h8⟩ := h.typed b hf
      exact ⟨h7, cur, (ht.block b (h.lt b hf) hm).trans h8⟩
    · exact ⟨Row.blk_ge ho b hm, Row.typed ho b hm⟩
  · rcases hf with ⟨hf, _⟩ | hm
    · exact Or.inl hf
    · rcases hat b (hkb ho hm) with h7 | h7
      · exact Or.inl (h2 b (hbk h7))
      · exact Or.inr h7
end
/- lists of flags, of slots -/
theorem gs_self {α : Type} {l : List α} {j : Nat} {x d : α} (h : j < l.length) : (l.set j x).getD j d = x := by
  rw [List.getD_eq_getElem?_getD, List.getElem?_set_self h]; rfl
theorem gs_ne {α : Type} {l : List α} {i j : Nat} {x d : α} (h : i ≠ j) : (l.set i x).getD j d = l.getD j d := by
  rw [List.getD_eq_getElem?_getD, List.getElem?_set_ne h, ← List.getD_eq_getElem?_getD]
theorem flags_put {ms : List Nat} {listed : Array Bool} {m : Nat} (j : Nat) (hj : ms[j]? = some m) (hn : ((List.range ms.length).all fun i => i == j || ms[i]? != some m) = true) : flags ms (listed.setIfInBounds m true) = (flags ms listed).set j true := by
  apply List.ext_getElem?
  intro i
  unfold flags
  rw [List.getElem?_set, List.getElem?_map, List.getElem?_map, List.length_map]
  have hjl : j < ms.length := (List.getElem?_eq_some_iff.1 hj).1
  have hje : ms[j] = m := (List.getElem?_eq_some_iff.1 hj).2
  by_cases e : j = i
  · subst e
    rw [if_pos rfl, if_pos hjl, hj]
    simp [set_self7]
  · rw [if_neg e]
    cases hi : ms[i]? with
    | none => rfl
    | some q =>
      have hil : i < ms.length := (List.getElem?_eq_some_iff.1 hi).1
      have hie : ms[i] = q := (List.getElem?_eq_some_iff.1 hi).2
      have hne : m ≠ q := fun h => by
        have h2 := List.all_eq_true.1 hn i (List.mem_range.2 hil)
        rw [hi, h] at h2
        simp at h2
        exact e h2.symm
      simp only [Option.map_some]
      rw [getD_set_ne true hne]
theorem slots_at {ks : List Nat} {a : Act} {d : Nat} {v : Value} (j : Nat) (hj : ks[j]? = some d) (hn : ((List.range ks.length).all fun i => i == j || ks[i]? != some d) = true) (hs : d < a.tmps.size) : slots ks (a.put (some d) v) = (slots ks a).set j v := by
  apply List.ext_getElem?
  intro i
  unfold slots
  rw [List.getElem?_set, List.getElem?_map, List.getElem?_map, List.length_map]
  have hjl : j < ks.length := (List.getElem?_eq_some_iff.1 hj).1
  have hje : ks[j] = d := (List.getElem?_eq_some_iff.1 hj).2
  by_cases e : j = i
  · subst e
    rw [if_pos rfl, if_pos hjl, hj]
    simp only [Option.map_some]
    rw [put_self7 a d v hs]
  · rw [if_neg e]
    cases hi : ks[i]? with
    | none => rfl
    | some q =>
      have hie : ks[i]'((List.getElem?_eq_some_iff.1 hi).1) = q := (List.getElem?_eq_some_iff.1 hi).2
      have hne : d ≠ q := fun h => by
        have h2 := List.all_eq_true.1 hn i (List.mem_range.2 (List.getElem?_eq_some_iff.1 hi).1)
        rw [hi, h] at h2
        simp at h2
        exact e h2.symm
      simp only [Option.map_some]
      unfold Act.put
      simp [Array.getElem?_setIfInBounds_ne hne]
theorem flags_len {ms : List Nat} {listed : Array Bool} : (flags ms listed).length = ms.length := by simp [flags]
theorem slots_len {ks : List Nat} {a : Act} : (slots ks a).length = ks.length := by simp [slots]
end Go.Proofs.Ytfidamiomnohcaa
