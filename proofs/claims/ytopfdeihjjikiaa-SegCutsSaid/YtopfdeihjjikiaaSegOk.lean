/- Entries as numbers: which may stand together, in plain words. No conditions. -/
import Derived.Test.YtopfdeihjjikiaaSegAll
set_option linter.unusedVariables false
set_option linter.unusedSimpArgs false
namespace Go.Proofs.Ytopfdeihjjikiaa
open Go.RowKit

def ofE (n : Sg.E) : E := ⟨(n.addr : Int), (n.page : Int), n.dirty, (n.seq : Int)⟩
def toE (e : E) : Sg.E := ⟨e.addr.toNat, e.page.toNat, e.dirty, e.seq.toNat⟩
theorem ofE_wf {n : Sg.E} (h : Sg.OkE n) : EWf (ofE n) := by
  have h1 := h.addr
  have h2 := h.page
  have h3 := h.seq1
  exact ⟨by show (0 : Int) ≤ (n.addr : Int); omega, by show (n.addr : Int) ≤ _; omega, by show _ ≤ (n.page : Int); omega, by show (n.page : Int) ≤ _; omega, by show _ ≤ (n.seq : Int); omega, by show (n.seq : Int) ≤ _; omega⟩
theorem ofE_ok {n : Sg.E} (h : Sg.OkE n) : okE (ofE n) = true := by
  have h1 := h.seq0
  have h2 := h.page
  have h3 := h.seq1
  exact okE_yes ⟨by show (0 : Int) ≤ (n.page : Int); omega, by show (n.page : Int) < _; omega, by show 1 ≤ (n.seq : Int); omega, by show (n.seq : Int) ≤ _; omega⟩
theorem of_toE {e : E} (h : okE e = true) (hw : EWf e) : ofE (toE e) = e ∧ Sg.OkE (toE e) := by
  obtain ⟨h1, h2, h3, h4⟩ := okE_out h
  have a0 := hw.a0
  have a1 := hw.a1
  refine ⟨?_, ⟨by show e.addr.toNat < _; omega, by show 1 ≤ e.seq.toNat; omega, by show e.seq.toNat ≤ _; omega, by show e.page.toNat ≤ _; omega⟩⟩
  obtain ⟨a, p, d, s⟩ := e
  unfold ofE toE
  dsimp only at *
  rw [Int.toNat_of_nonneg a0, Int.toNat_of_nonneg h1, Int.toNat_of_nonneg (by omega)]
theorem stepB_out {es : List E} {k : Nat} (h : stepB es k = true) : okE (getE es k) = true ∧ seenB es k (getE es k).page = false ∧ (0 < k → (getE es (k - 1)).addr < (getE es k).addr) := by
  unfold stepB at h
  rw [Bool.and_eq_true, Bool.and_eq_true, Bool.or_eq_true] at h
  obtain ⟨h1, h2, h3⟩ := h
  refine ⟨h1, by simpa using h2, fun hk => ?_⟩
  rcases h3 with h3 | h3
  · simp at h3; omega
  · exact of_decide_eq_true h3
theorem getE_at {es : List E} {k : Nat} (h : k < es.length) : getE es k = es[k] := by
  unfold getE
  rw [List.getD_eq_getElem?_getD, List.getElem?_eq_getElem h]; rfl
theorem seenB_no {es : List E} {k : Nat} {p : Int} (h : seenB es k p = false) {j : Nat} (hj : j < k) (hl : j < es.length) : es[j].page ≠ p := by
  intro e
  unfold seenB at h
  rw [List.any_eq_false] at h
  refine h es[j] ?_ (by simp [e])
  exact List.mem_take_iff_getElem.2 ⟨j, by omega, rfl⟩
theorem mayE_ok {es : List E} (h : mayE es = true) (hw : ∀ e ∈ es, EWf e) : es = (es.map toE).map ofE ∧ Sg.Ok (es.map toE) := by
  have hok : ∀ e ∈ es, okE e = true := fun e he => by
    obtain ⟨i, hi, rfl⟩ := List.mem_iff_getElem.1 he
    rw [← getE_at hi]; exact (stepB_out (mayE_at h hi)).1
  have hrise : ∀ (i j : Nat) (hi : i < es.length) (hj : j < es.length), i < j → es[i].addr < es[j].addr := by
    intro i j hi hj hij
    obtain ⟨d, rfl⟩ : ∃ d, j = i + 1 + d := ⟨j - (i + 1), by omega⟩
    clear hij
    induction d with
    | zero =>
      have := (stepB_out (mayE_at h hj)).2.2 (by omega)
      rwa [getE_at hj, show i + 1 + 0 - 1 = i by omega, getE_at hi] at this
    | succ d ih =>
      have h1 := ih (by omega)
      have := (stepB_out (mayE_at h hj)).2.2 (by omega)
      rw [getE_at hj, show i + 1 + (d + 1) - 1 = i + 1 + d by omega, getE_at (by omega)] at this
      omega
  have hpages : ∀ (i j : Nat) (hi : i < es.length) (hj : j < es.length), i < j → es[i].page ≠ es[j].page := by
    intro i j hi hj hij
    have := (stepB_out (mayE_at h hj)).2.1
    rw [getE_at hj] at this
    exact seenB_no this hij hi
  refine ⟨?_, ⟨fun n hn => ?_, ?_, ?_, ?_⟩⟩
  · rw [List.map_map]
    have : ∀ l : List E, (∀ e ∈ l, okE e = true ∧ EWf e) → l = l.map (ofE ∘ toE) := by
      intro l
      induction l with
      | nil => intro _; rfl
      | cons e r ih =>
        intro hl
        rw [List.map_cons, ← ih (fun x hx => hl x (by simp [hx]))]
        congr 1
        exact ((of_toE (hl e (by simp)).1 (hl e (by simp)).2).1).symm
    exact this es fun e he => ⟨hok e he, hw e he⟩
  · obtain ⟨e, he, rfl⟩ := List.mem_map.1 hn
    exact (of_toE (hok e he) (hw e he)).2
  · rw [List.pairwise_map, List.pairwise_iff_getElem]
    intro i j hi hj hij
    have := hrise i j hi hj hij
    have h0 := (hw es[i] (List.getElem_mem hi)).a0
    show es[i].addr.toNat < es[j].addr.toNat
    omega
  · rw [List.map_map, List.Nodup, List.pairwise_map, List.pairwise_iff_getElem]
    intro i j hi hj hij
    have := hpages i j hi hj hij
    have h1 := okE_out (hok es[i] (List.getElem_mem hi))
    have h2 := okE_out (hok es[j] (List.getElem_mem hj))
    show es[i].page.toNat ≠ es[j].page.toNat
    omega
  · have hnd : (es.map fun e => e.page.toNat).Nodup := by
      rw [List.Nodup, List.pairwise_map, List.pairwise_iff_getElem]
      intro i j hi hj hij
      have := hpages i j hi hj hij
      have h1 := okE_out (hok es[i] (List.getElem_mem hi))
      have h2 := okE_out (hok es[j] (List.getElem_mem hj))
      show es[i].page.toNat ≠ es[j].page.toNat
      omega
    have := hnd.length_le_of_subset (l₂ := List.range 256) (fun p hp => by
      obtain ⟨e, he, rfl⟩ := List.mem_map.1 hp
      have h1 := okE_out (hok e he)
      rw [List.mem_range]; omega)
    simpa using this
theorem ok_mayE {ns : List Sg.E} (h : Sg.Ok ns) : mayE (ns.map ofE) = true := by
  refine mayE_yes fun k hk => ?_
  have hk' : k < ns.length := by simpa using hk
  unfold stepB
  rw [Bool.and_eq_true, Bool.and_eq_true, Bool.or_eq_true]
  have e0 : getE (ns.map ofE) k = ofE ns[k] := by rw [getE_at hk, List.getElem_map]
  refine ⟨?_, ?_, ?_⟩
  · rw [e0]; exact ofE_ok (h.each _ (List.getElem_mem hk'))
  · rw [e0, Bool.not_eq_true']
    unfold seenB
    rw [List.any_eq_false]
    intro e he
    obtain ⟨j, hj, rfl⟩ := List.mem_take_iff_getElem.1 he
    have hj' : j < k := by omega
    have := h.pages
    rw [List.Nodup, List.pairwise_map, List.pairwise_iff_getElem] at this
    have := this j k (by omega) hk' hj'
    rw [List.getElem_map]
    show ¬ ((((ns[j].page : Nat) : Int) == ((ns[k].page : Nat) : Int)) = true)
    simp
    omega
  · by_cases h0 : k = 0
    · left; simp [h0]
    · right
      have e1 : getE (ns.map ofE) (k - 1) = ofE ns[k - 1] := by rw [getE_at (by simp; omega), List.getElem_map]
      rw [e0, e1]
      have := List.pairwise_iff_getElem.1 h.rise (k - 1) k (by omega) hk' (by omega)
      exact decide_eq_true (by show ((ns[k - 1].addr : Nat) : Int) < ((ns[k].addr : Nat) : Int); omega)
/-- Entries of numbers may stand together or not, as the numbers may. -/
theorem mayE_iff {ns : List Sg.E} (hw : ∀ n ∈ ns, Sg.OkE n) : mayE (ns.map ofE) = true ↔ Sg.Ok ns := by
  refine ⟨fun h => ?_, ok_mayE⟩
  have := (mayE_ok h (fun e he => by
    obtain ⟨n, hn, rfl⟩ := List.mem_map.1 he
    exact ofE_wf (hw n hn))).2
  rw [List.map_map] at this
  have e : (toE ∘ ofE) = id := by
    funext n
    show toE (ofE n) = n
    unfold toE ofE
    simp
  rwa [e, List.map_id] at this
end Go.Proofs.Ytopfdeihjjikiaa
