/- Appends of bytes to a row of the call's own. Conditions: at most 1000 bytes. -/
import Derived.Test.YteglhfimmbphmaaDoorLawTells
set_option linter.unusedVariables false
set_option linter.unusedSimpArgs false
namespace Go.Proofs.YteglhfimmbphmaaDoor
open Go.RowKit

def cellsOf (bs : List Nat) : List Value := bs.map fun b => Value.int .u8 ((b : Nat) : Int)
theorem own_bytes {W : World} {base n : Nat} {A : Option Addr} {c : Nat} {bs : List Nat} (h : W.ownsRow base 5 1 (.slice A n c) n (cellsOf bs)) (hsm : ∀ k, bs.getD k 0 < 256) : Bytes W W.heap.size A n bs := by
  have hl : bs.length = n := by have := h.1; simpa [cellsOf] using this
  refine ⟨hl, fun k hk => ?_, hsm⟩
  rcases h.2 with ⟨hv, hn⟩ | ⟨g, cap, cur, hv, _, hg, _⟩
  · omega
  · have hA : A = some ⟨g, 0, none⟩ := by injection hv
    subst hA
    have hlt : g < W.heap.size := (Array.getElem?_eq_some_iff.1 hg).1
    refine ⟨_, rfl, hlt, ?_⟩
    have hkl : k < bs.length := by omega
    have := h.cells (g := g) rfl k (byteAt bs k) (by
      unfold cellsOf byteAt
      rw [List.getElem?_map, List.getElem?_eq_getElem hkl]
      simp [List.getD_eq_getElem?_getD, List.getElem?_eq_getElem hkl])
    exact this
theorem getD_append (a b : List Nat) (ha : ∀ k, a.getD k 0 < 256) (hb : ∀ k, b.getD k 0 < 256) (k : Nat) : (a ++ b).getD k 0 < 256 := by
  rw [List.getD_eq_getElem?_getD]
  by_cases h : k < a.length
  · rw [List.getElem?_append_left h]
    have := ha k
    rwa [List.getD_eq_getElem?_getD] at this
  · rw [List.getElem?_append_right (by omega)]
    have := hb (k - a.length)
    rwa [List.getD_eq_getElem?_getD] at this

theorem append_bytes (w W : World) (hS : Below w.heap.size w W) (v : Value) (n : Nat) (bs : List Nat) (hown : W.ownsRow w.heap.size 5 1 v n (cellsOf bs)) (A : Option Addr) (m c : Nat) (cs : List Nat)
    (hA : Bytes W W.heap.size A m cs) (hnm : n + m ≤ 1000) :
    ∃ A' c' W', (Builtin.append_ #[24, 24] 24 #[v, .slice A m c]).run Tryd.prog W = .ok (.slice A' (n + m) c') W' ∧ W'.ownsRow w.heap.size 5 1 (.slice A' (n + m) c') (n + m) (cellsOf (bs ++ cs)) ∧ Below w.heap.size w W' := by
  obtain ⟨i0, hi, hz0, hz1, hz2⟩ := info_parts info5
  have hform : ∀ (v' : Value) (W' : World) (xs : List Value), W'.ownsRow w.heap.size 5 1 v' (n + m) xs → ∃ A' c', v' = .slice A' (n + m) c' := by
    intro v' W' xs h
    rcases h.2 with ⟨hv, hx⟩ | ⟨g, cap, cur, hv, _⟩
    · exact ⟨none, 0, by rw [hv, hx]⟩
    · exact ⟨_, _, hv⟩
  rcases A with _ | ad
  · have hm0 : m = 0 := by
      rcases Nat.eq_zero_or_pos m with h | h
      · exact h
      · obtain ⟨ad, h', _⟩ := hA.lies 0 h
        cases h'
    subst hm0
    have hcs : cs = [] := List.eq_nil_of_length_eq_zero hA.len
    subst hcs
    obtain ⟨A', c', rfl⟩ := hform v W _ hown
    refine ⟨A', c', W, ?_, by simpa using hown, hS⟩
    rcases hown.2 with ⟨hv, hx⟩ | ⟨g, cap, cur, hv, _, _, hnc, _⟩
    · injection hv with h1 h2 h3
      subst h1 h3
      have hn0 : n = 0 := by omega
      subst hn0
      simp [Builtin.append_, run_underlying Tryd.underlying24, sizeOf, typeInfo, hi, Builtin.lenOf, Builtin.firstCells]
    · injection hv with h1 h2 h3
      subst h1 h3
      have hnc' : n ≤ c' := by omega
      simp [Builtin.append_, run_underlying Tryd.underlying24, sizeOf, typeInfo, hi, Builtin.lenOf, Builtin.firstCells, storeCells, hnc']
  · have hlen := hA.len
    have hcells : ∀ j u, (cellsOf cs)[j]? = some u → W.cell? (ad.add j) = some u := by
      intro j u hu
      obtain ⟨hu', hj⟩ := byteAt_list hu
      obtain ⟨ad', e1, e2, e3⟩ := hA.lies j (by omega)
      obtain rfl := Option.some.inj e1
      rw [e3, hu']
    have h1 : ∀ u ∈ cellsOf cs, u.oneCell' = true := by
      intro u hu
      obtain ⟨b, _, rfl⟩ := List.mem_map.1 hu
      rfl
    obtain ⟨v', W', hr, ho, hg, _⟩ := run_append_own (P := Tryd.prog) W w.heap.size 24 24 5 i0 _ 1 1 Tryd.underlying24 hi hz0 hz1 hz2 rfl (by omega) v n (cellsOf bs) hown ad m c (cellsOf cs) (by unfold cellsOf; simp [hlen]) hcells h1
      (by unfold maxLen; omega) (by omega) hS.size
    obtain ⟨A', c', rfl⟩ := hform v' W' _ ho
    refine ⟨A', c', W', hr, ?_, hS.grown hg hS.size (fun k hk => (hown.lt k hk).1)⟩
    have e : cellsOf (bs ++ cs) = cellsOf bs ++ cellsOf cs := by unfold cellsOf; rw [List.map_append]
    rw [e]; exact ho
end Go.Proofs.YteglhfimmbphmaaDoor
