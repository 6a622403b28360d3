/- Slices of slices of bools: the outer ones as a kind of element; blocks of bools. No conditions. -/
import Derived.Test.YtmfpelgkjgpfmaaBools
set_option linter.unusedVariables false
set_option linter.unusedSimpArgs false
namespace Go.Proofs.Ytmfpelgkjgpfmaa
open Go.RowKit

/-- A slice, as a value. -/
structure BV where
  a : Option Addr
  n : Nat
  c : Nat
def BV.zero : BV := ⟨none, 0, 0⟩
theorem infoBS : (Try.prog.info? 22).map (fun i => (i.zero, i.size, i.bytes)) = some (some (.slice none 0 0), 1, 24) := by kernel_rfl
def bsK : Kind BV where
  T := 22
  L := 72
  k := 1
  cv := fun v => [.slice v.a v.n v.c]
  wf := fun _ => True
  dflt := BV.zero
  len := fun v => rfl
  one := fun v u hu => by rw [List.mem_singleton.1 hu]; rfl
  pos := by decide
  ok := trivial
  under := Try.underlying72
  elem := by kernel_rfl
  info := by
    obtain ⟨i0, hi, hz0, hz1, hz2⟩ := info_parts infoBS
    exact ⟨i0, _, hi, hz0, hz1, by rw [hz2]; omega, rfl⟩
theorem bsK_at {w : World} {p : Addr} {v : BV} (h : bsK.At w p v) : w.cell? p = some (.slice v.a v.n v.c) := by
  have := h 0 _ rfl
  rwa [add_none] at this
/-- The cells of a row of bools. -/
def bitsC (l : List Bool) : Array Value := (l.map fun x => Value.bool x).toArray
theorem bitsC_at {l : List Bool} {k : Nat} (hk : k < l.length) : (bitsC l)[k]? = some (.bool (l.getD k false)) := by
  unfold bitsC
  rw [List.getElem?_toArray, List.getElem?_map, List.getD_eq_getElem?_getD, List.getElem?_eq_getElem hk]; rfl
theorem bitsC_set (l : List Bool) (k : Nat) (v : Bool) : (bitsC l).setIfInBounds k (.bool v) = bitsC (l.set k v) := by
  unfold bitsC
  apply Array.ext'
  simp [List.map_set]
/-- Slices of whole blocks. -/
def rowsV (B : Nat → Nat) (n p : Nat) : List BV := (List.range n).map fun k => ⟨some ⟨B k, 0, none⟩, p, p⟩
theorem rowsV_len {B : Nat → Nat} {n p : Nat} : (rowsV B n p).length = n := by simp [rowsV]
theorem rowsV_at {B : Nat → Nat} {n p k : Nat} (hk : k < n) : (rowsV B n p).getD k BV.zero = ⟨some ⟨B k, 0, none⟩, p, p⟩ := by
  unfold rowsV
  rw [List.getD_eq_getElem?_getD, List.getElem?_map, List.getElem?_range hk]; rfl
theorem rowsV_snoc {B : Nat → Nat} {n p m : Nat} : rowsV (fun k => if k = n then m else B k) (n + 1) p = rowsV B n p ++ [⟨some ⟨m, 0, none⟩, p, p⟩] := by
  unfold rowsV
  rw [List.range_succ, List.map_append]
  congr 1
  · refine List.map_congr_left fun k hk => ?_
    have := List.mem_range.1 hk
    have e : k ≠ n := by omega
    simp [e]
  · simp
end Go.Proofs.Ytmfpelgkjgpfmaa
