/- The plain mathematics of a geometry's numbers. No conditions; no program. -/
import Derived.Test.YtgdnpgijaijlhaaSegHow
set_option linter.unusedVariables false
set_option linter.unusedSimpArgs false
namespace Go.Proofs.Ytgdnpgijaijlhaa

/-- A geometry. -/
structure Geo where
  b : Int
  p : Int
  s : Int
def geoV (g : Geo) : Value := .agg #[.int .i64 g.b, .int .i64 g.p, .int .i64 g.s]
def inG (g : Geo) : Bool := decide (16 ≤ g.b ∧ g.b ≤ 32 ∧ 4 ≤ g.p ∧ g.p ≤ 8 ∧ 128 ≤ g.s ∧ g.s ≤ 256)
theorem inG_out {g : Geo} (h : inG g = true) : 16 ≤ g.b ∧ g.b ≤ 32 ∧ 4 ≤ g.p ∧ g.p ≤ 8 ∧ 128 ≤ g.s ∧ g.s ≤ 256 := of_decide_eq_true h
theorem inG_yes {g : Geo} (h : 16 ≤ g.b ∧ g.b ≤ 32 ∧ 4 ≤ g.p ∧ g.p ≤ 8 ∧ 128 ≤ g.s ∧ g.s ≤ 256) : inG g = true := decide_eq_true h
theorem inG_no {g : Geo} (h : ¬(16 ≤ g.b ∧ g.b ≤ 32 ∧ 4 ≤ g.p ∧ g.p ≤ 8 ∧ 128 ≤ g.s ∧ g.s ≤ 256)) : inG g = false := decide_eq_false h

/-- What is told of a geometry. -/
structure Nums where
  pages : Int
  each : Int
  check : Int
  spare : Int
  room : Int
  most : Int
def numsV (n : Nums) : Value := .agg #[.int .i64 n.pages, .int .i64 n.each, .int .i64 n.check, .int .i64 n.spare, .int .i64 n.room, .int .i64 n.most]
def upI (m p : Int) : Int := (m + p - 1) / p
def partsG (g : Geo) : Int := partsI g.s (g.b * g.p)
def checkG (g : Geo) : Int := upI (partsG g) g.p
def ofG (g : Geo) : Nums :=
  if inG g = true then ⟨g.b * g.p, eachI g.s, checkG g, 2 * checkG g + 5, g.b - (2 * checkG g + 5), 8 * (g.b * g.p) + 200⟩ else ⟨0, 0, 0, 0, 0, 0⟩
def mayG (g : Geo) : Bool := decide (1 ≤ (ofG g).room)
def limitG (g : Geo) (bad : Int) : Int := if mayG g = true ∧ 0 ≤ bad then max ((ofG g).room - bad) 0 * g.p else 0
def spreadG (g : Geo) (c : Int) : Int := 4 + g.b + max c 0
def pageG (g : Geo) (b p : Int) : Int := if mayG g = true ∧ 0 ≤ b ∧ b < g.b ∧ 0 ≤ p ∧ p < g.p then b * g.p + p else -1
def placeIn (g : Geo) (n : Int) : Bool := mayG g && decide (0 ≤ n ∧ n < g.b * g.p)
def placeG (g : Geo) (n : Int) : Int × Int := if placeIn g n = true then (n / g.p, n % g.p) else (-1, -1)

theorem ofG_in {g : Geo} (h : inG g = true) : ofG g = ⟨g.b * g.p, eachI g.s, checkG g, 2 * checkG g + 5, g.b - (2 * checkG g + 5), 8 * (g.b * g.p) + 200⟩ := if_pos h
theorem ofG_out {g : Geo} (h : inG g = false) : ofG g = ⟨0, 0, 0, 0, 0, 0⟩ := if_neg (by rw [h]; decide)
theorem mayG_in {g : Geo} (h : mayG g = true) : inG g = true := by
  cases hg : inG g with
  | true => rfl
  | false =>
    have := of_decide_eq_true h
    rw [ofG_out hg] at this
    exact absurd this (by decide)
theorem area_bd {g : Geo} (h : inG g = true) : 64 ≤ g.b * g.p ∧ g.b * g.p ≤ 256 := by
  obtain ⟨h0, h1, h2, h3, _, _⟩ := inG_out h
  have e : g.p = 4 ∨ g.p = 5 ∨ g.p = 6 ∨ g.p = 7 ∨ g.p = 8 := by omega
  rcases e with e | e | e | e | e <;> rw [e] <;> omega
theorem each_in {g : Geo} (h : inG g = true) : 5 ≤ eachI g.s ∧ eachI g.s ≤ 14 := by
  obtain ⟨_, _, _, _, h4, h5⟩ := inG_out h
  rw [eachI_yes ⟨h4, h5⟩]
  omega
theorem div_is {x e q : Int} (h : 0 < e) (h0 : q * e ≤ x) (h1 : x < (q + 1) * e) : x / e = q := by
  have a := Int.le_ediv_of_mul_le h h0
  have b := Int.ediv_lt_of_lt_mul h h1
  omega
theorem div_bd {x e : Int} (h : 0 < e) : x / e * e ≤ x ∧ x < x / e * e + e := by
  have h1 := Int.mul_ediv_add_emod x e
  have h2 := Int.emod_nonneg x (show e ≠ 0 by omega)
  have h3 := Int.emod_lt_of_pos x h
  have h4 := Int.mul_comm e (x / e)
  omega
/-- So many, upwards: as many as are wanted, and none more. -/
theorem up_is {m e q : Int} (h : 0 < e) (h0 : m ≤ q * e) (h1 : q * e < m + e) : upI m e = q := by
  unfold upI
  refine div_is h (by omega) ?_
  rw [Int.add_mul]
  omega
theorem up_bd {m e : Int} (h : 0 < e) : m ≤ upI m e * e ∧ upI m e * e < m + e := by
  have := div_bd (x := m + e - 1) h
  unfold upI
  omega
theorem parts_up {x m : Int} (h : 0 < eachI x) (hm : 0 < m) : partsI x m = upI m (eachI x) := by
  symm
  have h1 := div_bd (x := m) h
  have h2 := Int.mul_ediv_add_emod m (eachI x)
  have h3 := Int.mul_comm (eachI x) (m / eachI x)
  by_cases k : 0 < m % eachI x
  · rw [partsI_more (by omega) (Or.inl k)]
    refine up_is h ?_ ?_ <;> rw [Int.add_mul] <;> omega
  · have h4 := Int.emod_nonneg m (show eachI x ≠ 0 by omega)
    rw [partsI_even (by omega) (by omega)]
    refine up_is h ?_ ?_ <;> omega
theorem up_mono {m n e : Int} (h : 0 < e) (hm : m ≤ n) : upI m e ≤ upI n e := Int.ediv_le_ediv h (by omega)
theorem up_one {m e : Int} (h : 0 < e) : upI (m + e) e = upI m e + 1 := by
  have := up_bd (m := m) h
  refine up_is h ?_ ?_ <;> rw [Int.add_mul] <;> omega
theorem parts_in {g : Geo} (h : inG g = true) : 1 ≤ partsG g ∧ partsG g ≤ 256 := by
  have ha := area_bd h
  have he := each_in h
  unfold partsG
  rw [parts_up (by omega) (by omega)]
  have hb := up_bd (m := g.b * g.p) (e := eachI g.s) (by omega)
  have h2 := up_mono (m := 1) (n := g.b * g.p) (e := eachI g.s) (by omega) (by omega)
  have h3 : upI 1 (eachI g.s) = 1 := up_is (by omega) (by omega) (by omega)
  refine ⟨by omega, ?_⟩
  unfold upI
  have : (g.b * g.p + eachI g.s - 1) / eachI g.s < 57 := Int.ediv_lt_of_lt_mul (by omega) (by omega)
  omega
theorem check_in {g : Geo} (h : inG g = true) : 1 ≤ checkG g ∧ checkG g ≤ 64 := by
  obtain ⟨h0, h1⟩ := parts_in h
  obtain ⟨_, _, h2, h3, _, _⟩ := inG_out h
  unfold checkG
  have e1 := up_mono (m := 1) (n := partsG g) (e := g.p) (by omega) h0
  have e2 : upI 1 g.p = 1 := up_is (by omega) (by omega) (by omega)
  refine ⟨by omega, ?_⟩
  unfold upI
  have : (partsG g + g.p - 1) / g.p < 65 := Int.ediv_lt_of_lt_mul (by omega) (by omega)
  omega
end Go.Proofs.Ytgdnpgijaijlhaa
