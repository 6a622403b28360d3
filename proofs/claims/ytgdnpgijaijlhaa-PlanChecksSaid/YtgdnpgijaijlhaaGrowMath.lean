/- The plain mathematics of how a geometry's numbers grow. No conditions; no program. -/
import Derived.Test.YtgdnpgijaijlhaaPlanMath
set_option linter.unusedVariables false
set_option linter.unusedSimpArgs false
namespace Go.Proofs.Ytgdnpgijaijlhaa

theorem up_least {m e q : Int} (h : 0 < e) (hm : m ≤ q * e) : upI m e ≤ q := by
  unfold upI
  have : (m + e - 1) / e < q + 1 := Int.ediv_lt_of_lt_mul h (by rw [Int.add_mul]; omega)
  omega
/-- As many blocks as a checkpoint has: the blocks over the entries of a part, upwards. -/
theorem check_up {g : Geo} (h : inG g = true) : checkG g = upI g.b (eachI g.s) := by
  have he := each_in h
  obtain ⟨_, _, p0, p1, _, _⟩ := inG_out h
  have ha := area_bd h
  have h1 := up_bd (m := partsG g) (e := g.p) (by omega)
  have h2 := up_bd (m := g.b * g.p) (e := eachI g.s) (by omega)
  have h3 : partsG g = upI (g.b * g.p) (eachI g.s) := parts_up (by omega) (by omega)
  rw [← h3] at h2
  have hk : checkG g = upI (partsG g) g.p := rfl
  rw [← hk] at h1
  obtain ⟨k, HK⟩ : ∃ k, checkG g = k := ⟨_, rfl⟩
  obtain ⟨q, HQ⟩ : ∃ q, partsG g = q := ⟨_, rfl⟩
  obtain ⟨e, HE⟩ : ∃ e, eachI g.s = e := ⟨_, rfl⟩
  rw [HK, HQ] at h1
  rw [HQ, HE] at h2
  rw [HE] at he
  rw [HK, HE]
  symm
  refine up_is (by omega) ?_ ?_
  · have a1 : q * e ≤ k * g.p * e := Int.mul_le_mul_of_nonneg_right h1.1 (by omega)
    have a2 : g.b * g.p ≤ k * e * g.p := by
      have : k * g.p * e = k * e * g.p := by rw [Int.mul_assoc, Int.mul_comm g.p e, ← Int.mul_assoc]
      omega
    exact Int.le_of_mul_le_mul_right a2 (by omega)
  · have a1 : (k - 1) * g.p ≤ q - 1 := by rw [Int.sub_mul]; omega
    have a2 : (k - 1) * g.p * e ≤ (q - 1) * e := Int.mul_le_mul_of_nonneg_right a1 (by omega)
    have a3 : (q - 1) * e < g.b * g.p := by rw [Int.sub_mul]; omega
    have a4 : (k - 1) * e * g.p < g.b * g.p := by
      have : (k - 1) * g.p * e = (k - 1) * e * g.p := by rw [Int.mul_assoc, Int.mul_comm g.p e, ← Int.mul_assoc]
      omega
    have a5 := Int.lt_of_mul_lt_mul_right a4 (by omega)
    rw [Int.sub_mul] at a5
    omega
theorem check_few {g : Geo} (h : inG g = true) : 5 * checkG g < g.b + 5 := by
  have he := each_in h
  rw [check_up h]
  obtain ⟨b0, _, _, _, _, _⟩ := inG_out h
  have h1 := up_bd (m := g.b) (e := eachI g.s) (by omega)
  have h2 : upI g.b (eachI g.s) ≤ upI g.b 5 := up_least (by omega) (by
    have a := up_bd (m := g.b) (e := 5) (by omega)
    have b : upI g.b 5 * 5 ≤ upI g.b 5 * eachI g.s := Int.mul_le_mul_of_nonneg_left he.1 (by
      have := up_mono (m := 0) (n := g.b) (e := 5) (by omega) (by omega)
      have h0 : upI 0 5 = 0 := by decide
      omega)
    omega)
  have h3 := up_bd (m := g.b) (e := 5) (by omega)
  omega
/-- Each geometry within its limits leaves room. -/
theorem room_in {g : Geo} (h : inG g = true) : 3 ≤ (ofG g).room := by
  have := check_few h
  obtain ⟨b0, _, _, _, _, _⟩ := inG_out h
  rw [ofG_in h]
  show 3 ≤ g.b - (2 * checkG g + 5)
  omega
theorem mayG_yes {g : Geo} (h : inG g = true) : mayG g = true := decide_eq_true (by have := room_in h; omega)
theorem each_mono {x : Int} (h0 : 128 ≤ x) (h1 : x + 1 ≤ 256) : eachI x ≤ eachI (x + 1) := by
  rw [eachI_yes (by omega), eachI_yes (by omega)]
  omega
theorem grow_wide {b p s : Int} (h : inG ⟨b, p, s⟩ = true) (h' : inG ⟨b, p, s + 1⟩ = true) : checkG ⟨b, p, s + 1⟩ ≤ checkG ⟨b, p, s⟩ := by
  have he := each_in h
  have he' := each_in h'
  obtain ⟨_, _, _, _, s0, _⟩ := inG_out h
  obtain ⟨_, _, _, _, _, s1⟩ := inG_out h'
  rw [check_up h, check_up h']
  dsimp only at *
  have hm := each_mono s0 s1
  refine up_least (by omega) ?_
  have a := up_bd (m := b) (e := eachI s) (by omega)
  have c := check_in h
  rw [check_up h] at c
  dsimp only at c
  have d : upI b (eachI s) * eachI s ≤ upI b (eachI s) * eachI (s + 1) := Int.mul_le_mul_of_nonneg_left hm (by omega)
  omega
theorem grow_tall {b p s : Int} (h : inG ⟨b, p, s⟩ = true) (h' : inG ⟨b + 1, p, s⟩ = true) : checkG ⟨b, p, s⟩ ≤ checkG ⟨b + 1, p, s⟩ ∧ checkG ⟨b + 1, p, s⟩ ≤ checkG ⟨b, p, s⟩ + 1 := by
  have he := each_in h
  rw [check_up h, check_up h']
  dsimp only at *
  refine ⟨up_mono (by omega) (by omega), ?_⟩
  have := up_one (m := b) (e := eachI s) (by omega)
  have := up_mono (m := b + 1) (n := b + eachI s) (e := eachI s) (by omega) (by omega)
  omega
end Go.Proofs.Ytgdnpgijaijlhaa
