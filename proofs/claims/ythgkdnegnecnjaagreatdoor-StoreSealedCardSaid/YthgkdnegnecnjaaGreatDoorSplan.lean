/- Texts of one layer, laid together. Conditions: as each one says. -/
import Derived.Test.YthgkdnegnecnjaaGreatDoorSbase
import Derived.StillTailTactics
/- How many entries a part has, how many parts there are: the contracts of seg's Each and Parts. No conditions. -/
set_option linter.unusedVariables false
set_option linter.unusedSimpArgs false
set_option maxRecDepth 20000
namespace Go.Proofs.YthgkdnegnecnjaaGreatDoor
open Go.RowKit

/- how many -/
def eachI (x : Int) : Int := if 128 ≤ x ∧ x ≤ 256 then (x - 42) / 15 else 0
theorem eachI_yes {x : Int} (h : 128 ≤ x ∧ x ≤ 256) : eachI x = (x - 42) / 15 := if_pos h
theorem eachI_no {x : Int} (h : ¬(128 ≤ x ∧ x ≤ 256)) : eachI x = 0 := if_neg h
theorem eachI_bd (x : Int) : 0 ≤ eachI x ∧ eachI x ≤ 14 := by
  unfold eachI
  split <;> omega
theorem each_any (x : Int) (w : World) : Calls Tryz.prog 108 #[.int .i64 x] w fun e w' => e = .returned (.int .i64 (eachI x)) ∧ w = w' := by
  by_cases h0 : 128 ≤ x
  · by_cases h1 : x ≤ 256
    · rw [eachI_yes ⟨h0, h1⟩]
      go_enter Tryz.func108, Tryz.ntmps108
      go_wp2
      go_ret
      exact ⟨rfl, rfl⟩
    · rw [eachI_no (fun h => h1 h.2)]
      go_enter Tryz.func108, Tryz.ntmps108
      go_wp2
      go_ret
      exact ⟨rfl, rfl⟩
  · rw [eachI_no (fun h => h0 h.1)]
    go_enter Tryz.func108, Tryz.ntmps108
    go_wp2
    go_ret
    exact ⟨rfl, rfl⟩
def partsI (x m : Int) : Int := if eachI x = 0 ∨ m < 0 then 0 else m / eachI x + (if 0 < m % eachI x ∨ m = 0 then 1 else 0)
theorem partsI_none {x m : Int} (h : eachI x = 0 ∨ m < 0) : partsI x m = 0 := if_pos h
theorem partsI_more {x m : Int} (h : ¬(eachI x = 0 ∨ m < 0)) (k : 0 < m % eachI x ∨ m = 0) : partsI x m = m / eachI x + 1 := by unfold partsI; rw [if_neg h, if_pos k]
theorem partsI_even {x m : Int} (h : ¬(eachI x = 0 ∨ m < 0)) (k : ¬(0 < m % eachI x ∨ m = 0)) : partsI x m = m / eachI x := by unfold partsI; rw [if_neg h, if_neg k, Int.add_zero]
set_option maxHeartbeats 2000000 in
theorem parts_any (x m : Int) (w : World) (hm : m ≤ 9223372036854775807) : Calls Tryz.prog 107 #[.int .i64 x, .int .i64 m] w fun e w' => e = .returned (.int .i64 (partsI x m)) ∧ w = w' := by
  have HE := Lib.hid (each_any x w)
  have hb := eachI_bd x
  obtain ⟨q, HQ⟩ : ∃ q, Hid (eachI x = q) := ⟨_, rfl⟩
  rw [HQ.out] at HE hb
  obtain ⟨hq0, hq1⟩ := hb
  by_cases hz : q = 0
  · rw [partsI_none (Or.inl (HQ.out.trans hz))]
    subst hz
    go_enter Tryz.func107, Tryz.ntmps107
    go_wp2_with fail
    refine HE.out.mono ?_
    rintro e w' ⟨rfl, rfl⟩
    go_wp2
    go_ret
    exact ⟨rfl, rfl⟩
  have hqz : (q == 0) = false := by simpa using hz
  by_cases h0 : m < 0
  · rw [partsI_none (Or.inr h0)]
    go_enter Tryz.func107, Tryz.ntmps107
    go_wp2_with fail
    refine HE.out.mono ?_
    rintro e w' ⟨rfl, rfl⟩
    go_wp2
    go_ret
    exact ⟨rfl, rfl⟩
  have hne : ¬(eachI x = 0 ∨ m < 0) := by rw [HQ.out]; omega
  have hq5 : 5 ≤ q := by
    rw [← HQ.out] at hz ⊢
    unfold eachI at hz ⊢
    split at hz <;> simp_all <;> omega
  have h2 : 0 ≤ m / q := Int.ediv_nonneg (by omega) hq0
  have h3 : m / q ≤ 4000000000000000000 := Int.ediv_le_of_le_mul (by omega) (by omega)
  by_cases h4 : 0 < m % q
  · rw [partsI_more hne (Or.inl (by rw [HQ.out]; exact h4)), HQ.out]
    go_enter Tryz.func107, Tryz.ntmps107
    go_wp2_with fail
    refine HE.out.mono ?_
    rintro e w' ⟨rfl, rfl⟩
    go_wp2
    go_ret
    exact ⟨rfl, rfl⟩
  by_cases h5 : m = 0
  · rw [partsI_more hne (Or.inr h5), HQ.out]
    subst h5
    go_enter Tryz.func107, Tryz.ntmps107
    go_wp2_with fail
    refine HE.out.mono ?_
    rintro e w' ⟨rfl, rfl⟩
    go_wp2
    go_ret
    exact ⟨by simp, rfl⟩
  · rw [partsI_even hne (fun h => by rw [HQ.out] at h; omega), HQ.out]
    have b5 : (m == 0) = false := by simpa using h5
    go_enter Tryz.func107, Tryz.ntmps107
    go_wp2_with fail
    refine HE.out.mono ?_
    rintro e w' ⟨rfl, rfl⟩
    go_wp2
    go_ret
    exact ⟨rfl, rfl⟩
end Go.Proofs.YthgkdnegnecnjaaGreatDoor

/- The plain mathematics of a geometry's numbers. No conditions; no program. -/
set_option linter.unusedVariables false
set_option linter.unusedSimpArgs false
set_option maxRecDepth 20000
namespace Go.Proofs.YthgkdnegnecnjaaGreatDoor

/-- A geometry. -/
structure Geo where
  b : Int
  p : Int
  s : Int
def geoV (g : Geo) : Value := .agg #[.int .i64 g.b, .int .i64 g.p, .int .i64 g.s]
def inG (g : Geo) : Bool := decide (16 ≤ g.b ∧ g.b ≤ 32 ∧ 4 ≤ g.p ∧ g.p ≤ 8 ∧ 128 ≤ g.s ∧ g.s ≤ 256)
theorem inG_out {g : Geo} (h : inG g = true) : 16 ≤ g.b ∧ g.b ≤ 32 ∧ 4 ≤ g.p ∧ g.p ≤ 8 ∧ 128 ≤ g.s ∧ g.s ≤ 256 := of_decide_eq_true h
theorem inG_yes {g : Geo} (h : 16 ≤ g.b ∧ g.b ≤ 32 ∧ 4 ≤ g.p ∧ g.p ≤ 8 ∧ 128 ≤ g.s ∧ g.s ≤ 256) : inG g = true := decide_eq_true h
theorem inG_no {g : Geo} (h : ¬(16 ≤ g.b ∧ g.b ≤ 32 ∧ 4 ≤ g.p ∧ g.p ≤ 8 ∧ 128 ≤ g.s ∧ g.s ≤ 256)) : inG g = false := decide_eq_false h

/-- What is told of a geometry. -/
structure PNums where
  pages : Int
  each : Int
  check : Int
  spare : Int
  room : Int
  most : Int
def numsV (n : PNums) : Value := .agg #[.int .i64 n.pages, .int .i64 n.each, .int .i64 n.check, .int .i64 n.spare, .int .i64 n.room, .int .i64 n.most]
def upI (m p : Int) : Int := (m + p - 1) / p
def partsG (g : Geo) : Int := partsI g.s (g.b * g.p)
def checkG (g : Geo) : Int := upI (partsG g) g.p
def ofG (g : Geo) : PNums :=
  if inG g = true then ⟨g.b * g.p, eachI g.s, checkG g, 2 * checkG g + 5, g.b - (2 * checkG g + 5), 8 * (g.b * g.p) + 200⟩ else ⟨0, 0, 0, 0, 0, 0⟩
def mayG (g : Geo) : Bool := decide (1 ≤ (ofG g).room)
def limitG (g : Geo) (bad : Int) : Int := if mayG g = true ∧ 0 ≤ bad then max ((ofG g).room - bad) 0 * g.p else 0
def spreadG (g : Geo) (c : Int) : Int := 4 + g.b + max c 0
def pageG (g : Geo) (b p : Int) : Int := if mayG g = true ∧ 0 ≤ b ∧ b < g.b ∧ 0 ≤ p ∧ p < g.p then b * g.p + p else -1
def placeIn (g : Geo) (n : Int) : Bool := mayG g && decide (0 ≤ n ∧ n < g.b * g.p)
def placeG (g : Geo) (n : Int) : Int × Int := if placeIn g n = true then (n / g.p, n % g.p) else (-1, -1)

theorem ofG_in {g : Geo} (h : inG g = true) : ofG g = ⟨g.b * g.p, eachI g.s, checkG g, 2 * checkG g + 5, g.b - (2 * checkG g + 5), 8 * (g.b * g.p) + 200⟩ := if_pos h
theorem ofG_out {g : Geo} (h : inG g = false) : ofG g = ⟨0, 0, 0, 0, 0, 0⟩ := if_neg (by rw [h]; decide)
theorem mayG_in {g : Geo} (h : mayG g = true) : inG g = true := by
  cases hg : inG g with
  | true => rfl
  | false =>
    have := of_decide_eq_true h
    rw [ofG_out hg] at this
    exact absurd this (by decide)
theorem area_bd {g : Geo} (h : inG g = true) : 64 ≤ g.b * g.p ∧ g.b * g.p ≤ 256 := by
  obtain ⟨h0, h1, h2, h3, _, _⟩ := inG_out h
  have e : g.p = 4 ∨ g.p = 5 ∨ g.p = 6 ∨ g.p = 7 ∨ g.p = 8 := by omega
  rcases e with e | e | e | e | e <;> rw [e] <;> omega
theorem each_in {g : Geo} (h : inG g = true) : 5 ≤ eachI g.s ∧ eachI g.s ≤ 14 := by
  obtain ⟨_, _, _, _, h4, h5⟩ := inG_out h
  rw [eachI_yes ⟨h4, h5⟩]
  omega
theorem div_is {x e q : Int} (h : 0 < e) (h0 : q * e ≤ x) (h1 : x < (q + 1) * e) : x / e = q := by
  have a := Int.le_ediv_of_mul_le h h0
  have b := Int.ediv_lt_of_lt_mul h h1
  omega
theorem div_bd {x e : Int} (h : 0 < e) : x / e * e ≤ x ∧ x < x / e * e + e := by
  have h1 := Int.mul_ediv_add_emod x e
  have h2 := Int.emod_nonneg x (show e ≠ 0 by omega)
  have h3 := Int.emod_lt_of_pos x h
  have h4 := Int.mul_comm e (x / e)
  omega
/-- So many, upwards: as many as are wanted, and none more. -/
theorem up_is {m e q : Int} (h : 0 < e) (h0 : m ≤ q * e) (h1 : q * e < m + e) : upI m e = q := by
  unfold upI
  refine div_is h (by omega) ?_
  rw [Int.add_mul]
  omega
theorem up_bd {m e : Int} (h : 0 < e) : m ≤ upI m e * e ∧ upI m e * e < m + e := by
  have := div_bd (x := m + e - 1) h
  unfold upI
  omega
theorem parts_up {x m : Int} (h : 0 < eachI x) (hm : 0 < m) : partsI x m = upI m (eachI x) := by
  symm
  have h1 := div_bd (x := m) h
  have h2 := Int.mul_ediv_add_emod m (eachI x)
  have h3 := Int.mul_comm (eachI x) (m / eachI x)
  by_cases k : 0 < m % eachI x
  · rw [partsI_more (by omega) (Or.inl k)]
    refine up_is h ?_ ?_ <;> rw [Int.add_mul] <;> omega
  · have h4 := Int.emod_nonneg m (show eachI x ≠ 0 by omega)
    rw [partsI_even (by omega) (by omega)]
    refine up_is h ?_ ?_ <;> omega
theorem up_mono {m n e : Int} (h : 0 < e) (hm : m ≤ n) : upI m e ≤ upI n e := Int.ediv_le_ediv h (by omega)
theorem up_one {m e : Int} (h : 0 < e) : upI (m + e) e = upI m e + 1 := by
  have := up_bd (m := m) h
  refine up_is h ?_ ?_ <;> rw [Int.add_mul] <;> omega
theorem parts_in {g : Geo} (h : inG g = true) : 1 ≤ partsG g ∧ partsG g ≤ 256 := by
  have ha := area_bd h
  have he := each_in h
  unfold partsG
  rw [parts_up (by omega) (by omega)]
  have hb := up_bd (m := g.b * g.p) (e := eachI g.s) (by omega)
  have h2 := up_mono (m := 1) (n := g.b * g.p) (e := eachI g.s) (by omega) (by omega)
  have h3 : upI 1 (eachI g.s) = 1 := up_is (by omega) (by omega) (by omega)
  refine ⟨by omega, ?_⟩
  unfold upI
  have : (g.b * g.p + eachI g.s - 1) / eachI g.s < 57 := Int.ediv_lt_of_lt_mul (by omega) (by omega)
  omega
theorem check_in {g : Geo} (h : inG g = true) : 1 ≤ checkG g ∧ checkG g ≤ 64 := by
  obtain ⟨h0, h1⟩ := parts_in h
  obtain ⟨_, _, h2, h3, _, _⟩ := inG_out h
  unfold checkG
  have e1 := up_mono (m := 1) (n := partsG g) (e := g.p) (by omega) h0
  have e2 : upI 1 g.p = 1 := up_is (by omega) (by omega) (by omega)
  refine ⟨by omega, ?_⟩
  unfold upI
  have : (partsG g + g.p - 1) / g.p < 65 := Int.ediv_lt_of_lt_mul (by omega) (by omega)
  omega
end Go.Proofs.YthgkdnegnecnjaaGreatDoor

/- Contracts of plan's functions: the numbers of a geometry, as the mathematics says. No conditions but the numbers' size. -/
set_option linter.unusedVariables false
set_option linter.unusedSimpArgs false
set_option maxRecDepth 20000
namespace Go.Proofs.YthgkdnegnecnjaaGreatDoor
open Go.RowKit Go.Sort

/-- A call that answers one value, and turns nothing old. -/
def SaysV (w : World) (v : Value) (e : Ending) (w' : World) : Prop := e = .returned v ∧ Hid (Below w.heap.size w w')
theorem quiet_saysv {P : Program} {f : FuncId} {args : Array Value} {W : World} {d : Nat} {os : Array Obj} {v : Value} (h : Calls P f args (grow (redrawn W d) os) (SaysV (grow (redrawn W d) os) v)) :
    Calls P f args (grow (redrawn W d) os) fun e w'' => e = .returned v ∧ ∃ p : Regrown, w'' = grow (redrawn W p.d) p.os := Calls.regrown_of (h.mono fun e w' h => ⟨h.1, h.2.out⟩)
def geoC (g : Geo) : Array Value := #[.int .i64 g.b, .int .i64 g.p, .int .i64 g.s]
/-- A geometry that lies in a row of its own. -/
structure GeoAt (w : World) (a : Nat) (g : Geo) : Prop where
  c0 : w.cell? ⟨a, 0, none⟩ = some (.int .i64 g.b)
  c1 : w.cell? ⟨a, 1, none⟩ = some (.int .i64 g.p)
  c2 : w.cell? ⟨a, 2, none⟩ = some (.int .i64 g.s)
  lt : a < w.heap.size
theorem GeoAt.since {w w' : World} {a : Nat} {g : Geo} (h : GeoAt w a g) (hb : Below w.heap.size w w') : GeoAt w' a g :=
  ⟨(hb.cell h.lt).trans h.c0, (hb.cell h.lt).trans h.c1, (hb.cell h.lt).trans h.c2, Nat.lt_of_lt_of_le h.lt hb.size⟩
theorem geoAt_new (W : World) (g : Geo) : GeoAt (W.alloc (.cells #[.int .i64 g.b, .int .i64 g.p, .int .i64 g.s] 30)) W.heap.size g :=
  ⟨by rw [cell_of_row _ _ _ _ _ _ (heap_alloc_new W _)]; rfl, by rw [cell_of_row _ _ _ _ _ _ (heap_alloc_new W _)]; rfl, by rw [cell_of_row _ _ _ _ _ _ (heap_alloc_new W _)]; rfl, by simp⟩
theorem cell_other (w : World) (g j b k : Nat) (v : Value) (h : b ≠ g) : (w.setCell ⟨g, j, none⟩ v).cell? ⟨b, k, none⟩ = w.cell? ⟨b, k, none⟩ := by
  unfold World.cell?
  have e : (w.setCell ⟨g, j, none⟩ v).heap[b]? = w.heap[b]? := by simp [World.setCell, Array.getElem?_modify, Ne.symm h]
  rw [e]
theorem GeoAt.other {w : World} {a c : Nat} {g : Geo} (h : GeoAt w a g) (hc : a ≠ c) (k : Nat) (v : Value) : GeoAt (w.setCell ⟨c, k, none⟩ v) a g :=
  ⟨(cell_other w c k a 0 v hc).trans h.c0, (cell_other w c k a 1 v hc).trans h.c1, (cell_other w c k a 2 v hc).trans h.c2, by simpa [World.setCell] using h.lt⟩
set_option maxHeartbeats 2000000 in
theorem within_any (g : Geo) (w : World) : Calls Tryz.prog 105 #[geoV g] w (SaysB w (inG g)) := by
  obtain ⟨b, p, s⟩ := g
  unfold geoV
  dsimp only
  have S1 := Lib.hid (since_alloc (Below.refl w.heap.size w) (.cells #[.int .i64 b, .int .i64 p, .int .i64 s] 30))
  by_cases h0 : 16 ≤ b
  · by_cases h1 : b ≤ 32
    · by_cases h2 : 4 ≤ p
      · by_cases h3 : p ≤ 8
        · by_cases h4 : 128 ≤ s
          · by_cases h5 : s ≤ 256
            · rw [inG_yes (g := ⟨b, p, s⟩) ⟨h0, h1, h2, h3, h4, h5⟩]
              go_enter Tryz.func105, Tryz.ntmps105
              go_wp2
              go_ret
              exact ⟨by simp, S1⟩
            · rw [inG_no (g := ⟨b, p, s⟩) (fun h => h5 h.2.2.2.2.2)]
              go_enter Tryz.func105, Tryz.ntmps105
              go_wp2
              go_ret
              exact ⟨by simp, S1⟩
          · rw [inG_no (g := ⟨b, p, s⟩) (fun h => h4 h.2.2.2.2.1)]
            go_enter Tryz.func105, Tryz.ntmps105
            go_wp2
            go_ret
            exact ⟨by simp, S1⟩
        · rw [inG_no (g := ⟨b, p, s⟩) (fun h => h3 h.2.2.2.1)]
          go_enter Tryz.func105, Tryz.ntmps105
          go_wp2
          go_ret
          exact ⟨by simp, S1⟩
      · rw [inG_no (g := ⟨b, p, s⟩) (fun h => h2 h.2.2.1)]
        go_enter Tryz.func105, Tryz.ntmps105
        go_wp2
        go_ret
        exact ⟨by simp, S1⟩
    · rw [inG_no (g := ⟨b, p, s⟩) (fun h => h1 h.2.1)]
      go_enter Tryz.func105, Tryz.ntmps105
      go_wp2
      go_ret
      exact ⟨by simp, S1⟩
  · rw [inG_no (g := ⟨b, p, s⟩) (fun h => h0 h.1)]
    go_enter Tryz.func105, Tryz.ntmps105
    go_wp2
    go_ret
    exact ⟨by simp, S1⟩
theorem over_end {x : Int} {parts each : Int} {k : Nat} (he : 0 < each) (h : x = parts - k * each) (hx : x ≤ 0) (h1 : -each < x) : upI parts each = k := up_is he (by omega) (by omega)
set_option maxHeartbeats 2000000 in
theorem blocksfor_any (parts each : Int) (w : World) (h0 : 0 ≤ parts) (h1 : parts ≤ 1000) (h2 : 4 ≤ each) (h3 : each ≤ 8) : Calls Tryz.prog 106 #[.int .i64 parts, .int .i64 each] w fun e w' => e = .returned (.int .i64 (upI parts each)) ∧ w = w' := by
  go_enter Tryz.func106, Tryz.ntmps106
  go_wp2_with fail
  go_loopw [0, 5] (fun t0 t5 wr => ∃ (k : Nat) (x : Int), t0 = .int .i64 x ∧ t5 = .int .i64 k ∧ -8 ≤ x ∧ x ≤ 1000 ∧ (k : Int) ≤ 1000 - x ∧ Hid (x = parts - k * each ∧ -each < x) ∧ w = wr) (fun t0 _ _ => (intOf t0).toNat)
  case atStart => exact ⟨0, parts, rfl, rfl, by omega, by omega, by omega, ⟨by simp, by omega⟩, rfl⟩
  case round =>
    obtain ⟨k, x, rfl, rfl, hx0, hx1, hk, HX, rfl⟩ := hrel
    by_cases hlt : 0 < x
    · have HX2 : Hid (x - each = parts - ((k + 1 : Nat) : Int) * each ∧ -each < x - each) := by
        obtain ⟨e1, e2⟩ := HX.out
        refine ⟨?_, by omega⟩
        rw [e1, Int.natCast_add, Int.add_mul]
        omega
      go_wp2_with fail
      go_roundw
      case rel => exact ⟨k + 1, x - each, rfl, by go_num, by omega, by omega, by omega, HX2, by trivial⟩
      case measure => simp [intOf]; omega
    · have HE := Lib.hid (over_end (by omega) HX.out.1 (by omega) HX.out.2)
      go_wp2_with fail
      go_ret
      rw [HE.out]
      exact ⟨rfl, rfl⟩
end Go.Proofs.YthgkdnegnecnjaaGreatDoor

/- Contract of plan.Of: the numbers of a geometry, as the mathematics says. No conditions. -/
set_option linter.unusedVariables false
set_option linter.unusedSimpArgs false
set_option maxRecDepth 20000
namespace Go.Proofs.YthgkdnegnecnjaaGreatDoor
open Go.RowKit Go.Sort

def numsC (n : PNums) : Array Value := #[.int .i64 n.pages, .int .i64 n.each, .int .i64 n.check, .int .i64 n.spare, .int .i64 n.room, .int .i64 n.most]
theorem below_alloc_self (W : World) (o : Obj) : Below W.heap.size W (W.alloc o) := since_alloc (Below.refl _ _) o
theorem GeoAt.of_row {w : World} {a : Nat} {g : Geo} (h : RowC w a (geoC g) 30) : GeoAt w a g :=
  ⟨h.cell 0, h.cell 1, h.cell 2, h.lt⟩
theorem run_room (n0 n1 n2 n3 n4 n5 : Int) (W : World) : (Instr.field 115 (.agg #[.int .i64 n0, .int .i64 n1, .int .i64 n2, .int .i64 n3, .int .i64 n4, .int .i64 n5]) 4).run Tryz.prog W = .ok (.int .i64 n4) W := by first | rfl | kernel_rfl
/-- The world behind a store of such numbers. -/
def putN (w : World) (b : Nat) (n : PNums) : World :=
  (((((w.setCell ⟨b, 0, none⟩ (.int .i64 n.pages)).setCell ⟨b, 1, none⟩ (.int .i64 n.each)).setCell ⟨b, 2, none⟩ (.int .i64 n.check)).setCell ⟨b, 3, none⟩ (.int .i64 n.spare)).setCell ⟨b, 4, none⟩ (.int .i64 n.room)).setCell ⟨b, 5, none⟩ (.int .i64 n.most)
theorem below_putN {m : Nat} {w W : World} {b : Nat} (h : Below m w W) (hb : m ≤ b) (n : PNums) : Below m w (putN W b n) := by
  unfold putN
  exact (((((h.setCell (p := ⟨b, 0, none⟩) hb _).setCell (p := ⟨b, 1, none⟩) hb _).setCell (p := ⟨b, 2, none⟩) hb _).setCell (p := ⟨b, 3, none⟩) hb _).setCell (p := ⟨b, 4, none⟩) hb _).setCell (p := ⟨b, 5, none⟩) hb _
theorem row_putN {W : World} {b : Nat} {m : PNums} (h : RowC W b (numsC m) 115) (n : PNums) : RowC (putN W b n) b (numsC n) 115 := by
  unfold putN
  exact (((((h.put 0 _).put 1 _).put 2 _).put 3 _).put 4 _).put 5 _
set_option maxHeartbeats 2000000 in
theorem planof_any (g : Geo) (w : World) : Calls Tryz.prog 69 #[geoV g] w (SaysV w (numsV (ofG g))) := by
  have S1 := Lib.hid (since_alloc (Below.refl w.heap.size w) (.cells #[.int .i64 g.b, .int .i64 g.p, .int .i64 g.s] 30))
  have G1 := Lib.hid (geoAt_new w g)
  have S2 := Lib.hid (since_alloc S1.out (.cells #[.int .i64 0, .int .i64 0, .int .i64 0, .int .i64 0, .int .i64 0, .int .i64 0] 115))
  have G2 := Lib.hid (G1.out.since (below_alloc_self _ (.cells #[.int .i64 0, .int .i64 0, .int .i64 0, .int .i64 0, .int .i64 0, .int .i64 0] 115)))
  have R2 := Lib.hid (RowC.new (w.alloc (.cells #[.int .i64 g.b, .int .i64 g.p, .int .i64 g.s] 30)) #[.int .i64 0, .int .i64 0, .int .i64 0, .int .i64 0, .int .i64 0, .int .i64 0] 115)
  have hz : (w.alloc (.cells #[.int .i64 g.b, .int .i64 g.p, .int .i64 g.s] 30)).heap.size = w.heap.size + 1 := by simp
  rw [hz] at R2
  clear hz S1 G1
  obtain ⟨W1, HW1⟩ : ∃ W1, Hid (W1 = (w.alloc (.cells #[.int .i64 g.b, .int .i64 g.p, .int .i64 g.s] 30)).alloc (.cells #[.int .i64 0, .int .i64 0, .int .i64 0, .int .i64 0, .int .i64 0, .int .i64 0] 115)) := ⟨_, rfl⟩
  obtain ⟨N, HN⟩ : ∃ N, Hid (ofG g = N) := ⟨_, rfl⟩
  rw [HN.out]
  unfold geoV
  go_enter Tryz.func69, Tryz.ntmps69
  go_wp2_with fail
  rw [← HW1.out] at S2 G2 R2 ⊢
  clear HW1
  refine (within_any g W1).mono ?_
  rintro e W2 ⟨rfl, hb2⟩
  have S3 := Lib.hid (below_chain S2.out hb2.out)
  have G3 := Lib.hid (G2.out.since hb2.out)
  have R3 := Lib.hid (R2.out.since hb2.out)
  clear S2 G2 R2 hb2
  obtain ⟨g0, g1, g2, _⟩ := G3.out
  have r0 := R3.out.cell 0
  have r1 := R3.out.cell 1
  have r2 := R3.out.cell 2
  have r3 := R3.out.cell 3
  have r4 := R3.out.cell 4
  have r5 := R3.out.cell 5
  have f0 := R3.out.free 0
  have f1 := R3.out.free 1
  have f2 := R3.out.free 2
  have f3 := R3.out.free 3
  have f4 := R3.out.free 4
  have f5 := R3.out.free 5
  simp at r0 r1 r2 r3 r4 r5
  cases hin : inG g with
  | false =>
    have HNZ : Hid (N = ⟨0, 0, 0, 0, 0, 0⟩) := by show _ = _; rw [← HN.out, ofG_out hin]
    clear hin
    go_wp2_with fail
    have S9 := Lib.hid (below_putN S3.out (by omega : w.heap.size ≤ w.heap.size + 1) ⟨0, 0, 0, 0, 0, 0⟩)
    have R9 := Lib.hid (row_putN (m := ⟨0, 0, 0, 0, 0, 0⟩) R3.out ⟨0, 0, 0, 0, 0, 0⟩)
    obtain ⟨W9, HW9⟩ : ∃ W9, Hid (W9 = putN W2 (w.heap.size + 1) ⟨0, 0, 0, 0, 0, 0⟩) := ⟨_, rfl⟩
    rw [← HW9.out] at S9 R9
    show bodyPost Tryz.prog _ _ .ret _ (putN W2 (w.heap.size + 1) ⟨0, 0, 0, 0, 0, 0⟩)
    rw [← HW9.out, HNZ.out]
    clear HW9 r0 r1 r2 r3 r4 r5
    have r0 := R9.out.cell 0
    have r1 := R9.out.cell 1
    have r2 := R9.out.cell 2
    have r3 := R9.out.cell 3
    have r4 := R9.out.cell 4
    have r5 := R9.out.cell 5
    simp [numsC] at r0 r1 r2 r3 r4 r5
    exact bodyPost_ret (v := numsV ⟨0, 0, 0, 0, 0, 0⟩) (by simp [results, Tryz.results69, go_sem, r0, r1, r2, r3, r4, r5, numsV]) rfl ⟨rfl, S9⟩
  | true =>
    obtain ⟨i0, i1, i2, i3, i4, i5⟩ := inG_out hin
    have ha := area_bd hin
    have hp := parts_in hin
    have hc := check_in hin
    obtain ⟨P, HP⟩ : ∃ P, Hid (P = g.b * g.p) := ⟨_, rfl⟩
    obtain ⟨q, HQ⟩ : ∃ q, Hid (q = partsG g) := ⟨_, rfl⟩
    obtain ⟨k, HK⟩ : ∃ k, Hid (k = checkG g) := ⟨_, rfl⟩
    rw [← HP.out] at ha
    rw [← HQ.out] at hp
    rw [← HK.out] at hc
    obtain ⟨ha0, ha1⟩ := ha
    obtain ⟨hp0, hp1⟩ := hp
    obtain ⟨hc0, hc1⟩ := hc
    have HF : Hid (N = ⟨P, eachI g.s, k, 2 * k + 5, g.b - (2 * k + 5), 8 * P + 200⟩) := by show _ = _; rw [← HN.out, ofG_in hin, HP.out, HK.out]
    have cP : Hid (∀ W, Calls Tryz.prog 107 #[.int .i64 g.s, .int .i64 P] W fun e w' => e = .returned (.int .i64 q) ∧ w' = W) := fun W => by
      refine (parts_any g.s P W (by omega)).mono ?_
      rintro e w' ⟨rfl, rfl⟩
      rw [HQ.out, partsG, HP.out]
      exact ⟨rfl, rfl⟩
    have cB : Hid (∀ W, Calls Tryz.prog 106 #[.int .i64 q, .int .i64 g.p] W fun e w' => e = .returned (.int .i64 k) ∧ w' = W) := fun W => by
      refine (blocksfor_any q g.p W (by omega) (by omega) i2 i3).mono ?_
      rintro e w' ⟨rfl, rfl⟩
      rw [HK.out, checkG, HQ.out]
      exact ⟨rfl, rfl⟩
    have cE : Hid (∀ W, Calls Tryz.prog 108 #[.int .i64 g.s] W fun e w' => e = .returned (.int .i64 (eachI g.s)) ∧ w' = W) := fun W => by
      refine (each_any g.s W).mono ?_
      rintro e w' ⟨rfl, rfl⟩
      exact ⟨rfl, rfl⟩
    have mP : g.b * g.p = P := HP.out.symm
    obtain ⟨x, HX⟩ : ∃ x, Hid (x = eachI g.s) := ⟨_, rfl⟩
    rw [← HX.out] at cE HF
    clear hin
    go_wp2_with fail
    refine wp_region_still_lit (by kernel_rfl) (by kernel_rfl) ?_
    repeat (first | still_step | still_call (cP.out _) | still_call (cB.out _))
    refine wpStill_nil ?_
    have S4 := Lib.hid (S3.out.drew)
    have G4 := Lib.hid (G3.out.since (Below.refl _ _).drew)
    have R4 := Lib.hid (R3.out.since (Below.refl _ _).drew)
    obtain ⟨W4, HW4⟩ : ∃ W4, Hid (W4 = W2.drew) := ⟨_, rfl⟩
    change Exit.then _ _ _ _ W2.drew
    rw [← HW4.out] at S4 G4 R4 ⊢
    clear HW4 S3 G3 R3 r0 r1 r2 r3 r4 r5 f0 f1 f2 f3 f4 f5 g0 g1 g2
    obtain ⟨g0, g1, g2, _⟩ := G4.out
    have f0 := R4.out.free 0
    have f1 := R4.out.free 1
    have f2 := R4.out.free 2
    have f3 := R4.out.free 3
    have f4 := R4.out.free 4
    have f5 := R4.out.free 5
    have r0 := R4.out.cell 0
    have r1 := R4.out.cell 1
    have r2 := R4.out.cell 2
    have r3 := R4.out.cell 3
    have r4 := R4.out.cell 4
    have r5 := R4.out.cell 5
    simp at r0 r1 r2 r3 r4 r5
    go_wp2_with fail
    refine wp_region_still_tail 14 (by kernel_rfl) (by kernel_rfl) ?_
    simp only [List.take_succ_cons, List.take_zero, List.drop_succ_cons, List.drop_zero]
    repeat (first | still_step | still_call (cE.out _))
    refine wpStill_nil ?_
    have S5 := Lib.hid (S4.out.drew)
    have R5 := Lib.hid (R4.out.since (Below.refl _ _).drew)
    obtain ⟨W5, HW5⟩ : ∃ W5, Hid (W5 = W4.drew) := ⟨_, rfl⟩
    change wpList _ _ _ _ _ W4.drew
    rw [← HW5.out] at S5 R5 ⊢
    clear HW5 S4 G4 R4 r0 r1 r2 r3 r4 r5 f0 f1 f2 f3 f4 f5 g0 g1 g2
    have f0 := R5.out.free 0
    have f1 := R5.out.free 1
    have f2 := R5.out.free 2
    have f3 := R5.out.free 3
    have f4 := R5.out.free 4
    have f5 := R5.out.free 5
    have r0 := R5.out.cell 0
    have r1 := R5.out.cell 1
    have r2 := R5.out.cell 2
    have r3 := R5.out.cell 3
    have r4 := R5.out.cell 4
    have r5 := R5.out.cell 5
    simp at r0 r1 r2 r3 r4 r5
    go_wp2_with fail
    have S9 := Lib.hid (below_putN S5.out (by omega : w.heap.size ≤ w.heap.size + 1) ⟨P, x, k, 2 * k + 5, g.b - (2 * k + 5), 8 * P + 200⟩)
    have R9 := Lib.hid (row_putN (m := ⟨0, 0, 0, 0, 0, 0⟩) R5.out ⟨P, x, k, 2 * k + 5, g.b - (2 * k + 5), 8 * P + 200⟩)
    obtain ⟨W9, HW9⟩ : ∃ W9, Hid (W9 = putN W5 (w.heap.size + 1) ⟨P, x, k, 2 * k + 5, g.b - (2 * k + 5), 8 * P + 200⟩) := ⟨_, rfl⟩
    rw [← HW9.out] at S9 R9
    show bodyPost Tryz.prog _ _ .ret _ (putN W5 (w.heap.size + 1) ⟨P, x, k, 2 * k + 5, g.b - (2 * k + 5), 8 * P + 200⟩)
    rw [← HW9.out, HF.out]
    clear HW9 r0 r1 r2 r3 r4 r5
    have r0 := R9.out.cell 0
    have r1 := R9.out.cell 1
    have r2 := R9.out.cell 2
    have r3 := R9.out.cell 3
    have r4 := R9.out.cell 4
    have r5 := R9.out.cell 5
    simp [numsC] at r0 r1 r2 r3 r4 r5
    exact bodyPost_ret (v := numsV ⟨P, x, k, 2 * k + 5, g.b - (2 * k + 5), 8 * P + 200⟩) (by simp [results, Tryz.results69, go_sem, r0, r1, r2, r3, r4, r5, numsV]) rfl ⟨rfl, S9⟩
end Go.Proofs.YthgkdnegnecnjaaGreatDoor

/- Contracts of plan's May, Limit, Spread, Page and Place. Conditions: the numbers' size. -/
set_option linter.unusedVariables false
set_option linter.unusedSimpArgs false
set_option maxRecDepth 20000
namespace Go.Proofs.YthgkdnegnecnjaaGreatDoor
open Go.RowKit Go.Sort

set_option maxHeartbeats 1000000 in
theorem planmay_any (g : Geo) (w : World) : Calls Tryz.prog 43 #[geoV g] w (SaysB w (mayG g)) := by
  have S1 := Lib.hid (since_alloc (Below.refl w.heap.size w) (.cells #[.int .i64 g.b, .int .i64 g.p, .int .i64 g.s] 30))
  have G1 := Lib.hid (geoAt_new w g)
  obtain ⟨W1, HW1⟩ : ∃ W1, Hid (W1 = w.alloc (.cells #[.int .i64 g.b, .int .i64 g.p, .int .i64 g.s] 30)) := ⟨_, rfl⟩
  obtain ⟨N, HN⟩ : ∃ N, Hid (ofG g = N) := ⟨_, rfl⟩
  have HM : Hid (mayG g = decide (1 ≤ N.room)) := by show _ = _; rw [← HN.out]; rfl
  rw [HM.out]
  have cO := Lib.hid (fun W => planof_any g W)
  unfold geoV at cO ⊢
  go_enter Tryz.func43, Tryz.ntmps43
  go_wp2_with fail
  rw [← HW1.out] at S1 G1 ⊢
  clear HW1
  refine (cO.out _).mono ?_
  rw [HN.out]
  unfold numsV
  rintro e W2 ⟨rfl, hb2⟩
  have S2 := Lib.hid (below_chain S1.out hb2.out)
  obtain ⟨n0, n1, n2, n3, n4, n5⟩ := N
  have hf := run_room n0 n1 n2 n3 n4 n5 W2
  dsimp only
  go_wp2_with fail
  go_ret
  exact ⟨rfl, S2⟩
def pageIn (g : Geo) (b p : Int) : Bool := decide (mayG g = true ∧ 0 ≤ b ∧ b < g.b ∧ 0 ≤ p ∧ p < g.p)
set_option maxHeartbeats 4000000 in
theorem page_any (g : Geo) (b p : Int) (w : World) : Calls Tryz.prog 81 #[geoV g, .int .i64 b, .int .i64 p] w (SaysV w (.int .i64 (pageG g b p))) := by
  have S1 := Lib.hid (since_alloc (Below.refl w.heap.size w) (.cells #[.int .i64 g.b, .int .i64 g.p, .int .i64 g.s] 30))
  have G1 := Lib.hid (geoAt_new w g)
  obtain ⟨W1, HW1⟩ : ∃ W1, Hid (W1 = w.alloc (.cells #[.int .i64 g.b, .int .i64 g.p, .int .i64 g.s] 30)) := ⟨_, rfl⟩
  have cM := Lib.hid (fun W => planmay_any g W)
  have HNO : Hid (¬(mayG g = true ∧ 0 ≤ b ∧ b < g.b ∧ 0 ≤ p ∧ p < g.p) → pageG g b p = -1) := fun h => if_neg h
  have HYES : Hid ((mayG g = true ∧ 0 ≤ b ∧ b < g.b ∧ 0 ≤ p ∧ p < g.p) → pageG g b p = b * g.p + p) := fun h => if_pos h
  cases hm : mayG g with
  | false =>
    rw [HNO.out (by rw [hm]; simp)]
    rw [hm] at cM
    clear hm HNO HYES
    unfold geoV at cM ⊢
    go_enter Tryz.func81, Tryz.ntmps81
    go_wp2_with fail
    rw [← HW1.out] at S1 G1 ⊢
    clear HW1
    refine (cM.out _).mono ?_
    rintro e W2 ⟨rfl, hb2⟩
    have S2 := Lib.hid (below_chain S1.out hb2.out)
    go_wp2_with fail
    go_ret
    exact ⟨rfl, S2⟩
  | true =>
    rw [hm] at cM
    obtain ⟨i0, i1, i2, i3, i4, i5⟩ := inG_out (mayG_in hm)
    by_cases h0 : 0 ≤ b
    rotate_left
    · rw [HNO.out (by omega)]
      clear hm HNO HYES
      unfold geoV at cM ⊢
      go_enter Tryz.func81, Tryz.ntmps81
      go_wp2_with fail
      rw [← HW1.out] at S1 G1 ⊢
      clear HW1
      refine (cM.out _).mono ?_
      rintro e W2 ⟨rfl, hb2⟩
      have S2 := Lib.hid (below_chain S1.out hb2.out)
      have G2 := Lib.hid (G1.out.since hb2.out)
      clear S1 G1 hb2
      obtain ⟨g0, g1, g2, _⟩ := G2.out
      go_wp2_with fail
      go_ret
      exact ⟨rfl, S2⟩
    by_cases h1 : b < g.b
    rotate_left
    · rw [HNO.out (by omega)]
      clear hm HNO HYES
      unfold geoV at cM ⊢
      go_enter Tryz.func81, Tryz.ntmps81
      go_wp2_with fail
      rw [← HW1.out] at S1 G1 ⊢
      clear HW1
      refine (cM.out _).mono ?_
      rintro e W2 ⟨rfl, hb2⟩
      have S2 := Lib.hid (below_chain S1.out hb2.out)
      have G2 := Lib.hid (G1.out.since hb2.out)
      clear S1 G1 hb2
      obtain ⟨g0, g1, g2, _⟩ := G2.out
      go_wp2_with fail
      go_ret
      exact ⟨rfl, S2⟩
    by_cases h2 : 0 ≤ p
    rotate_left
    · rw [HNO.out (by omega)]
      clear hm HNO HYES
      unfold geoV at cM ⊢
      go_enter Tryz.func81, Tryz.ntmps81
      go_wp2_with fail
      rw [← HW1.out] at S1 G1 ⊢
      clear HW1
      refine (cM.out _).mono ?_
      rintro e W2 ⟨rfl, hb2⟩
      have S2 := Lib.hid (below_chain S1.out hb2.out)
      have G2 := Lib.hid (G1.out.since hb2.out)
      clear S1 G1 hb2
      obtain ⟨g0, g1, g2, _⟩ := G2.out
      go_wp2_with fail
      go_ret
      exact ⟨rfl, S2⟩
    by_cases h3 : p < g.p
    rotate_left
    · rw [HNO.out (by omega)]
      clear hm HNO HYES
      unfold geoV at cM ⊢
      go_enter Tryz.func81, Tryz.ntmps81
      go_wp2_with fail
      rw [← HW1.out] at S1 G1 ⊢
      clear HW1
      refine (cM.out _).mono ?_
      rintro e W2 ⟨rfl, hb2⟩
      have S2 := Lib.hid (below_chain S1.out hb2.out)
      have G2 := Lib.hid (G1.out.since hb2.out)
      clear S1 G1 hb2
      obtain ⟨g0, g1, g2, _⟩ := G2.out
      go_wp2_with fail
      go_ret
      exact ⟨rfl, S2⟩
    rw [HYES.out ⟨hm, h0, h1, h2, h3⟩]
    obtain ⟨y, HY⟩ : ∃ y, Hid (b * g.p = y) := ⟨_, rfl⟩
    have hy : 0 ≤ y ∧ y ≤ 256 := by
      rw [← HY.out]
      exact ⟨Int.mul_nonneg h0 (by omega), Int.le_trans (Int.mul_le_mul (by omega : b ≤ 32) i3 (by omega) (by omega)) (by omega)⟩
    obtain ⟨hy0, hy1⟩ := hy
    rw [HY.out]
    have hmul := HY.out
    clear hm HNO HYES
    unfold geoV at cM ⊢
    go_enter Tryz.func81, Tryz.ntmps81
    go_wp2_with fail
    rw [← HW1.out] at S1 G1 ⊢
    clear HW1
    refine (cM.out _).mono ?_
    rintro e W2 ⟨rfl, hb2⟩
    have S2 := Lib.hid (below_chain S1.out hb2.out)
    have G2 := Lib.hid (G1.out.since hb2.out)
    clear S1 G1 hb2
    obtain ⟨g0, g1, g2, _⟩ := G2.out
    go_wp2_with fail
    go_ret
    exact ⟨rfl, S2⟩
set_option maxHeartbeats 4000000 in
theorem place_any (g : Geo) (n : Int) (w : World) : Calls Tryz.prog 92 #[geoV g, .int .i64 n] w (SaysV w (.tuple #[.int .i64 (placeG g n).1, .int .i64 (placeG g n).2])) := by
  have S1 := Lib.hid (since_alloc (Below.refl w.heap.size w) (.cells #[.int .i64 g.b, .int .i64 g.p, .int .i64 g.s] 30))
  have G1 := Lib.hid (geoAt_new w g)
  obtain ⟨W1, HW1⟩ : ∃ W1, Hid (W1 = w.alloc (.cells #[.int .i64 g.b, .int .i64 g.p, .int .i64 g.s] 30)) := ⟨_, rfl⟩
  have cM := Lib.hid (fun W => planmay_any g W)
  have HNO : Hid (placeIn g n = false → placeG g n = (-1, -1)) := fun h => if_neg (by rw [h]; decide)
  have HYES : Hid (placeIn g n = true → placeG g n = (n / g.p, n % g.p)) := fun h => if_pos h
  cases hm : mayG g with
  | false =>
    rw [HNO.out (by unfold placeIn; rw [hm]; rfl)]
    rw [hm] at cM
    clear hm HNO HYES
    unfold geoV at cM ⊢
    go_enter Tryz.func92, Tryz.ntmps92
    go_wp2_with fail
    rw [← HW1.out] at S1 G1 ⊢
    clear HW1
    refine (cM.out _).mono ?_
    rintro e W2 ⟨rfl, hb2⟩
    have S2 := Lib.hid (below_chain S1.out hb2.out)
    go_wp2_with fail
    go_ret2
    exact ⟨rfl, S2⟩
  | true =>
    rw [hm] at cM
    obtain ⟨i0, i1, i2, i3, i4, i5⟩ := inG_out (mayG_in hm)
    have ha := area_bd (mayG_in hm)
    obtain ⟨y, HY⟩ : ∃ y, Hid (g.b * g.p = y) := ⟨_, rfl⟩
    rw [HY.out] at ha
    obtain ⟨ha0, ha1⟩ := ha
    have hmul := HY.out
    have HIN : Hid (placeIn g n = decide (0 ≤ n ∧ n < y)) := by show _ = _; unfold placeIn; rw [hm, hmul]; rfl
    by_cases h0 : 0 ≤ n
    rotate_left
    · rw [HNO.out (by rw [HIN.out]; exact decide_eq_false (by omega))]
      clear hm HNO HYES HIN
      unfold geoV at cM ⊢
      go_enter Tryz.func92, Tryz.ntmps92
      go_wp2_with fail
      rw [← HW1.out] at S1 G1 ⊢
      clear HW1
      refine (cM.out _).mono ?_
      rintro e W2 ⟨rfl, hb2⟩
      have S2 := Lib.hid (below_chain S1.out hb2.out)
      have G2 := Lib.hid (G1.out.since hb2.out)
      clear S1 G1 hb2
      obtain ⟨g0, g1, g2, _⟩ := G2.out
      go_wp2_with fail
      go_ret2
      exact ⟨rfl, S2⟩
    by_cases h1 : n < y
    rotate_left
    · rw [HNO.out (by rw [HIN.out]; exact decide_eq_false (by omega))]
      clear hm HNO HYES HIN
      unfold geoV at cM ⊢
      go_enter Tryz.func92, Tryz.ntmps92
      go_wp2_with fail
      rw [← HW1.out] at S1 G1 ⊢
      clear HW1
      refine (cM.out _).mono ?_
      rintro e W2 ⟨rfl, hb2⟩
      have S2 := Lib.hid (below_chain S1.out hb2.out)
      have G2 := Lib.hid (G1.out.since hb2.out)
      clear S1 G1 hb2
      obtain ⟨g0, g1, g2, _⟩ := G2.out
      go_wp2_with fail
      go_ret2
      exact ⟨rfl, S2⟩
    rw [HYES.out (by rw [HIN.out]; exact decide_eq_true ⟨h0, h1⟩)]
    have hq0 : 0 ≤ n / g.p := Int.ediv_nonneg h0 (by omega)
    have hq1 : n / g.p ≤ n := Int.ediv_le_self _ h0
    have hq2 : 0 ≤ n % g.p := Int.emod_nonneg _ (by omega)
    have hq3 : n % g.p < g.p := Int.emod_lt_of_pos _ (by omega)
    have hpz : (g.p == 0) = false := by simp; omega
    clear hm HNO HYES HIN
    unfold geoV at cM ⊢
    go_enter Tryz.func92, Tryz.ntmps92
    go_wp2_with fail
    rw [← HW1.out] at S1 G1 ⊢
    clear HW1
    refine (cM.out _).mono ?_
    rintro e W2 ⟨rfl, hb2⟩
    have S2 := Lib.hid (below_chain S1.out hb2.out)
    have G2 := Lib.hid (G1.out.since hb2.out)
    clear S1 G1 hb2
    obtain ⟨g0, g1, g2, _⟩ := G2.out
    go_wp2_with fail
    obtain ⟨g0, g1, g2, _⟩ := G2.out
    go_quiet (fail)
    go_wp2_with fail
    go_ret2
    exact ⟨rfl, below_drewN S2.out _⟩
end Go.Proofs.YthgkdnegnecnjaaGreatDoor
