/- Contracts of plan's functions: the numbers of a geometry, as the mathematics says. No conditions but the numbers' size. -/
import Derived.Test.YtgdnpgijaijlhaaPlanMath
import Derived.Test.YtgdnpgijaijlhaaQuiet
set_option linter.unusedVariables false
set_option linter.unusedSimpArgs false
namespace Go.Proofs.Ytgdnpgijaijlhaa
open Go.RowKit Go.Sort

/-- A call that answers one value, and turns nothing old. -/
def SaysV (w : World) (v : Value) (e : Ending) (w' : World) : Prop := e = .returned v ∧ Hid (Below w.heap.size w w')
theorem quiet_saysv {P : Program} {f : FuncId} {args : Array Value} {W : World} {d : Nat} {os : Array Obj} {v : Value} (h : Calls P f args (grow (redrawn W d) os) (SaysV (grow (redrawn W d) os) v)) :
    Calls P f args (grow (redrawn W d) os) fun e w'' => e = .returned v ∧ ∃ p : Regrown, w'' = grow (redrawn W p.d) p.os := Calls.regrown_of (h.mono fun e w' h => ⟨h.1, h.2.out⟩)
def geoC (g : Geo) : Array Value := #[.int .i64 g.b, .int .i64 g.p, .int .i64 g.s]
/-- A geometry that lies in a row of its own. -/
structure GeoAt (w : World) (a : Nat) (g : Geo) : Prop where
  c0 : w.cell? ⟨a, 0, none⟩ = some (.int .i64 g.b)
  c1 : w.cell? ⟨a, 1, none⟩ = some (.int .i64 g.p)
  c2 : w.cell? ⟨a, 2, none⟩ = some (.int .i64 g.s)
  lt : a < w.heap.size
theorem GeoAt.since {w w' : World} {a : Nat} {g : Geo} (h : GeoAt w a g) (hb : Below w.heap.size w w') : GeoAt w' a g :=
  ⟨(hb.cell h.lt).trans h.c0, (hb.cell h.lt).trans h.c1, (hb.cell h.lt).trans h.c2, Nat.lt_of_lt_of_le h.lt hb.size⟩
theorem geoAt_new (W : World) (g : Geo) : GeoAt (W.alloc (.cells #[.int .i64 g.b, .int .i64 g.p, .int .i64 g.s] 23)) W.heap.size g :=
  ⟨by rw [cell_of_row _ _ _ _ _ _ (heap_alloc_new W _)]; rfl, by rw [cell_of_row _ _ _ _ _ _ (heap_alloc_new W _)]; rfl, by rw [cell_of_row _ _ _ _ _ _ (heap_alloc_new W _)]; rfl, by simp⟩
theorem cell_other (w : World) (g j b k : Nat) (v : Value) (h : b ≠ g) : (w.setCell ⟨g, j, none⟩ v).cell? ⟨b, k, none⟩ = w.cell? ⟨b, k, none⟩ := by
  unfold World.cell?
  have e : (w.setCell ⟨g, j, none⟩ v).heap[b]? = w.heap[b]? := by simp [World.setCell, Array.getElem?_modify, Ne.symm h]
  rw [e]
theorem GeoAt.other {w : World} {a c : Nat} {g : Geo} (h : GeoAt w a g) (hc : a ≠ c) (k : Nat) (v : Value) : GeoAt (w.setCell ⟨c, k, none⟩ v) a g :=
  ⟨(cell_other w c k a 0 v hc).trans h.c0, (cell_other w c k a 1 v hc).trans h.c1, (cell_other w c k a 2 v hc).trans h.c2, by simpa [World.setCell] using h.lt⟩
set_option maxHeartbeats 2000000 in
theorem within_any (g : Geo) (w : World) : Calls Try.prog 25 #[geoV g] w (SaysB w (inG g)) := by
  obtain ⟨b, p, s⟩ := g
  unfold geoV
  dsimp only
  have S1 := Lib.hid (since_alloc (Below.refl w.heap.size w) (.cells #[.int .i64 b, .int .i64 p, .int .i64 s] 23))
  by_cases h0 : 16 ≤ b
  · by_cases h1 : b ≤ 32
    · by_cases h2 : 4 ≤ p
      · by_cases h3 : p ≤ 8
        · by_cases h4 : 128 ≤ s
          · by_cases h5 : s ≤ 256
            · rw [inG_yes (g := ⟨b, p, s⟩) ⟨h0, h1, h2, h3, h4, h5⟩]
              go_enter Try.func25, Try.ntmps25
              go_wp2
              go_ret
              exact ⟨by simp, S1⟩
            · rw [inG_no (g := ⟨b, p, s⟩) (fun h => h5 h.2.2.2.2.2)]
              go_enter Try.func25, Try.ntmps25
              go_wp2
              go_ret
              exact ⟨by simp, S1⟩
          · rw [inG_no (g := ⟨b, p, s⟩) (fun h => h4 h.2.2.2.2.1)]
            go_enter Try.func25, Try.ntmps25
            go_wp2
            go_ret
            exact ⟨by simp, S1⟩
        · rw [inG_no (g := ⟨b, p, s⟩) (fun h => h3 h.2.2.2.1)]
          go_enter Try.func25, Try.ntmps25
          go_wp2
          go_ret
          exact ⟨by simp, S1⟩
      · rw [inG_no (g := ⟨b, p, s⟩) (fun h => h2 h.2.2.1)]
        go_enter Try.func25, Try.ntmps25
        go_wp2
        go_ret
        exact ⟨by simp, S1⟩
    · rw [inG_no (g := ⟨b, p, s⟩) (fun h => h1 h.2.1)]
      go_enter Try.func25, Try.ntmps25
      go_wp2
      go_ret
      exact ⟨by simp, S1⟩
  · rw [inG_no (g := ⟨b, p, s⟩) (fun h => h0 h.1)]
    go_enter Try.func25, Try.ntmps25
    go_wp2
    go_ret
    exact ⟨by simp, S1⟩
theorem over_end {x : Int} {parts each : Int} {k : Nat} (he : 0 < each) (h : x = parts - k * each) (hx : x ≤ 0) (h1 : -each < x) : upI parts each = k := up_is he (by omega) (by omega)
set_option maxHeartbeats 2000000 in
theorem blocksfor_any (parts each : Int) (w : World) (h0 : 0 ≤ parts) (h1 : parts ≤ 1000) (h2 : 4 ≤ each) (h3 : each ≤ 8) : Calls Try.prog 26 #[.int .i64 parts, .int .i64 each] w fun e w' => e = .returned (.int .i64 (upI parts each)) ∧ w = w' := by
  go_enter Try.func26, Try.ntmps26
  go_wp2_with fail
  go_loopw [0, 5] (fun t0 t5 wr => ∃ (k : Nat) (x : Int), t0 = .int .i64 x ∧ t5 = .int .i64 k ∧ -8 ≤ x ∧ x ≤ 1000 ∧ (k : Int) ≤ 1000 - x ∧ Hid (x = parts - k * each ∧ -each < x) ∧ w = wr) (fun t0 _ _ => (intOf t0).toNat)
  case atStart => exact ⟨0, parts, rfl, rfl, by omega, by omega, by omega, ⟨by simp, by omega⟩, rfl⟩
  case round =>
    obtain ⟨k, x, rfl, rfl, hx0, hx1, hk, HX, rfl⟩ := hrel
    by_cases hlt : 0 < x
    · have HX2 : Hid (x - each = parts - ((k + 1 : Nat) : Int) * each ∧ -each < x - each) := by
        obtain ⟨e1, e2⟩ := HX.out
        refine ⟨?_, by omega⟩
        rw [e1, Int.natCast_add, Int.add_mul]
        omega
      go_wp2_with fail
      go_roundw
      case rel => exact ⟨k + 1, x - each, rfl, by go_num, by omega, by omega, by omega, HX2, by trivial⟩
      case measure => simp [intOf]; omega
    · have HE := Lib.hid (over_end (by omega) HX.out.1 (by omega) HX.out.2)
      go_wp2_with fail
      go_ret
      rw [HE.out]
      exact ⟨rfl, rfl⟩
end Go.Proofs.Ytgdnpgijaijlhaa
