/- Which entries may stand together: the contract of seg.May. Conditions: the slice's cells. -/
import Derived.Test.YtopfdeihjjikiaaSegMay
import Derived.Test.YtopfdeihjjikiaaQuiet
import Derived.Test.YtopfdeihjjikiaaOps
set_option linter.unusedVariables false
set_option linter.unusedSimpArgs false
namespace Go.Proofs.Ytopfdeihjjikiaa
open Go.RowKit
open Go.Sort (grow)

def getE (es : List E) (k : Nat) : E := es.getD k E.zero
def seenB (es : List E) (k : Nat) (p : Int) : Bool := (es.take k).any fun e => e.page == p
def stepB (es : List E) (k : Nat) : Bool := okE (getE es k) && (!seenB es k (getE es k).page && (k == 0 || decide ((getE es (k - 1)).addr < (getE es k).addr)))
/-- Entries that may be, one by one. -/
def mayE (es : List E) : Bool := (List.range es.length).all (stepB es)
theorem mayE_no {es : List E} {k : Nat} (hk : k < es.length) (h : stepB es k = false) : mayE es = false := by
  unfold mayE
  rw [Bool.eq_false_iff]
  intro e
  rw [List.all_eq_true] at e
  have := e k (List.mem_range.2 hk)
  rw [h] at this; cases this
theorem mayE_yes {es : List E} (h : ∀ k, k < es.length → stepB es k = true) : mayE es = true := by
  unfold mayE
  rw [List.all_eq_true]
  exact fun k hk => h k (List.mem_range.1 hk)
theorem mayE_at {es : List E} (h : mayE es = true) {k : Nat} (hk : k < es.length) : stepB es k = true := by
  unfold mayE at h
  rw [List.all_eq_true] at h
  exact h k (List.mem_range.2 hk)
theorem seenB_zero (es : List E) (p : Int) : seenB es 0 p = false := rfl
theorem seenB_next {es : List E} {k : Nat} (hk : k < es.length) (p : Int) : seenB es (k + 1) p = (seenB es k p || (getE es k).page == p) := by
  unfold seenB getE
  rw [List.take_succ_eq_append_getElem hk, List.any_append, List.getD_eq_getElem?_getD, List.getElem?_eq_getElem hk]
  simp
/-- The row that tells which pages are taken. -/
structure Taken (w : World) (g : Nat) (f : Nat → Bool) : Prop where
  row : ∃ cur, w.heap[g]? = some (.cells cur 64 (0, 0)) ∧ cur.size = 256 ∧ ∀ p, p < 256 → cur[p]? = some (.bool (f p))
theorem Taken.lt {w : World} {g : Nat} {f : Nat → Bool} (h : Taken w g f) : g < w.heap.size := by
  obtain ⟨cur, e, _⟩ := h.row
  exact (Array.getElem?_eq_some_iff.1 e).1
theorem Taken.cell {w : World} {g : Nat} {f : Nat → Bool} (h : Taken w g f) {p : Nat} (hp : p < 256) : w.cell? ⟨g, p, none⟩ = some (.bool (f p)) := by
  obtain ⟨cur, e, _, hc⟩ := h.row
  rw [cell_of_row _ _ _ cur 64 (0, 0) e]; exact hc p hp
theorem Taken.free {w : World} {g : Nat} {f : Nat → Bool} (h : Taken w g f) (p : Nat) : w.frozen? ⟨g, p, none⟩ = false := by
  obtain ⟨cur, e, _⟩ := h.row
  simp [World.frozen?, e]
theorem Taken.since {w w' : World} {g : Nat} {f : Nat → Bool} (h : Taken w g f) (hb : Below w.heap.size w w') : Taken w' g f := by
  obtain ⟨cur, e, rest⟩ := h.row
  exact ⟨cur, (hb.block _ h.lt).trans e, rest⟩
theorem Taken.set {w : World} {g : Nat} {f f' : Nat → Bool} (h : Taken w g f) {p : Nat} (hp : p < 256) (hf : ∀ q, q < 256 → f' q = if q = p then true else f q) : Taken (w.setCell ⟨g, p, none⟩ (.bool true)) g f' := by
  obtain ⟨cur, e, hs, hc⟩ := h.row
  refine ⟨cur.setIfInBounds p (.bool true), ?_, by simpa using hs, fun q hq => ?_⟩
  · simp [World.setCell, Array.getElem?_modify, e]
  · rw [hf q hq]
    by_cases hqp : q = p
    · subst hqp
      rw [Array.getElem?_setIfInBounds_self_of_lt (by omega), if_pos rfl]
    · rw [Array.getElem?_setIfInBounds_ne (fun e => hqp e.symm), hc q hq, if_neg hqp]
theorem infoT : (Try.prog.info? 64).map (fun i => (i.zero, i.size, i.bytes)) = some (some (.agg (Array.replicate 256 (.bool false))), 256, 256) := by kernel_rfl
theorem zero_taken (W : World) : (zeroValue 64).run Try.prog W = .ok (.agg (Array.replicate 256 (.bool false))) W := by
  obtain ⟨i0, hi, hz0, hz1, hz2⟩ := info_parts infoT
  simp [zeroValue, typeInfo, hi, hz0]
theorem taken_new (W : World) (C : Array Value) (hC : C = Array.replicate 256 (.bool false)) : Taken (W.alloc (.cells C 64)) W.heap.size (fun _ => false) := by
  subst hC
  refine ⟨_, heap_alloc_new W _, by simp, fun p hp => ?_⟩
  rw [Array.getElem?_replicate, if_pos hp]
set_option maxHeartbeats 4000000 in
set_option maxRecDepth 20000 in
theorem segmay_any (A : Option Addr) (n c : Nat) (es : List E) (w : World) (hn : n ≤ 9223372036854775807) (hA : entK.Lie w w.heap.size A n es) :
    Calls Try.prog 12 #[.slice A n c] w (SaysB w (mayE es)) := by
  have HA := Lib.hid hA
  have HL := Lib.hid hA.len
  clear hA
  obtain ⟨C, HC⟩ : ∃ C : Array Value, Hid (C = Array.replicate 256 (.bool false)) := ⟨_, rfl⟩
  have hz := zero_taken
  rw [← HC.out] at hz
  have T0 := Lib.hid (taken_new w C HC.out)
  have S0 := Lib.hid (since_alloc (Below.refl w.heap.size w) (.cells C 64))
  go_enter Try.func12, Try.ntmps12
  go_wp2_with fail
  go_loopw [8] (fun t8 wr => ∃ (k : Nat), k ≤ n ∧ t8 = .int .i64 k ∧ Hid (∀ j, j < k → stepB es j = true) ∧ Hid (Taken wr w.heap.size fun p => seenB es k (p : Int)) ∧ Hid (Below w.heap.size w wr)) (fun t8 _ => n - (intOf t8).toNat)
  case atStart => exact ⟨0, Nat.zero_le _, rfl, fun j hj => absurd hj (Nat.not_lt_zero j), T0, S0⟩
  case round =>
    obtain ⟨k, hk, rfl, HK, HT, HB⟩ := hrel
    by_cases hlt : k < n
    · obtain ⟨ad, hA, hblk, hat⟩ := (HA.out.since HB.out).each k hlt
      subst hA
      obtain ⟨e, HV⟩ : ∃ e, Hid (e = getE es k) := ⟨_, rfl⟩
      have hat : entK.At wr (ad.add (k * 4)) e := by rw [HV.out]; exact hat
      have i0 : (0 : Int) ≤ (k : Int) := by omega
      have i1 : (k : Int) < (n : Int) := by omega
      obtain ⟨c0, c1, c2, c3⟩ := entAt_of hat
      have h4 : ∃ a' : Int, (0 < k → a' = (getE es (k - 1)).addr) ∧ (0 < k → wr.cell? (ad.add ((k - 1) * 4)) = some (.int .u64 a')) := by
        by_cases hk0 : 0 < k
        · obtain ⟨ad', hA', _, hat'⟩ := (HA.out.since HB.out).each (k - 1) (by omega)
          obtain rfl := Option.some.inj hA'
          exact ⟨_, fun _ => rfl, fun _ => (entAt_of (e := getE es (k - 1)) hat').c0⟩
        · exact ⟨0, fun h => absurd h hk0, fun h => absurd h hk0⟩
      obtain ⟨a', HPA, hcp⟩ := h4
      have HPA := Lib.hid HPA
      have hidx : 0 < k → ∀ W : World, (Instr.indexAt 22 (.slice (some ad) n c) (.int .i64 ((k : Int) - 1))).run Try.prog W = .ok (.pointer (some (ad.add ((k - 1) * 4)))) W := fun hk0 W => by
        have j0 : (0 : Int) ≤ (k : Int) - 1 := by omega
        have j1 : (k : Int) - 1 < (n : Int) := by omega
        have e : ((k : Int) - 1).toNat = k - 1 := by omega
        go_simp
        intro h
        omega
      have HST : Hid (stepB es k = (okE e && (!seenB es k e.page && (k == 0 || decide (a' < e.addr))))) := by
        show _ = _
        unfold stepB
        rw [← HV.out]
        by_cases hk0 : 0 < k
        · rw [HPA.out hk0]
        · have : (k == 0) = true := by simp; omega
          rw [this]; simp
      clear hat
      obtain ⟨a, p, d, s⟩ := e
      dsimp only at c0 c1 c2 c3 HST
      go_wp2_with fail
      obtain ⟨W1, HW1⟩ : ∃ W1, Hid (W1 = wr.alloc (.cells #[.int .u64 a, .int .i64 p, .bool d, .int .i64 s] 48)) := ⟨_, rfl⟩
      have L1 : Hid (Below wr.heap.size wr W1) := by rw [HW1.out]; exact later_alloc _ _
      have R1 : Hid (RowE W1 wr.heap.size ⟨a, p, d, s⟩) := by rw [HW1.out]; exact rowE_new wr ⟨a, p, d, s⟩
      have T1 := Lib.hid (HT.out.since L1.out)
      have hcp1 : 0 < k → W1.cell? (ad.add ((k - 1) * 4)) = some (.int .u64 a') := fun hk0 => (L1.out.cell (by rw [addr_block]; exact hblk)).trans (hcp hk0)
      have HCP := Lib.hid hcp1
      have HIX := Lib.hid hidx
      rw [← HW1.out]
      clear c0 c1 c2 c3 hcp hcp1 hidx
      obtain ⟨c0, c1, c2, c3⟩ := R1.out.at_
      dsimp only at c0 c1 c2 c3
      have c0 := cell_regrown c0
      have c1 := cell_regrown c1
      have c2 := cell_regrown c2
      have c3 := cell_regrown c3
      have cM := Lib.hid fun (d' : Nat) (os : Array Obj) => quiet_says (segmaybe_any ⟨a, p, d, s⟩ (grow (redrawn W1 d') os))
      unfold entV at cM
      dsimp only at cM
      rcases hok : okE ⟨a, p, d, s⟩
      · rw [hok] at cM
        have HF : Hid (mayE es = false) := mayE_no (k := k) (by rw [HL.out]; exact hlt) (by rw [HST.out, hok]; rfl)
        clear hok
        refine wp_region_quiet_below (by kernel_rfl) (by kernel_rfl) ?_
        repeat (go_big_quiet_step (first | (go_at_call 30; exact cM.out _ _)))
        refine wpQuiet_nil ?_
        intro W2 hw'
        have S2 : Hid (Below W1.heap.size W1 W2) := by obtain ⟨⟨dq, osq⟩, hw''⟩ := hw'; rw [hw'']; exact below_regrown _ _ _
        clear hw'
        clear c0 c1 c2 c3 cM
        go_wp2_with fail
        go_ret
        rw [HF.out]
        exact ⟨rfl, below_chain HB.out (below_chain L1.out S2.out)⟩
      · have hp := okE_out hok
        dsimp only at hp
        obtain ⟨q, rfl⟩ : ∃ q : Nat, p = (q : Int) := ⟨p.toNat, by omega⟩
        have hq : q < 256 := by omega
        have hq' : (q : Int) < 256 := by omega
        rw [hok] at cM HST
        rw [Bool.true_and] at HST
        clear hp hok
        have ct := cell_regrown (T1.out.cell hq)
        rcases hsn : seenB es k (q : Int)
        · rw [hsn] at ct HST
          rw [Bool.not_false, Bool.true_and] at HST
          clear hsn
          by_cases hk0 : 0 < k
          · have hk0' : (0 : Int) < (k : Int) := by omega
            have b0 : (k == 0) = false := by simp; omega
            rw [b0, Bool.false_or] at HST
            have ix := HIX.out hk0
            have cp := cell_regrown (HCP.out hk0)
            have wr1 : ((k : Int) - 1) = ((k : Int) - 1) := rfl
            by_cases hle : a ≤ a'
            · have HF : Hid (mayE es = false) := mayE_no (k := k) (by rw [HL.out]; exact hlt) (by rw [HST.out]; exact decide_eq_false (by omega))
              refine wp_region_quiet_below (by kernel_rfl) (by kernel_rfl) ?_
              repeat (go_big_quiet_step (first | (go_at_call 30; exact cM.out _ _)))
              refine wpQuiet_nil ?_
              intro W2 hw'
              have S2 : Hid (Below W1.heap.size W1 W2) := by obtain ⟨⟨dq, osq⟩, hw''⟩ := hw'; rw [hw'']; exact below_regrown _ _ _
              clear hw'
              clear c0 c1 c2 c3 cM
              clear ct cp
              go_wp2_with fail
              go_ret
              rw [HF.out]
              exact ⟨rfl, below_chain HB.out (below_chain L1.out S2.out)⟩
            · have HF : Hid (stepB es k = true) := by show _ = _; rw [HST.out]; exact decide_eq_true (by omega)
              refine wp_region_quiet_below (by kernel_rfl) (by kernel_rfl) ?_
              repeat (go_big_quiet_step (first | (go_at_call 30; exact cM.out _ _)))
              refine wpQuiet_nil ?_
              intro W2 hw'
              have S2 : Hid (Below W1.heap.size W1 W2) := by obtain ⟨⟨dq, osq⟩, hw''⟩ := hw'; rw [hw'']; exact below_regrown _ _ _
              clear hw'
              clear c0 c1 c2 c3 cM
              clear ct cp
              have T2 := Lib.hid (T1.out.since S2.out)
              obtain ⟨d0, d1, d2, d3⟩ := (R1.out.since S2.out).at_
              dsimp only at d0 d1 d2 d3
              have hfz : W2.frozen? ⟨w.heap.size, q, none⟩ = false := T2.out.free q
              have hcell : W2.cell? ⟨w.heap.size, q, none⟩ = some (.bool (seenB es k (q : Int))) := T2.out.cell (by omega)
              have T3 : Hid (Taken (W2.setCell ⟨w.heap.size, q, none⟩ (.bool true)) w.heap.size fun p => seenB es (k + 1) (p : Int)) := T2.out.set (by omega) fun p hp => by
                rw [seenB_next (by rw [HL.out]; exact hlt), ← HV.out]
                show (seenB es k (p : Int) || (q : Int) == (p : Int)) = _
                by_cases h : p = q
                · subst h; simp
                · rw [if_neg h]
                  have : ((q : Int) == (p : Int)) = false := by simp; omega
                  rw [this, Bool.or_false]
              have S3 : Hid (Below w.heap.size w (W2.setCell ⟨w.heap.size, q, none⟩ (.bool true))) := (below_chain HB.out (below_chain L1.out S2.out)).setCell (Nat.le_refl _) _
              have HK2 : Hid (∀ j, j < k + 1 → stepB es j = true) := fun j hj => by
                by_cases e : j = k
                · subst e; exact HF.out
                · exact HK.out j (by omega)
              go_wp2_with fail
              go_roundw
              case rel => exact ⟨k + 1, by omega, by go_num, HK2, T3, S3⟩
              case measure => simp [intOf]; omega
          · have hk0' : ¬ (0 : Int) < (k : Int) := by omega
            have HF : Hid (stepB es k = true) := by show _ = _; rw [HST.out]; have : (k == 0) = true := by simp; omega
                                                    rw [this]; rfl
            refine wp_region_quiet_below (by kernel_rfl) (by kernel_rfl) ?_
            repeat (go_big_quiet_step (first | (go_at_call 30; exact cM.out _ _)))
            refine wpQuiet_nil ?_
            intro W2 hw'
            have S2 : Hid (Below W1.heap.size W1 W2) := by obtain ⟨⟨dq, osq⟩, hw''⟩ := hw'; rw [hw'']; exact below_regrown _ _ _
            clear hw'
            clear c0 c1 c2 c3 cM
            clear ct
            have T2 := Lib.hid (T1.out.since S2.out)
            obtain ⟨d0, d1, d2, d3⟩ := (R1.out.since S2.out).at_
            dsimp only at d0 d1 d2 d3
            have hfz : W2.frozen? ⟨w.heap.size, q, none⟩ = false := T2.out.free q
            have hcell : W2.cell? ⟨w.heap.size, q, none⟩ = some (.bool (seenB es k (q : Int))) := T2.out.cell (by omega)
            have T3 : Hid (Taken (W2.setCell ⟨w.heap.size, q, none⟩ (.bool true)) w.heap.size fun p => seenB es (k + 1) (p : Int)) := T2.out.set (by omega) fun p hp => by
              rw [seenB_next (by rw [HL.out]; exact hlt), ← HV.out]
              show (seenB es k (p : Int) || (q : Int) == (p : Int)) = _
              by_cases h : p = q
              · subst h; simp
              · rw [if_neg h]
                have : ((q : Int) == (p : Int)) = false := by simp; omega
                rw [this, Bool.or_false]
            have S3 : Hid (Below w.heap.size w (W2.setCell ⟨w.heap.size, q, none⟩ (.bool true))) := (below_chain HB.out (below_chain L1.out S2.out)).setCell (Nat.le_refl _) _
            have HK2 : Hid (∀ j, j < k + 1 → stepB es j = true) := fun j hj => by
              by_cases e : j = k
              · subst e; exact HF.out
              · exact HK.out j (by omega)
            go_wp2_with fail
            go_roundw
            case rel => exact ⟨k + 1, by omega, by go_num, HK2, T3, S3⟩
            case measure => simp [intOf]; omega
        · rw [hsn] at ct HST
          have HF : Hid (mayE es = false) := mayE_no (k := k) (by rw [HL.out]; exact hlt) (by rw [HST.out]; rfl)
          clear hsn
          refine wp_region_quiet_below (by kernel_rfl) (by kernel_rfl) ?_
          repeat (go_big_quiet_step (first | (go_at_call 30; exact cM.out _ _)))
          refine wpQuiet_nil ?_
          intro W2 hw'
          have S2 : Hid (Below W1.heap.size W1 W2) := by obtain ⟨⟨dq, osq⟩, hw''⟩ := hw'; rw [hw'']; exact below_regrown _ _ _
          clear hw'
          clear c0 c1 c2 c3 cM
          clear ct
          go_wp2_with fail
          go_ret
          rw [HF.out]
          exact ⟨rfl, below_chain HB.out (below_chain L1.out S2.out)⟩
    · have HY : Hid (mayE es = true) := mayE_yes (es := es) (fun j hj => HK.out j (by have := HL.out; omega))
      go_wp2
      go_ret
      rw [HY.out]
      exact ⟨rfl, HB⟩
end Go.Proofs.Ytopfdeihjjikiaa
