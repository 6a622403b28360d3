/- The keys of the landed ideal's map through a range over a function: maps.Keys, slices.Collect, slices.Sorted of words. Conditions: at most N keys, where Sort of at most N words is known. slices.AppendSeq, Collect and Sorted over whatever gives words; the landed Addrs. Conditions: at most N addresses, where Sort of at most N words is known. -/
import Derived.RangeFuncNested
import Derived.RangeFuncBound
import Derived.RangeFuncCalls
import Derived.RangeFuncLeaves
import Derived.RangeFuncBox
import Derived.Shelf.Abstract
import Derived.Shelf.RegionOpen
import Derived.WalkKit
import Derived.OwnWalkIn
import Derived.TacticsInMore
import Derived.LoopNIn
import Derived.LoopIn
import Derived.Maps.AppendAt
import Derived.Test.YtfidamiomnohcaaIdRange
import Derived.Test.YtfidamiomnohcaaSortTop
set_option linter.unusedVariables false
set_option linter.unusedSimpArgs false
set_option maxRecDepth 20000
namespace Go.Proofs.Ytfidamiomnohcaa
section
open Go.RowKit Go.Shelf

attribute [local go_sem] Oper.semAt_some

abbrev W64 := { x : Int // U64 x }
def encW (x : W64) : Array Value := #[.int .u64 x.1]
def valsW (l : List W64) : List Int := l.map (·.1)
theorem valsW_snoc (l : List W64) (x : W64) : valsW (l ++ [x]) = valsW l ++ [x.1] := by simp [valsW]
theorem valsW_len (l : List W64) : (valsW l).length = l.length := by simp [valsW]
theorem RangeI.walks {w w' : World} {mp : Option Nat} {r : Nat} {ks ls : List Int} {F : Int → Value} (h : RangeI w mp r ks F ls) (hk : KeepsWalks w w') :
    (∀ b, mp = some b → w'.heap[b]? = w.heap[b]?) ∧ w'.heap[r]? = w.heap[r]? := by
  cases mp with
  | some b =>
    obtain ⟨D, n, left, cnt, ⟨es, clock, since, seen, c0, hb, F1, hs, hD, hr, rest⟩, h2⟩ := h
    refine ⟨fun b' e => ?_, (hk.same r _ hr rfl).trans hr.symm⟩
    obtain rfl := Option.some.inj e
    exact (hk.same _ _ hb rfl).trans hb.symm
  | none => exact ⟨fun b e => (by cases e), (hk.same r _ h.2.2 rfl).trans h.2.2.symm⟩
theorem RangeI.iter {w : World} {mp : Option Nat} {r : Nat} {ks ls : List Int} {F : Int → Value} (h : RangeI w mp r ks F ls) : ∃ o : Obj, w.heap[r]? = some o ∧ o.isWalk = true := by
  cases mp with
  | some b =>
    obtain ⟨D, n, left, cnt, h1, h2⟩ := h
    exact h1.iter_walk
  | none => exact ⟨_, h.2.2, rfl⟩
/-- The map of an ideal, nil or not, as the walk over it wants it. -/
def MapI (w : World) (mp : Option Nat) (ks : List Int) (F : Int → Value) : Prop := ks.Nodup ∧ (∀ x ∈ ks, U64 x) ∧ ∃ w', (Instr.range 58 (.map mp)).run Try.prog w = .ok (.pointer (some ⟨w.heap.size, 0, none⟩)) w' ∧ RangeI w' mp w.heap.size ks F ks ∧ w.grownBy w' none ∧ w'.heap.size = w.heap.size + 1
set_option maxRecDepth 100000 in
set_option maxHeartbeats 4000000 in
theorem keys1_in (F : Fence) (n : Nat) (hf : F.fn 65) (hro : F.round = none) (hn : 1 ≤ n) (l Bm : Nat) (mp : Option Nat) (ks : List Int) (Fv : Int → Value) (J Jx : List W64 → World → Prop)
    (hY : ∀ (pre : List W64) (x : W64) W, J pre W → pre.length < ks.length → YieldAt F (n - 1) Try.prog l (encW x) W fun e W' =>
      (e = .returned (.bool true) ∧ J (pre ++ [x]) W' ∧ KeepsWalks W W') ∨ (e = .returned (.bool false) ∧ Jx (pre ++ [x]) W'))
    (W : World) (hJ : AbidesFrom W.heap.size J) (hm : W.cell? ⟨Bm, 0, none⟩ = some (.map mp)) (hown : MapI W mp ks Fv) (h0 : J [] W) :
    CallsIn F n Try.prog 65 #[.func (.yield l) #[] #[], .pointer (some ⟨Bm, 0, none⟩)] W fun e W' => (∃ v, e = .returned v) ∧
      ((∃ ss : List W64, (valsW ss).Perm ks ∧ J ss W') ∨ (∃ pre : List W64, True ∧ Jx pre W')) := by
  obtain ⟨hnd, hu, w0, hr0, hR0, hg0, hs0⟩ := hown
  refine callsIn_of_wp Try.func65 rfl hf ?_ hro
  simp only [Try.ntmps65, List.size_toArray, List.length_cons, List.length_nil, Nat.reduceAdd, Nat.reduceSub, Array.replicate_succ, Array.replicate_zero, List.push_toArray, List.append_toArray, List.nil_append, List.cons_append]
  gi_wp2
  try go_frame
  gi_loopw [3] (fun _ wr => ∃ (ls : List Int) (ss : List W64), RangeI wr mp W.heap.size ks Fv ls ∧ (valsW ss ++ ls).Perm ks ∧ J ss wr)
    (fun _ wr => leftI mp W.heap.size wr)
  case atStart => exact ⟨ks, [], hR0, List.Perm.refl _, hJ [] W w0 none h0 hg0 (fun r e => by cases e)⟩
  case round =>
    obtain ⟨ls, ss, hrg, hP, hJs⟩ := hrel
    rcases hrg.next with ⟨hls, hnx⟩ | ⟨x, w1, hx, hxk, ⟨zA, zn, zc, hF⟩, hnx, hen, hR1, hg1, hz1, hm1⟩
    · subst hls
      gi_wp2
      go_end0
      exact ⟨⟨_, rfl⟩, .inl ⟨ss, by simpa using hP, hJs⟩⟩
    · have hJ2 : J ss w1 := hJ ss wr w1 (some W.heap.size) hJs hg1 (fun r e => by cases e; exact ⟨Nat.le_refl _, hrg.iter⟩)
      have hlen : ss.length < ks.length := by
        have h1 := hP.length_eq
        have h2 := List.length_pos_of_mem hx
        rw [List.length_append, valsW_len] at h1
        omega
      obtain ⟨fn, tmps, assign, body, hy, hR⟩ := hY ss ⟨x, hu x hxk⟩ w1 hJ2 hlen
      have hy' : (Instr.yield l #[.int .u64 x]).run Try.prog w1 = .ok (.round l fn tmps assign body) w1 := hy
      clear hy
      rw [hF] at hnx hen
      gi_wp2
      refine hR.mono ?_
      rintro e W3 (⟨rfl, hJ3, hk3⟩ | ⟨rfl, hJx3⟩)
      · gi_wp2
        obtain ⟨e1, e2⟩ := hR1.walks hk3
        go_roundw
        case rel =>
          refine ⟨ls.erase x, ss ++ [⟨x, hu x hxk⟩], hR1.keep e1 e2, ?_, hJ3⟩
          rw [valsW_snoc, List.append_assoc]
          exact ((List.perm_cons_erase hx).symm.append_left _).trans hP
        case measure => rw [leftI_keep e1 e2]; exact hm1
      · gi_wp2
        refine bodyPost_ret (results_none rfl _ _ _) rfl ?_
        exact ⟨⟨_, rfl⟩, .inr ⟨_, trivial, hJx3⟩⟩
theorem MapI.since {w w' : World} {mp : Option Nat} {ks : List Int} {F : Int → Value} (hnd : ks.Nodup) (hu : ∀ x ∈ ks, U64 x) (h : ∀ b, mp = some b → MapF w b ks F) (hn : mp = none → ks = []) (e : ∀ b, mp = some b → w'.heap[b]? = w.heap[b]?) : MapI w' mp ks F := by
  refine ⟨hnd, hu, ?_⟩
  cases mp with
  | some b =>
    obtain ⟨w2, h1, h2, h3, h4⟩ := ((h b rfl).keep (e b rfl)).range
    exact ⟨w2, h1, h2, h3, h4⟩
  | none => exact ⟨_, run_range_nilMap w' _ _ _ Try.underlying58, ⟨hn rfl, hn rfl, by rw [Go.heap_alloc_new]⟩, World.grownBy_alloc _ _ _, by simp⟩
theorem keys_stops (F : Fence) (n : Nat) (hf : F.fn 65) (hro : F.round = none) (hn : 1 ≤ n) (Bm : Nat) (mp : Option Nat) (ks : List Int) (Fv : Int → Value) (w : World) (hBm : Bm < w.heap.size)
    (hm : w.cell? ⟨Bm, 0, none⟩ = some (.map mp)) (hnd : ks.Nodup) (hu : ∀ x ∈ ks, U64 x) (hmf : ∀ b, mp = some b → b < w.heap.size ∧ MapF w b ks Fv) (hnil : mp = none → ks = []) :
    SeqStopsK F n Try.prog 65 #[.pointer (some ⟨Bm, 0, none⟩)] encW KeepsWalks (fun ss => (valsW ss).Perm ks) (fun _ => True) ks.length w := fun l J Jx W hW hJ _ hY h0 =>
  keys1_in F n hf hro hn l Bm mp ks Fv J Jx hY W hJ ((hW.cell (p := ⟨Bm, 0, none⟩) hBm).trans hm)
    (MapI.since hnd hu (fun b e => (hmf b e).2) hnil fun b e => hW.block b (hmf b e).1) h0
end

section
open Go.RowKit Go.Shelf

attribute [local go_sem] Oper.semAt_some

set_option maxRecDepth 100000 in
set_option maxHeartbeats 4000000 in
theorem appendSeq_in (F : Fence) (n : Nat) (hf : F.fn 84) (hro : F.round = none) (hn : 3 ≤ n) (gf : Nat) (lb : Array Value) (hFg : F.fn gf) (eg : ∀ args w, (callFunc gf args).run Try.prog w = .ok (.enter gf args) w)
    (S : List W64 → Prop) (Sp : List W64 → Prop) (N : Nat) (hN : N ≤ 100000) (w : World) (hseq : SeqStopsK F (n - 1) Try.prog gf lb encW KeepsWalks S Sp N w) (hSN : ∀ ss, S ss → ss.length ≤ N) :
    CallsIn F n Try.prog 84 #[.slice none 0 0, .func (.func gf) #[] lb] w fun e w' => ∃ (v : Value) (ss : List W64), e = .returned v ∧ S ss ∧ w'.ownsRow w.heap.size 29 1 v ss.length ((valsW ss).map (Value.int .u64)) ∧ Below w.heap.size w w' := by
  have h1 : 1 ≤ n := by omega
  obtain ⟨i0, hi, hz0, hz1, hz2⟩ := info_parts infoU64
  refine callsIn_of_wp_marks Try.func84 rfl hf ?_ hro
  simp only [Try.ntmps84, List.size_toArray, List.length_cons, List.length_nil, Nat.reduceAdd, Nat.reduceSub, Array.replicate_succ, Array.replicate_zero, List.push_toArray, List.append_toArray, List.nil_append, List.cons_append]
  gi_wp2
  have bO := Boxed.new w 34 (.slice none 0 0)
  have hB0 : Below w.heap.size w (w.alloc (.cells #[.slice none 0 0] 34)) := (Below.refl _ w).alloc (Nat.le_refl _) _
  refine wpIn_rangeFunc_ownG hro h1 (gf := gf) (lb := lb) rfl hFg eg hseq walksK_t walksK_b hB0 (fun _ => rfl)
    (fun pre W => (∃ v, Boxed W w.heap.size 34 v ∧ W.ownsRow w.heap.size 29 1 v pre.length ((valsW pre).map (Value.int .u64)) ∧ True) ∧ Below w.heap.size w W)
    (fun _ _ _ => False)
    (OwnFrom.and (Own.from (holdsRow_own w.heap.size w.heap.size 34 29 1 (fun pre => pre.length) (fun pre => (valsW pre).map (Value.int .u64)) (fun pre v => True)) _) (ownFrom_below (Nat.le_refl _) (by simp)))
    (fun _ _ _ _ _ hs _ _ => hs)
    ⟨⟨_, bO, World.ownsRow_nil _ _ _ _, trivial⟩, hB0⟩
    (fun x => { tmps := #[.slice none 0 0, .func (.func gf) #[] lb, .pointer (some ⟨w.heap.size, 0, none⟩), undef, .slice none 0 0, .int .u64 x.1, .func (.func gf) #[] lb, .int .u64 x.1, undef, undef, undef, undef, undef], defers := [] }) ?assign ?body ?done ?stop
  case assign =>
    intro l x W K hK
    simp only [encW]
    gi_wp2
    exact hK
  case body =>
    rintro l pre x W ⟨⟨v, hv, hrow, -⟩, hB⟩ hlt
    have hc := hv.cell
    have hML : 100000 ≤ maxLen := by decide
    gi_wp2_with (gi_at_builtin; refine wpListIn_append_own _ rfl _ _ 34 rfl w.heap.size 29 i0 (.int .u64 0) 1 8 Try.underlying34 hi hz0 hz1 hz2 rfl (by decide) _ _ _ rfl (hrow.alloc _) ⟨W.heap.size, 0, none⟩ 1 1 [.int .u64 x.1] rfl rfl (cell_one_new _ _ _) (by simp [Value.oneCell']) (by omega) (by omega) (by have := hB.size; simp; omega) ?_; intro v' w1 hown' hgrow _; obtain ⟨g', cap', rfl⟩ := ownsRow_succ hown'; obtain ⟨hv1, hv2, hr2, hk2, hb2⟩ := hv.appended (by decide) hrow hB.size (Nat.le_refl _) hown' hgrow; have hc1 := hv1.cell; have hf1 := hv1.frozen)
    exact ⟨hk2.from _, hk2.walks, ⟨_, hv2, by rw [valsW_snoc]; simpa using hr2, trivial⟩, hB.trans hb2⟩
  case done =>
    rintro D ys W hD hS ⟨⟨v, hv, hrow, -⟩, hB⟩ hK
    have hc := hv.cell
    gi_wp2
    refine ⟨by simp, .inl ⟨_, _, rfl, run_takeDeferred hK, ?_⟩⟩
    exact ⟨_, results_tmp rfl _ _ _, v, ys, rfl, hS, ownsRow_putObj hrow _ hK rfl, hB.trans (belowK_b (w := w) (Nat.le_refl _) W D _ _ (by simp at hD; omega) hK rfl rfl)⟩
  case stop =>
    rintro D c pre W _ _ h _
    exact h.elim
set_option maxRecDepth 100000 in
set_option maxHeartbeats 4000000 in
theorem collect_in (F : Fence) (n : Nat) (hf : F.fn 64) (hf2 : F.fn 84) (hro : F.round = none) (hn : 4 ≤ n) (gf : Nat) (lb : Array Value) (hFg : F.fn gf) (eg : ∀ args w, (callFunc gf args).run Try.prog w = .ok (.enter gf args) w)
    (S : List W64 → Prop) (Sp : List W64 → Prop) (N : Nat) (hN : N ≤ 100000) (w : World) (hseq : SeqStopsK F (n - 1 - 1) Try.prog gf lb encW KeepsWalks S Sp N w) (hSN : ∀ ss, S ss → ss.length ≤ N) :
    CallsIn F n Try.prog 64 #[.func (.func gf) #[] lb] w fun e w' => ∃ (v : Value) (ss : List W64), e = .returned v ∧ S ss ∧ w'.ownsRow w.heap.size 29 1 v ss.length ((valsW ss).map (Value.int .u64)) ∧ Below w.heap.size w w' := by
  have h1 : 1 ≤ n := by omega
  have C := appendSeq_in F (n - 1) hf2 hro (by omega) gf lb hFg eg S Sp N hN w hseq hSN
  refine callsIn_of_wp Try.func64 rfl hf ?_ hro
  simp only [Try.ntmps64, List.size_toArray, List.length_cons, List.length_nil, Nat.reduceAdd, Nat.reduceSub, Array.replicate_succ, Array.replicate_zero, List.push_toArray, List.append_toArray, List.nil_append, List.cons_append]
  gi_wp2_with (gi_at_call 84; refine C.mono ?_; rintro e w' ⟨v, ss, rfl, hS, hrow, hb⟩)
  go_ret
  exact ⟨v, ss, rfl, hS, hrow, hb⟩
/-- Collect over what gives words: the row's own form. -/
theorem collect_row (gf : Nat) (lb : Array Value) (eg : ∀ args w, (callFunc gf args).run Try.prog w = .ok (.enter gf args) w)
    (S : List W64 → Prop) (Sp : List W64 → Prop) (N : Nat) (hN : N ≤ 100000) (w : World) (hseq : SeqStopsK Fence.wide 6 Try.prog gf lb encW KeepsWalks S Sp N w) (hSN : ∀ ss, S ss → ss.length ≤ N) :
    Calls Try.prog 64 #[.func (.func gf) #[] lb] w fun e w' => ∃ A n c ss, e = .returned (.slice A n c) ∧ S ss ∧ Hid (wordK.Row w' w.heap.size A n c (valsW ss)) ∧ Hid (Below w.heap.size w w') := by
  refine (callsIn_wide.1 (collect_in Fence.wide 8 trivial trivial rfl (by omega) gf lb trivial eg S Sp N hN w hseq hSN)).mono ?_
  rintro e w' ⟨v, ss, rfl, hS, hrow, hb⟩
  have hcells : ∀ l : List W64, wordK.cells (valsW l) = (valsW l).map (Value.int .u64) := fun l => by
    induction l with
    | nil => rfl
    | cons x t ih => exact congrArg _ ih
  have hwf : ∀ l : List W64, ∀ x ∈ valsW l, wordK.wf x := fun l x hx => by
    obtain ⟨y, _, rfl⟩ := List.mem_map.1 hx
    exact y.2
  rcases hrow.2 with ⟨rfl, h0⟩ | ⟨g, cap, cur, rfl, rest⟩
  · refine ⟨none, 0, 0, ss, rfl, hS, ⟨?_, hwf ss⟩, hb⟩
    rw [hcells]
    rw [h0] at hrow; exact hrow
  · refine ⟨_, _, _, ss, rfl, hS, ⟨?_, hwf ss⟩, hb⟩
    rw [hcells]; exact hrow
/-- What a call leaves that answers the words of l in their order. -/
theorem sorted_row {N : Nat} (hS : SortTo N) (ks : List Int) (hris : Ris ks) (gf : Nat) (lb : Array Value) (eg : ∀ args w, (callFunc gf args).run Try.prog w = .ok (.enter gf args) w)
    (hN : N ≤ 100000) (hk : ks.length ≤ N) (w : World) (hseq : SeqStopsK Fence.wide 6 Try.prog gf lb encW KeepsWalks (fun ss => (valsW ss).Perm ks) (fun _ => True) ks.length w) :
    Calls Try.prog 42 #[.func (.func gf) #[] lb] w (GivesW w ks) := by
  have C := Lib.hid (collect_row gf lb eg _ _ ks.length (by omega) w hseq fun ss h => by rw [← valsW_len, h.length_eq]; exact Nat.le_refl _)
  clear hseq
  go_enter Try.func42, Try.ntmps42
  go_wp2_with fail
  refine C.out.mono ?_
  rintro e w1 ⟨A, n, c, ss, rfl, hP, HR, HB⟩
  have hn : n ≤ N := by
    have h1 := HR.out.len
    have h2 := hP.length_eq
    omega
  have CS := Lib.hid (hS A n c w.heap.size (valsW ss) w1 hn HB.out.size HR.out)
  have HP := Lib.hid hP
  clear hP C
  go_wp2_with fail
  refine CS.out.mono ?_
  rintro e w2 ⟨rfl, ys, hPy, hSy, hRy, hT⟩
  go_wp2_with fail
  go_ret
  have hp : ys.Perm ks := hPy.out.trans HP.out
  have hy : Ris ys := by
    have hnd : ys.Nodup := (hp.nodup_iff).2 (hris.imp fun h => by omega)
    refine (hSy.out.and hnd).imp fun h => ?_
    have := h.1
    have := h.2
    omega
  have he : ys = ks := ris_ext hy hris fun y => hp.mem_iff
  refine ⟨A, n, c, rfl, ?_, ?_⟩
  · rw [← he]; exact hRy
  · refine Turn.chain HB.out hT.out (fun b hb => ?_) HB.out.size
    exact Row.blk_ge HR.out b hb
theorem keys_any (mp : Option Nat) (w : World) : Calls Try.prog 43 #[.map mp] w fun e w' => e = .returned (.func (.func 65) #[] #[.pointer (some ⟨w.heap.size, 0, none⟩)]) ∧ w' = w.alloc (.cells #[.map mp] 58) := by
  go_enter Try.func43, Try.ntmps43
  go_wp2_with fail
  go_ret
  exact ⟨rfl, rfl⟩
theorem addrs_any {N : Nat} (hS : SortTo N) (hN : N ≤ 100000) {w : World} {base o : Nat} {fp : Nat → Prop} {s : IS} {L : IdL} (h : IdIn w base fp o s L) (hk : s.ks.length ≤ N) : Calls Try.prog 21 #[.pointer (some ⟨o, 0, none⟩)] w (GivesW w s.ks) := by
  have c0 := h.but.c0
  have c1 := h.but.c1
  obtain ⟨mp, HMP⟩ : ∃ m, Hid (L.mp = m) := ⟨_, rfl⟩
  rw [HMP.out] at c1
  have CK := Lib.hid (keys_any mp w)
  obtain ⟨W1, HW1⟩ : ∃ W, Hid (w.alloc (.cells #[.map mp] 58) = W) := ⟨_, rfl⟩
  have HB : Hid (Below w.heap.size w W1) := by show Below _ _ _; rw [← HW1.out]; exact (Below.refl _ _).alloc (Nat.le_refl _) _
  have hb := (Boxed.new w 58 (.map mp)).cell
  have hz : W1.heap.size = w.heap.size + 1 := by rw [← HW1.out]; simp
  have h1 := h.since HB.out
  have CS : Hid (Calls Try.prog 42 #[.func (.func 65) #[] #[.pointer (some ⟨w.heap.size, 0, none⟩)]] W1 (GivesW W1 s.ks)) := by
    refine sorted_row hS s.ks h.but.ok.ris _ _ (enters_of Try.func65 (by kernel_rfl) rfl) hN hk W1 ?_
    refine keys_stops Fence.wide 6 trivial rfl (by omega) w.heap.size mp s.ks (elemOf s L) W1 (by omega) (by rw [← HW1.out]; exact hb) (h.but.ok.ris.imp fun h => by omega) h.but.ok.u64 (fun b e => ?_) fun e => h.but.nil (HMP.out.trans e)
    exact ⟨h1.but.lt b (h1.but.fm b (HMP.out.trans e)), h1.map b (HMP.out.trans e)⟩
  clear h h1 hb hz
  go_enter Try.func21, Try.ntmps21
  go_wp2_with fail
  refine CK.out.mono ?_
  rintro e w1 ⟨rfl, rfl⟩
  rw [HW1.out]
  go_wp2_with fail
  refine CS.out.mono ?_
  rintro e w2 ⟨A, n, c, rfl, HR, HB2⟩
  go_wp2_with fail
  go_ret
  exact ⟨A, n, c, rfl, HR.out.elder HB.out.size, below_chain HB.out HB2.out⟩
theorem addrs_nil (w : World) : Calls Try.prog 21 #[.pointer none] w fun e w' => e = .returned (.slice none 0 0) ∧ w' = w := by
  go_enter Try.func21, Try.ntmps21
  go_wp2_with fail
  go_ret
  exact ⟨rfl, rfl⟩
end
end Go.Proofs.Ytfidamiomnohcaa
