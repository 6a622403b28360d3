/- What the statements share of entries: SameEntries of equal lists, OverEntries; one entry of a list. Conditions: the slices' cells; at most 7000 entries are written over. -/
import Derived.Test.YthamnmadgfmbkaaEntries
import Derived.Test.YthamnmadgfmbkaaKindMade
import Derived.Test.YthamnmadgfmbkaaSays
set_option linter.unusedVariables false
set_option linter.unusedSimpArgs false
namespace Go.Proofs.Ythamnmadgfmbkaa
open Go.RowKit

def getEn (es : List E) (k : Nat) : E := es.getD k E.zero
theorem ent_at {w : World} {B n : Nat} {A : Option Addr} {es : List E} (h : entK.Lie w B A n es) {k : Nat} (hk : k < n) : ∃ ad, A = some ad ∧ ad.block < B ∧ EntAt w (ad.add (k * 4)) (getEn es k) := by
  obtain ⟨ad, e1, e2, e3⟩ := h.each k hk
  exact ⟨ad, e1, e2, entAt_of (e := getEn es k) e3⟩
theorem EntAt.since {w w' : World} {p : Addr} {e : E} (h : EntAt w p e) (hl : p.block < w.heap.size) (hb : Below w.heap.size w w') : EntAt w' p e :=
  ⟨(hb.cell (p := p) hl).trans h.c0, (hb.cell (p := ⟨p.block, p.off + 1, none⟩) hl).trans h.c1, (hb.cell (p := ⟨p.block, p.off + 2, none⟩) hl).trans h.c2, (hb.cell (p := ⟨p.block, p.off + 3, none⟩) hl).trans h.c3⟩
set_option maxHeartbeats 1000000 in
theorem sameentries_yes (A A' : Option Addr) (n c c' : Nat) (es : List E) (w : World) (hn : n ≤ 9223372036854775807) (hA : entK.Lie w w.heap.size A n es) (hA' : entK.Lie w w.heap.size A' n es) :
    Calls Try.prog 17 #[.slice A n c, .slice A' n c'] w fun e w' => e = .returned (.bool true) ∧ ∃ m, w' = w.drewN m := by
  have HA := Lib.hid hA
  have HA' := Lib.hid hA'
  clear hA hA'
  go_enter Try.func17, Try.ntmps17
  go_wp2
  go_loopw [5] (fun t5 wr => ∃ (k m : Nat), k ≤ n ∧ t5 = .int .i64 k ∧ wr = w.drewN m) (fun t5 _ => n - (intOf t5).toNat)
  case atStart => exact ⟨0, 0, Nat.zero_le _, rfl, rfl⟩
  case round =>
    obtain ⟨k, m, hk, rfl, rfl⟩ := hrel
    by_cases hlt : k < n
    · obtain ⟨ad, hA, hblk, hat⟩ := HA.out.each k hlt
      obtain ⟨ad', hA', hblk', hat'⟩ := HA'.out.each k hlt
      obtain ⟨v, HV⟩ : ∃ v, Hid (es.getD k entK.dflt = v) := ⟨_, rfl⟩
      rw [HV.out] at hat hat'
      obtain ⟨c0, c1, c2, c3⟩ := entAt_of (show entK.At w (ad.add (k * 4)) v from hat)
      obtain ⟨e0, e1, e2, e3⟩ := entAt_of (show entK.At w (ad'.add (k * 4)) v from hat')
      subst hA hA'
      have i0 : (0 : Int) ≤ (k : Int) := by omega
      have i1 : (k : Int) < (n : Int) := by omega
      clear hat hat'
      go_wp2
      go_quiet (fail)
      go_wp2
      go_roundw
      case rel => exact ⟨k + 1, m + nq, by omega, by go_num, rfl⟩
      case measure => simp [intOf]; omega
    · go_wp2
      go_ret
      exact ⟨rfl, _, rfl⟩
theorem sameentries_since (A A' : Option Addr) (n c c' : Nat) (es : List E) (w : World) (hn : n ≤ 9223372036854775807) (hA : entK.Lie w w.heap.size A n es) (hA' : entK.Lie w w.heap.size A' n es) :
    Calls Try.prog 17 #[.slice A n c, .slice A' n c'] w (SaysB w true) :=
  (sameentries_yes A A' n c c' es w hn hA hA').mono fun e w' ⟨he, m, hw⟩ => ⟨he, hw ▸ below_drewN (Below.refl _ _) m⟩
theorem ent_cells_set : ∀ (vs : List E) (i : Nat) (v : E), i < vs.length → entK.cells (vs.set i v) = ((((entK.cells vs).set (i * 4) (.int .u64 v.addr)).set (i * 4 + 1) (.int .i64 v.page)).set (i * 4 + 2) (.bool v.dirty)).set (i * 4 + 3) (.int .i64 v.seq)
  | [], i, v, h => by simp at h
  | u :: r, 0, v, _ => rfl
  | u :: r, i + 1, v, h => by
    have ih := ent_cells_set r i v (by simpa using h)
    have e : ∀ (l : List Value) (k : Nat) (x : Value), (entCells u ++ l).set (k + 4) x = entCells u ++ l.set k x := fun l k x => rfl
    show entCells u ++ entK.cells (r.set i v) = _
    rw [ih, show (i + 1) * 4 = i * 4 + 4 by omega]
    show _ = ((((entCells u ++ entK.cells r).set (i * 4 + 4) _).set (i * 4 + 4 + 1) _).set (i * 4 + 4 + 2) _).set (i * 4 + 4 + 3) _
    rw [e, show i * 4 + 4 + 1 = i * 4 + 1 + 4 by omega, e, show i * 4 + 4 + 2 = i * 4 + 2 + 4 by omega, e, show i * 4 + 4 + 3 = i * 4 + 3 + 4 by omega, e]
/-- The world behind the store of an entry. -/
def putEn (W : World) (g p : Nat) (v : E) : World := (((W.setCell ⟨g, p, none⟩ (.int .u64 v.addr)).setCell ⟨g, p + 1, none⟩ (.int .i64 v.page)).setCell ⟨g, p + 2, none⟩ (.bool v.dirty)).setCell ⟨g, p + 3, none⟩ (.int .i64 v.seq)
theorem entRow_set {W : World} {base g n c : Nat} {vs : List E} (h : entK.Row W base (some ⟨g, 0, none⟩) n c vs) {i : Nat} (hi : i < n) (v : E) (hv : EWf v) : entK.Row (putEn W g (i * 4) v) base (some ⟨g, 0, none⟩) n c (vs.set i v) ∧ W.grownBy (putEn W g (i * 4) v) (some g) := by
  obtain ⟨h1, g1⟩ := h.row.stored (i * 4) (.int .u64 v.addr)
  obtain ⟨h2, g2⟩ := h1.stored (i * 4 + 1) (.int .i64 v.page)
  obtain ⟨h3, g3⟩ := h2.stored (i * 4 + 2) (.bool v.dirty)
  obtain ⟨h4, g4⟩ := h3.stored (i * 4 + 3) (.int .i64 v.seq)
  refine ⟨⟨?_, fun u hu => ?_⟩, grownBy_trans (grownBy_trans (grownBy_trans g1 g2) g3) g4⟩
  · rw [ent_cells_set vs i v (by rw [h.len]; exact hi)]; exact h4
  · rcases List.mem_or_eq_of_mem_set hu with hu | hu
    · exact h.wf u hu
    · rw [hu]; exact hv
def overE : E := ⟨0, -9, false, 0⟩
theorem overE_wf : EWf overE := ⟨by decide, by decide, by decide, by decide, by decide, by decide⟩
set_option maxHeartbeats 4000000 in
theorem overentries_any (A : Option Addr) (n c base : Nat) (ms : List E) (w : World) (hn : n ≤ 7000) (hbase : base ≤ w.heap.size) (hO : entK.Row w base A n c ms) :
    Calls Try.prog 19 #[.slice A n c] w fun e w' => e = .returned (.tuple #[]) ∧ w.grownBy w' (Value.slice A n c).ownBlock := by
  have HO := Lib.hid hO
  have HNZ : Hid (0 < n → ∃ g, A = some ⟨g, 0, none⟩) := fun h => by
    rcases hO.row.2 with ⟨_, h0⟩ | ⟨g, cap, cur, hv, hbg, hg, _⟩
    · omega
    · injection hv with e1 e2 e3
      exact ⟨g, e1⟩
  clear hO
  go_enter Try.func19, Try.ntmps19
  go_wp2_with fail
  go_loopw [2] (fun t2 wr => ∃ (j : Nat) (cs : List E), t2 = .int .i64 j ∧ j ≤ n ∧ Hid (entK.Row wr base A n c cs) ∧ Hid (w.grownBy wr (Value.slice A n c).ownBlock)) (fun t2 _ => n - (intOf t2).toNat)
  case atStart => exact ⟨0, ms, rfl, Nat.zero_le _, HO, World.grownBy.refl _ _⟩
  case round =>
    obtain ⟨j, cs, rfl, hj, HR, HG⟩ := hrel
    by_cases hlt : j < n
    · obtain ⟨g, rfl⟩ := HNZ.out (by omega)
      obtain ⟨ad, hA, hblk, hat⟩ := ent_at HR.out.lie hlt
      obtain rfl := Option.some.inj hA
      rw [add_zero_addr] at hat
      obtain ⟨m, HM⟩ : ∃ m, Hid (m = getEn cs j) := ⟨_, rfl⟩
      rw [← HM.out] at hat
      obtain ⟨c0, c1, c2, c3⟩ := hat
      dsimp only at c0 c1 c2 c3
      have f0 : wr.frozen? ⟨g, j * 4, none⟩ = false := HR.out.row.frozenAt _
      have f1 : wr.frozen? ⟨g, j * 4 + 1, none⟩ = false := HR.out.row.frozenAt _
      have f2 : wr.frozen? ⟨g, j * 4 + 2, none⟩ = false := HR.out.row.frozenAt _
      have f3 : wr.frozen? ⟨g, j * 4 + 3, none⟩ = false := HR.out.row.frozenAt _
      obtain ⟨hr, hg⟩ := entRow_set HR.out hlt overE overE_wf
      have HR3 := Lib.hid hr
      have HG3 : Hid (w.grownBy (putEn wr g (j * 4) overE) (some g)) := grownBy_trans HG.out hg
      unfold putEn overE at HR3 HG3
      dsimp only at HR3 HG3
      have i0 : (0 : Int) ≤ (j : Int) := by omega
      have i1 : (j : Int) < (n : Int) := by omega
      clear hr hg
      go_wp2
      go_roundw
      case rel => exact ⟨j + 1, _, by go_num, by omega, HR3, HG3⟩
      case measure => simp [intOf]; omega
    · obtain ⟨A9, c9, W9, hr9, ho9, hg9⟩ := Kind.append_one_b (K := entK) (Nat.le_trans hbase HG.out.size) HR.out overE overE_wf #[.int .u64 0, .int .i64 (-9), .bool false, .int .i64 0] rfl (by omega)
      have R9 := Lib.hid hr9
      have HG9 := Lib.hid (grownBy_trans HG.out hg9)
      clear hr9 ho9 hg9
      go_wp2_with (at_builtin; refine wpList_append_run rfl (.tmp 13) (.tmp 15) 27 rfl rfl rfl R9.out ?_)
      go_end0
      exact ⟨rfl, HG9.out⟩
/-- A block of one entry. -/
structure RowEn (w : World) (g : Nat) (e : E) : Prop where
  row : w.heap[g]? = some (.cells #[.int .u64 e.addr, .int .i64 e.page, .bool e.dirty, .int .i64 e.seq] 32 (0, 0))
structure CellsEn (w : World) (g : Nat) (e : E) : Prop where
  c0 : w.cell? ⟨g, 0, none⟩ = some (.int .u64 e.addr)
  c1 : w.cell? ⟨g, 1, none⟩ = some (.int .i64 e.page)
  c2 : w.cell? ⟨g, 2, none⟩ = some (.bool e.dirty)
  c3 : w.cell? ⟨g, 3, none⟩ = some (.int .i64 e.seq)
theorem RowEn.lt {w : World} {g : Nat} {e : E} (h : RowEn w g e) : g < w.heap.size := (Array.getElem?_eq_some_iff.1 h.row).1
theorem RowEn.at_ {w : World} {g : Nat} {e : E} (h : RowEn w g e) : CellsEn w g e :=
  ⟨by rw [cell_of_row _ _ _ _ _ _ h.row]; rfl, by rw [cell_of_row _ _ _ _ _ _ h.row]; rfl, by rw [cell_of_row _ _ _ _ _ _ h.row]; rfl, by rw [cell_of_row _ _ _ _ _ _ h.row]; rfl⟩
theorem RowEn.free {w : World} {g : Nat} {e : E} (h : RowEn w g e) (k : Nat) : w.frozen? ⟨g, k, none⟩ = false := by simp [World.frozen?, h.row]
theorem RowEn.since {w w' : World} {g : Nat} {e : E} (h : RowEn w g e) (hb : Below w.heap.size w w') : RowEn w' g e := ⟨(hb.block g h.lt).trans h.row⟩
theorem RowEn.put {w : World} {g : Nat} {e : E} (h : RowEn w g e) (u : E) : RowEn ((((w.setCell ⟨g, 0, none⟩ (.int .u64 u.addr)).setCell ⟨g, 1, none⟩ (.int .i64 u.page)).setCell ⟨g, 2, none⟩ (.bool u.dirty)).setCell ⟨g, 3, none⟩ (.int .i64 u.seq)) g u := ⟨by simp [World.setCell, Array.getElem?_modify, h.row]⟩
theorem rowEn_new (W : World) (e : E) : RowEn (W.alloc (.cells #[.int .u64 e.addr, .int .i64 e.page, .bool e.dirty, .int .i64 e.seq] 32)) W.heap.size e := ⟨heap_alloc_new W _⟩
theorem putEn_else (w : World) (g : Nat) (a b c d : Value) : w.grownBy ((((w.setCell ⟨g, 0, none⟩ a).setCell ⟨g, 1, none⟩ b).setCell ⟨g, 2, none⟩ c).setCell ⟨g, 3, none⟩ d) (some g) :=
  grownBy_trans (grownBy_trans (grownBy_trans (setCell_else w ⟨g, 0, none⟩ a) (setCell_else _ ⟨g, 1, none⟩ b)) (setCell_else _ ⟨g, 2, none⟩ c)) (setCell_else _ ⟨g, 3, none⟩ d)
end Go.Proofs.Ythamnmadgfmbkaa
