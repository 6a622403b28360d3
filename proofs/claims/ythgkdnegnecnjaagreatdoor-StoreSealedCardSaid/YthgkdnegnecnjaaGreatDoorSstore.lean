/- Texts of one layer, laid together. Conditions: as each one says. -/
import Derived.Test.YthgkdnegnecnjaaGreatDoorShead
import Derived.Test.YthgkdnegnecnjaaGreatDoorSbase
import Derived.Maps.OwnSet
import Derived.Maps.AppendAt
import Derived.WalkSpells
import Derived.Test.YthgkdnegnecnjaaGreatDoorSyard
import Derived.Test.YthgkdnegnecnjaaGreatDoorSnande
import Derived.Test.YthgkdnegnecnjaaGreatDoorSnand
import Derived.Test.YthgkdnegnecnjaaGreatDoorSplan
/- The heads that a store keeps: a map of the store's own, by the numbers of pages. Conditions: its block. -/
set_option linter.unusedVariables false
set_option linter.unusedSimpArgs false
set_option maxRecDepth 20000
namespace Go.Proofs.YthgkdnegnecnjaaGreatDoor
open Go.RowKit

/-- A head as a value; what it reads as. -/
def hdV (h : Hd.H) : Value := .agg #[.int .i64 (h.k : Int), .int .u64 (h.a : Int), .int .i64 (h.s : Int), .int .i64 (h.g : Int)]
def hdD (K A S G : Int) : DataW Unit := .agg [.lit (.int .i64 K), .lit (.int .u64 A), .lit (.int .i64 S), .lit (.int .i64 G)]
def hdOf (h : Hd.H) : DataW Unit := hdD h.k h.a h.s h.g
def readHd (v : Value) : Option (DataW Unit × List MemPlace) :=
  match v with
  | .agg xs => match xs.toList with
    | [.int .i64 K, .int .u64 A, .int .i64 S, .int .i64 G] => some (hdD K A S G, [])
    | _ => none
  | _ => none
theorem readHd_of (h : Hd.H) : readHd (hdV h) = some (hdOf h, []) := rfl
theorem readHd_inv {v : Value} {K A S G : Int} {ps : List MemPlace} (e : readHd v = some (hdD K A S G, ps)) : v = .agg #[.int .i64 K, .int .u64 A, .int .i64 S, .int .i64 G] := by
  unfold readHd at e
  split at e
  · split at e
    · next xs _ K' A' S' G' hx =>
      simp only [hdD, Option.some.injEq, Prod.mk.injEq, DataW.agg.injEq, List.cons.injEq, DataW.lit.injEq, Lit.int.injEq, true_and, and_true] at e
      obtain ⟨⟨e1, e2, e3, e4⟩, _⟩ := e
      subst e1 e2 e3 e4
      have : xs = #[.int .i64 K', .int .u64 A', .int .i64 S', .int .i64 G'] := Array.toList_inj.1 hx
      rw [this]
    · cases e
  · cases e
def KeyOk (p : Int) : Prop := (Lit.int .i64 p).wf = true
/-- What a map of heads holds. -/
structure MapAt (w : World) (b n : Nat) (hd : Int → Option Hd.H) : Prop where
  ex : ∃ D : DataW Unit, w.ownsMap Tryz.prog 3 readHd b n D ∧ ∀ p, KeyOk p → (hd p = none → Maps.has D (.int .i64 p) = false) ∧ ∀ h, hd p = some h → Maps.has D (.int .i64 p) = true ∧ ∀ z, D.atKey (.int .i64 p) z = hdOf h
theorem intKeyed : Maps.Keyed Tryz.prog 3 := Maps.int_keyed Tryz.underlying3
theorem MapAt.mono {w : World} {b n n' : Nat} {hd : Int → Option Hd.H} (h : MapAt w b n hd) (hn : n ≤ n') : MapAt w b n' hd := by
  obtain ⟨D, h1, h2⟩ := h.ex
  exact ⟨D, h1.mono hn, h2⟩
theorem MapAt.lt {w : World} {b n : Nat} {hd : Int → Option Hd.H} (h : MapAt w b n hd) : b < w.heap.size := h.ex.elim fun D h => h.1.lt
theorem MapAt.at_block {w w' : World} {b n : Nat} {hd : Int → Option Hd.H} (h : MapAt w b n hd) (hb : w'.heap[b]? = w.heap[b]?) : MapAt w' b n hd := by
  obtain ⟨D, ⟨es, clock, e1, e2⟩, h2⟩ := h.ex
  exact ⟨D, ⟨es, clock, hb.trans e1, e2⟩, h2⟩
theorem MapAt.isMap {w : World} {b n : Nat} {hd : Int → Option Hd.H} (h : MapAt w b n hd) : ∃ x y, w.heap[b]? = some (.map x y) := by
  obtain ⟨D, ⟨es, clock, e1, e2⟩, h2⟩ := h.ex
  exact ⟨_, _, e1⟩
theorem MapAt.made (w : World) : MapAt (w.alloc (.map #[] 0)) w.heap.size 0 fun _ => none :=
  ⟨_, World.ownsMap_made w _ _ _, fun p _ => ⟨fun _ => rfl, fun h e => by cases e⟩⟩
theorem keyOk {p : Int} (h0 : -9223372036854775808 ≤ p) (h1 : p ≤ 9223372036854775807) : KeyOk p := by
  have e0 : IntKind.i64.min = -9223372036854775808 := by decide
  have e1 : IntKind.i64.max = 9223372036854775807 := by decide
  unfold KeyOk
  simp [Lit.wf, e0, e1]
  omega
theorem zero_head (w : World) : (zeroValue 42).run Tryz.prog w = .ok (.agg #[.int .i64 0, .int .u64 0, .int .i64 0, .int .i64 0]) w := by go_simp
theorem MapAt.look {w : World} {b n : Nat} {hd : Int → Option Hd.H} (h : MapAt w b n hd) {p : Int} (hp : KeyOk p) :
    (Instr.lookup 91 (.map (some b)) (.int .i64 p) true).run Tryz.prog w = .ok (.tuple #[(match hd p with | some x => hdV x | none => .agg #[.int .i64 0, .int .u64 0, .int .i64 0, .int .i64 0]), .bool (hd p).isSome]) w := by
  obtain ⟨D, h1, h2⟩ := h.ex
  obtain ⟨v, ps, hrun, hv⟩ := h1.look_ok intKeyed Tryz.underlying91 (zero_head w) (zd := hdD 0 0 0 0) rfl (Maps.keyOf_int_mk Tryz.underlying3 hp)
  rw [hrun]
  obtain ⟨g1, g2⟩ := h2 p hp
  cases e : hd p with
  | none =>
    have a := g1 e
    rw [Maps.atKey_of_not_has a] at hv
    rw [a, readHd_inv hv]
    rfl
  | some x =>
    obtain ⟨a, c⟩ := g2 x e
    rw [c] at hv
    rw [a, readHd_inv hv]
    rfl
def updH (hd : Int → Option Hd.H) (p : Int) (x : Option Hd.H) : Int → Option Hd.H := fun q => if q = p then x else hd q
theorem updH_same (hd : Int → Option Hd.H) (p : Int) (x : Option Hd.H) : updH hd p x p = x := if_pos rfl
theorem updH_other (hd : Int → Option Hd.H) {p q : Int} (x : Option Hd.H) (h : q ≠ p) : updH hd p x q = hd q := if_neg h
theorem keyLit {p : Int} (hp : KeyOk p) : WideAt.IsKeyLit (.int .i64 p) := by
  first | exact trivial | exact hp | simp [WideAt.IsKeyLit]
theorem litNe {p q : Int} (h : q ≠ p) : Lit.int .i64 q ≠ Lit.int .i64 p := fun e => h (by injection e)
theorem MapAt.put {w : World} {b n : Nat} {hd : Int → Option Hd.H} (h : MapAt w b n hd) {p : Int} (hp : KeyOk p) (hn : n ≤ 1000000000) (x : Hd.H) :
    ∃ w', (Instr.mapUpdate 91 (.map (some b)) (.int .i64 p) (hdV x)).run Tryz.prog w = .ok () w' ∧ MapAt w' b (n + 1) (updH hd p (some x)) ∧ w.grownBy w' (some b) := by
  obtain ⟨D, h1, h2⟩ := h.ex
  obtain ⟨w', hrun, k1, k2⟩ := h1.store intKeyed Tryz.underlying91 (by unfold maxLen; omega) (Maps.keyOf_int_mk Tryz.underlying3 hp) (readHd_of x)
  refine ⟨w', hrun, ⟨_, k1, fun q hq => ?_⟩, k2.grown⟩
  have hD := h1.isMap
  by_cases e : q = p
  · subst e
    rw [updH_same]
    refine ⟨(fun e => nomatch e), fun y ey => ?_⟩
    cases ey
    exact ⟨Maps.has_put_same hD (keyLit hp) _, fun z => Maps.atKey_put_same hD (keyLit hp) _ z⟩
  · rw [updH_other _ _ e, Maps.has_put_other (litNe e)]
    refine ⟨(h2 q hq).1, fun y ey => ?_⟩
    obtain ⟨a, c⟩ := (h2 q hq).2 y ey
    exact ⟨a, fun z => by rw [Maps.atKey_put_other (litNe e)]; exact c z⟩
theorem MapAt.del {w : World} {b n : Nat} {hd : Int → Option Hd.H} (h : MapAt w b n hd) {p : Int} (hp : KeyOk p) (ty : TypeId) :
    ∃ w', (Builtin.delete_ #[91, 3] ty #[.map (some b), .int .i64 p]).run Tryz.prog w = .ok (.tuple #[]) w' ∧ MapAt w' b n (updH hd p none) ∧ w.grownBy w' (some b) := by
  obtain ⟨D, h1, h2⟩ := h.ex
  obtain ⟨w', hrun, k1, k2⟩ := h1.drop intKeyed Tryz.underlying91 (Maps.keyOf_int_mk Tryz.underlying3 hp) ty
  refine ⟨w', hrun, ⟨_, k1, fun q hq => ?_⟩, k2.grown⟩
  by_cases e : q = p
  · subst e
    rw [updH_same]
    exact ⟨fun _ => Maps.has_del_same, (fun y ey => nomatch ey)⟩
  · rw [updH_other _ _ e, Maps.has_del_other (litNe e)]
    refine ⟨(h2 q hq).1, fun y ey => ?_⟩
    obtain ⟨a, c⟩ := (h2 q hq).2 y ey
    exact ⟨a, fun z => by rw [Maps.atKey_del_other (litNe e)]; exact c z⟩
end Go.Proofs.YthgkdnegnecnjaaGreatDoor

/- A store in memory: its yard, its chip, the heads of what is needed. Conditions: its cells. -/
set_option linter.unusedVariables false
set_option linter.unusedSimpArgs false
set_option maxRecDepth 20000
namespace Go.Proofs.YthgkdnegnecnjaaGreatDoor
open Go.RowKit

/-- What a store is. -/
structure SS where
  c : Chip
  y : Yd
  hd : Int → Option Hd.H
/-- The blocks that it stands in. -/
def fpS (g gm : Nat) (fy fc : Nat → Prop) : Nat → Prop := fun b => b = g ∨ b = gm ∨ fy b ∨ fc b
structure SRep (w : World) (base g gc gy gm : Nat) (fy fc : Nat → Prop) (n : Nat) (s : SS) : Prop where
  row : w.heap[g]? = some (.cells #[.pointer (some ⟨gy, 0, none⟩), .pointer (some ⟨gc, 0, none⟩), .map (some gm)] 93 (0, 0))
  yard : YardAt w base fy gy s.y
  chip : ChipAt w base fc gc s.c
  map : MapAt w gm n s.hd
  yn : ∀ b, fy b → b ≠ g ∧ b ≠ gm ∧ ¬ fc b
  cn : ∀ b, fc b → b ≠ g ∧ b ≠ gm
  ge : base ≤ g ∧ base ≤ gm
section
variable {w w' W : World} {base base' g gc n n' : Nat} {s : SS} {gy gm : Nat} {fy fc fy' fc' : Nat → Prop} {y' : Yd} {c' : Chip} {hd' : Int → Option Hd.H} {fp fp' : Nat → Prop}
theorem SRep.lt (h : SRep w base g gc gy gm fy fc n s) : ∀ b, fpS g gm fy fc b → b < w.heap.size := by
  rintro b (rfl | rfl | hb | hb)
  · exact (Array.getElem?_eq_some_iff.1 h.row).1
  · exact h.map.lt
  · exact h.yard.lt b hb
  · exact h.chip.lt b hb
theorem SRep.le (h : SRep w base g gc gy gm fy fc n s) : ∀ b, fpS g gm fy fc b → base ≤ b := by
  rintro b (rfl | rfl | hb | hb)
  · exact h.ge.1
  · exact h.ge.2
  · exact h.yard.ge b hb
  · exact h.chip.ge b hb
theorem SRep.gm_ne (h : SRep w base g gc gy gm fy fc n s) : gm ≠ g := fun e => by
  obtain ⟨x, y, hm⟩ := h.map.isMap
  rw [e, h.row] at hm
  cases hm
theorem SRep.c0 (h : SRep w base g gc gy gm fy fc n s) : w.cell? ⟨g, 0, none⟩ = some (.pointer (some ⟨gy, 0, none⟩)) := by rw [cell_of_row _ _ _ _ _ _ h.row]; rfl
theorem SRep.c1 (h : SRep w base g gc gy gm fy fc n s) : w.cell? ⟨g, 1, none⟩ = some (.pointer (some ⟨gc, 0, none⟩)) := by rw [cell_of_row _ _ _ _ _ _ h.row]; rfl
theorem SRep.c2 (h : SRep w base g gc gy gm fy fc n s) : w.cell? ⟨g, 2, none⟩ = some (.map (some gm)) := by rw [cell_of_row _ _ _ _ _ _ h.row]; rfl
theorem SRep.withY (h : SRep w base g gc gy gm fy fc n s) (hY : YardAt w' base fy' gy y') (hM : Moves w fy w' fy') :
    SRep w' base g gc gy gm fy' fc n { s with y := y' } ∧ Moves w (fpS g gm fy fc) w' (fpS g gm fy' fc) := by
  have hg : ¬ fy g := fun e => (h.yn g e).1 rfl
  have hm : ¬ fy gm := fun e => (h.yn gm e).2.1 rfl
  have lg := h.lt g (Or.inl rfl)
  have lm := h.map.lt
  refine ⟨⟨(hM.turn.block g lg hg).trans h.row, hY, h.chip.keep hM.turn fun b hb hc => (h.yn b hb).2.2 hc, h.map.at_block (hM.turn.block _ lm hm), fun b hb => ?_, h.cn, h.ge⟩, hM.turn.mono fun b hb => Or.inl (Or.inr (Or.inr (Or.inl hb))), fun b hb => ?_⟩
  · rcases hM.grows b hb with hb | hb
    · exact h.yn b hb
    · exact ⟨by omega, by omega, fun hc => by have := h.chip.lt b hc; omega⟩
  · rcases hb with hb | hb | hb | hb
    · exact Or.inl (Or.inl hb)
    · exact Or.inl (Or.inr (Or.inl hb))
    · rcases hM.grows b hb with hb | hb
      · exact Or.inl (Or.inr (Or.inr (Or.inl hb)))
      · exact Or.inr hb
    · exact Or.inl (Or.inr (Or.inr (Or.inr hb)))
theorem SRep.withC (h : SRep w base g gc gy gm fy fc n s) (hC : ChipAt w' base fc' gc c') (hM : Moves w fc w' fc') :
    SRep w' base g gc gy gm fy fc' n { s with c := c' } ∧ Moves w (fpS g gm fy fc) w' (fpS g gm fy fc') := by
  have hg : ¬ fc g := fun e => (h.cn g e).1 rfl
  have hm : ¬ fc gm := fun e => (h.cn gm e).2 rfl
  have lg := h.lt g (Or.inl rfl)
  have lm := h.map.lt
  refine ⟨⟨(hM.turn.block g lg hg).trans h.row, h.yard.keep hM.turn fun b hb hc => (h.yn b hc).2.2 hb, hC, h.map.at_block (hM.turn.block _ lm hm), fun b hb => ?_, fun b hb => ?_, h.ge⟩, hM.turn.mono fun b hb => Or.inl (Or.inr (Or.inr (Or.inr hb))), fun b hb => ?_⟩
  · refine ⟨(h.yn b hb).1, (h.yn b hb).2.1, fun hc => ?_⟩
    rcases hM.grows b hc with hc | hc
    · exact (h.yn b hb).2.2 hc
    · have := h.yard.lt b hb; omega
  · rcases hM.grows b hb with hb | hb
    · exact h.cn b hb
    · exact ⟨by omega, by omega⟩
  · rcases hb with hb | hb | hb | hb
    · exact Or.inl (Or.inl hb)
    · exact Or.inl (Or.inr (Or.inl hb))
    · exact Or.inl (Or.inr (Or.inr (Or.inl hb)))
    · rcases hM.grows b hb with hb | hb
      · exact Or.inl (Or.inr (Or.inr (Or.inr hb)))
      · exact Or.inr hb
theorem SRep.withM (h : SRep w base g gc gy gm fy fc n s) (hG : w.grownBy w' (some gm)) (hm : MapAt w' gm n' hd') :
    SRep w' base g gc gy gm fy fc n' { s with hd := hd' } ∧ Moves w (fpS g gm fy fc) w' (fpS g gm fy fc) := by
  have hT : Turn (fun b => b = gm) w w' := Turn.of_grown hG fun b hb => (Option.some.inj hb).symm
  have lg := h.lt g (Or.inl rfl)
  refine ⟨⟨(hT.block g lg (Ne.symm h.gm_ne)).trans h.row, h.yard.keep hT fun b hb hc => (h.yn b hc).2.1 hb, h.chip.keep hT fun b hb hc => (h.cn b hc).2 hb, hm, h.yn, h.cn, h.ge⟩, hT.mono fun b hb => Or.inl (Or.inr (Or.inl hb)), fun b hb => Or.inl hb⟩
theorem SRep.since (h : SRep w base g gc gy gm fy fc n s) (hb : Below w.heap.size w w') : SRep w' base g gc gy gm fy fc n s :=
  ⟨(hb.block g (h.lt g (Or.inl rfl))).trans h.row, h.yard.since hb, h.chip.since hb, h.map.at_block (hb.block _ h.map.lt), h.yn, h.cn, h.ge⟩
theorem SRep.elder (h : SRep w base g gc gy gm fy fc n s) (hb : base' ≤ base) : SRep w base' g gc gy gm fy fc n s :=
  ⟨h.row, h.yard.elder hb, h.chip.elder hb, h.map, h.yn, h.cn, ⟨Nat.le_trans hb h.ge.1, Nat.le_trans hb h.ge.2⟩⟩
end
/-- A store, with a bound of how many heads it may hold. -/
def StoreN (w : World) (base : Nat) (fp : Nat → Prop) (g gc : Nat) (s : SS) (n : Nat) : Prop := ∃ gy gm fy fc, fp = fpS g gm fy fc ∧ SRep w base g gc gy gm fy fc n s
/-- A store. -/
def StoreAt (w : World) (base : Nat) (fp : Nat → Prop) (g gc : Nat) (s : SS) : Prop := ∃ n, n ≤ s.c.ops ∧ StoreN w base fp g gc s n
section
variable {w w' W : World} {base base' g gc n n' : Nat} {s : SS} {fp fq : Nat → Prop}
theorem StoreN.since (h : StoreN w base fp g gc s n) (hb : Below w.heap.size w w') : StoreN w' base fp g gc s n := by
  obtain ⟨gy, gm, fy, fc, e, h⟩ := h
  exact ⟨gy, gm, fy, fc, e, h.since hb⟩
theorem StoreN.lt (h : StoreN w base fp g gc s n) : ∀ b, fp b → b < w.heap.size := by
  obtain ⟨gy, gm, fy, fc, rfl, h⟩ := h
  exact h.lt
theorem StoreN.le (h : StoreN w base fp g gc s n) : ∀ b, fp b → base ≤ b := by
  obtain ⟨gy, gm, fy, fc, rfl, h⟩ := h
  exact h.le
theorem StoreAt.since (h : StoreAt w base fp g gc s) (hb : Below w.heap.size w w') : StoreAt w' base fp g gc s := by
  obtain ⟨n, h0, h⟩ := h
  exact ⟨n, h0, h.since hb⟩
theorem StoreAt.elder (h : StoreAt w base fp g gc s) (hb : base' ≤ base) : StoreAt w base' fp g gc s := by
  obtain ⟨n, h0, gy, gm, fy, fc, e, h⟩ := h
  exact ⟨n, h0, gy, gm, fy, fc, e, h.elder hb⟩
theorem StoreAt.lt (h : StoreAt w base fp g gc s) : ∀ b, fp b → b < w.heap.size := by
  obtain ⟨n, h0, h⟩ := h
  exact h.lt
theorem StoreAt.le (h : StoreAt w base fp g gc s) : ∀ b, fp b → base ≤ b := by
  obtain ⟨n, h0, h⟩ := h
  exact h.le
theorem StoreAt.same (h : StoreAt w base fp g gc s) {s' : SS} (e : s = s') : StoreAt w base fp g gc s' := e ▸ h
/-- The chip that it stands over. -/
theorem StoreAt.chip (h : StoreAt w base fp g gc s) : ∃ fc, ChipAt w base fc gc s.c ∧ ∀ b, fc b → fp b := by
  obtain ⟨n, h0, gy, gm, fy, fc, rfl, h⟩ := h
  exact ⟨fc, h.chip, fun b hb => Or.inr (Or.inr (Or.inr hb))⟩
theorem StoreAt.keep (h : StoreAt w base fp g gc s) (ht : Turn fq w w') (hd : Two fq fp) : StoreAt w' base fp g gc s := by
  obtain ⟨n, h0, gy, gm, fy, fc, rfl, h⟩ := h
  refine ⟨n, h0, gy, gm, fy, fc, rfl, (ht.block g (h.lt g (Or.inl rfl)) fun hb => hd g hb (Or.inl rfl)).trans h.row, h.yard.keep ht fun b hb hc => hd b hb (Or.inr (Or.inr (Or.inl hc))), h.chip.keep ht fun b hb hc => hd b hb (Or.inr (Or.inr (Or.inr hc))), h.map.at_block (ht.block _ h.map.lt fun hb => hd _ hb (Or.inr (Or.inl rfl))), h.yn, h.cn, h.ge⟩
end
def geoOf (c : Chip) : Geo := ⟨c.nb, c.np, c.ns⟩
end Go.Proofs.YthgkdnegnecnjaaGreatDoor

/- The landed store's small helpers. Conditions: the store's cells. -/
set_option linter.unusedVariables false
set_option linter.unusedSimpArgs false
set_option maxRecDepth 20000
namespace Go.Proofs.YthgkdnegnecnjaaGreatDoor
open Go.RowKit

/-- The number of a block's page. -/
def numS (s : SS) (b k : Int) : Int := pageG (geoOf s.c) b k
def placeS (s : SS) (p : Int) : Int × Int := placeG (geoOf s.c) p
def leftS (s : SS) (b : Int) : Int := (s.c.np : Int) - (s.c.next b : Int)
def shutS (s : SS) (b : Int) : SS := { s with y := (freeY (sealY s.y b).1 b).1 }
def markS (s : SS) (b : Int) : SS × Int :=
  if (s.c.mark b).2 ≠ 0 then ({ s with c := (s.c.mark b).1 }, (s.c.mark b).2) else ({ s with c := (s.c.mark b).1, y := (retireY s.y b).1 }, (retireY s.y b).2)
def openS (s : SS) (b : Int) : SS × Int := ({ s with y := (openY s.y b).1 }, (openY s.y b).2)
def readyS (s : SS) (b : Int) : SS × Int :=
  if 0 < s.c.next b then (if (s.c.erase b).2 ≠ 0 then ({ s with c := (s.c.erase b).1 }, (s.c.erase b).2) else openS { s with c := (s.c.erase b).1 } b) else openS s b
theorem markS_ok {s : SS} {b : Int} {r : Chip} (h : s.c.mark b = (r, 0)) : markS s b = ({ s with c := r, y := (retireY s.y b).1 }, (retireY s.y b).2) := by
  unfold markS; rw [h]; rfl
theorem markS_no {s : SS} {b q : Int} {r : Chip} (h : s.c.mark b = (r, q)) (hq : q ≠ 0) : markS s b = ({ s with c := r }, q) := by
  unfold markS; rw [h]; exact if_pos hq
theorem readyS_blank {s : SS} {b : Int} (h : s.c.next b = 0) : readyS s b = openS s b := by
  unfold readyS; rw [h]; rfl
theorem readyS_ok {s : SS} {b : Int} {r : Chip} (h0 : 0 < s.c.next b) (h : s.c.erase b = (r, 0)) : readyS s b = openS { s with c := r } b := by
  unfold readyS; rw [if_pos h0, h]; rfl
theorem readyS_no {s : SS} {b q : Int} {r : Chip} (h0 : 0 < s.c.next b) (h : s.c.erase b = (r, q)) (hq : q ≠ 0) : readyS s b = ({ s with c := r }, q) := by
  unfold readyS; rw [if_pos h0, h]; exact if_pos hq
/-- What a call of the store leaves that answers an error. -/
def SLeads (w : World) (base : Nat) (fp : Nat → Prop) (g gc n : Nat) (r : SS × Int) (e : Ending) (w' : World) : Prop :=
  ∃ v fp', e = .returned v ∧ ErrNew w fp' w' r.2 v ∧ StoreN w' base fp' g gc r.1 n ∧ Moves w fp w' fp'
def LaterW (WD : World) (_ : List Bool) (_ : List Value) (W : World) : Prop := Below WD.heap.size WD W
theorem laterW_later {WD : World} (fs : List Bool) (vs : List Value) (x y : World) (h : LaterW WD fs vs x) (hl : Later x y) : LaterW WD fs vs y := below_chain h hl
section
variable {w : World} {base g gc n : Nat} {fp : Nat → Prop} {s : SS} {c : Chip}
def geoZ (a b c : Int) : Array Value := #[.int .i64 a, .int .i64 b, .int .i64 c]
theorem geo_any (hC : ChipAt w base fp gc c) : Calls Tryz.prog 41 #[.pointer (some ⟨gc, 0, none⟩)] w (SaysV w (geoV (geoOf c))) := by
  obtain ⟨L, h⟩ := hC
  have hb : Below w.heap.size w (w.alloc (.cells #[.int .i64 0, .int .i64 0, .int .i64 0] 30)) := (Below.refl _ _).alloc (Nat.le_refl _) _
  obtain ⟨c0, c1, c2, c3, c4, c5, c6, c7, c8⟩ := (h.since hb).cells
  have r := RowC.new w #[.int .i64 0, .int .i64 0, .int .i64 0] 30
  have f0 := r.free 0
  have f1 := r.free 1
  have f2 := r.free 2
  have r0 : (w.alloc (.cells #[.int .i64 0, .int .i64 0, .int .i64 0] 30)).cell? ⟨w.heap.size, 0, none⟩ = some (.int .i64 0) := r.cell 0
  have r1 : (w.alloc (.cells #[.int .i64 0, .int .i64 0, .int .i64 0] 30)).cell? ⟨w.heap.size, 1, none⟩ = some (.int .i64 0) := r.cell 1
  have r2 : (w.alloc (.cells #[.int .i64 0, .int .i64 0, .int .i64 0] 30)).cell? ⟨w.heap.size, 2, none⟩ = some (.int .i64 0) := r.cell 2
  have R9 := Lib.hid (RowC.new w #[.int .i64 (c.nb : Int), .int .i64 (c.np : Int), .int .i64 (c.ns : Int)] 30)
  have S9 : Hid (Below w.heap.size w (w.alloc (.cells #[.int .i64 (c.nb : Int), .int .i64 (c.np : Int), .int .i64 (c.ns : Int)] 30))) := (Below.refl _ _).alloc (Nat.le_refl _) _
  clear h hb r
  go_enter Tryz.func41, Tryz.ntmps41
  go_wp2_with fail
  obtain ⟨W9, HW9⟩ : ∃ W9, Hid (W9 = w.alloc (.cells #[.int .i64 (c.nb : Int), .int .i64 (c.np : Int), .int .i64 (c.ns : Int)] 30)) := ⟨_, rfl⟩
  rw [← HW9.out] at R9 S9 ⊢
  clear r0 r1 r2 f0 f1 f2 c0 c1 c2
  have r0 := R9.out.cell 0
  have r1 := R9.out.cell 1
  have r2 := R9.out.cell 2
  simp at r0 r1 r2
  exact bodyPost_ret (v := geoV (geoOf c)) (by simp [results, Tryz.results41, go_sem, r0, r1, r2, geoV, geoOf]) rfl ⟨rfl, S9⟩
theorem geo_nil : Calls Tryz.prog 41 #[.pointer none] w (SaysV w (geoV ⟨0, 0, 0⟩)) := by
  have hb : Below w.heap.size w (w.alloc (.cells #[.int .i64 0, .int .i64 0, .int .i64 0] 30)) := (Below.refl _ _).alloc (Nat.le_refl _) _
  have r := RowC.new w #[.int .i64 0, .int .i64 0, .int .i64 0] 30
  have f0 := r.free 0
  have f1 := r.free 1
  have f2 := r.free 2
  have r0 : (w.alloc (.cells #[.int .i64 0, .int .i64 0, .int .i64 0] 30)).cell? ⟨w.heap.size, 0, none⟩ = some (.int .i64 0) := r.cell 0
  have r1 : (w.alloc (.cells #[.int .i64 0, .int .i64 0, .int .i64 0] 30)).cell? ⟨w.heap.size, 1, none⟩ = some (.int .i64 0) := r.cell 1
  have r2 : (w.alloc (.cells #[.int .i64 0, .int .i64 0, .int .i64 0] 30)).cell? ⟨w.heap.size, 2, none⟩ = some (.int .i64 0) := r.cell 2
  have R9 := Lib.hid (RowC.new w #[.int .i64 0, .int .i64 0, .int .i64 0] 30)
  have S9 : Hid (Below w.heap.size w (w.alloc (.cells #[.int .i64 0, .int .i64 0, .int .i64 0] 30))) := (Below.refl _ _).alloc (Nat.le_refl _) _
  clear hb r
  go_enter Tryz.func41, Tryz.ntmps41
  go_wp2_with fail
  obtain ⟨W9, HW9⟩ : ∃ W9, Hid (W9 = w.alloc (.cells #[.int .i64 0, .int .i64 0, .int .i64 0] 30)) := ⟨_, rfl⟩
  rw [← HW9.out] at R9 S9 ⊢
  clear r0 r1 r2 f0 f1 f2
  have r0 := R9.out.cell 0
  have r1 := R9.out.cell 1
  have r2 := R9.out.cell 2
  simp at r0 r1 r2
  exact bodyPost_ret (v := geoV ⟨0, 0, 0⟩) (by simp [results, Tryz.results41, go_sem, r0, r1, r2, geoV]) rfl ⟨rfl, S9⟩
theorem ErrNew.wide {w w1 w2 : World} {fp fp' : Nat → Prop} {k : Int} {v : Value} (h : ErrNew w1 fp w2 k v) (hs : w.heap.size ≤ w1.heap.size) (hf : ∀ b, fp' b → fp b ∨ b < w1.heap.size) : ErrNew w fp' w2 k v := by
  rcases h with h | ⟨h0, g, s, e, h1, h2, h3, h4⟩
  · exact Or.inl h
  · refine Or.inr ⟨h0, g, s, e, h1, h2, Nat.le_trans hs h3, fun hb => ?_⟩
    rcases hf g hb with hb | hb
    · exact h4 hb
    · omega
theorem ErrNew.yard {w w1 w2 : World} {gy gm : Nat} {fy fy' fc : Nat → Prop} {k : Int} {v : Value} (h : ErrNew w1 fy' w2 k v) (H : SRep w1 base g gc gy gm fy fc n s) (hs : w.heap.size ≤ w1.heap.size) : ErrNew w (fpS g gm fy' fc) w2 k v :=
  h.wide hs fun b hb => by
    rcases hb with rfl | rfl | hb | hb
    · exact Or.inr (H.lt _ (Or.inl rfl))
    · exact Or.inr (H.lt _ (Or.inr (Or.inl rfl)))
    · exact Or.inl hb
    · exact Or.inr (H.lt _ (Or.inr (Or.inr (Or.inr hb))))
theorem ErrNew.chip {w w1 w2 : World} {gy gm : Nat} {fy fc fc' : Nat → Prop} {k : Int} {v : Value} (h : ErrNew w1 fc' w2 k v) (H : SRep w1 base g gc gy gm fy fc n s) (hs : w.heap.size ≤ w1.heap.size) : ErrNew w (fpS g gm fy fc') w2 k v :=
  h.wide hs fun b hb => by
    rcases hb with rfl | rfl | hb | hb
    · exact Or.inr (H.lt _ (Or.inl rfl))
    · exact Or.inr (H.lt _ (Or.inr (Or.inl rfl)))
    · exact Or.inr (H.lt _ (Or.inr (Or.inr (Or.inl hb))))
    · exact Or.inl hb
theorem swrong_new (st : ByteArray) (k : Int) (hk : 1 ≤ k) (w : World) (fp : Nat → Prop) (hf : ∀ b, fp b → b < w.heap.size) :
    Calls Tryz.prog 42 #[.string st, .int .i64 k] w fun e w' => ∃ v, e = .returned v ∧ ErrNew w fp w' k v ∧ Below w.heap.size w w' := by
  have h0 : (w.alloc (.cells #[.int .i64 k, .string st] 113)).cell? ⟨w.heap.size, 0, none⟩ = some (.int .i64 k) := by rw [cell_new]; rfl
  have h1 : (w.alloc (.cells #[.int .i64 k, .string st] 113)).cell? ⟨w.heap.size, 1, none⟩ = some (.string st) := by rw [cell_new]; rfl
  have HE : Hid (ErrNew w fp (w.alloc (.cells #[.int .i64 k, .string st] 113)) k (.iface 111 (.pointer (some ⟨w.heap.size, 0, none⟩)))) :=
    Or.inr ⟨hk, _, _, rfl, h0, h1, Nat.le_refl _, fun h => by have := hf _ h; omega⟩
  have HB : Hid (Below w.heap.size w (w.alloc (.cells #[.int .i64 k, .string st] 113))) := (Below.refl _ _).alloc (Nat.le_refl _) _
  clear h0 h1 hf
  go_enter Tryz.func42, Tryz.ntmps42
  go_wp2_with fail
  go_ret
  exact ⟨_, rfl, HE.out, HB.out⟩
theorem number_any (b k : Int) (hS : StoreN w base fp g gc s n) : Calls Tryz.prog 55 #[.pointer (some ⟨g, 0, none⟩), .int .i64 b, .int .i64 k] w (SaysV w (.int .i64 (numS s b k))) := by
  obtain ⟨gy, gm, fy, fc, rfl, h⟩ := hS
  have c1 := h.c1
  have C1 := Lib.hid (geo_any h.chip)
  have C2 := fun W => Lib.hid (page_any (geoOf s.c) b k W)
  clear h
  unfold numS
  go_enter Tryz.func55, Tryz.ntmps55
  go_wp2_with fail
  refine C1.out.mono ?_
  rintro e W1 ⟨rfl, HB1⟩
  go_wp2_with fail
  refine (C2 W1).out.mono ?_
  rintro e W2 ⟨rfl, HB2⟩
  go_wp2_with fail
  go_ret
  exact ⟨rfl, below_chain HB1.out HB2.out⟩
theorem splace_any (p : Int) (hS : StoreN w base fp g gc s n) : Calls Tryz.prog 62 #[.pointer (some ⟨g, 0, none⟩), .int .i64 p] w (SaysV w (.tuple #[.int .i64 (placeS s p).1, .int .i64 (placeS s p).2])) := by
  obtain ⟨gy, gm, fy, fc, rfl, h⟩ := hS
  have c1 := h.c1
  have C1 := Lib.hid (geo_any h.chip)
  have C2 := fun W => Lib.hid (place_any (geoOf s.c) p W)
  clear h
  unfold placeS
  go_enter Tryz.func62, Tryz.ntmps62
  go_wp2_with fail
  refine C1.out.mono ?_
  rintro e W1 ⟨rfl, HB1⟩
  go_wp2_with fail
  refine (C2 W1).out.mono ?_
  rintro e W2 ⟨rfl, HB2⟩
  go_wp2_with fail
  go_ret2
  exact ⟨rfl, below_chain HB1.out HB2.out⟩
theorem shut_any (b : Int) (hS : StoreN w base fp g gc s n) : Calls Tryz.prog 74 #[.pointer (some ⟨g, 0, none⟩), .int .i64 b] w fun e w' => ∃ fp', e = .returned (.tuple #[]) ∧ StoreN w' base fp' g gc (shutS s b) n ∧ Moves w fp w' fp' := by
  obtain ⟨gy, gm, fy, fc, rfl, h⟩ := hS
  have c0 := h.c0
  have H := Lib.hid h
  have C1 := Lib.hid (yseal_any b h.yard)
  clear h
  go_enter Tryz.func74, Tryz.ntmps74
  go_wp2_with fail
  refine C1.out.mono ?_
  rintro e W1 ⟨v1, fy1, rfl, he1, hy1, hm1⟩
  obtain ⟨r1, m1⟩ := H.out.withY hy1 hm1
  have c0 := r1.c0
  have C2 := Lib.hid (yfree_any b r1.yard)
  have H1 := Lib.hid r1
  have M1 := Lib.hid m1
  clear H C1 he1 hy1 hm1 r1 m1
  go_wp2_with fail
  refine C2.out.mono ?_
  rintro e W2 ⟨v2, fy2, rfl, he2, hy2, hm2⟩
  obtain ⟨r2, m2⟩ := H1.out.withY hy2 hm2
  have H2 := Lib.hid r2
  have M2 := Lib.hid (M1.out.trans m2)
  clear H1 M1 C2 he2 hy2 hm2 r2 m2
  go_wp2_with fail
  go_end0
  exact ⟨_, rfl, ⟨_, _, _, _, rfl, H2.out⟩, M2.out⟩
theorem mark2_any (b : Int) (hops : s.c.ops < 1000000) (hS : StoreN w base fp g gc s n) : Calls Tryz.prog 61 #[.pointer (some ⟨g, 0, none⟩), .int .i64 b] w (SLeads w base fp g gc n (markS s b)) := by
  obtain ⟨gy, gm, fy, fc, rfl, h⟩ := hS
  have c0 := h.c0
  have c1 := h.c1
  have H := Lib.hid h
  have C1 := Lib.hid (mark_any b h.chip hops)
  clear h hops
  obtain ⟨r, HR⟩ : ∃ r, Hid (s.c.mark b = r) := ⟨_, rfl⟩
  rw [HR.out] at C1
  obtain ⟨r, q⟩ := r
  go_enter Tryz.func61, Tryz.ntmps61
  go_wp2_with fail
  refine C1.out.mono ?_
  rintro e W1 ⟨v1, fc1, rfl, he1, hc1, hm1⟩
  obtain ⟨r1, m1⟩ := H.out.withC hc1 hm1
  have c0 := r1.c0
  have c1 := r1.c1
  have C2 := Lib.hid (yretire_any b r1.yard)
  have H1 := Lib.hid r1
  have M1 := Lib.hid m1
  have L1 := Lib.hid r1.lt
  by_cases hq : q = 0
  · subst hq
    obtain rfl := he1.nil
    clear H C1 hc1 hm1 r1 m1
    go_wp2_with fail
    refine C2.out.mono ?_
    rintro e W2 ⟨v2, fy2, rfl, he2, hy2, hm2⟩
    obtain ⟨r2, m2⟩ := H1.out.withY hy2 hm2
    have H2 := Lib.hid r2
    have M2 := Lib.hid (M1.out.trans m2)
    have E2 := Lib.hid (he2.yard H1.out M1.out.size)
    clear H1 M1 C2 he2 hy2 hm2 r2 m2
    go_wp2_with fail
    go_ret
    rw [markS_ok HR.out]
    exact ⟨_, _, rfl, E2.out, ⟨_, _, _, _, rfl, H2.out⟩, M2.out⟩
  · obtain ⟨xv, rfl⟩ := (he1.wrong hq).ne
    have E1 := Lib.hid (he1.chip H.out (Nat.le_refl _))
    have HQ := Lib.hid hq
    clear H C1 hc1 hm1 r1 m1 he1 hq C2
    go_wp2_with fail
    go_ret
    rw [markS_no HR.out HQ.out]
    exact ⟨_, _, rfl, E1.out, ⟨_, _, _, _, rfl, H1.out⟩, M1.out⟩
theorem ready_any (b : Int) (hops : s.c.ops < 1000000) (hS : StoreN w base fp g gc s n) : Calls Tryz.prog 89 #[.pointer (some ⟨g, 0, none⟩), .int .i64 b] w (SLeads w base fp g gc n (readyS s b)) := by
  obtain ⟨gy, gm, fy, fc, rfl, h⟩ := hS
  have c0 := h.c0
  have c1 := h.c1
  have H := Lib.hid h
  have C1 := Lib.hid (next_any b h.chip)
  clear h
  obtain ⟨k, HK⟩ : ∃ k, Hid (s.c.next b = k) := ⟨_, rfl⟩
  rw [HK.out] at C1
  obtain ⟨z, HZ⟩ : ∃ z : Int, Hid (((k : Nat) : Int) = z) := ⟨_, rfl⟩
  rw [HZ.out] at C1
  by_cases hk : 0 < k
  · have h0 : 0 < z := by have := HZ.out; omega
    go_enter Tryz.func89, Tryz.ntmps89
    go_wp2_with fail
    refine C1.out.mono ?_
    rintro e W0 ⟨rfl, hb0⟩
    have r0 := H.out.since hb0.out
    have c0 := r0.c0
    have c1 := r0.c1
    have B0 := Lib.hid (Moves.of_below (fp := fpS g gm fy fc) hb0.out)
    have H0 := Lib.hid r0
    have C2 := Lib.hid (erase_any b r0.chip hops)
    clear H C1 hb0 r0 hops
    obtain ⟨r, HR⟩ : ∃ r, Hid (s.c.erase b = r) := ⟨_, rfl⟩
    rw [HR.out] at C2
    obtain ⟨r, q⟩ := r
    have HKP : Hid (0 < s.c.next b) := by show _ < _; rw [HK.out]; exact hk
    clear HK HZ hk
    go_wp2_with fail
    clear h0
    refine C2.out.mono ?_
    rintro e W1 ⟨v1, fc1, rfl, he1, hc1, hm1⟩
    obtain ⟨r1, m1⟩ := H0.out.withC hc1 hm1
    have c0 := r1.c0
    have c1 := r1.c1
    have C3 := Lib.hid (yopen_any b r1.yard)
    have H1 := Lib.hid r1
    have M1 := Lib.hid (B0.out.trans m1)
    by_cases hq : q = 0
    · subst hq
      obtain rfl := he1.nil
      clear H0 C2 hc1 hm1 r1 m1 B0
      go_wp2_with fail
      refine C3.out.mono ?_
      rintro e W2 ⟨v2, fy2, rfl, he2, hy2, hm2⟩
      obtain ⟨r2, m2⟩ := H1.out.withY hy2 hm2
      have H2 := Lib.hid r2
      have M2 := Lib.hid (M1.out.trans m2)
      have E2 := Lib.hid (he2.yard H1.out M1.out.size)
      clear H1 M1 C3 he2 hy2 hm2 r2 m2
      go_wp2_with fail
      go_ret
      rw [readyS_ok HKP.out HR.out]
      exact ⟨_, _, rfl, E2.out, ⟨_, _, _, _, rfl, H2.out⟩, M2.out⟩
    · obtain ⟨xv, rfl⟩ := (he1.wrong hq).ne
      have E1 := Lib.hid (he1.chip H0.out B0.out.size)
      have HQ := Lib.hid hq
      clear H0 C2 hc1 hm1 r1 m1 he1 hq C3 B0
      go_wp2_with fail
      go_ret
      rw [readyS_no HKP.out HR.out HQ.out]
      exact ⟨_, _, rfl, E1.out, ⟨_, _, _, _, rfl, H1.out⟩, M1.out⟩
  · obtain rfl : k = 0 := by omega
    obtain rfl : z = 0 := by have := HZ.out; omega
    clear hops hk HZ
    go_enter Tryz.func89, Tryz.ntmps89
    go_wp2_with fail
    refine C1.out.mono ?_
    rintro e W0 ⟨rfl, hb0⟩
    have r0 := H.out.since hb0.out
    have c0 := r0.c0
    have B0 := Lib.hid (Moves.of_below (fp := fpS g gm fy fc) hb0.out)
    have H0 := Lib.hid r0
    have C3 := Lib.hid (yopen_any b r0.yard)
    clear H C1 hb0 r0 c1
    go_wp2_with fail
    refine C3.out.mono ?_
    rintro e W2 ⟨v2, fy2, rfl, he2, hy2, hm2⟩
    obtain ⟨r2, m2⟩ := H0.out.withY hy2 hm2
    have H2 := Lib.hid r2
    have M2 := Lib.hid (B0.out.trans m2)
    have E2 := Lib.hid (he2.yard H0.out B0.out.size)
    clear H0 B0 C3 he2 hy2 hm2 r2 m2
    go_wp2_with fail
    go_ret
    rw [readyS_blank HK.out]
    exact ⟨_, _, rfl, E2.out, ⟨_, _, _, _, rfl, H2.out⟩, M2.out⟩
end
end Go.Proofs.YthgkdnegnecnjaaGreatDoor

/- The landed store: how many pages a block has left. Conditions: the store's cells. -/
set_option linter.unusedVariables false
set_option linter.unusedSimpArgs false
set_option maxRecDepth 20000
namespace Go.Proofs.YthgkdnegnecnjaaGreatDoor
open Go.RowKit

section
variable {P : Program} {o : Oper} {a : Act} {w w' : World}
theorem run_op_field {t : TypeId} {x : Operand} {k : Nat} {vx r : Value} (ho : o.op = .field t x k) (hx : a.eval x = vx) (hrun : (Instr.field t vx k).run P w = .ok r w') : (execOp a.eval o).run P w = .ok (.value r) w' := by
  unfold execOp
  simp only [ho, Sem.run_bind, hx, hrun, Result.andThen_ok]
  rfl
end
theorem next_le {c : Chip} (h : c.Wf) (b : Int) : c.next b ≤ c.np := by
  unfold Chip.next
  split
  · next hb =>
    have := of_decide_eq_true hb
    exact h.next b.toNat (by omega)
  · omega
theorem run_load_chip (p : Addr) (v : Option Addr) (w : World) (hc : w.cell? p = some (.pointer v)) : (Instr.loadAt 27 (.pointer (some p))).run Tryz.prog w = .ok (.pointer v) w := by go_simp
theorem run_load_yard (p : Addr) (v : Option Addr) (w : World) (hc : w.cell? p = some (.pointer v)) : (Instr.loadAt 89 (.pointer (some p))).run Tryz.prog w = .ok (.pointer v) w := by go_simp
theorem run_field_pages (b p s : Int) (w : World) : (Instr.field 30 (.agg #[.int .i64 b, .int .i64 p, .int .i64 s]) 1).run Tryz.prog w = .ok (.int .i64 p) w := by first | rfl | kernel_rfl
theorem run_field_blocks (b p s : Int) (w : World) : (Instr.field 30 (.agg #[.int .i64 b, .int .i64 p, .int .i64 s]) 0).run Tryz.prog w = .ok (.int .i64 b) w := by first | rfl | kernel_rfl
theorem run_field_size (b p s : Int) (w : World) : (Instr.field 30 (.agg #[.int .i64 b, .int .i64 p, .int .i64 s]) 2).run Tryz.prog w = .ok (.int .i64 s) w := by first | rfl | kernel_rfl
section
variable {w : World} {base g gc n : Nat} {fp : Nat → Prop} {s : SS}
set_option maxHeartbeats 2000000 in
theorem left_any (b : Int) (hS : StoreN w base fp g gc s n) : Calls Tryz.prog 57 #[.pointer (some ⟨g, 0, none⟩), .int .i64 b] w (SaysV w (.int .i64 (leftS s b))) := by
  obtain ⟨gy, gm, fy, fc, rfl, h⟩ := hS
  have D1 : Hid (∀ W, Below w.heap.size w W → W.cell? ⟨g, 1, none⟩ = some (.pointer (some ⟨gc, 0, none⟩))) := fun W hb => (h.since hb).c1
  have C1 := fun W (hb : Below w.heap.size w W) => Lib.hid (geo_any (h.since hb).chip)
  have C2 := fun W (hb : Below w.heap.size w W) => Lib.hid (next_any b (h.since hb).chip)
  have hwf := h.chip.wf
  have L1 : 0 ≤ (s.c.np : Int) - (s.c.next b : Int) - 0 + 9 ∧ (s.c.np : Int) - (s.c.next b : Int) ≤ 9 := by have := hwf.np2; have := next_le hwf b; omega
  obtain ⟨nb, HNB⟩ : ∃ nb : Int, Hid ((s.c.nb : Int) = nb) := ⟨_, rfl⟩
  obtain ⟨np, HNP⟩ : ∃ np : Int, Hid ((s.c.np : Int) = np) := ⟨_, rfl⟩
  obtain ⟨ns, HNS⟩ : ∃ ns : Int, Hid ((s.c.ns : Int) = ns) := ⟨_, rfl⟩
  obtain ⟨nx, HNX⟩ : ∃ nx : Int, Hid ((s.c.next b : Int) = nx) := ⟨_, rfl⟩
  obtain ⟨r, HR⟩ : ∃ r : Int, Hid (leftS s b = r) := ⟨_, rfl⟩
  have HE : np - nx = r := by rw [← HNP.out, ← HNX.out, ← HR.out]; rfl
  have C1 : ∀ W, Below w.heap.size w W → Hid (Calls Tryz.prog 41 #[.pointer (some ⟨gc, 0, none⟩)] W (SaysV W (.agg #[.int .i64 nb, .int .i64 np, .int .i64 ns]))) := fun W hb => by have := C1 W hb; rw [show geoV (geoOf s.c) = .agg #[.int .i64 nb, .int .i64 np, .int .i64 ns] from by rw [← HNB.out, ← HNP.out, ← HNS.out]; rfl] at this; exact this
  rw [HNP.out, HNX.out] at L1
  rw [HNX.out] at C2
  rw [HR.out]
  have C1 := Lib.hid C1
  have C2 := Lib.hid C2
  have L2 : -9 ≤ r ∧ r ≤ 9 := by omega
  clear h hwf L1
  go_enter Tryz.func57, Tryz.ntmps57
  go_wp2_with fail
  refine region_of_steps7 (by kernel_rfl) [some (.pointer (some ⟨g, 0, none⟩)), some (.pointer (some ⟨g, 0, none⟩)), some (.pointer (some ⟨g, 1, none⟩)), some (.pointer (some ⟨gc, 0, none⟩)), some (.agg #[.int .i64 nb, .int .i64 np, .int .i64 ns]), some (.int .i64 np), some (.pointer (some ⟨g, 0, none⟩)), some (.pointer (some ⟨g, 0, none⟩)), some (.pointer (some ⟨g, 1, none⟩)), some (.pointer (some ⟨gc, 0, none⟩)), some (.int .i64 b), some (.int .i64 nx), some (.int .i64 r), some (.int .i64 r)] [] [] (LaterW w) (by kernel_rfl) (by kernel_rfl) (show LaterW w _ _ _ from (Below.refl _ _).drew) ?_ ?_
  · refine Steps7.cons ?_ (Steps7.cons ?_ (Steps7.cons ?_ (Steps7.cons ?_ (Steps7.cons ?_ (Steps7.cons ?_ (Steps7.cons ?_ (Steps7.cons ?_ (Steps7.cons ?_ (Steps7.cons ?_ (Steps7.cons ?_ (Steps7.cons ?_ (Steps7.cons ?_ (Steps7.cons ?_ (Steps7.nil))))))))))))))
    · intro listed a W H hj hl hd
      have t0 : a.tmps.getD 0 undef = .pointer (some ⟨g, 0, none⟩) := (H.old 0 (by kernel_rfl)).trans rfl
      exact step7_value (i := 0) rfl rfl (run_op_move rfl t0) (calm7 laterW_later (by kernel_rfl) (by kernel_rfl) hj (later_refl _)) rfl
    · intro listed a W H hj hl hd
      have t5 : a.tmps.getD 5 undef = .pointer (some ⟨g, 0, none⟩) := H.get 0 5 (by kernel_rfl) (dep_of hd 0 (by kernel_rfl)) (fun _ h => by cases h)
      exact step7_value (i := 1) rfl rfl (run_op_nilCheck rfl t5) (calm7 laterW_later (by kernel_rfl) (by kernel_rfl) hj (later_refl _)) rfl
    · intro listed a W H hj hl hd
      have t6 : a.tmps.getD 6 undef = .pointer (some ⟨g, 0, none⟩) := H.get 1 6 (by kernel_rfl) (dep_of hd 1 (by kernel_rfl)) (fun _ h => by cases h)
      exact step7_value (i := 2) rfl rfl (run_op_fieldAddr rfl t6 (by go_simp)) (calm7 laterW_later (by kernel_rfl) (by kernel_rfl) hj (later_refl _)) rfl
    · intro listed a W H hj hl hd
      have t7 : a.tmps.getD 7 undef = .pointer (some ⟨g, 1, none⟩) := H.get 2 7 (by kernel_rfl) (dep_of hd 2 (by kernel_rfl)) (fun _ h => by cases h)
      exact step7_value (i := 3) rfl rfl (run_op_load rfl t7 (run_load_chip _ _ _ (D1.out _ hj))) (calm7 laterW_later (by kernel_rfl) (by kernel_rfl) hj (later_refl _)) rfl
    · intro listed a W H hj hl hd
      have t8 : a.tmps.getD 8 undef = .pointer (some ⟨gc, 0, none⟩) := H.get 3 8 (by kernel_rfl) (dep_of hd 3 (by kernel_rfl)) (fun _ h => by cases h)
      refine step7_call (i := 4) rfl rfl (run_op_call (vs := #[.pointer (some ⟨gc, 0, none⟩)]) Tryz.func41 (by kernel_rfl) (by kernel_rfl) rfl (by simp only [List.map_toArray, List.map_cons, List.map_nil]; show #[a.tmps.getD 8 undef] = _; rw [t8])) ?_
      refine (C1.out W hj).out.mono ?_
      rintro e w' ⟨rfl, hb⟩
      refine ⟨_, rfl, (calm7 laterW_later (by kernel_rfl) (by kernel_rfl) hj  hb.out), ?_⟩
      rfl
    · intro listed a W H hj hl hd
      have t9 : a.tmps.getD 9 undef = .agg #[.int .i64 nb, .int .i64 np, .int .i64 ns] := H.get 4 9 (by kernel_rfl) (dep_of hd 4 (by kernel_rfl)) (fun _ h => by cases h)
      exact step7_value (i := 5) rfl rfl (run_op_field rfl t9 (run_field_pages _ _ _ _)) (calm7 laterW_later (by kernel_rfl) (by kernel_rfl) hj (later_refl _)) rfl
    · intro listed a W H hj hl hd
      have t0 : a.tmps.getD 0 undef = .pointer (some ⟨g, 0, none⟩) := (H.old 0 (by kernel_rfl)).trans rfl
      exact step7_value (i := 6) rfl rfl (run_op_move rfl t0) (calm7 laterW_later (by kernel_rfl) (by kernel_rfl) hj (later_refl _)) rfl
    · intro listed a W H hj hl hd
      have t11 : a.tmps.getD 11 undef = .pointer (some ⟨g, 0, none⟩) := H.get 6 11 (by kernel_rfl) (dep_of hd 6 (by kernel_rfl)) (fun _ h => by cases h)
      exact step7_value (i := 7) rfl rfl (run_op_nilCheck rfl t11) (calm7 laterW_later (by kernel_rfl) (by kernel_rfl) hj (later_refl _)) rfl
    · intro listed a W H hj hl hd
      have t12 : a.tmps.getD 12 undef = .pointer (some ⟨g, 0, none⟩) := H.get 7 12 (by kernel_rfl) (dep_of hd 7 (by kernel_rfl)) (fun _ h => by cases h)
      exact step7_value (i := 8) rfl rfl (run_op_fieldAddr rfl t12 (by go_simp)) (calm7 laterW_later (by kernel_rfl) (by kernel_rfl) hj (later_refl _)) rfl
    · intro listed a W H hj hl hd
      have t13 : a.tmps.getD 13 undef = .pointer (some ⟨g, 1, none⟩) := H.get 8 13 (by kernel_rfl) (dep_of hd 8 (by kernel_rfl)) (fun _ h => by cases h)
      exact step7_value (i := 9) rfl rfl (run_op_load rfl t13 (run_load_chip _ _ _ (D1.out _ hj))) (calm7 laterW_later (by kernel_rfl) (by kernel_rfl) hj (later_refl _)) rfl
    · intro listed a W H hj hl hd
      have t1 : a.tmps.getD 1 undef = .int .i64 b := (H.old 1 (by kernel_rfl)).trans rfl
      exact step7_value (i := 10) rfl rfl (run_op_move rfl t1) (calm7 laterW_later (by kernel_rfl) (by kernel_rfl) hj (later_refl _)) rfl
    · intro listed a W H hj hl hd
      have t14 : a.tmps.getD 14 undef = .pointer (some ⟨gc, 0, none⟩) := H.get 9 14 (by kernel_rfl) (dep_of hd 9 (by kernel_rfl)) (fun _ h => by cases h)
      have t15 : a.tmps.getD 15 undef = .int .i64 b := H.get 10 15 (by kernel_rfl) (dep_of hd 10 (by kernel_rfl)) (fun _ h => by cases h)
      refine step7_call (i := 11) rfl rfl (run_op_call (vs := #[.pointer (some ⟨gc, 0, none⟩), .int .i64 b]) Tryz.func71 (by kernel_rfl) (by kernel_rfl) rfl (by simp only [List.map_toArray, List.map_cons, List.map_nil]; show #[a.tmps.getD 14 undef, a.tmps.getD 15 undef] = _; rw [t14, t15])) ?_
      refine (C2.out W hj).out.mono ?_
      rintro e w' ⟨rfl, hb⟩
      refine ⟨_, rfl, (calm7 laterW_later (by kernel_rfl) (by kernel_rfl) hj  hb.out), ?_⟩
      rfl
    · intro listed a W H hj hl hd
      have t10 : a.tmps.getD 10 undef = .int .i64 np := H.get 5 10 (by kernel_rfl) (dep_of hd 5 (by kernel_rfl)) (fun _ h => by cases h)
      have t16 : a.tmps.getD 16 undef = .int .i64 nx := H.get 11 16 (by kernel_rfl) (dep_of hd 11 (by kernel_rfl)) (fun _ h => by cases h)
      exact step7_value (i := 12) rfl rfl (run_op_bin rfl t10 t16 (bin_sub _ _ _ np nx r HE (by omega) (by omega))) (calm7 laterW_later (by kernel_rfl) (by kernel_rfl) hj (later_refl _)) rfl
    · intro listed a W H hj hl hd
      have t17 : a.tmps.getD 17 undef = .int .i64 r := H.get 12 17 (by kernel_rfl) (dep_of hd 12 (by kernel_rfl)) (fun _ h => by cases h)
      exact step7_value (i := 13) rfl rfl (run_op_assign rfl t17) (calm7 laterW_later (by kernel_rfl) (by kernel_rfl) hj (later_refl _)) rfl
  · intro a WC hdef hsz hw hall hact
    obtain ⟨u, hu⟩ : ∃ u : Nat → Value, ∀ k, a.tmps.getD k undef = u k := ⟨_, fun _ => rfl⟩
    have h4 : u 4 = .int .i64 r := by rw [← hu]; exact hall 13 _ rfl
    simp only [hu] at hact
    have hact' : a = ([5, 6, 7, 8, 9, 10, 11, 12, 13, 14, 15, 16, 17, 4] : List Nat).foldl (fun b k => b.put (some k) (u k)) _ := hact
    simp only [List.foldl] at hact'
    simp only [Act.put, List.setIfInBounds_toArray, List.set_cons_succ, List.set_cons_zero] at hact'
    have HAC := Lib.hid hact'
    have HX := Lib.hid hw
    clear hact hact' hall hdef hsz hw
    rw [h4] at HAC
    rw [HAC.out]
    go_wp2_with fail
    go_ret
    exact ⟨rfl, HX⟩
end
end Go.Proofs.YthgkdnegnecnjaaGreatDoor

/- The landed store: a page that was taken is kept. Conditions: the store's cells. -/
set_option linter.unusedVariables false
set_option linter.unusedSimpArgs false
set_option maxRecDepth 20000
namespace Go.Proofs.YthgkdnegnecnjaaGreatDoor
open Go.RowKit

def keepS (s : SS) (b k : Int) (h : Hd.H) : SS := { s with y := (wantY s.y b k false).1, hd := updH s.hd (numS s b k) (some h) }
theorem numS_key (s : SS) (b k : Int) : KeyOk (numS s b k) := by
  unfold numS pageG
  split
  · next h =>
    obtain ⟨h1, h2, h3, h4, h5⟩ := h
    have h6 := inG_out (mayG_in h1)
    have e := area_bd (mayG_in h1)
    obtain ⟨a1, a2, a3, a4, a5, a6⟩ := h6
    have : b * (geoOf s.c).p ≤ 31 * (geoOf s.c).p := Int.mul_le_mul_of_nonneg_right (by omega) (by omega)
    have : 0 ≤ b * (geoOf s.c).p := Int.mul_nonneg h2 (by omega)
    exact keyOk (by omega) (by omega)
  · exact keyOk (by omega) (by omega)
section
variable {w : World} {base g gc n : Nat} {fp : Nat → Prop} {s : SS}
theorem run_load_hd {W : World} {b : Nat} {h : Hd.H} (hr : RowC W b #[.int .i64 (h.k : Int), .int .u64 (h.a : Int), .int .i64 (h.s : Int), .int .i64 (h.g : Int)] 42) : (Instr.loadAt 42 (.pointer (some ⟨b, 0, none⟩))).run Tryz.prog W = .ok (hdV h) W := by
  have r0 : W.cell? ⟨b, 0, none⟩ = some (.int .i64 (h.k : Int)) := hr.cell 0
  have r1 : W.cell? ⟨b, 1, none⟩ = some (.int .u64 (h.a : Int)) := hr.cell 1
  have r2 : W.cell? ⟨b, 2, none⟩ = some (.int .i64 (h.s : Int)) := hr.cell 2
  have r3 : W.cell? ⟨b, 3, none⟩ = some (.int .i64 (h.g : Int)) := hr.cell 3
  unfold hdV
  go_simp
theorem run_load_map (p : Addr) (v : Option Nat) (w : World) (hc : w.cell? p = some (.map v)) : (Instr.loadAt 91 (.pointer (some p))).run Tryz.prog w = .ok (.map v) w := by go_simp
set_option maxHeartbeats 2000000 in
theorem keep_any (b k : Int) (x : Hd.H) (hn : n ≤ 1000000000) (hS : StoreN w base fp g gc s n) :
    Calls Tryz.prog 73 #[.pointer (some ⟨g, 0, none⟩), .int .i64 b, .int .i64 k, hdV x] w fun e w' => ∃ fp', e = .returned (.int .i64 (numS s b k)) ∧ StoreN w' base fp' g gc (keepS s b k x) (n + 1) ∧ Moves w fp w' fp' := by
  obtain ⟨gy, gm, fy, fc, rfl, h⟩ := hS
  obtain ⟨W0, HW0⟩ : ∃ W0, Hid (W0 = w.alloc (.cells #[.int .i64 (x.k : Int), .int .u64 (x.a : Int), .int .i64 (x.s : Int), .int .i64 (x.g : Int)] 42)) := ⟨_, rfl⟩
  have hb0 : Below w.heap.size w W0 := by rw [HW0.out]; exact (Below.refl _ _).alloc (Nat.le_refl _) _
  have R0 : Hid (RowC W0 w.heap.size #[.int .i64 (x.k : Int), .int .u64 (x.a : Int), .int .i64 (x.s : Int), .int .i64 (x.g : Int)] 42) := by rw [HW0.out]; exact RowC.new w _ _
  have h0 := h.since hb0
  have HLT := Lib.hid h.lt
  have c0 := h0.c0
  rw [HW0.out] at c0
  have H0 := Lib.hid h0
  have M0 := Lib.hid (Moves.of_below (fp := fpS g gm fy fc) hb0)
  have C1 := Lib.hid (yneed_any b k false h0.yard)
  clear h h0 hb0
  have hx : hdV x = .agg #[.int .i64 (x.k : Int), .int .u64 (x.a : Int), .int .i64 (x.s : Int), .int .i64 (x.g : Int)] := rfl
  rw [hx]
  clear hx
  go_enter Tryz.func73, Tryz.ntmps73
  go_wp2_with fail
  rw [← HW0.out]
  refine C1.out.mono ?_
  rintro e W1 ⟨v1, fy1, rfl, he1, hy1, hm1⟩
  obtain ⟨r1, m1⟩ := H0.out.withY hy1 hm1
  have R1 : Hid (RowC W1 w.heap.size #[.int .i64 (x.k : Int), .int .u64 (x.a : Int), .int .i64 (x.s : Int), .int .i64 (x.g : Int)] 42) := ⟨(hm1.turn.block _ R0.out.lt fun hf => by have := HLT.out _ (Or.inr (Or.inr (Or.inl hf))); omega).trans R0.out.row⟩
  have c0 := r1.c0
  have H1 := Lib.hid r1
  have M1 := Lib.hid (M0.out.trans m1)
  have C2 := Lib.hid (number_any b k (⟨gy, gm, fy1, fc, rfl, r1⟩ : StoreN W1 base _ g gc _ n))
  clear H0 C1 he1 hy1 hm1 r1 m1 R0 M0 HLT
  obtain ⟨p, HP⟩ : ∃ p, Hid (numS s b k = p) := ⟨_, rfl⟩
  have HK : KeyOk p := by rw [← HP.out]; exact numS_key s b k
  have C2 : Hid (Calls Tryz.prog 55 #[.pointer (some ⟨g, 0, none⟩), .int .i64 b, .int .i64 k] W1 (SaysV W1 (.int .i64 p))) := by
    have := C2.out
    rw [show numS { s with y := (wantY s.y b k false).1 } b k = p from HP.out] at this
    exact this
  go_wp2_with fail
  refine C2.out.mono ?_
  rintro e W2 ⟨rfl, hb2⟩
  have r2 := H1.out.since hb2.out
  have R2 := R1.out.since hb2.out
  have M2 := Lib.hid (M1.out.trans (Moves.of_below hb2.out))
  obtain ⟨W3, hrun, hmap, hg⟩ := (r2.map.at_block (w' := W2.drew) rfl).put HK hn x
  have hd : Below W2.heap.size W2 W2.drew := (Below.refl _ _).drew
  obtain ⟨r3, m3⟩ := (r2.since hd).withM hg hmap
  have H3 := Lib.hid r3
  have M3 := Lib.hid (M2.out.trans ((Moves.of_below hd).trans m3))
  have c2 := r2.c2
  have q0 : W2.cell? ⟨w.heap.size, 0, none⟩ = some (.int .i64 (x.k : Int)) := R2.cell 0
  have q1 : W2.cell? ⟨w.heap.size, 1, none⟩ = some (.int .u64 (x.a : Int)) := R2.cell 1
  have q2 : W2.cell? ⟨w.heap.size, 2, none⟩ = some (.int .i64 (x.s : Int)) := R2.cell 2
  have q3 : W2.cell? ⟨w.heap.size, 3, none⟩ = some (.int .i64 (x.g : Int)) := R2.cell 3
  have hx : hdV x = .agg #[.int .i64 (x.k : Int), .int .u64 (x.a : Int), .int .i64 (x.s : Int), .int .i64 (x.g : Int)] := rfl
  rw [hx] at hrun
  clear hx C2 hb2 r2 R1 R2 M1 M2 hmap hg hd r3 m3 H1 HK
  go_wp2_with fail
  go_region
  go_wp2_with fail
  go_ret
  rw [← HP.out]
  exact ⟨_, rfl, ⟨_, _, _, _, rfl, by have := H3.out; rw [← HP.out] at this; exact this⟩, M3.out⟩
end
end Go.Proofs.YthgkdnegnecnjaaGreatDoor

/- The landed store: the block that the next page goes to. Conditions: the store's cells. -/
set_option linter.unusedVariables false
set_option linter.unusedSimpArgs false
set_option maxRecDepth 20000
namespace Go.Proofs.YthgkdnegnecnjaaGreatDoor
open Go.RowKit

/-- What each store's numbers have in common. -/
structure SW (s : SS) : Prop where
  nb : s.y.S.length = s.c.nb
  np : s.y.P = s.c.np
  may : mayG (geoOf s.c) = true
/-- The numbers of erases of the blocks of a list, and which these are. -/
def wsL (s : SS) (fs : List Int) : List Int := (List.range s.c.nb).map fun (k : Nat) => if fs.contains (k : Int) then (s.c.wear k : Int) else 0
def csL (s : SS) (fs : List Int) : List Bool := (List.range s.c.nb).map fun (k : Nat) => fs.contains (k : Int)
def goalS (s : SS) : Int := match listY s.y 2 with
  | b :: _ => b
  | [] => leastW (wsL s (listY s.y 1)) (csL s (listY s.y 1))
theorem goalS_open {s : SS} {b : Int} {l : List Int} (h : listY s.y 2 = b :: l) : goalS s = b := by unfold goalS; rw [h]
theorem goalS_none {s : SS} (h : listY s.y 2 = []) : goalS s = leastW (wsL s (listY s.y 1)) (csL s (listY s.y 1)) := by unfold goalS; rw [h]
theorem listY_lt {y : Yd} {x : Int} {k : Int} (h : k ∈ listY y x) : 0 ≤ k ∧ k < (y.S.length : Int) := by
  unfold listY at h
  obtain ⟨i, hi, rfl⟩ := List.mem_map.1 h
  have := List.mem_range.1 (List.mem_filter.1 hi).1
  omega
theorem wsL_len (s : SS) (fs : List Int) : (wsL s fs).length = s.c.nb := by simp [wsL]
theorem csL_len (s : SS) (fs : List Int) : (csL s fs).length = s.c.nb := by simp [csL]
theorem wsL_nil (s : SS) : wsL s [] = List.replicate s.c.nb 0 := by
  unfold wsL
  apply List.ext_getElem
  · simp
  · intro i h1 h2; simp
theorem csL_nil (s : SS) : csL s [] = List.replicate s.c.nb false := by
  unfold csL
  apply List.ext_getElem
  · simp
  · intro i h1 h2; simp
theorem wsL_snoc {s : SS} {fs : List Int} {k : Nat} (hk : k < s.c.nb) : (wsL s fs).set k (s.c.wear k : Int) = wsL s (fs ++ [(k : Int)]) := by
  apply List.ext_getElem
  · simp [wsL]
  · intro i h1 h2
    have hi : i < s.c.nb := by simpa [wsL] using h1
    by_cases e : k = i
    · subst e; simp [wsL]
    · rw [List.getElem_set_ne e]
      have : ¬ (i : Int) = (k : Int) := by omega
      simp [wsL, this]
theorem csL_snoc {s : SS} {fs : List Int} {k : Nat} (hk : k < s.c.nb) : (csL s fs).set k true = csL s (fs ++ [(k : Int)]) := by
  apply List.ext_getElem
  · simp [csL]
  · intro i h1 h2
    have hi : i < s.c.nb := by simpa [csL] using h1
    by_cases e : k = i
    · subst e; simp [csL]
    · rw [List.getElem_set_ne e]
      have : ¬ (i : Int) = (k : Int) := by omega
      simp [csL, this]
theorem take_snoc {fs : List Int} {j : Nat} (h : j < fs.length) : fs.take (j + 1) = fs.take j ++ [fs.getD j 0] := by
  rw [List.getD_eq_getElem?_getD, List.getElem?_eq_getElem h, List.take_add_one, List.getElem?_eq_getElem h]; rfl
section
variable {α : Type} (K : Kind α)
theorem kind_made (hz : ∃ i z, Tryz.prog.info? K.T = some i ∧ i.zero = some z ∧ i.size = K.k ∧ i.bytes ≤ 1000 ∧ z.cells = (K.cv K.dflt).toArray) (n : Nat) (hn : n ≤ 8000) (W : World) :
    (Instr.makeSlice K.L (.int .i64 (n : Int)) (.int .i64 (n : Int))).run Tryz.prog W = .ok (.slice (some ⟨W.heap.size, 0, none⟩) n n) (W.alloc (.cells (madeCells (K.cv K.dflt).toArray (n * K.k)) K.T)) := by
  obtain ⟨i, z, h1, h2, h3, h4, h5⟩ := hz
  have hbn : (i.bytes : Int) * (n : Int) ≤ 281474976710656 := by
    have h6 : (i.bytes : Int) ≤ 1000 := by omega
    have h7 : (i.bytes : Int) * (n : Int) ≤ 1000 * (n : Int) := Int.mul_le_mul_of_nonneg_right h6 (by omega)
    omega
  have hrun := run_make (P := Tryz.prog) W K.L K.T i z K.under h1 h2 .i64 .i64 (n : Int) (n : Int) (by omega) (by omega) hbn (by omega)
  rw [h3, h5] at hrun
  simp only [Int.toNat_natCast] at hrun
  exact hrun
theorem kind_made_row (n : Nat) (hn : n ≤ 8000) (W : World) : K.Row (W.alloc (.cells (madeCells (K.cv K.dflt).toArray (n * K.k)) K.T)) W.heap.size (some ⟨W.heap.size, 0, none⟩) n n (List.replicate n K.dflt) := by
  refine ⟨?_, ?_⟩
  · have := World.ownsRow_lit (base := W.heap.size) (e := K.T) (size := K.k) W (madeCells (K.cv K.dflt).toArray (n * K.k)) n (Nat.le_refl _) (by unfold maxLen; omega) (by simp [madeCells])
    rwa [K.made_cells n] at this
  · intro v hv
    rw [(List.mem_replicate.1 hv).2]; exact K.ok
end
theorem int_made : ∃ i z, Tryz.prog.info? intK.T = some i ∧ i.zero = some z ∧ i.size = intK.k ∧ i.bytes ≤ 1000 ∧ z.cells = (intK.cv intK.dflt).toArray := by
  obtain ⟨i0, hi, hz0, hz1, hz2⟩ := info_parts infoI
  exact ⟨i0, _, hi, hz0, hz1, by rw [hz2]; omega, rfl⟩
theorem bool_made : ∃ i z, Tryz.prog.info? boolK.T = some i ∧ i.zero = some z ∧ i.size = boolK.k ∧ i.bytes ≤ 1000 ∧ z.cells = (boolK.cv boolK.dflt).toArray := by
  obtain ⟨i0, hi, hz0, hz1, hz2⟩ := info_parts infoB
  exact ⟨i0, _, hi, hz0, hz1, by rw [hz2]; omega, rfl⟩
/-- Two rows, made in either order. -/
structure TwoR (w W : World) (nb bi bb : Nat) (xs : List Int) (cs : List Bool) : Prop where
  i : intK.Row W w.heap.size (some ⟨bi, 0, none⟩) nb nb xs
  b : boolK.Row W w.heap.size (some ⟨bb, 0, none⟩) nb nb cs
  below : Below w.heap.size w W
theorem two_r1 (w W : World) (n : Nat) (hn : n ≤ 8000) (hb : Below w.heap.size w W) : TwoR w ((W.alloc (.cells (madeCells (intK.cv intK.dflt).toArray (n * intK.k)) intK.T)).alloc (.cells (madeCells (boolK.cv boolK.dflt).toArray (n * boolK.k)) boolK.T)) n W.heap.size (W.heap.size + 1) (List.replicate n 0) (List.replicate n false) := by
  have r1 := kind_made_row intK n hn W
  have b1 : Below W.heap.size W (W.alloc (.cells (madeCells (intK.cv intK.dflt).toArray (n * intK.k)) intK.T)) := (Below.refl _ _).alloc (Nat.le_refl _) _
  obtain ⟨W1, h1⟩ : ∃ W1, Hid (W1 = W.alloc (.cells (madeCells (intK.cv intK.dflt).toArray (n * intK.k)) intK.T)) := ⟨_, rfl⟩
  have e1 : W1.heap.size = W.heap.size + 1 := by rw [h1.out]; simp
  rw [← h1.out] at r1 b1 ⊢
  have r2 := kind_made_row boolK n hn W1
  have b2 : Below W1.heap.size W1 (W1.alloc (.cells (madeCells (boolK.cv boolK.dflt).toArray (n * boolK.k)) boolK.T)) := (Below.refl _ _).alloc (Nat.le_refl _) _
  rw [e1] at r2
  exact ⟨(r1.since b2).elder hb.size, (r2.elder (by have := hb.size; omega)), below_chain hb (below_chain b1 b2)⟩
theorem two_r2 (w W : World) (n : Nat) (hn : n ≤ 8000) (hb : Below w.heap.size w W) : TwoR w ((W.alloc (.cells (madeCells (boolK.cv boolK.dflt).toArray (n * boolK.k)) boolK.T)).alloc (.cells (madeCells (intK.cv intK.dflt).toArray (n * intK.k)) intK.T)) n (W.heap.size + 1) W.heap.size (List.replicate n 0) (List.replicate n false) := by
  have r1 := kind_made_row boolK n hn W
  have b1 : Below W.heap.size W (W.alloc (.cells (madeCells (boolK.cv boolK.dflt).toArray (n * boolK.k)) boolK.T)) := (Below.refl _ _).alloc (Nat.le_refl _) _
  obtain ⟨W1, h1⟩ : ∃ W1, Hid (W1 = W.alloc (.cells (madeCells (boolK.cv boolK.dflt).toArray (n * boolK.k)) boolK.T)) := ⟨_, rfl⟩
  have e1 : W1.heap.size = W.heap.size + 1 := by rw [h1.out]; simp
  rw [← h1.out] at r1 b1 ⊢
  have r2 := kind_made_row intK n hn W1
  have b2 : Below W1.heap.size W1 (W1.alloc (.cells (madeCells (intK.cv intK.dflt).toArray (n * intK.k)) intK.T)) := (Below.refl _ _).alloc (Nat.le_refl _) _
  rw [e1] at r2
  exact ⟨(r2.elder (by have := hb.size; omega)), (r1.since b2).elder hb.size, below_chain hb (below_chain b1 b2)⟩
end Go.Proofs.YthgkdnegnecnjaaGreatDoor

/- The landed store: the block that the next page goes to, walked. Conditions: the store's cells. -/
set_option linter.unusedVariables false
set_option linter.unusedSimpArgs false
set_option maxRecDepth 20000
namespace Go.Proofs.YthgkdnegnecnjaaGreatDoor
open Go.RowKit

theorem below_put {B : Nat} {w W : World} {b : Nat} (h : Below B w W) (hb : B ≤ b) (k : Nat) (v : Value) : Below B w (W.setCell ⟨b, k, none⟩ v) := h.setCell (p := ⟨b, k, none⟩) hb v
theorem TwoR.put {w W : World} {nb bi bb k : Nat} {xs : List Int} {cs : List Bool} (h : TwoR w W nb bi bb xs cs) (hk : k < nb) (x : Int) (hx : intK.wf x) :
    TwoR w ((W.setCell ⟨bi, k, none⟩ (.int .i64 x)).setCell ⟨bb, k, none⟩ (.bool true)) nb bi bb (xs.set k x) (cs.set k true) := by
  have hne : bi ≠ bb := fun e => by
    obtain ⟨x1, h1⟩ := Row.typed h.i bi (by simp [blk])
    obtain ⟨x2, h2⟩ := Row.typed h.b bb (by simp [blk])
    rw [e] at h1
    exact absurd (other_type h1 h2) (by decide)
  have h1 := Kind.Row.put h.i hk (r := 0) (by decide) (.int .i64 x) x rfl hx
  have h2 : boolK.Row (W.setCell ⟨bi, k * 1 + 0, none⟩ (.int .i64 x)) w.heap.size (some ⟨bb, 0, none⟩) nb nb cs := Row.at_block h.b fun b hb => by
    have : b = bb := by simpa [blk] using hb
    subst this
    exact setCell_heap _ _ _ _ _ (Ne.symm hne)
  have h3 := Kind.Row.put h2 hk (r := 0) (by decide) (.bool true) true rfl trivial
  have h4 := Row.at_block (w' := (W.setCell ⟨bi, k * 1 + 0, none⟩ (.int .i64 x)).setCell ⟨bb, k * 1 + 0, none⟩ (.bool true)) h1 fun b hb => by
    have : b = bi := by simpa [blk] using hb
    subst this
    exact setCell_heap _ _ _ _ _ hne
  rw [Nat.mul_one, Nat.add_zero] at h4
  rw [show k * boolK.k + 0 = k by rw [show boolK.k = 1 from rfl]; omega, Nat.mul_one, Nat.add_zero] at h3
  have g1 := Row.blk_ge h.i bi (by simp [blk])
  have g2 := Row.blk_ge h.b bb (by simp [blk])
  exact ⟨h4, h3, below_put (below_put h.below g1 _ _) g2 _ _⟩
theorem TwoR.since {w W W' : World} {nb bi bb : Nat} {xs : List Int} {cs : List Bool} (h : TwoR w W nb bi bb xs cs) (hb : Below W.heap.size W W') : TwoR w W' nb bi bb xs cs :=
  ⟨h.i.since hb, h.b.since hb, below_chain h.below hb⟩
theorem TwoR.apart {w W : World} {nb bi bb : Nat} {xs : List Int} {cs : List Bool} (h : TwoR w W nb bi bb xs cs) : bi ≠ bb := fun e => by
  obtain ⟨x1, h1⟩ := Row.typed h.i bi (by simp [blk])
  obtain ⟨x2, h2⟩ := Row.typed h.b bb (by simp [blk])
  rw [e] at h1
  exact absurd (other_type h1 h2) (by decide)
theorem cell_of_rowI {W : World} {base b n c k : Nat} {xs : List Int} (h : intK.Row W base (some ⟨b, 0, none⟩) n c xs) (hk : k < n) : W.frozen? ⟨b, k, none⟩ = false ∧ W.cell? ⟨b, k, none⟩ = some (.int .i64 (xs.getD k 0)) := by
  obtain ⟨x, hx⟩ := Row.typed h b (by simp [blk])
  obtain ⟨ad, e1, _, hc⟩ := int_at h.lie hk
  cases e1
  rw [placeZ rfl] at hc
  exact ⟨by simp [World.frozen?, hx], hc⟩
theorem cell_of_rowB {W : World} {base b n c k : Nat} {xs : List Bool} (h : boolK.Row W base (some ⟨b, 0, none⟩) n c xs) (hk : k < n) : W.frozen? ⟨b, k, none⟩ = false ∧ W.cell? ⟨b, k, none⟩ = some (.bool (xs.getD k false)) := by
  obtain ⟨x, hx⟩ := Row.typed h b (by simp [blk])
  obtain ⟨ad, e1, _, hc⟩ := bool_at h.lie hk
  cases e1
  rw [placeZ rfl] at hc
  exact ⟨by simp [World.frozen?, hx], hc⟩
theorem same_frozen {w w' : World} {b : Nat} (h : w'.heap[b]? = w.heap[b]?) {p : Addr} (hp : p.block = b) : w'.frozen? p = w.frozen? p := by
  subst hp
  unfold World.frozen?
  rw [h]
theorem wear_ops {c : Chip} (h : c.Wf) (b : Int) : c.wear b ≤ c.ops := by
  unfold Chip.wear
  split
  · next hb =>
    have := of_decide_eq_true hb
    exact h.wear b.toNat (by omega)
  · omega
section
variable {w : World} {base g gc n : Nat} {fp : Nat → Prop} {s : SS}
set_option maxHeartbeats 4000000 in
theorem goal_any (hW : SW s) (hops : s.c.ops < 1000000) (hS : StoreN w base fp g gc s n) : Calls Tryz.prog 59 #[.pointer (some ⟨g, 0, none⟩)] w (SaysV w (.int .i64 (goalS s))) := by
  obtain ⟨gy, gm, fy, fc, rfl, h⟩ := hS
  have D : Hid (∀ W, Below w.heap.size w W → SRep W base g gc gy gm fy fc n s) := fun W hb => h.since hb
  have c0 := h.c0
  have C1 := Lib.hid (ylist_any 2 h.yard)
  obtain ⟨op, HOP⟩ : ∃ op, Hid (listY s.y 2 = op) := ⟨_, rfl⟩
  rw [HOP.out] at C1
  have hlen : op.length ≤ 32 := by
    rw [← HOP.out]; unfold listY; rw [List.length_map]
    exact Nat.le_trans (List.length_filter_le _ _) (by rw [List.length_range]; exact h.yard.wf.n32)
  obtain ⟨r, HR⟩ : ∃ r, Hid (goalS s = r) := ⟨_, rfl⟩
  rw [HR.out]
  cases op with
  | cons b l =>
    have HB : Hid (b = r) := by show b = r; rw [← HR.out, goalS_open HOP.out]
    clear h D hW
    go_enter Tryz.func59, Tryz.ntmps59
    go_wp2_with fail
    refine C1.out.mono ?_
    rintro e W1 ⟨A, m, c, rfl, hr, hb⟩
    obtain rfl : l.length + 1 = m := hr.out.len
    obtain ⟨ad, rfl, _, hc⟩ := int_at hr.out.lie (k := 0) (by omega)
    have hc : W1.cell? ad = some (.int .i64 b) := by rw [add_none] at hc; exact hc
    have hm : (0 : Int) < ((l.length + 1 : Nat) : Int) := by omega
    have hm2 : ((l.length + 1 : Nat) : Int) ≤ 64 := by simp at hlen; omega
    obtain ⟨M, HM⟩ : ∃ M : Nat, Hid (l.length + 1 = M) := ⟨_, rfl⟩
    rw [HM.out] at hm hm2 ⊢
    have HBL := Lib.hid hb.out
    clear hr hb C1 hlen HM HOP
    go_wp2_with fail
    go_ret
    exact ⟨by rw [HB.out]; rfl, HBL.out⟩
  | nil =>
    have HG : Hid (r = leastW (wsL s (listY s.y 1)) (csL s (listY s.y 1))) := by show r = _; rw [← HR.out, goalS_none HOP.out]
    have hnb1 : s.c.nb ≤ 32 := h.chip.wf.nb2
    have hlt : ∀ j, j < (listY s.y 1).length → ∃ k : Nat, (listY s.y 1).getD j 0 = (k : Int) ∧ k < s.c.nb := fun j hj => by
      have hm : (listY s.y 1).getD j 0 ∈ listY s.y 1 := by rw [List.getD_eq_getElem?_getD, List.getElem?_eq_getElem hj]; exact List.getElem_mem _
      obtain ⟨q0, q1⟩ := listY_lt hm
      exact ⟨((listY s.y 1).getD j 0).toNat, by omega, by have := hW.nb; omega⟩
    have HWR : Hid (∀ k : Nat, intK.wf (s.c.wear (k : Int) : Int)) := fun k => by
      have hw := wear_ops h.chip.wf (k : Int)
      show _ ∧ _
      omega
    obtain ⟨fs, HFS⟩ : ∃ fs, Hid (listY s.y 1 = fs) := ⟨_, rfl⟩
    rw [HFS.out] at hlt HG
    have HLT := Lib.hid hlt
    have hfl : fs.length ≤ 32 := by
      rw [← HFS.out]; unfold listY; rw [List.length_map]
      exact Nat.le_trans (List.length_filter_le _ _) (by rw [List.length_range]; exact h.yard.wf.n32)
    have HFL := Lib.hid hfl
    clear hlen hlt hfl hW
    obtain ⟨nb, HNB⟩ : ∃ nb : Nat, Hid (s.c.nb = nb) := ⟨_, rfl⟩
    have C2 := fun W (hb : Below w.heap.size w W) => geo_any (h.since hb).chip
    have C2 : Hid (∀ W, Below w.heap.size w W → Calls Tryz.prog 41 #[.pointer (some ⟨gc, 0, none⟩)] W (SaysV W (.agg #[.int .i64 (nb : Int), .int .i64 (s.c.np : Int), .int .i64 (s.c.ns : Int)]))) := fun W hb => by
      have := C2 W hb
      rw [show geoV (geoOf s.c) = .agg #[.int .i64 (nb : Int), .int .i64 (s.c.np : Int), .int .i64 (s.c.ns : Int)] from by rw [← HNB.out]; rfl] at this
      exact this
    rw [HNB.out] at hnb1
    have hn8 : nb ≤ 8000 := by omega
    have m1 := kind_made intK int_made nb hn8
    have m2 := kind_made boolK bool_made nb hn8
    rw [show intK.L = 22 from rfl] at m1
    rw [show boolK.L = 142 from rfl] at m2
    have HN8 := Lib.hid hn8
    have HN1 := Lib.hid hnb1
    clear h hn8 hnb1
    go_enter Tryz.func59, Tryz.ntmps59
    go_wp2_with fail
    refine C1.out.mono ?_
    rintro e W1 ⟨A0, m, c0_, rfl, hr, hb⟩
    obtain rfl : 0 = m := hr.out.len
    have c1 := (D.out W1 hb.out).c1
    have C2b := Lib.hid (C2.out W1 hb.out)
    have B1 := Lib.hid hb.out
    clear hr hb C1 c0
    go_wp2_with fail
    refine C2b.out.mono ?_
    rintro e W2 ⟨rfl, hb2⟩
    have B2 := Lib.hid (below_chain B1.out hb2.out)
    have f := run_field_blocks (nb : Int) (s.c.np : Int) (s.c.ns : Int) W2
    clear hb2 B1 C2b c1 C2
    go_wp2_with (simp only [f])
    clear f
    go_region_with (simp only [m1, m2])
    · have T0 : Hid (TwoR w ((W2.alloc (.cells (madeCells (intK.cv intK.dflt).toArray (nb * intK.k)) intK.T)).alloc (.cells (madeCells (boolK.cv boolK.dflt).toArray (nb * boolK.k)) boolK.T)).drew nb W2.heap.size (W2.heap.size + 1) (List.replicate nb 0) (List.replicate nb false)) := (two_r1 w W2 nb HN8.out B2.out).since (Below.refl _ _).drew
      clear m1 m2
      obtain ⟨W3, HW3⟩ : ∃ W3, Hid (((W2.alloc (.cells (madeCells (intK.cv intK.dflt).toArray (nb * intK.k)) intK.T)).alloc (.cells (madeCells (boolK.cv boolK.dflt).toArray (nb * boolK.k)) boolK.T)).drew = W3) := ⟨_, rfl⟩
      rw [HW3.out] at T0
      obtain ⟨bi, HBI⟩ : ∃ bi, Hid (bi = W2.heap.size) := ⟨_, rfl⟩
      obtain ⟨bb, HBB⟩ : ∃ bb, Hid (bb = (W2.heap.size + 1)) := ⟨_, rfl⟩
      rw [← HBB.out, ← HBI.out] at T0
      have T0 : Hid (TwoR w W3 nb bi bb (wsL s []) (csL s [])) := by
        have := T0.out
        rw [← HNB.out, ← wsL_nil, ← csL_nil, HNB.out] at this
        exact this
      have r3 := D.out W3 T0.out.below
      have C3 := Lib.hid (ylist_any 1 r3.yard)
      rw [HFS.out] at C3
      have c0 := r3.c0
      rw [← HW3.out] at c0
      clear r3 B2
      go_wp2_with fail
      rw [HW3.out]
      refine C3.out.mono ?_
      rintro e W4 ⟨A, m, c, rfl, hr, hb⟩
      obtain rfl : fs.length = m := hr.out.len
      have T4 := Lib.hid (T0.out.since hb.out)
      have HL := Lib.hid hr.out
      have HS3 := Lib.hid hb.out.size
      have GB : Hid (bi < W3.heap.size ∧ bb < W3.heap.size) := ⟨Row.blk_lt T0.out.i bi (by simp [blk]), Row.blk_lt T0.out.b bb (by simp [blk])⟩
      clear hr hb C3 c0 T0 HW3
      rw [← HBB.out, ← HBI.out]
      clear HBI HBB
      have hm2 : ((fs.length : Nat) : Int) ≤ 64 := by have := HFL.out; omega
      obtain ⟨M, HM⟩ : ∃ M : Nat, Hid (fs.length = M) := ⟨_, rfl⟩
      rw [HM.out] at hm2 HL HLT ⊢
      go_wp2_with fail
      go_loopw [36] (fun t36 wr => ∃ j : Nat, t36 = .int .i64 (j : Int) ∧ j ≤ M ∧ Hid (TwoR w wr nb bi bb (wsL s (fs.take j)) (csL s (fs.take j))) ∧ Hid (intK.Row wr W3.heap.size A M c fs)) (fun t36 _ => M - (intOf t36).toNat)
      case atStart => exact ⟨0, rfl, Nat.zero_le _, T4, HL⟩
      case round =>
        obtain ⟨j, rfl, hj, HT, HL⟩ := hrel
        have i0 : (0 : Int) ≤ (j : Int) := by omega
        by_cases hlt : j < M
        · have i1 : (j : Int) < (M : Int) := by omega
          obtain ⟨k, hk, hk2⟩ := HLT.out j hlt
          obtain ⟨ad, e1, _, hc⟩ := int_at HL.out.lie hlt
          subst e1
          rw [hk] at hc
          have rr := D.out wr HT.out.below
          have CW := Lib.hid (wear_any (k : Int) rr.chip)
          have c1 := rr.c1
          have HKF : Hid (fs.getD j 0 = (k : Int)) := hk
          have HK2 := Lib.hid hk2
          obtain ⟨x, HX⟩ : ∃ x : Int, Hid ((s.c.wear (k : Int) : Int) = x) := ⟨_, rfl⟩
          have HXW : Hid (intK.wf x) := by rw [← HX.out]; exact HWR.out k
          rw [HX.out] at CW
          have k0 : (0 : Int) ≤ (k : Int) := by omega
          have k1 : (k : Int) < (nb : Int) := by rw [← HNB.out]; omega
          clear rr hk hk2
          go_wp2_with fail
          refine CW.out.mono ?_
          rintro e W5 ⟨rfl, hb5⟩
          have T5 := HT.out.since hb5.out
          have L5 := HL.out.since hb5.out
          have HKN : k < nb := by rw [← HNB.out]; exact HK2.out
          obtain ⟨f1, v1⟩ := cell_of_rowI T5.i HKN
          obtain ⟨f2, v2⟩ := cell_of_rowB T5.b HKN
          have hne := T5.apart
          have v3 : (W5.setCell ⟨bi, k, none⟩ (.int .i64 x)).cell? ⟨bb, k, none⟩ = some (.bool ((csL s (fs.take j)).getD k false)) := by rw [← v2]; exact same_cell (setCell_heap _ _ _ _ _ (Ne.symm hne)) rfl
          have f3 : (W5.setCell ⟨bi, k, none⟩ (.int .i64 x)).frozen? ⟨bb, k, none⟩ = false := by rw [← f2]; exact same_frozen (setCell_heap _ _ _ _ _ (Ne.symm hne)) rfl
          have T6 := T5.put HKN x HXW.out
          rw [← HX.out, wsL_snoc HK2.out, csL_snoc HK2.out, ← HKF.out, ← take_snoc (by rw [HM.out]; exact hlt), HKF.out, HX.out] at T6
          have L6 : intK.Row ((W5.setCell ⟨bi, k, none⟩ (.int .i64 x)).setCell ⟨bb, k, none⟩ (.bool true)) W3.heap.size (some ad) M c fs := Row.at_block L5 fun b hb => by
            have hge := Row.blk_ge L5 b hb
            have g1 := GB.out
            rw [setCell_heap _ _ _ _ _ (by omega), setCell_heap _ _ _ _ _ (by omega)]
          have T7 := Lib.hid T6
          have L7 := Lib.hid L6
          clear T5 L5 T6 L6 HT HL CW hb5 c1 hne hc
          go_wp2_with fail
          obtain ⟨W7, HW7⟩ : ∃ W7, Hid ((W5.setCell ⟨bi, k, none⟩ (.int .i64 x)).setCell ⟨bb, k, none⟩ (.bool true) = W7) := ⟨_, rfl⟩
          rw [HW7.out] at T7 L7 ⊢
          clear HW7 v1 v2 v3 f1 f2 f3
          go_wp2_with fail
          go_roundw
          case rel => exact ⟨j + 1, by go_num, by omega, T7, L7⟩
          case measure => simp [intOf]; omega
        · obtain rfl : j = M := by omega
          have HT9 : Hid (TwoR w wr nb bi bb (wsL s fs) (csL s fs)) := by
            have := HT.out
            rw [List.take_of_length_le (by rw [HM.out]; exact Nat.le_refl _)] at this
            exact this
          have CL := Lib.hid (wleast_any (some ⟨bi, 0, none⟩) nb nb (wsL s fs) (some ⟨bb, 0, none⟩) nb nb (csL s fs) wr (by have := HN1.out; omega) (by have := HN1.out; omega) ⟨HT9.out.i.lie, HT9.out.b.lie⟩)
          rw [← HG.out] at CL
          have HB9 := Lib.hid HT9.out.below
          clear HT HL HT9
          go_wp2_with fail
          refine CL.out.mono ?_
          rintro e W9 ⟨rfl, hb9⟩
          have HB10 := Lib.hid (below_chain HB9.out hb9.out)
          clear hb9 HB9 CL
          go_wp2_with fail
          go_ret
          exact ⟨rfl, HB10⟩
    · have T0 : Hid (TwoR w ((W2.alloc (.cells (madeCells (boolK.cv boolK.dflt).toArray (nb * boolK.k)) boolK.T)).alloc (.cells (madeCells (intK.cv intK.dflt).toArray (nb * intK.k)) intK.T)).drew nb (W2.heap.size + 1) W2.heap.size (List.replicate nb 0) (List.replicate nb false)) := (two_r2 w W2 nb HN8.out B2.out).since (Below.refl _ _).drew
      clear m1 m2
      obtain ⟨W3, HW3⟩ : ∃ W3, Hid (((W2.alloc (.cells (madeCells (boolK.cv boolK.dflt).toArray (nb * boolK.k)) boolK.T)).alloc (.cells (madeCells (intK.cv intK.dflt).toArray (nb * intK.k)) intK.T)).drew = W3) := ⟨_, rfl⟩
      rw [HW3.out] at T0
      obtain ⟨bi, HBI⟩ : ∃ bi, Hid (bi = (W2.heap.size + 1)) := ⟨_, rfl⟩
      obtain ⟨bb, HBB⟩ : ∃ bb, Hid (bb = W2.heap.size) := ⟨_, rfl⟩
      rw [← HBI.out, ← HBB.out] at T0
      have T0 : Hid (TwoR w W3 nb bi bb (wsL s []) (csL s [])) := by
        have := T0.out
        rw [← HNB.out, ← wsL_nil, ← csL_nil, HNB.out] at this
        exact this
      have r3 := D.out W3 T0.out.below
      have C3 := Lib.hid (ylist_any 1 r3.yard)
      rw [HFS.out] at C3
      have c0 := r3.c0
      rw [← HW3.out] at c0
      clear r3 B2
      go_wp2_with fail
      rw [HW3.out]
      refine C3.out.mono ?_
      rintro e W4 ⟨A, m, c, rfl, hr, hb⟩
      obtain rfl : fs.length = m := hr.out.len
      have T4 := Lib.hid (T0.out.since hb.out)
      have HL := Lib.hid hr.out
      have HS3 := Lib.hid hb.out.size
      have GB : Hid (bi < W3.heap.size ∧ bb < W3.heap.size) := ⟨Row.blk_lt T0.out.i bi (by simp [blk]), Row.blk_lt T0.out.b bb (by simp [blk])⟩
      clear hr hb C3 c0 T0 HW3
      rw [← HBI.out, ← HBB.out]
      clear HBI HBB
      have hm2 : ((fs.length : Nat) : Int) ≤ 64 := by have := HFL.out; omega
      obtain ⟨M, HM⟩ : ∃ M : Nat, Hid (fs.length = M) := ⟨_, rfl⟩
      rw [HM.out] at hm2 HL HLT ⊢
      go_wp2_with fail
      go_loopw [36] (fun t36 wr => ∃ j : Nat, t36 = .int .i64 (j : Int) ∧ j ≤ M ∧ Hid (TwoR w wr nb bi bb (wsL s (fs.take j)) (csL s (fs.take j))) ∧ Hid (intK.Row wr W3.heap.size A M c fs)) (fun t36 _ => M - (intOf t36).toNat)
      case atStart => exact ⟨0, rfl, Nat.zero_le _, T4, HL⟩
      case round =>
        obtain ⟨j, rfl, hj, HT, HL⟩ := hrel
        have i0 : (0 : Int) ≤ (j : Int) := by omega
        by_cases hlt : j < M
        · have i1 : (j : Int) < (M : Int) := by omega
          obtain ⟨k, hk, hk2⟩ := HLT.out j hlt
          obtain ⟨ad, e1, _, hc⟩ := int_at HL.out.lie hlt
          subst e1
          rw [hk] at hc
          have rr := D.out wr HT.out.below
          have CW := Lib.hid (wear_any (k : Int) rr.chip)
          have c1 := rr.c1
          have HKF : Hid (fs.getD j 0 = (k : Int)) := hk
          have HK2 := Lib.hid hk2
          obtain ⟨x, HX⟩ : ∃ x : Int, Hid ((s.c.wear (k : Int) : Int) = x) := ⟨_, rfl⟩
          have HXW : Hid (intK.wf x) := by rw [← HX.out]; exact HWR.out k
          rw [HX.out] at CW
          have k0 : (0 : Int) ≤ (k : Int) := by omega
          have k1 : (k : Int) < (nb : Int) := by rw [← HNB.out]; omega
          clear rr hk hk2
          go_wp2_with fail
          refine CW.out.mono ?_
          rintro e W5 ⟨rfl, hb5⟩
          have T5 := HT.out.since hb5.out
          have L5 := HL.out.since hb5.out
          have HKN : k < nb := by rw [← HNB.out]; exact HK2.out
          obtain ⟨f1, v1⟩ := cell_of_rowI T5.i HKN
          obtain ⟨f2, v2⟩ := cell_of_rowB T5.b HKN
          have hne := T5.apart
          have v3 : (W5.setCell ⟨bi, k, none⟩ (.int .i64 x)).cell? ⟨bb, k, none⟩ = some (.bool ((csL s (fs.take j)).getD k false)) := by rw [← v2]; exact same_cell (setCell_heap _ _ _ _ _ (Ne.symm hne)) rfl
          have f3 : (W5.setCell ⟨bi, k, none⟩ (.int .i64 x)).frozen? ⟨bb, k, none⟩ = false := by rw [← f2]; exact same_frozen (setCell_heap _ _ _ _ _ (Ne.symm hne)) rfl
          have T6 := T5.put HKN x HXW.out
          rw [← HX.out, wsL_snoc HK2.out, csL_snoc HK2.out, ← HKF.out, ← take_snoc (by rw [HM.out]; exact hlt), HKF.out, HX.out] at T6
          have L6 : intK.Row ((W5.setCell ⟨bi, k, none⟩ (.int .i64 x)).setCell ⟨bb, k, none⟩ (.bool true)) W3.heap.size (some ad) M c fs := Row.at_block L5 fun b hb => by
            have hge := Row.blk_ge L5 b hb
            have g1 := GB.out
            rw [setCell_heap _ _ _ _ _ (by omega), setCell_heap _ _ _ _ _ (by omega)]
          have T7 := Lib.hid T6
          have L7 := Lib.hid L6
          clear T5 L5 T6 L6 HT HL CW hb5 c1 hne hc
          go_wp2_with fail
          obtain ⟨W7, HW7⟩ : ∃ W7, Hid ((W5.setCell ⟨bi, k, none⟩ (.int .i64 x)).setCell ⟨bb, k, none⟩ (.bool true) = W7) := ⟨_, rfl⟩
          rw [HW7.out] at T7 L7 ⊢
          clear HW7 v1 v2 v3 f1 f2 f3
          go_wp2_with fail
          go_roundw
          case rel => exact ⟨j + 1, by go_num, by omega, T7, L7⟩
          case measure => simp [intOf]; omega
        · obtain rfl : j = M := by omega
          have HT9 : Hid (TwoR w wr nb bi bb (wsL s fs) (csL s fs)) := by
            have := HT.out
            rw [List.take_of_length_le (by rw [HM.out]; exact Nat.le_refl _)] at this
            exact this
          have CL := Lib.hid (wleast_any (some ⟨bi, 0, none⟩) nb nb (wsL s fs) (some ⟨bb, 0, none⟩) nb nb (csL s fs) wr (by have := HN1.out; omega) (by have := HN1.out; omega) ⟨HT9.out.i.lie, HT9.out.b.lie⟩)
          rw [← HG.out] at CL
          have HB9 := Lib.hid HT9.out.below
          clear HT HL HT9
          go_wp2_with fail
          refine CL.out.mono ?_
          rintro e W9 ⟨rfl, hb9⟩
          have HB10 := Lib.hid (below_chain HB9.out hb9.out)
          clear hb9 HB9 CL
          go_wp2_with fail
          go_ret
          exact ⟨rfl, HB10⟩
end
end Go.Proofs.YthgkdnegnecnjaaGreatDoor

/- The landed store: a page is programmed. Conditions: the store's cells; the bytes lie apart from it. -/
set_option linter.unusedVariables false
set_option linter.unusedSimpArgs false
set_option maxRecDepth 20000
namespace Go.Proofs.YthgkdnegnecnjaaGreatDoor
open Go.RowKit

def tailS (s : SS) (b : Int) (x : Hd.H) (raw : List Nat) : SS × Int × Int :=
  if (nextY s.y b).2.2 ≠ 0 then ({ s with y := (nextY s.y b).1 }, 0, (nextY s.y b).2.2) else
  if (s.c.program b (nextY s.y b).2.1 raw).2 = 0 then
    (if leftS (keepS ⟨(s.c.program b (nextY s.y b).2.1 raw).1, (nextY s.y b).1, s.hd⟩ b (nextY s.y b).2.1 x) b = 0 then shutS (keepS ⟨(s.c.program b (nextY s.y b).2.1 raw).1, (nextY s.y b).1, s.hd⟩ b (nextY s.y b).2.1 x) b else keepS ⟨(s.c.program b (nextY s.y b).2.1 raw).1, (nextY s.y b).1, s.hd⟩ b (nextY s.y b).2.1 x,
      numS ⟨(s.c.program b (nextY s.y b).2.1 raw).1, (nextY s.y b).1, s.hd⟩ b (nextY s.y b).2.1, 0)
  else
    (if leftS ⟨(s.c.program b (nextY s.y b).2.1 raw).1, (nextY s.y b).1, s.hd⟩ b = 0 then shutS ⟨(s.c.program b (nextY s.y b).2.1 raw).1, (nextY s.y b).1, s.hd⟩ b else ⟨(s.c.program b (nextY s.y b).2.1 raw).1, (nextY s.y b).1, s.hd⟩,
      0, (s.c.program b (nextY s.y b).2.1 raw).2)
def progS (s : SS) (b : Int) (x : Hd.H) (raw : List Nat) : SS × Int × Int :=
  if stY s.y b = 1 then (if (readyS s b).2 ≠ 0 then ((readyS s b).1, 0, (readyS s b).2) else tailS (readyS s b).1 b x raw) else tailS s b x raw
section
variable {s s1 : SS} {b q k : Int} {x : Hd.H} {raw : List Nat} {y : Yd} {c : Chip}
theorem tail_next (h : nextY s.y b = (y, k, q)) (hq : q ≠ 0) : tailS s b x raw = ({ s with y := y }, 0, q) := by unfold tailS; rw [h]; exact if_pos hq
theorem tail_ok0 (h : nextY s.y b = (y, k, 0)) (h2 : s.c.program b k raw = (c, 0)) (hl : leftS (keepS ⟨c, y, s.hd⟩ b k x) b = 0) : tailS s b x raw = (shutS (keepS ⟨c, y, s.hd⟩ b k x) b, numS ⟨c, y, s.hd⟩ b k, 0) := by
  unfold tailS; rw [h]; simp [h2, hl]
theorem tail_ok1 (h : nextY s.y b = (y, k, 0)) (h2 : s.c.program b k raw = (c, 0)) (hl : leftS (keepS ⟨c, y, s.hd⟩ b k x) b ≠ 0) : tailS s b x raw = (keepS ⟨c, y, s.hd⟩ b k x, numS ⟨c, y, s.hd⟩ b k, 0) := by
  unfold tailS; rw [h]; simp [h2, hl]
theorem tail_no0 (h : nextY s.y b = (y, k, 0)) (h2 : s.c.program b k raw = (c, q)) (hq : q ≠ 0) (hl : leftS ⟨c, y, s.hd⟩ b = 0) : tailS s b x raw = (shutS ⟨c, y, s.hd⟩ b, 0, q) := by
  unfold tailS; rw [h]; simp [h2, hq, hl]
theorem tail_no1 (h : nextY s.y b = (y, k, 0)) (h2 : s.c.program b k raw = (c, q)) (hq : q ≠ 0) (hl : leftS ⟨c, y, s.hd⟩ b ≠ 0) : tailS s b x raw = (⟨c, y, s.hd⟩, 0, q) := by
  unfold tailS; rw [h]; simp [h2, hq, hl]
theorem prog_free (h : stY s.y b = 1) (h2 : readyS s b = (s1, 0)) : progS s b x raw = tailS s1 b x raw := by unfold progS; rw [if_pos h, h2]; rfl
theorem prog_no (h : stY s.y b = 1) (h2 : readyS s b = (s1, q)) (hq : q ≠ 0) : progS s b x raw = (s1, 0, q) := by unfold progS; rw [if_pos h, h2]; exact if_pos hq
theorem prog_open (h : stY s.y b ≠ 1) : progS s b x raw = tailS s b x raw := if_neg h
end
section
variable {c : Chip} {b p : Int} {raw : List Nat}
theorem tick_ops (c : Chip) : c.tick.ops = c.ops + 1 := rfl
theorem erase_ops : c.ops ≤ (c.erase b).1.ops ∧ (c.erase b).1.ops ≤ c.ops + 1 := by
  unfold Chip.erase
  split
  · exact ⟨Nat.le_refl _, Nat.le_succ _⟩
  · split
    · exact ⟨Nat.le_succ _, Nat.le_refl _⟩
    · split
      · exact ⟨Nat.le_succ _, Nat.le_refl _⟩
      · split <;> exact ⟨Nat.le_succ _, Nat.le_refl _⟩
theorem mark_ops : c.ops ≤ (c.mark b).1.ops ∧ (c.mark b).1.ops ≤ c.ops + 1 := by
  unfold Chip.mark
  split
  · exact ⟨Nat.le_refl _, Nat.le_succ _⟩
  · split <;> exact ⟨Nat.le_succ _, Nat.le_refl _⟩
theorem program_ops : c.ops ≤ (c.program b p raw).1.ops ∧ (c.program b p raw).1.ops ≤ c.ops + 1 ∧ ((c.program b p raw).2 = 0 → (c.program b p raw).1.ops = c.ops + 1) := by
  unfold Chip.program
  split
  · next h => exact ⟨Nat.le_refl _, Nat.le_succ _, fun e => absurd e h⟩
  · split
    · exact ⟨Nat.le_succ _, Nat.le_refl _, fun _ => rfl⟩
    · split
      · exact ⟨Nat.le_succ _, Nat.le_refl _, fun _ => rfl⟩
      · split
        · exact ⟨Nat.le_succ _, Nat.le_refl _, fun _ => rfl⟩
        · split <;> exact ⟨Nat.le_succ _, Nat.le_refl _, fun _ => rfl⟩
theorem read_ops : c.ops ≤ (c.read b p).1.ops ∧ (c.read b p).1.ops ≤ c.ops + 1 ∧ ((c.read b p).2.1 = 0 → (c.read b p).1.ops = c.ops + 1) := by
  unfold Chip.read
  split
  · next h => exact ⟨Nat.le_refl _, Nat.le_succ _, fun e => absurd e h⟩
  · split <;> exact ⟨Nat.le_succ _, Nat.le_refl _, fun _ => rfl⟩
theorem readyS_ops {s : SS} : s.c.ops ≤ (readyS s b).1.c.ops ∧ (readyS s b).1.c.ops ≤ s.c.ops + 1 := by
  have h := erase_ops (c := s.c) (b := b)
  unfold readyS openS
  split
  · split <;> exact h
  · exact ⟨Nat.le_refl _, Nat.le_succ _⟩
end
/-- What a call leaves that puts a page. -/
def SPut (w : World) (base : Nat) (fp : Nat → Prop) (g gc n : Nat) (r : SS × Int × Int) (e : Ending) (w' : World) : Prop :=
  ∃ v fp' n', e = .returned (.tuple #[.int .i64 r.2.1, v]) ∧ ErrNew w fp' w' r.2.2 v ∧ StoreN w' base fp' g gc r.1 n' ∧ Moves w fp w' fp' ∧ n' ≤ n + 1 ∧ (r.2.2 ≠ 0 → n' = n)
section
variable {w : World} {base B g gc n m c : Nat} {fp : Nat → Prop} {s : SS} {A : Option Addr} {raw : List Nat}
theorem ErrNew.step1 {w W W' : World} {fq fq' : Nat → Prop} {k : Int} {v : Value} (h : ErrNew w fq W k v) (hm : Moves W fq W' fq') : ErrNew w fq' W' k v := by
  rcases h with h | ⟨h0, g, s, e, h1, h2, h3, h4⟩
  · exact Or.inl h
  · refine Or.inr ⟨h0, g, s, e, hm.cell h4 h1, hm.cell h4 h2, h3, fun hb => ?_⟩
    rcases hm.grows g hb with hb | hb
    · exact h4 hb
    · have := World.block_lt_of_cell? W ⟨g, 0, none⟩ h1
      simp at this
      omega
set_option maxHeartbeats 4000000 in
theorem program2_any (b : Int) (x : Hd.H) (hops : s.c.ops < 999990) (hn : n ≤ 1000000) (hS : StoreN w base fp g gc s n) (hR : Rest fp w B A m c raw) :
    Calls Tryz.prog 60 #[.pointer (some ⟨g, 0, none⟩), .int .i64 b, hdV x, .slice A m c] w (SPut w base fp g gc n (progS s b x raw)) := by
  obtain ⟨gy, gm, fy, fc, rfl, h⟩ := hS
  obtain ⟨W0, HW0⟩ : ∃ W0, Hid (W0 = w.alloc (.cells #[.int .i64 (x.k : Int), .int .u64 (x.a : Int), .int .i64 (x.s : Int), .int .i64 (x.g : Int)] 42)) := ⟨_, rfl⟩
  have hb0 : Below w.heap.size w W0 := by rw [HW0.out]; exact (Below.refl _ _).alloc (Nat.le_refl _) _
  have X0 : Hid (RestC (fpS g gm fy fc) W0 w.heap.size #[.int .i64 (x.k : Int), .int .u64 (x.a : Int), .int .i64 (x.s : Int), .int .i64 (x.g : Int)] 42) := by rw [HW0.out]; exact RestC.new w _ _ h.lt
  have R0 := Lib.hid (hR.since hb0)
  have M0 := Lib.hid (Moves.of_below (fp := fpS g gm fy fc) hb0)
  have H0 := Lib.hid (h.since hb0)
  have c0 := H0.out.c0
  rw [HW0.out] at c0
  have CT := Lib.hid (ystate_any b H0.out.yard)
  have HN1 : Hid (n ≤ 1000000000) := by show _ ≤ _; omega
  have HOPS := Lib.hid hops
  obtain ⟨q, HQ⟩ : ∃ q, Hid (stY s.y b = q) := ⟨_, rfl⟩
  rw [HQ.out] at CT
  obtain ⟨R, HR⟩ : ∃ R, Hid (progS s b x raw = R) := ⟨_, rfl⟩
  rw [HR.out]
  have hx : hdV x = .agg #[.int .i64 (x.k : Int), .int .u64 (x.a : Int), .int .i64 (x.s : Int), .int .i64 (x.g : Int)] := rfl
  rw [hx]
  clear h hR hops hn hx hb0
  by_cases hq : q = 1
  · subst hq
    go_enter Tryz.func60, Tryz.ntmps60
    go_wp2_with fail
    rw [← HW0.out]
    clear c0 HW0
    refine CT.out.mono ?_
    rintro e W1 ⟨rfl, hb1⟩
    have hb1 := hb1.out
    have H2 := Lib.hid (H0.out.since hb1)
    have R2 := Lib.hid (R0.out.step (Moves.of_below (fp := fpS g gm fy fc) hb1))
    have X2 := Lib.hid (X0.out.step (Moves.of_below (fp := fpS g gm fy fc) hb1))
    have M2 := Lib.hid (M0.out.trans (Moves.of_below (fp := fpS g gm fy fc) hb1))
    clear H0 R0 X0 M0 hb1 CT
    have CR := Lib.hid (ready_any b (by have := HOPS.out; omega) (⟨_, gm, fy, fc, rfl, H2.out⟩ : StoreN W1 base (fpS g gm fy fc) g gc _ n))
    obtain ⟨s1, e1, HRD⟩ : ∃ s1 e1, Hid (readyS s b = (s1, e1)) := ⟨_, _, rfl⟩
    rw [HRD.out] at CR
    have HO1 : Hid (s1.c.ops < 1000000) := by
      have := (readyS_ops (s := s) (b := b)).2
      rw [HRD.out] at this
      have this : s1.c.ops ≤ s.c.ops + 1 := this
      have h2 := HOPS.out
      show _ < _
      omega
    go_wp2_with fail
    refine CR.out.mono ?_
    rintro e W3 ⟨v3, fp3, rfl, he3, hs3, hm3⟩
    obtain ⟨gy3, gm3, fy3, fc3, rfl, r3⟩ := hs3
    have E3 := Lib.hid (he3.wide M2.out.size fun b hb => Or.inl hb)
    have H3 := Lib.hid r3
    have R3 := Lib.hid (R2.out.step hm3)
    have X3 := Lib.hid (X2.out.step hm3)
    have M3 := Lib.hid (M2.out.trans hm3)
    clear H2 R2 X2 M2 CR hm3 r3 he3
    by_cases he1 : e1 = 0
    · subst he1
      obtain rfl := E3.out.nil
      clear E3
      have c0 := H3.out.c0
      have CN := Lib.hid (ynext_any b H3.out.yard)
      obtain ⟨y2, k2, e2, HN⟩ : ∃ y2 k2 e2, Hid (nextY s1.y b = (y2, k2, e2)) := ⟨_, _, _, rfl⟩
      rw [HN.out] at CN
      go_wp2_with fail
      refine CN.out.mono ?_
      rintro e W4 ⟨v4, fy4, rfl, he4, hy4, hm4⟩
      obtain ⟨r4, m4⟩ := H3.out.withY hy4 hm4
      have E4 := Lib.hid (he4.yard H3.out M3.out.size)
      have H4 := Lib.hid r4
      have R4 := Lib.hid (R3.out.step m4)
      have X4 := Lib.hid (X3.out.step m4)
      have M4 := Lib.hid (M3.out.trans m4)
      clear H3 R3 X3 M3 CN he4 hy4 hm4 r4 m4
      by_cases he2 : e2 = 0
      · subst he2
        obtain rfl := E4.out.nil
        clear E4
        have c1 := H4.out.c1
        have CP := Lib.hid (program_any b k2 A m c raw H4.out.chip R4.out.own.bytes R4.out.own.cap (fun x hx hf => R4.out.safe x hx (Or.inr (Or.inr (Or.inr hf)))) HO1.out)
        obtain ⟨c3, e3, HP⟩ : ∃ c3 e3, Hid (s1.c.program b k2 raw = (c3, e3)) := ⟨_, _, rfl⟩
        rw [show ({ s1 with y := y2 } : SS).c.program b k2 raw = (c3, e3) from HP.out] at CP
        go_wp2_with fail
        refine CP.out.mono ?_
        rintro e W5 ⟨v5, fc5, rfl, he5, hc5, hm5⟩
        obtain ⟨r5, m5⟩ := H4.out.withC hc5 hm5
        have E5 := Lib.hid (he5.chip H4.out M4.out.size)
        have H5 := Lib.hid r5
        have R5 := Lib.hid (R4.out.step m5)
        have X5 := Lib.hid (X4.out.step m5)
        have M5 := Lib.hid (M4.out.trans m5)
        clear H4 R4 X4 M4 CP he5 hc5 hm5 r5 m5
        by_cases he3 : e3 = 0
        · subst he3
          obtain rfl := E5.out.nil
          clear E5
          have CK := Lib.hid (keep_any b k2 x HN1.out (⟨_, gm3, fy4, fc5, rfl, H5.out⟩ : StoreN W5 base (fpS g gm3 fy4 fc5) g gc _ n))
          have x0 : W5.cell? ⟨w.heap.size, 0, none⟩ = some (.int .i64 (x.k : Int)) := X5.out.cell 0
          have x1 : W5.cell? ⟨w.heap.size, 1, none⟩ = some (.int .u64 (x.a : Int)) := X5.out.cell 1
          have x2 : W5.cell? ⟨w.heap.size, 2, none⟩ = some (.int .i64 (x.s : Int)) := X5.out.cell 2
          have x3 : W5.cell? ⟨w.heap.size, 3, none⟩ = some (.int .i64 (x.g : Int)) := X5.out.cell 3
          rw [show hdV x = .agg #[.int .i64 (x.k : Int), .int .u64 (x.a : Int), .int .i64 (x.s : Int), .int .i64 (x.g : Int)] from rfl] at CK
          go_wp2_with fail
          clear x0 x1 x2 x3
          refine CK.out.mono ?_
          rintro e W6 ⟨fp6, rfl, hs6, hm6⟩
          obtain ⟨gy6, gm6, fy6, fc6, rfl, r6⟩ := hs6
          have H6 := Lib.hid r6
          have R6 := Lib.hid (R5.out.step hm6)
          have X6 := Lib.hid (X5.out.step hm6)
          have M6 := Lib.hid (M5.out.trans hm6)
          clear H5 R5 X5 M5 CK hm6 r6
          have CL := Lib.hid (left_any b (⟨_, gm6, fy6, fc6, rfl, H6.out⟩ : StoreN W6 base (fpS g gm6 fy6 fc6) g gc _ (n + 1)))
          obtain ⟨lf, HLF⟩ : ∃ lf, Hid (leftS (keepS ⟨c3, y2, s1.hd⟩ b k2 x) b = lf) := ⟨_, rfl⟩
          rw [HLF.out] at CL
          go_wp2_with fail
          refine CL.out.mono ?_
          rintro e W7 ⟨rfl, hb7⟩
          have hb7 := hb7.out
          have H8 := Lib.hid (H6.out.since hb7)
          have R8 := Lib.hid (R6.out.step (Moves.of_below (fp := fpS g gm6 fy6 fc6) hb7))
          have X8 := Lib.hid (X6.out.step (Moves.of_below (fp := fpS g gm6 fy6 fc6) hb7))
          have M8 := Lib.hid (M6.out.trans (Moves.of_below (fp := fpS g gm6 fy6 fc6) hb7))
          clear H6 R6 X6 M6 hb7 CL
          by_cases hlf : lf = 0
          · subst hlf
            have CS := Lib.hid (shut_any b (⟨_, gm6, fy6, fc6, rfl, H8.out⟩ : StoreN W7 base (fpS g gm6 fy6 fc6) g gc _ (n + 1)))
            go_wp2_with fail
            refine CS.out.mono ?_
            rintro e W9 ⟨fp9, rfl, hs9, hm9⟩
            obtain ⟨gy9, gm9, fy9, fc9, rfl, r9⟩ := hs9
            have H9 := Lib.hid r9
            have R9 := Lib.hid (R8.out.step hm9)
            have X9 := Lib.hid (X8.out.step hm9)
            have M9 := Lib.hid (M8.out.trans hm9)
            clear H8 R8 X8 M8 CS hm9 r9
            go_wp2_with fail
            go_ret2
            rw [← HR.out, prog_free HQ.out HRD.out, tail_ok0 HN.out HP.out HLF.out]
            exact ⟨_, _, _, rfl, ErrNew.none_, ⟨_, _, _, _, rfl, H9.out⟩, M9.out, Nat.le_refl _, fun h => absurd rfl h⟩
          · have HLN := Lib.hid hlf
            go_wp2_with fail
            go_ret2
            rw [← HR.out, prog_free HQ.out HRD.out, tail_ok1 HN.out HP.out (by rw [HLF.out]; exact HLN.out)]
            exact ⟨_, _, _, rfl, ErrNew.none_, ⟨_, _, _, _, rfl, H8.out⟩, M8.out, Nat.le_refl _, fun h => absurd rfl h⟩
        · obtain ⟨xv, rfl⟩ := (E5.out.wrong he3).ne
          have HE3 := Lib.hid he3
          clear he3
          have CL := Lib.hid (left_any b (⟨_, gm3, fy4, fc5, rfl, H5.out⟩ : StoreN W5 base (fpS g gm3 fy4 fc5) g gc _ n))
          obtain ⟨lf, HLF⟩ : ∃ lf, Hid (leftS ⟨c3, y2, s1.hd⟩ b = lf) := ⟨_, rfl⟩
          rw [HLF.out] at CL
          go_wp2_with fail
          refine CL.out.mono ?_
          rintro e W90 ⟨rfl, hb90⟩
          have E90 := Lib.hid (E5.out.step1 (Moves.of_below (fp := fpS g gm3 fy4 fc5) hb90.out))
          have H90 := Lib.hid (H5.out.since hb90.out)
          have M90 := Lib.hid (M5.out.trans (Moves.of_below hb90.out))
          clear H5 M5 E5 hb90 CL R5 X5
          by_cases hlf : lf = 0
          · subst hlf
            have CS := Lib.hid (shut_any b (⟨_, gm3, fy4, fc5, rfl, H90.out⟩ : StoreN W90 base (fpS g gm3 fy4 fc5) g gc _ n))
            go_wp2_with fail
            refine CS.out.mono ?_
            rintro e W91 ⟨fp91, rfl, hs91, hm91⟩
            have E91 := Lib.hid (E90.out.step1 hm91)
            have M91 := Lib.hid (M90.out.trans hm91)
            have S91 := Lib.hid hs91
            clear E90 M90 H90 CS hs91 hm91
            go_wp2_with fail
            go_ret2
            rw [← HR.out, prog_free HQ.out HRD.out, tail_no0 HN.out HP.out HE3.out HLF.out]
            exact ⟨_, _, _, rfl, E91.out, S91.out, M91.out, Nat.le_succ _, fun _ => rfl⟩
          · have HLN := Lib.hid hlf
            go_wp2_with fail
            go_ret2
            rw [← HR.out, prog_free HQ.out HRD.out, tail_no1 HN.out HP.out HE3.out (by rw [HLF.out]; exact HLN.out)]
            exact ⟨_, _, _, rfl, E90.out, ⟨_, _, _, _, rfl, H90.out⟩, M90.out, Nat.le_succ _, fun _ => rfl⟩
      · obtain ⟨xv, rfl⟩ := (E4.out.wrong he2).ne
        have HE2 := Lib.hid he2
        clear he2
        go_wp2_with fail
        go_ret2
        rw [← HR.out, prog_free HQ.out HRD.out, tail_next HN.out HE2.out]
        exact ⟨_, _, _, rfl, E4.out, ⟨_, _, _, _, rfl, H4.out⟩, M4.out, Nat.le_succ _, fun _ => rfl⟩
    · obtain ⟨xv, rfl⟩ := (E3.out.wrong he1).ne
      have HE1 := Lib.hid he1
      clear he1
      go_wp2_with fail
      go_ret2
      rw [← HR.out, prog_no HQ.out HRD.out HE1.out]
      exact ⟨_, _, _, rfl, E3.out, ⟨_, _, _, _, rfl, H3.out⟩, M3.out, Nat.le_succ _, fun _ => rfl⟩
  · have HQN := Lib.hid hq
    go_enter Tryz.func60, Tryz.ntmps60
    go_wp2_with fail
    rw [← HW0.out]
    clear c0 HW0
    refine CT.out.mono ?_
    rintro e W1 ⟨rfl, hb1⟩
    have hb1 := hb1.out
    have H2 := Lib.hid (H0.out.since hb1)
    have R2 := Lib.hid (R0.out.step (Moves.of_below (fp := fpS g gm fy fc) hb1))
    have X2 := Lib.hid (X0.out.step (Moves.of_below (fp := fpS g gm fy fc) hb1))
    have M2 := Lib.hid (M0.out.trans (Moves.of_below (fp := fpS g gm fy fc) hb1))
    clear H0 R0 X0 M0 hb1 CT
    have HO1 : Hid (s.c.ops < 1000000) := by have := HOPS.out; show _ < _; omega
    have c0 := H2.out.c0
    have CN := Lib.hid (ynext_any b H2.out.yard)
    obtain ⟨y2, k2, e2, HN⟩ : ∃ y2 k2 e2, Hid (nextY s.y b = (y2, k2, e2)) := ⟨_, _, _, rfl⟩
    rw [HN.out] at CN
    go_wp2_with fail
    refine CN.out.mono ?_
    rintro e W3 ⟨v3, fy3, rfl, he3, hy3, hm3⟩
    obtain ⟨r3, m3⟩ := H2.out.withY hy3 hm3
    have E3 := Lib.hid (he3.yard H2.out M2.out.size)
    have H3 := Lib.hid r3
    have R3 := Lib.hid (R2.out.step m3)
    have X3 := Lib.hid (X2.out.step m3)
    have M3 := Lib.hid (M2.out.trans m3)
    clear H2 R2 X2 M2 CN he3 hy3 hm3 r3 m3
    by_cases he2 : e2 = 0
    · subst he2
      obtain rfl := E3.out.nil
      clear E3
      have c1 := H3.out.c1
      have CP := Lib.hid (program_any b k2 A m c raw H3.out.chip R3.out.own.bytes R3.out.own.cap (fun x hx hf => R3.out.safe x hx (Or.inr (Or.inr (Or.inr hf)))) HO1.out)
      obtain ⟨c3, e3, HP⟩ : ∃ c3 e3, Hid (s.c.program b k2 raw = (c3, e3)) := ⟨_, _, rfl⟩
      rw [show ({ s with y := y2 } : SS).c.program b k2 raw = (c3, e3) from HP.out] at CP
      go_wp2_with fail
      refine CP.out.mono ?_
      rintro e W4 ⟨v4, fc4, rfl, he4, hc4, hm4⟩
      obtain ⟨r4, m4⟩ := H3.out.withC hc4 hm4
      have E4 := Lib.hid (he4.chip H3.out M3.out.size)
      have H4 := Lib.hid r4
      have R4 := Lib.hid (R3.out.step m4)
      have X4 := Lib.hid (X3.out.step m4)
      have M4 := Lib.hid (M3.out.trans m4)
      clear H3 R3 X3 M3 CP he4 hc4 hm4 r4 m4
      by_cases he3 : e3 = 0
      · subst he3
        obtain rfl := E4.out.nil
        clear E4
        have CK := Lib.hid (keep_any b k2 x HN1.out (⟨_, gm, fy3, fc4, rfl, H4.out⟩ : StoreN W4 base (fpS g gm fy3 fc4) g gc _ n))
        have x0 : W4.cell? ⟨w.heap.size, 0, none⟩ = some (.int .i64 (x.k : Int)) := X4.out.cell 0
        have x1 : W4.cell? ⟨w.heap.size, 1, none⟩ = some (.int .u64 (x.a : Int)) := X4.out.cell 1
        have x2 : W4.cell? ⟨w.heap.size, 2, none⟩ = some (.int .i64 (x.s : Int)) := X4.out.cell 2
        have x3 : W4.cell? ⟨w.heap.size, 3, none⟩ = some (.int .i64 (x.g : Int)) := X4.out.cell 3
        rw [show hdV x = .agg #[.int .i64 (x.k : Int), .int .u64 (x.a : Int), .int .i64 (x.s : Int), .int .i64 (x.g : Int)] from rfl] at CK
        go_wp2_with fail
        clear x0 x1 x2 x3
        refine CK.out.mono ?_
        rintro e W5 ⟨fp5, rfl, hs5, hm5⟩
        obtain ⟨gy5, gm5, fy5, fc5, rfl, r5⟩ := hs5
        have H5 := Lib.hid r5
        have R5 := Lib.hid (R4.out.step hm5)
        have X5 := Lib.hid (X4.out.step hm5)
        have M5 := Lib.hid (M4.out.trans hm5)
        clear H4 R4 X4 M4 CK hm5 r5
        have CL := Lib.hid (left_any b (⟨_, gm5, fy5, fc5, rfl, H5.out⟩ : StoreN W5 base (fpS g gm5 fy5 fc5) g gc _ (n + 1)))
        obtain ⟨lf, HLF⟩ : ∃ lf, Hid (leftS (keepS ⟨c3, y2, s.hd⟩ b k2 x) b = lf) := ⟨_, rfl⟩
        rw [HLF.out] at CL
        go_wp2_with fail
        refine CL.out.mono ?_
        rintro e W6 ⟨rfl, hb6⟩
        have hb6 := hb6.out
        have H7 := Lib.hid (H5.out.since hb6)
        have R7 := Lib.hid (R5.out.step (Moves.of_below (fp := fpS g gm5 fy5 fc5) hb6))
        have X7 := Lib.hid (X5.out.step (Moves.of_below (fp := fpS g gm5 fy5 fc5) hb6))
        have M7 := Lib.hid (M5.out.trans (Moves.of_below (fp := fpS g gm5 fy5 fc5) hb6))
        clear H5 R5 X5 M5 hb6 CL
        by_cases hlf : lf = 0
        · subst hlf
          have CS := Lib.hid (shut_any b (⟨_, gm5, fy5, fc5, rfl, H7.out⟩ : StoreN W6 base (fpS g gm5 fy5 fc5) g gc _ (n + 1)))
          go_wp2_with fail
          refine CS.out.mono ?_
          rintro e W8 ⟨fp8, rfl, hs8, hm8⟩
          obtain ⟨gy8, gm8, fy8, fc8, rfl, r8⟩ := hs8
          have H8 := Lib.hid r8
          have R8 := Lib.hid (R7.out.step hm8)
          have X8 := Lib.hid (X7.out.step hm8)
          have M8 := Lib.hid (M7.out.trans hm8)
          clear H7 R7 X7 M7 CS hm8 r8
          go_wp2_with fail
          go_ret2
          rw [← HR.out, prog_open (by rw [HQ.out]; exact HQN.out), tail_ok0 HN.out HP.out HLF.out]
          exact ⟨_, _, _, rfl, ErrNew.none_, ⟨_, _, _, _, rfl, H8.out⟩, M8.out, Nat.le_refl _, fun h => absurd rfl h⟩
        · have HLN := Lib.hid hlf
          go_wp2_with fail
          go_ret2
          rw [← HR.out, prog_open (by rw [HQ.out]; exact HQN.out), tail_ok1 HN.out HP.out (by rw [HLF.out]; exact HLN.out)]
          exact ⟨_, _, _, rfl, ErrNew.none_, ⟨_, _, _, _, rfl, H7.out⟩, M7.out, Nat.le_refl _, fun h => absurd rfl h⟩
      · obtain ⟨xv, rfl⟩ := (E4.out.wrong he3).ne
        have HE3 := Lib.hid he3
        clear he3
        have CL := Lib.hid (left_any b (⟨_, gm, fy3, fc4, rfl, H4.out⟩ : StoreN W4 base (fpS g gm fy3 fc4) g gc _ n))
        obtain ⟨lf, HLF⟩ : ∃ lf, Hid (leftS ⟨c3, y2, s.hd⟩ b = lf) := ⟨_, rfl⟩
        rw [HLF.out] at CL
        go_wp2_with fail
        refine CL.out.mono ?_
        rintro e W90 ⟨rfl, hb90⟩
        have E90 := Lib.hid (E4.out.step1 (Moves.of_below (fp := fpS g gm fy3 fc4) hb90.out))
        have H90 := Lib.hid (H4.out.since hb90.out)
        have M90 := Lib.hid (M4.out.trans (Moves.of_below hb90.out))
        clear H4 M4 E4 hb90 CL R4 X4
        by_cases hlf : lf = 0
        · subst hlf
          have CS := Lib.hid (shut_any b (⟨_, gm, fy3, fc4, rfl, H90.out⟩ : StoreN W90 base (fpS g gm fy3 fc4) g gc _ n))
          go_wp2_with fail
          refine CS.out.mono ?_
          rintro e W91 ⟨fp91, rfl, hs91, hm91⟩
          have E91 := Lib.hid (E90.out.step1 hm91)
          have M91 := Lib.hid (M90.out.trans hm91)
          have S91 := Lib.hid hs91
          clear E90 M90 H90 CS hs91 hm91
          go_wp2_with fail
          go_ret2
          rw [← HR.out, prog_open (by rw [HQ.out]; exact HQN.out), tail_no0 HN.out HP.out HE3.out HLF.out]
          exact ⟨_, _, _, rfl, E91.out, S91.out, M91.out, Nat.le_succ _, fun _ => rfl⟩
        · have HLN := Lib.hid hlf
          go_wp2_with fail
          go_ret2
          rw [← HR.out, prog_open (by rw [HQ.out]; exact HQN.out), tail_no1 HN.out HP.out HE3.out (by rw [HLF.out]; exact HLN.out)]
          exact ⟨_, _, _, rfl, E90.out, ⟨_, _, _, _, rfl, H90.out⟩, M90.out, Nat.le_succ _, fun _ => rfl⟩
    · obtain ⟨xv, rfl⟩ := (E3.out.wrong he2).ne
      have HE2 := Lib.hid he2
      clear he2
      go_wp2_with fail
      go_ret2
      rw [← HR.out, prog_open (by rw [HQ.out]; exact HQN.out), tail_next HN.out HE2.out]
      exact ⟨_, _, _, rfl, E3.out, ⟨_, _, _, _, rfl, H3.out⟩, M3.out, Nat.le_succ _, fun _ => rfl⟩
end
end Go.Proofs.YthgkdnegnecnjaaGreatDoor

/- A store as mathematics: what its steps leave as it was. No conditions. -/
set_option linter.unusedVariables false
set_option linter.unusedSimpArgs false
set_option maxRecDepth 20000
namespace Go.Proofs.YthgkdnegnecnjaaGreatDoor
open Go.RowKit

/-- Steps that turn the state of one block at most, never to that of a bad one. -/
structure FrY (b : Int) (y y' : Yd) : Prop where
  p : y'.P = y.P
  len : y'.S.length = y.S.length
  other : ∀ k, k ≠ b.toNat → y'.S.getD k 0 = y.S.getD k 0
  bad : y.S.getD b.toNat 0 ≠ 4 → y'.S.getD b.toNat 0 ≠ 4
section
variable {y y' y'' : Yd} {b p q : Int} {d : Bool}
theorem FrY.refl : FrY b y y := ⟨rfl, rfl, fun _ _ => rfl, fun h => h⟩
theorem FrY.trans (h : FrY b y y') (k : FrY b y' y'') : FrY b y y'' := ⟨k.p.trans h.p, k.len.trans h.len, fun j hj => (k.other j hj).trans (h.other j hj), fun e => k.bad (h.bad e)⟩
theorem frY_S (y : Yd) (b x : Int) (hx : x ≠ 4) : FrY b y (y.setS b.toNat x) := by
  refine ⟨rfl, by simp [Yd.setS], fun k hk => ?_, fun h => ?_⟩
  · show (y.S.set b.toNat x).getD k 0 = _
    rw [getD_setY, if_neg (fun e => hk e.1)]
  · show (y.S.set b.toNat x).getD b.toNat 0 ≠ 4
    rw [getD_setY]
    split
    · exact hx
    · exact h
theorem frY_T (y : Yd) (b : Int) (k : Nat) (x : Int) : FrY b y (y.setT k x) := ⟨rfl, rfl, fun _ _ => rfl, fun h => h⟩
theorem openY_fr : FrY b y (openY y b).1 := by
  unfold openY
  split
  · exact FrY.refl
  · split
    · exact (frY_S y b 2 (by decide)).trans (frY_T _ b _ _)
    · exact FrY.refl
theorem nextY_fr : FrY b y (nextY y b).1 := by
  unfold nextY
  split
  · exact FrY.refl
  · split
    · exact FrY.refl
    · split
      · exact FrY.refl
      · exact frY_T _ _ _ _
theorem sealY_fr : FrY b y (sealY y b).1 := by
  unfold sealY
  split
  · exact FrY.refl
  · split
    · exact FrY.refl
    · exact frY_S _ _ _ (by decide)
theorem freeY_fr : FrY b y (freeY y b).1 := by
  unfold freeY
  split
  · exact FrY.refl
  · split
    · exact FrY.refl
    · exact (frY_S _ _ _ (by decide)).trans (frY_T _ b _ _)
theorem wantY_fr : FrY b y (wantY y b p d).1 := by
  unfold wantY
  split
  · exact FrY.refl
  · split
    · exact FrY.refl
    · exact ⟨rfl, rfl, fun _ _ => rfl, fun h => h⟩
theorem dropY_fr : FrY b y (dropY y b p).1 := by
  unfold dropY
  split
  · exact FrY.refl
  · split
    · exact FrY.refl
    · exact ⟨rfl, rfl, fun _ _ => rfl, fun h => h⟩
end
/-- The chip's shape stays. -/
structure FrC (c c' : Chip) : Prop where
  nb : c'.nb = c.nb
  np : c'.np = c.np
  ns : c'.ns = c.ns
section
variable {c c' c'' : Chip} {b p : Int} {raw : List Nat}
theorem FrC.refl : FrC c c := ⟨rfl, rfl, rfl⟩
theorem FrC.trans (h : FrC c c') (k : FrC c' c'') : FrC c c'' := ⟨k.nb.trans h.nb, k.np.trans h.np, k.ns.trans h.ns⟩
theorem FrC.geo (h : FrC c c') : geoOf c' = geoOf c := by unfold geoOf; rw [h.nb, h.np, h.ns]
theorem erase_fr : FrC c (c.erase b).1 := by
  unfold Chip.erase
  split
  · exact FrC.refl
  · split
    · exact ⟨rfl, rfl, rfl⟩
    · split
      · exact ⟨rfl, rfl, rfl⟩
      · split <;> exact ⟨rfl, rfl, rfl⟩
theorem mark_fr : FrC c (c.mark b).1 := by
  unfold Chip.mark
  split
  · exact FrC.refl
  · split <;> exact ⟨rfl, rfl, rfl⟩
theorem program_fr : FrC c (c.program b p raw).1 := by
  unfold Chip.program
  split
  · exact FrC.refl
  · split
    · exact ⟨rfl, rfl, rfl⟩
    · split
      · exact ⟨rfl, rfl, rfl⟩
      · split
        · exact ⟨rfl, rfl, rfl⟩
        · split <;> exact ⟨rfl, rfl, rfl⟩
theorem read_fr : FrC c (c.read b p).1 := by
  unfold Chip.read
  split
  · exact FrC.refl
  · split <;> exact ⟨rfl, rfl, rfl⟩
end
/-- Both. -/
structure FrS (b : Int) (s s' : SS) : Prop where
  y : FrY b s.y s'.y
  c : FrC s.c s'.c
section
variable {s s' s'' : SS} {b k : Int} {x : Hd.H} {raw : List Nat}
theorem FrS.refl : FrS b s s := ⟨FrY.refl, FrC.refl⟩
theorem FrS.trans (h : FrS b s s') (k : FrS b s' s'') : FrS b s s'' := ⟨h.y.trans k.y, h.c.trans k.c⟩
theorem FrS.sw (h : FrS b s s') (w : SW s) : SW s' := ⟨by rw [h.y.len, h.c.nb]; exact w.nb, by rw [h.y.p, h.c.np]; exact w.np, by rw [h.c.geo]; exact w.may⟩
theorem shutS_fr : FrS b s (shutS s b) := ⟨sealY_fr.trans freeY_fr, FrC.refl⟩
theorem keepS_fr : FrS b s (keepS s b k x) := ⟨wantY_fr, FrC.refl⟩
theorem openS_fr : FrS b s (openS s b).1 := ⟨openY_fr, FrC.refl⟩
theorem readyS_fr : FrS b s (readyS s b).1 := by
  unfold readyS
  split
  · split
    · exact ⟨FrY.refl, erase_fr⟩
    · exact (⟨FrY.refl, erase_fr⟩ : FrS b s { s with c := (s.c.erase b).1 }).trans openS_fr
  · exact openS_fr
theorem tailS_fr : FrS b s (tailS s b x raw).1 := by
  have h0 : FrS b s { s with y := (nextY s.y b).1 } := ⟨nextY_fr, FrC.refl⟩
  have h1 : FrS b s ⟨(s.c.program b (nextY s.y b).2.1 raw).1, (nextY s.y b).1, s.hd⟩ := ⟨nextY_fr, program_fr⟩
  unfold tailS
  split
  · exact h0
  · split
    · show FrS b s (if _ then _ else _)
      split
      · exact (h1.trans keepS_fr).trans shutS_fr
      · exact h1.trans keepS_fr
    · show FrS b s (if _ then _ else _)
      split
      · exact h1.trans shutS_fr
      · exact h1
theorem progS_fr : FrS b s (progS s b x raw).1 := by
  unfold progS
  split
  · split
    · exact readyS_fr
    · exact readyS_fr.trans tailS_fr
  · exact tailS_fr
end
/-- How many blocks are not bad. -/
def goodN (y : Yd) : Nat := (List.range y.S.length).countP fun k => y.S.getD k 0 != 4
theorem count_less {n : Nat} {p q : Nat → Bool} {b : Nat} (hb : b < n) (h : ∀ k, k ≠ b → p k = q k) (hp : p b = true) (hq : q b = false) : (List.range n).countP q + 1 = (List.range n).countP p := by
  induction n with
  | zero => omega
  | succ n ih =>
    rw [List.range_succ, List.countP_append, List.countP_append]
    by_cases e : b = n
    · subst e
      have : ∀ m, m ≤ b → (List.range m).countP q = (List.range m).countP p := fun m hm => by
        refine List.countP_congr fun k hk => ?_
        have := List.mem_range.1 hk
        rw [h k (by omega)]
      rw [this b (Nat.le_refl _)]
      simp [hp, hq]
    · have := ih (by omega)
      have e2 := h n (fun e3 => e e3.symm)
      simp only [List.countP_cons, List.countP_nil, e2]
      omega
theorem listY_mem {y : Yd} {x b : Int} (h : b ∈ listY y x) : 0 ≤ b ∧ b.toNat < y.S.length ∧ y.S.getD b.toNat 0 = x := by
  unfold listY at h
  obtain ⟨i, hi, rfl⟩ := List.mem_map.1 h
  obtain ⟨h1, h2⟩ := List.mem_filter.1 hi
  have := List.mem_range.1 h1
  rw [Int.toNat_natCast]
  exact ⟨by omega, this, by simpa using h2⟩
theorem leastN_in {ws : List Int} {cs : List Bool} : ∀ n, leastN ws cs n = -1 ∨ ∃ k : Nat, leastN ws cs n = (k : Int) ∧ k < n ∧ isC cs k = true
  | 0 => Or.inl rfl
  | n + 1 => by
    unfold leastN
    split
    · next h => exact Or.inr ⟨n, rfl, Nat.lt_succ_self _, h.1⟩
    · rcases leastN_in (ws := ws) (cs := cs) n with h | ⟨k, h1, h2, h3⟩
      · exact Or.inl h
      · exact Or.inr ⟨k, h1, by omega, h3⟩
/-- The block that the next page goes to is free or open. -/
theorem goalS_is (s : SS) (hw : SW s) : goalS s = -1 ∨ (0 ≤ goalS s ∧ (goalS s).toNat < s.y.S.length ∧ (s.y.S.getD (goalS s).toNat 0 = 1 ∨ s.y.S.getD (goalS s).toNat 0 = 2)) := by
  cases e : listY s.y 2 with
  | cons b l =>
    rw [goalS_open e]
    obtain ⟨h0, h1, h2⟩ := listY_mem (y := s.y) (x := 2) (b := b) (by rw [e]; exact List.mem_cons_self ..)
    exact Or.inr ⟨h0, h1, Or.inr h2⟩
  | nil =>
    rw [goalS_none e]
    unfold leastW
    rw [if_pos (by rw [wsL_len, csL_len]), wsL_len]
    rcases leastN_in (ws := wsL s (listY s.y 1)) (cs := csL s (listY s.y 1)) s.c.nb with h | ⟨k, h1, h2, h3⟩
    · exact Or.inl h
    · rw [h1, Int.toNat_natCast]
      refine Or.inr ⟨by omega, by rw [hw.nb]; exact h2, Or.inl ?_⟩
      have : (listY s.y 1).contains (k : Int) = true := by
        unfold isC csL at h3
        rw [getD_map_range _ _ _ _ h2] at h3
        exact h3
      have := (listY_mem (List.contains_iff_mem.1 this)).2.2
      rwa [Int.toNat_natCast] at this
theorem retire_good {y : Yd} {b : Int} (hb : 0 ≤ b ∧ b.toNat < y.S.length) (h : y.S.getD b.toNat 0 ≠ 4) : goodN (retireY y b).1 + 1 = goodN y ∨ (retireY y b).2 ≠ 0 := by
  unfold retireY
  split
  · exact Or.inr (by show (2 : Int) ≠ 0; decide)
  · split
    · exact Or.inr (by show (9 : Int) ≠ 0; decide)
    · refine Or.inl ?_
      unfold goodN
      show (List.range (y.S.set b.toNat 4).length).countP _ + 1 = _
      rw [List.length_set]
      refine count_less hb.2 (fun k hk => ?_) (by simpa using h) ?_
      · show _ = ((y.S.set b.toNat 4).getD k 0 != 4)
        rw [getD_setY, if_neg (fun e => hk e.1)]
      · show ((y.S.set b.toNat 4).getD b.toNat 0 != 4) = false
        rw [getD_setY, if_pos ⟨rfl, hb.2⟩]; rfl
theorem goodN_fr {b : Int} {y y' : Yd} (h : FrY b y y') (h4 : y.S.getD b.toNat 0 ≠ 4) : goodN y' ≤ goodN y := by
  unfold goodN
  rw [h.len]
  refine Nat.le_of_eq (List.countP_congr fun k hk => ?_)
  by_cases e : k = b.toNat
  · subst e
    rw [bne_iff_ne.2 h4, bne_iff_ne.2 (h.bad h4)]
  · rw [h.other k e]
theorem goodN_le (y : Yd) : goodN y ≤ y.S.length := by
  have := List.countP_le_length (p := fun k => y.S.getD k 0 != 4) (l := List.range y.S.length)
  rwa [List.length_range] at this
end Go.Proofs.YthgkdnegnecnjaaGreatDoor

/- The landed store: Put. Conditions: the store's cells; what the listed variables hold; the data's cells. -/
set_option linter.unusedVariables false
set_option linter.unusedSimpArgs false
set_option maxRecDepth 20000
namespace Go.Proofs.YthgkdnegnecnjaaGreatDoor
open Go.RowKit

/-- Put's rounds, so many at most. -/
def putL : Nat → SS → Hd.H → List Nat → SS × Int × Int
  | 0, s, _, _ => (s, 0, 7)
  | f + 1, s, x, raw =>
    if goalS s < 0 then (s, 0, 7)
    else if (progS s (goalS s) x raw).2.2 = 0 then progS s (goalS s) x raw
    else if (progS s (goalS s) x raw).2.2 = 5 then
      (if (markS (progS s (goalS s) x raw).1 (goalS s)).2 ≠ 0 then ((markS (progS s (goalS s) x raw).1 (goalS s)).1, 0, (markS (progS s (goalS s) x raw).1 (goalS s)).2)
       else putL f (markS (progS s (goalS s) x raw).1 (goalS s)).1 x raw)
    else ((progS s (goalS s) x raw).1, 0, (progS s (goalS s) x raw).2.2)
def putS (s : SS) (K A S G : Int) (ds : List Nat) : SS × Int × Int :=
  match layO ds K A S G with
  | none => (s, 0, 2)
  | some raw => if (ds.length : Int) ≠ s.c.ns then (s, 0, 2) else if s.c.on = false then (s, 0, 4) else putL 40 s (hN K A S G) raw
section
variable {s s1 s2 : SS} {b p q k : Int} {x : Hd.H} {raw ds : List Nat} {f : Nat} {K A S G : Int}
theorem putL_full (hb : goalS s = b) (h : b < 0) : putL (f + 1) s x raw = (s, 0, 7) := by unfold putL; rw [hb, if_pos h]
theorem putL_ok (hb : goalS s = b) (h : ¬ b < 0) (h2 : progS s b x raw = (s1, p, 0)) : putL (f + 1) s x raw = (s1, p, 0) := by unfold putL; rw [hb, if_neg h, h2]; exact if_pos rfl
theorem putL_no (hb : goalS s = b) (h : ¬ b < 0) (h2 : progS s b x raw = (s1, p, q)) (h0 : q ≠ 0) (h5 : q ≠ 5) : putL (f + 1) s x raw = (s1, 0, q) := by
  unfold putL; rw [hb, if_neg h, h2]; show (if q = 0 then _ else if q = 5 then _ else _) = _; rw [if_neg h0, if_neg h5]
theorem putL_mark (hb : goalS s = b) (h : ¬ b < 0) (h2 : progS s b x raw = (s1, p, 5)) (h3 : markS s1 b = (s2, q)) (hq : q ≠ 0) : putL (f + 1) s x raw = (s2, 0, q) := by
  unfold putL; rw [hb, if_neg h, h2]; simp [h3, hq]
theorem putL_next (hb : goalS s = b) (h : ¬ b < 0) (h2 : progS s b x raw = (s1, p, 5)) (h3 : markS s1 b = (s2, 0)) : putL (f + 1) s x raw = putL f s2 x raw := by
  rw [putL, hb, if_neg h, h2]; simp [h3]
theorem putS_none (h : layO ds K A S G = none) : putS s K A S G ds = (s, 0, 2) := by unfold putS; rw [h]
theorem putS_len (h : layO ds K A S G = some raw) (hl : (ds.length : Int) ≠ s.c.ns) : putS s K A S G ds = (s, 0, 2) := by unfold putS; rw [h]; exact if_pos hl
theorem putS_dark (h : layO ds K A S G = some raw) (hl : (ds.length : Int) = s.c.ns) (ho : s.c.on = false) : putS s K A S G ds = (s, 0, 4) := by unfold putS; rw [h]; simp [hl, ho]
theorem putS_on (h : layO ds K A S G = some raw) (hl : (ds.length : Int) = s.c.ns) (ho : s.c.on = true) : putS s K A S G ds = putL 40 s (hN K A S G) raw := by unfold putS; rw [h]; simp [hl, ho]
theorem tailS_ops : s.c.ops ≤ (tailS s b x raw).1.c.ops ∧ (tailS s b x raw).1.c.ops ≤ s.c.ops + 1 ∧ ((tailS s b x raw).2.2 = 0 → s.c.ops + 1 ≤ (tailS s b x raw).1.c.ops) := by
  have h := program_ops (c := s.c) (b := b) (p := (nextY s.y b).2.1) (raw := raw)
  unfold tailS
  split
  · next h0 => exact ⟨Nat.le_refl _, Nat.le_succ _, fun e => absurd e h0⟩
  · split
    · next h0 =>
      have e := h.2.2 h0
      show s.c.ops ≤ (if _ then _ else _ : SS).c.ops ∧ (if _ then _ else _ : SS).c.ops ≤ _ ∧ (_ → _ ≤ (if _ then _ else _ : SS).c.ops)
      split <;> exact ⟨h.1, h.2.1, fun _ => Nat.le_of_eq e.symm⟩
    · next h0 =>
      show s.c.ops ≤ (if _ then _ else _ : SS).c.ops ∧ (if _ then _ else _ : SS).c.ops ≤ _ ∧ (_ → _ ≤ (if _ then _ else _ : SS).c.ops)
      split <;> exact ⟨h.1, h.2.1, fun e => absurd e h0⟩
theorem progS_ops : s.c.ops ≤ (progS s b x raw).1.c.ops ∧ (progS s b x raw).1.c.ops ≤ s.c.ops + 2 ∧ ((progS s b x raw).2.2 = 0 → s.c.ops + 1 ≤ (progS s b x raw).1.c.ops) := by
  have h := readyS_ops (s := s) (b := b)
  unfold progS
  split
  · split
    · next h0 => exact ⟨h.1, by show (readyS s b).1.c.ops ≤ _; omega, fun e => absurd e h0⟩
    · have k := tailS_ops (s := (readyS s b).1) (b := b) (x := x) (raw := raw)
      exact ⟨by omega, by omega, fun e => by have := k.2.2 e; omega⟩
  · have k := tailS_ops (s := s) (b := b) (x := x) (raw := raw)
    exact ⟨by omega, by omega, fun e => k.2.2 e⟩
theorem markS_ops : s.c.ops ≤ (markS s b).1.c.ops ∧ (markS s b).1.c.ops ≤ s.c.ops + 1 := by
  have h := mark_ops (c := s.c) (b := b)
  unfold markS
  split <;> exact h
theorem markS_sw (h : SW s) : SW (markS s b).1 := by
  have hc := mark_fr (c := s.c) (b := b)
  have hp : (retireY s.y b).1.P = s.y.P ∧ (retireY s.y b).1.S.length = s.y.S.length := by
    unfold retireY
    split
    · exact ⟨rfl, rfl⟩
    · split
      · exact ⟨rfl, rfl⟩
      · exact ⟨rfl, by simp [Yd.setS]⟩
  unfold markS
  split
  · exact ⟨by show s.y.S.length = _; rw [hc.nb]; exact h.nb, by show s.y.P = _; rw [hc.np]; exact h.np, by show mayG (geoOf _) = _; rw [hc.geo]; exact h.may⟩
  · exact ⟨by show (retireY s.y b).1.S.length = _; rw [hp.2, hc.nb]; exact h.nb, by show (retireY s.y b).1.P = _; rw [hp.1, hc.np]; exact h.np, by show mayG (geoOf _) = _; rw [hc.geo]; exact h.may⟩
theorem markS_good (hb : 0 ≤ b ∧ b.toNat < s.y.S.length) (h4 : s.y.S.getD b.toNat 0 ≠ 4) (h : (markS s b).2 = 0) : goodN (markS s b).1.y + 1 = goodN s.y := by
  unfold markS at h ⊢
  split
  · next h0 => rw [if_pos h0] at h; exact absurd h h0
  · next h0 =>
    rw [if_neg h0] at h
    rcases retire_good hb h4 with e | e
    · exact e
    · exact absurd h e
end
theorem hN_cells {K A S G : Int} (h : mayB K A S G = true) (a0 : 0 ≤ A) (a1 : A ≤ 18446744073709551615) : (#[.int .i64 K, .int .u64 A, .int .i64 S, .int .i64 G] : Array Value) = #[.int .i64 ((hN K A S G).k : Int), .int .u64 ((hN K A S G).a : Int), .int .i64 ((hN K A S G).s : Int), .int .i64 ((hN K A S G).g : Int)] := by
  have hm : 0 ≤ K ∧ 0 ≤ S ∧ 0 ≤ G := by have := mayB_out h; omega
  unfold hN
  simp only
  rw [Int.toNat_of_nonneg hm.1, Int.toNat_of_nonneg a0, Int.toNat_of_nonneg hm.2.1, Int.toNat_of_nonneg hm.2.2]
theorem least_f {P : Nat → Prop} : ∀ f, P f → ∃ m, P m ∧ ∀ q, P q → m ≤ q := by
  intro f
  induction f using Nat.strongRecOn with
  | _ f ih =>
    intro h
    by_cases hl : ∃ q, q < f ∧ P q
    · obtain ⟨q, hq, hp⟩ := hl
      exact ih q hq hp
    · exact ⟨f, h, fun q hp => Nat.le_of_not_lt fun hq => hl ⟨q, hq, hp⟩⟩
open Classical in
noncomputable def minF (P : Nat → Prop) : Nat := if h : ∃ m, P m ∧ ∀ q, P q → m ≤ q then Classical.choose h else 0
theorem minF_spec {P : Nat → Prop} (h : ∃ f, P f) : P (minF P) := by
  obtain ⟨f, hf⟩ := h
  have hm := least_f f hf
  unfold minF
  rw [dif_pos hm]
  exact (Classical.choose_spec hm).1
theorem minF_le {P : Nat → Prop} {f : Nat} (h : P f) : minF P ≤ f := by
  have hm := least_f f h
  unfold minF
  rw [dif_pos hm]
  exact (Classical.choose_spec hm).2 f h
structure PutR (w : World) (base : Nat) (fp : Nat → Prop) (g gc : Nat) (x : Hd.H) (raw : List Nat) (R : SS × Int × Int) (B : Nat) (A : Option Addr) (m c : Nat) (f : Nat) (W : World) (fp2 : Nat → Prop) (s : SS) (n : Nat) : Prop where
  st : StoreN W base fp2 g gc s n
  n_le : n ≤ s.c.ops
  ops : s.c.ops + 4 * f ≤ 999000
  good : goodN s.y < f
  sw : SW s
  is : putL f s x raw = R
  mv : Moves w fp W fp2
  row : Rest fp2 W B A m c raw
  box : RestC fp2 W w.heap.size #[.int .i64 (x.k : Int), .int .u64 (x.a : Int), .int .i64 (x.s : Int), .int .i64 (x.g : Int)] 42
def PutQ (w : World) (base : Nat) (fp : Nat → Prop) (g gc : Nat) (x : Hd.H) (raw : List Nat) (R : SS × Int × Int) (B : Nat) (A : Option Addr) (m c : Nat) (W : World) (f : Nat) : Prop := ∃ fp2 s n, PutR w base fp g gc x raw R B A m c f W fp2 s n
theorem ErrNew.pos {w w' : World} {fp : Nat → Prop} {k : Int} {v : Value} (h : ErrNew w fp w' k v) (hk : k ≠ 0) : 1 ≤ k := by
  rcases h with h | h
  · exact absurd h.1 hk
  · exact h.1
/-- What Put leaves. -/
def SPutA (w : World) (base : Nat) (fp : Nat → Prop) (g gc : Nat) (r : SS × Int × Int) (e : Ending) (w' : World) : Prop :=
  ∃ v fp', e = .returned (.tuple #[.int .i64 r.2.1, v]) ∧ ErrNew w fp' w' r.2.2 v ∧ StoreAt w' base fp' g gc r.1 ∧ Moves w fp w' fp'
section
variable {w : World} {base g gc : Nat} {fp : Nat → Prop} {s : SS}
set_option maxHeartbeats 16000000 in
theorem put_any (K A' S G : Int) (A : Option Addr) (n c : Nat) (ds : List Nat) (hT : Tabs w) (hW : Wid w) (hA : Bytes w w.heap.size A n ds) (hn : n ≤ 900) (a0 : 0 ≤ A') (a1 : A' ≤ 18446744073709551615) (hSW : SW s) (hops : s.c.ops < 900000) (hS : StoreAt w base fp g gc s) :
    Calls Tryz.prog 23 #[.pointer (some ⟨g, 0, none⟩), .agg #[.int .i64 K, .int .u64 A', .int .i64 S, .int .i64 G], .slice A n c] w (SPutA w base fp g gc (putS s K A' S G ds)) := by
  obtain ⟨n0, hn0, gy, gm, fy, fc, rfl, h⟩ := hS
  have HN0 := Lib.hid hn0
  obtain ⟨W0, HW0⟩ : ∃ W0, Hid (W0 = w.alloc (.cells #[.int .i64 K, .int .u64 A', .int .i64 S, .int .i64 G] 42)) := ⟨_, rfl⟩
  have hb0 : Below w.heap.size w W0 := by rw [HW0.out]; exact (Below.refl _ _).alloc (Nat.le_refl _) _
  have X0 : Hid (RestC (fpS g gm fy fc) W0 w.heap.size #[.int .i64 K, .int .u64 A', .int .i64 S, .int .i64 G] 42) := by rw [HW0.out]; exact RestC.new w _ _ h.lt
  have M0 := Lib.hid (Moves.of_below (fp := fpS g gm fy fc) hb0)
  have H0 := Lib.hid (h.since hb0)
  have hlen : ds.length = n := hA.len
  have HSW := Lib.hid hSW
  have HOPS := Lib.hid hops
  have CL := Lib.hid (lay_any A n c ds K A' S G W0 (hT.since hb0) (hW.since hb0) hn (hA.since hb0) a0 a1)
  obtain ⟨o, HO⟩ : ∃ o, Hid (layO ds K A' S G = o) := ⟨_, rfl⟩
  rw [HO.out] at CL
  obtain ⟨R, HR⟩ : ∃ R, Hid (putS s K A' S G ds = R) := ⟨_, rfl⟩
  rw [HR.out]
  have q0 : (w.alloc (.cells #[.int .i64 K, .int .u64 A', .int .i64 S, .int .i64 G] 42)).cell? ⟨w.heap.size, 0, none⟩ = some (.int .i64 K) := by rw [← HW0.out]; exact X0.out.cell 0
  have q1 : (w.alloc (.cells #[.int .i64 K, .int .u64 A', .int .i64 S, .int .i64 G] 42)).cell? ⟨w.heap.size, 1, none⟩ = some (.int .u64 A') := by rw [← HW0.out]; exact X0.out.cell 1
  have q2 : (w.alloc (.cells #[.int .i64 K, .int .u64 A', .int .i64 S, .int .i64 G] 42)).cell? ⟨w.heap.size, 2, none⟩ = some (.int .i64 S) := by rw [← HW0.out]; exact X0.out.cell 2
  have q3 : (w.alloc (.cells #[.int .i64 K, .int .u64 A', .int .i64 S, .int .i64 G] 42)).cell? ⟨w.heap.size, 3, none⟩ = some (.int .i64 G) := by rw [← HW0.out]; exact X0.out.cell 3
  have HLN := Lib.hid hlen
  have HN9 := Lib.hid hn
  clear h hb0 hT hW hA hn hSW hops hn0 hlen
  go_enter Tryz.func23, Tryz.ntmps23
  go_wp2_with fail
  rw [← HW0.out]
  clear q0 q1 q2 q3 HW0
  refine CL.out.mono ?_
  rintro e W1 ⟨v1, rfl, ho1, hb1⟩
  have HLT0 := Lib.hid H0.out.lt
  have HO1 := Lib.hid ho1
  have hb1 := hb1.out
  have H1 := Lib.hid (H0.out.since hb1)
  have X1 := Lib.hid (X0.out.step (Moves.of_below (fp := fpS g gm fy fc) hb1))
  have M1 := Lib.hid (M0.out.trans (Moves.of_below (fp := fpS g gm fy fc) hb1))
  clear H0 X0 M0 CL ho1
  cases o with
  | none =>
    obtain ⟨xv, rfl, _⟩ := out_no HO1.out
    clear HO1
    have CW := fun st => Lib.hid (swrong_new st 2 (by omega) W1 (fpS g gm fy fc) H1.out.lt)
    go_wp2_with fail
    refine (CW _).out.mono ?_
    rintro e W2 ⟨v2, rfl, he2, hb2⟩
    have E2 := Lib.hid (he2.wide M1.out.size fun b hb => Or.inl hb)
    have H2 := Lib.hid (H1.out.since hb2)
    have M2 := Lib.hid (M1.out.trans (Moves.of_below hb2))
    clear CW H1 M1 he2 hb2 X1
    go_wp2_with fail
    go_ret2
    rw [← HR.out, putS_none HO.out]
    exact ⟨_, _, rfl, E2.out, ⟨n0, HN0.out, _, _, _, _, rfl, H2.out⟩, M2.out⟩
  | some raw =>
    obtain ⟨Ar, m, cr, rfl, hown⟩ := out_yes HO1.out
    have RW := Lib.hid (Rest.new hown HLT0.out)
    clear HO1 hown HLT0
    have CG := geo_any H1.out.chip
    obtain ⟨ns, HNS⟩ : ∃ ns : Int, Hid ((s.c.ns : Int) = ns) := ⟨_, rfl⟩
    rw [show geoV (geoOf s.c) = .agg #[.int .i64 (s.c.nb : Int), .int .i64 (s.c.np : Int), .int .i64 ns] from by rw [← HNS.out]; rfl] at CG
    have CG := Lib.hid CG
    have c1 := H1.out.c1
    have hm1 : (n : Int) ≤ 900 := by have := HN9.out; omega
    go_wp2_with fail
    refine CG.out.mono ?_
    rintro e W2 ⟨rfl, hb2⟩
    have hb2 := hb2.out
    have H3 := Lib.hid (H1.out.since hb2)
    have RW3 := Lib.hid (RW.out.step (Moves.of_below (fp := fpS g gm fy fc) hb2))
    have X3 := Lib.hid (X1.out.step (Moves.of_below (fp := fpS g gm fy fc) hb2))
    have M3 := Lib.hid (M1.out.trans (Moves.of_below (fp := fpS g gm fy fc) hb2))
    clear H1 RW X1 M1 CG hb2 c1
    have f9 := run_field_size (s.c.nb : Int) (s.c.np : Int) ns W2
    by_cases hns : (n : Int) = ns
    · have HL9 : Hid ((ds.length : Int) = s.c.ns) := by show _ = _; rw [HNS.out, HLN.out]; exact hns
      subst hns
      have c1 := H3.out.c1
      have CO := Lib.hid (on_any H3.out.chip)
      obtain ⟨on, HON⟩ : ∃ on, Hid (s.c.on = on) := ⟨_, rfl⟩
      rw [HON.out] at CO
      go_wp2_with (simp only [f9])
      clear f9
      refine CO.out.mono ?_
      rintro e W4 ⟨rfl, hb4⟩
      have hb4 := hb4.out
      have H5 := Lib.hid (H3.out.since hb4)
      have RW5 := Lib.hid (RW3.out.step (Moves.of_below (fp := fpS g gm fy fc) hb4))
      have X5 := Lib.hid (X3.out.step (Moves.of_below (fp := fpS g gm fy fc) hb4))
      have M5 := Lib.hid (M3.out.trans (Moves.of_below (fp := fpS g gm fy fc) hb4))
      clear H3 RW3 X3 M3 hb4 CO c1
      cases on with
      | false =>
        have CW := fun st => Lib.hid (swrong_new st 4 (by omega) W4 (fpS g gm fy fc) H5.out.lt)
        go_wp2_with fail
        refine (CW _).out.mono ?_
        rintro e W6 ⟨v6, rfl, he6, hb6⟩
        have E6 := Lib.hid (he6.wide M5.out.size fun b hb => Or.inl hb)
        have H6 := Lib.hid (H5.out.since hb6)
        have M6 := Lib.hid (M5.out.trans (Moves.of_below hb6))
        clear CW H5 M5 he6 hb6 RW5 X5
        go_wp2_with fail
        go_ret2
        rw [← HR.out, putS_dark HO.out HL9.out HON.out]
        exact ⟨_, _, rfl, E6.out, ⟨n0, HN0.out, _, _, _, _, rfl, H6.out⟩, M6.out⟩
      | true =>
        obtain ⟨x, HX⟩ : ∃ x, Hid (hN K A' S G = x) := ⟨_, rfl⟩
        have HXK : #[.int .i64 K, .int .u64 A', .int .i64 S, .int .i64 G] = (#[.int .i64 (x.k : Int), .int .u64 (x.a : Int), .int .i64 (x.s : Int), .int .i64 (x.g : Int)] : Array Value) := by
          have hm : mayB K A' S G = true := by
            have := HO.out
            unfold layO at this
            split at this
            · next h => exact h.2
            · cases this
          rw [← HX.out]
          exact hN_cells hm a0 a1
        rw [HXK] at X5
        have HRL : Hid (PutQ w base (fpS g gm fy fc) g gc x raw R W0.heap.size Ar m cr W4 40) := ⟨_, s, n0, ⟨_, _, _, _, rfl, H5.out⟩, HN0.out, by have := HOPS.out; omega, by have := goodN_le s.y; have := H5.out.yard.wf.n32; omega, HSW.out, by rw [← HR.out, putS_on HO.out HL9.out HON.out, HX.out], M5.out, RW5.out, X5.out⟩
        clear H5 M5 RW5 X5 HXK HR HO HNS HX HN0 HL9 HOPS HSW HON HLN HN9
        go_wp2_with fail
        go_loopw [] (fun wr => ∃ f, PutQ w base (fpS g gm fy fc) g gc x raw R W0.heap.size Ar m cr wr f) (fun wr => minF (PutQ w base (fpS g gm fy fc) g gc x raw R W0.heap.size Ar m cr wr))
        case atStart => exact ⟨40, HRL.out⟩
        case round =>
          obtain ⟨f, HF⟩ : ∃ f, Hid (minF (PutQ w base (fpS g gm fy fc) g gc x raw R W0.heap.size Ar m cr wr) = f) := ⟨_, rfl⟩
          obtain ⟨fp2, s2, n2, Q⟩ := minF_spec hrel
          rw [HF.out] at Q
          clear hrel
          obtain ⟨f, rfl⟩ : ∃ f0, f = f0 + 1 := ⟨f - 1, by have := Q.good; omega⟩
          obtain ⟨gy2, gm2, fy2, fc2, rfl, r2⟩ := Q.st
          have H2 := Lib.hid r2
          have M2 := Lib.hid Q.mv
          have RW2 := Lib.hid Q.row
          have X2 := Lib.hid Q.box
          have HS2 := Lib.hid Q.sw
          have HIS := Lib.hid Q.is
          have HGD := Lib.hid Q.good
          have HOP := Lib.hid Q.ops
          have HNL := Lib.hid Q.n_le
          clear Q r2
          have CG := Lib.hid (goal_any HS2.out (by have := HOP.out; omega) (⟨_, gm2, fy2, fc2, rfl, H2.out⟩ : StoreN wr base (fpS g gm2 fy2 fc2) g gc _ n2))
          obtain ⟨b, HB⟩ : ∃ b, Hid (goalS s2 = b) := ⟨_, rfl⟩
          rw [HB.out] at CG
          go_wp2_with fail
          refine CG.out.mono ?_
          rintro e W6 ⟨rfl, hb6⟩
          have hb6 := hb6.out
          have H7 := Lib.hid (H2.out.since hb6)
          have RW7 := Lib.hid (RW2.out.step (Moves.of_below (fp := fpS g gm2 fy2 fc2) hb6))
          have X7 := Lib.hid (X2.out.step (Moves.of_below (fp := fpS g gm2 fy2 fc2) hb6))
          have M7 := Lib.hid (M2.out.trans (Moves.of_below (fp := fpS g gm2 fy2 fc2) hb6))
          clear H2 RW2 X2 M2 hb6 CG
          by_cases hb : b < 0
          · have HBN := Lib.hid hb
            have CW := fun st => Lib.hid (swrong_new st 7 (by omega) W6 (fpS g gm2 fy2 fc2) H7.out.lt)
            go_wp2_with fail
            refine (CW _).out.mono ?_
            rintro e W8 ⟨v8, rfl, he8, hb8⟩
            have E8 := Lib.hid (he8.wide M7.out.size fun b hb => Or.inl hb)
            have H8 := Lib.hid (H7.out.since hb8)
            have M8 := Lib.hid (M7.out.trans (Moves.of_below hb8))
            clear CW H7 M7 he8 hb8 RW7 X7
            go_wp2_with fail
            go_ret2
            rw [← HIS.out, putL_full HB.out HBN.out]
            exact ⟨_, _, rfl, E8.out, ⟨n2, HNL.out, _, _, _, _, rfl, H8.out⟩, M8.out⟩
          · have HBN := Lib.hid hb
            have CP := Lib.hid (program2_any b x (by have := HOP.out; omega) (by have := HOP.out; have := HNL.out; omega) (⟨_, gm2, fy2, fc2, rfl, H7.out⟩ : StoreN W6 base (fpS g gm2 fy2 fc2) g gc _ n2) RW7.out)
            obtain ⟨s3, p3, e3, HP⟩ : ∃ s3 p3 e3, Hid (progS s2 b x raw = (s3, p3, e3)) := ⟨_, _, _, rfl⟩
            rw [HP.out] at CP
            have HP3 : Hid (s2.c.ops ≤ s3.c.ops ∧ s3.c.ops ≤ s2.c.ops + 2 ∧ (e3 = 0 → s2.c.ops + 1 ≤ s3.c.ops)) := by
              have := progS_ops (s := s2) (b := b) (x := x) (raw := raw)
              rw [HP.out] at this
              exact this
            have HF3 : Hid (FrS b s2 s3) := by
              have := progS_fr (s := s2) (b := b) (x := x) (raw := raw)
              rw [HP.out] at this
              exact this
            have x0 : W6.cell? ⟨w.heap.size, 0, none⟩ = some (.int .i64 (x.k : Int)) := X7.out.cell 0
            have x1 : W6.cell? ⟨w.heap.size, 1, none⟩ = some (.int .u64 (x.a : Int)) := X7.out.cell 1
            have x2 : W6.cell? ⟨w.heap.size, 2, none⟩ = some (.int .i64 (x.s : Int)) := X7.out.cell 2
            have x3 : W6.cell? ⟨w.heap.size, 3, none⟩ = some (.int .i64 (x.g : Int)) := X7.out.cell 3
            rw [show hdV x = .agg #[.int .i64 (x.k : Int), .int .u64 (x.a : Int), .int .i64 (x.s : Int), .int .i64 (x.g : Int)] from rfl] at CP
            go_wp2_with fail
            clear x0 x1 x2 x3
            refine CP.out.mono ?_
            rintro e W8 ⟨v8, fp8, n3, rfl, he8, hs8, hm8, hn8, hq8⟩
            obtain ⟨gy8, gm8, fy8, fc8, rfl, r8⟩ := hs8
            have E8 := Lib.hid (he8.wide M7.out.size fun b hb => Or.inl hb)
            have H8 := Lib.hid r8
            have RW8 := Lib.hid (RW7.out.step hm8)
            have X8 := Lib.hid (X7.out.step hm8)
            have M8 := Lib.hid (M7.out.trans hm8)
            clear H7 RW7 X7 M7 CP hm8 r8 he8
            have HN3 := Lib.hid hn8
            have HN4 := Lib.hid hq8
            clear hn8 hq8
            by_cases he : e3 = 0
            · subst he
              obtain rfl := E8.out.nil
              go_wp2_with fail
              go_ret2
              rw [← HIS.out, putL_ok HB.out (Int.not_lt.2 HBN.out) HP.out]
              exact ⟨_, _, rfl, E8.out, ⟨n3, (by show n3 ≤ s3.c.ops; have := HN3.out; have := HNL.out; have := HP3.out.2.2 (by first | rfl | trivial); omega), _, _, _, _, rfl, H8.out⟩, M8.out⟩
            · have HE0 := Lib.hid he
              have HPE := Lib.hid (E8.out.pos he)
              have CC := Lib.hid (code_wrong e3 v8 W8 (E8.out.wrong he))
              have HN5 : Hid (n3 = n2) := HN4.out he
              clear HN4
              obtain ⟨xv, HXV⟩ := (E8.out.wrong he).ne
              subst HXV
              clear he
              go_wp2_with fail
              refine CC.out.mono ?_
              rintro e w9 ⟨rfl, rfl⟩
              clear CC
              by_cases h5 : e3 = 5
              · subst h5
                have CM := Lib.hid (mark2_any b (by have := HP3.out; have := HOP.out; omega) (⟨_, gm8, fy8, fc8, rfl, H8.out⟩ : StoreN W8 base (fpS g gm8 fy8 fc8) g gc _ n3))
                obtain ⟨s4, e4, HM4⟩ : ∃ s4 e4, Hid (markS s3 b = (s4, e4)) := ⟨_, _, rfl⟩
                rw [HM4.out] at CM
                have HP4 : Hid (s3.c.ops ≤ s4.c.ops ∧ s4.c.ops ≤ s3.c.ops + 1) := by
                  have := markS_ops (s := s3) (b := b)
                  rw [HM4.out] at this
                  exact this
                have HS4 : Hid (SW s4) := by
                  have := markS_sw (b := b) (HF3.out.sw HS2.out)
                  rw [HM4.out] at this
                  exact this
                go_wp2_with fail
                refine CM.out.mono ?_
                rintro e W9 ⟨v9, fp9, rfl, he9, hs9, hm9⟩
                obtain ⟨gy9, gm9, fy9, fc9, rfl, r9⟩ := hs9
                have E9 := Lib.hid (he9.wide M8.out.size fun b hb => Or.inl hb)
                have H9 := Lib.hid r9
                have RW9 := Lib.hid (RW8.out.step hm9)
                have X9 := Lib.hid (X8.out.step hm9)
                have M9 := Lib.hid (M8.out.trans hm9)
                clear H8 RW8 X8 M8 CM hm9 r9 he9 E8
                by_cases h40 : e4 = 0
                · subst h40
                  obtain rfl := E9.out.nil
                  have HQ9 : Hid (PutQ w base (fpS g gm fy fc) g gc x raw R W0.heap.size Ar m cr W9 f) := ⟨_, s4, n3, ⟨_, _, _, _, rfl, H9.out⟩, by have := HP4.out; have := HP3.out; have := HN5.out; have := HNL.out; omega, by have := HP4.out; have := HP3.out; have := HOP.out; omega, by
                    have hg : goodN s4.y + 1 = goodN s3.y := by
                      rcases goalS_is s2 HS2.out with e | ⟨e0, e1, e2⟩
                      · rw [HB.out] at e; have := HBN.out; omega
                      · rw [HB.out] at e0 e1 e2
                        have h4 : s2.y.S.getD b.toNat 0 ≠ 4 := by rcases e2 with e2 | e2 <;> rw [e2] <;> decide
                        have := markS_good (s := s3) (b := b) ⟨e0, by rw [HF3.out.y.len]; exact e1⟩ (HF3.out.y.bad h4) (by rw [HM4.out])
                        rw [HM4.out] at this
                        exact this
                    have hg2 : goodN s3.y ≤ goodN s2.y := by
                      rcases goalS_is s2 HS2.out with e | ⟨e0, e1, e2⟩
                      · rw [HB.out] at e; have := HBN.out; omega
                      · rw [HB.out] at e2
                        exact goodN_fr HF3.out.y (by rcases e2 with e2 | e2 <;> rw [e2] <;> decide)
                    have := HGD.out
                    omega, HS4.out, by rw [← HIS.out, putL_next HB.out (Int.not_lt.2 HBN.out) HP.out HM4.out], M9.out, RW9.out, X9.out⟩
                  clear H9 M9 RW9 X9 E9 HIS HGD HOP HNL HS2 HB HBN hb HP HP3 HF3 HN3 HN5 HE0 HPE HM4 HP4 HS4
                  go_wp2_with fail
                  go_roundw
                  case rel => exact ⟨f, HQ9.out⟩
                  case measure =>
                    have h1 := minF_le HQ9.out
                    have h2 := HF.out
                    rw [h2]
                    exact Nat.lt_succ_of_le h1
                · have HE4 := Lib.hid h40
                  have HPE4 := Lib.hid (E9.out.pos h40)
                  have CC := Lib.hid (code_wrong e4 v9 W9 (E9.out.wrong h40))
                  obtain ⟨xv4, HXV4⟩ := (E9.out.wrong h40).ne
                  subst HXV4
                  clear E9
                  clear h40
                  go_wp2_with fail
                  refine CC.out.mono ?_
                  rintro e w9 ⟨rfl, rfl⟩
                  clear CC
                  have CW := fun st => Lib.hid (swrong_new st e4 HPE4.out W9 (fpS g gm9 fy9 fc9) H9.out.lt)
                  go_wp2_with fail
                  refine (CW _).out.mono ?_
                  rintro e W10 ⟨v10, rfl, he10, hb10⟩
                  have E10 := Lib.hid (he10.wide M9.out.size fun b hb => Or.inl hb)
                  have H10 := Lib.hid (H9.out.since hb10)
                  have M10 := Lib.hid (M9.out.trans (Moves.of_below hb10))
                  clear CW H9 M9 he10 hb10 RW9 X9
                  go_wp2_with fail
                  go_ret2
                  rw [← HIS.out, putL_mark HB.out (Int.not_lt.2 HBN.out) HP.out HM4.out HE4.out]
                  exact ⟨_, _, rfl, E10.out, ⟨n3, (by show n3 ≤ s4.c.ops; have := HP4.out; have := HP3.out; have := HN5.out; have := HNL.out; omega), _, _, _, _, rfl, H10.out⟩, M10.out⟩
              · have HE5 := Lib.hid h5
                have CC := Lib.hid (code_wrong e3 _ W8 (E8.out.wrong HE0.out))
                clear E8
                go_wp2_with fail
                refine CC.out.mono ?_
                rintro e w9 ⟨rfl, rfl⟩
                clear CC
                have CW := fun st => Lib.hid (swrong_new st e3 HPE.out W8 (fpS g gm8 fy8 fc8) H8.out.lt)
                go_wp2_with fail
                refine (CW _).out.mono ?_
                rintro e W9 ⟨v9, rfl, he9, hb9⟩
                have E9 := Lib.hid (he9.wide M8.out.size fun b hb => Or.inl hb)
                have H9 := Lib.hid (H8.out.since hb9)
                have M9 := Lib.hid (M8.out.trans (Moves.of_below hb9))
                clear CW H8 M8 he9 hb9 RW8 X8
                go_wp2_with fail
                go_ret2
                rw [← HIS.out, putL_no HB.out (Int.not_lt.2 HBN.out) HP.out HE0.out HE5.out]
                exact ⟨_, _, rfl, E9.out, ⟨n3, (by show n3 ≤ s3.c.ops; have := HP3.out; have := HN5.out; have := HNL.out; omega), _, _, _, _, rfl, H9.out⟩, M9.out⟩
    · have HL9 : Hid ((ds.length : Int) ≠ s.c.ns) := by show _ ≠ _; rw [HNS.out, HLN.out]; exact hns
      have CW := fun st => Lib.hid (swrong_new st 2 (by omega) W2 (fpS g gm fy fc) H3.out.lt)
      go_wp2_with (simp only [f9])
      clear f9
      refine (CW _).out.mono ?_
      rintro e W4 ⟨v4, rfl, he4, hb4⟩
      have E4 := Lib.hid (he4.wide M3.out.size fun b hb => Or.inl hb)
      have H4 := Lib.hid (H3.out.since hb4)
      have M4 := Lib.hid (M3.out.trans (Moves.of_below hb4))
      clear CW H3 M3 he4 hb4 RW3 X3
      go_wp2_with fail
      go_ret2
      rw [← HR.out, putS_len HO.out HL9.out]
      exact ⟨_, _, rfl, E4.out, ⟨n0, HN0.out, _, _, _, _, rfl, H4.out⟩, M4.out⟩
end
end Go.Proofs.YthgkdnegnecnjaaGreatDoor

/- The landed store: what it tells. Conditions: the store's cells. -/
set_option linter.unusedVariables false
set_option linter.unusedSimpArgs false
set_option maxRecDepth 20000
namespace Go.Proofs.YthgkdnegnecnjaaGreatDoor
open Go.RowKit

def blockS (s : SS) (b : Int) : List Int := (neededY s.y b).map fun k => numS s b k
def neededS (s : SS) : List Int := (List.range s.c.nb).flatMap fun (b : Nat) => blockS s (b : Int)
def sumI : List Int → Int
  | [] => 0
  | x :: l => x + sumI l
def roomS (s : SS) : Int := ((listY s.y 1).length : Int) * (s.c.np : Int) + sumI ((listY s.y 2).map fun b => leftS s b)
theorem sumI_snoc (l : List Int) (x : Int) : sumI (l ++ [x]) = sumI l + x := by
  induction l with
  | nil => show x + 0 = 0 + x; omega
  | cons y l ih => show y + sumI (l ++ [x]) = y + sumI l + x; rw [ih]; omega
theorem idxB_len (l : List Bool) : (idxB l).length ≤ l.length := by
  unfold idxB
  rw [List.length_map]
  exact Nat.le_trans (List.length_filter_le _ _) (by rw [List.length_range]; exact Nat.le_refl _)
theorem neededY_len {y : Yd} (h : YW y) (b : Int) : (neededY y b).length ≤ 8 := by
  unfold neededY
  split
  · simp
  · next hb =>
    obtain ⟨k, rfl, hk⟩ := (stY_ne h).1 hb
    rw [Int.toNat_natCast]
    have := idxB_len (y.N.getD k [])
    have h1 := h.nl k hk
    have h2 := h.p8
    omega
theorem blockS_len {s : SS} (h : YW s.y) (b : Int) : (blockS s b).length ≤ 8 := by unfold blockS; rw [List.length_map]; exact neededY_len h b
theorem listY_len {y : Yd} (x : Int) (h : YW y) : (listY y x).length ≤ 32 := by
  unfold listY; rw [List.length_map]
  exact Nat.le_trans (List.length_filter_le _ _) (by rw [List.length_range]; exact h.n32)
theorem numS_bd (s : SS) (b k : Int) : -1 ≤ numS s b k ∧ numS s b k ≤ 255 := by
  unfold numS pageG
  split
  · next h =>
    obtain ⟨h1, h2, h3, h4, h5⟩ := h
    obtain ⟨a1, a2, a3, a4, a5, a6⟩ := inG_out (mayG_in h1)
    have e := area_bd (mayG_in h1)
    have h6 : (b + 1) * (geoOf s.c).p ≤ (geoOf s.c).b * (geoOf s.c).p := Int.mul_le_mul_of_nonneg_right (by omega) (by omega)
    have h7 : (b + 1) * (geoOf s.c).p = b * (geoOf s.c).p + (geoOf s.c).p := by rw [Int.add_mul, Int.one_mul]
    have : 0 ≤ b * (geoOf s.c).p := Int.mul_nonneg h2 (by omega)
    exact ⟨by omega, by omega⟩
  · omega
section
variable {w : World} {base g gc n : Nat} {fp : Nat → Prop} {s : SS}
theorem chip_any (hS : StoreN w base fp g gc s n) : Calls Tryz.prog 33 #[.pointer (some ⟨g, 0, none⟩)] w (SaysV w (.pointer (some ⟨gc, 0, none⟩))) := by
  obtain ⟨gy, gm, fy, fc, rfl, h⟩ := hS
  have c1 := h.c1
  clear h
  go_enter Tryz.func33, Tryz.ntmps33
  go_wp2_with fail
  go_ret
  exact ⟨rfl, Below.refl _ _⟩
theorem chip_nil (w : World) : Calls Tryz.prog 33 #[.pointer none] w (SaysV w (.pointer none)) := by
  go_enter Tryz.func33, Tryz.ntmps33
  go_wp2_with fail
  go_ret
  exact ⟨rfl, Below.refl _ _⟩
theorem bad_any (hS : StoreN w base fp g gc s n) : Calls Tryz.prog 22 #[.pointer (some ⟨g, 0, none⟩)] w (SaysI w ((listY s.y 4).length : Int)) := by
  obtain ⟨gy, gm, fy, fc, rfl, h⟩ := hS
  have c0 := h.c0
  have C1 := Lib.hid (ylist_any 4 h.yard)
  obtain ⟨l, HL⟩ : ∃ l, Hid (listY s.y 4 = l) := ⟨_, rfl⟩
  rw [HL.out] at C1 ⊢
  clear h
  go_enter Tryz.func22, Tryz.ntmps22
  go_wp2_with fail
  refine C1.out.mono ?_
  rintro e W1 ⟨A, m, c, rfl, hr, hb⟩
  obtain rfl : l.length = m := hr.out.len
  go_wp2_with fail
  go_ret
  exact ⟨rfl, hb⟩
theorem bad_nil (w : World) : Calls Tryz.prog 22 #[.pointer none] w (SaysI w 0) := by
  go_enter Tryz.func22, Tryz.ntmps22
  go_wp2_with fail
  go_ret
  exact ⟨rfl, Below.refl _ _⟩
theorem sealed_any (hS : StoreN w base fp g gc s n) : Calls Tryz.prog 32 #[.pointer (some ⟨g, 0, none⟩)] w (GivesI w (listY s.y 3)) := by
  obtain ⟨gy, gm, fy, fc, rfl, h⟩ := hS
  have c0 := h.c0
  have C1 := Lib.hid (ylist_any 3 h.yard)
  clear h
  go_enter Tryz.func32, Tryz.ntmps32
  go_wp2_with fail
  refine C1.out.mono ?_
  rintro e W1 ⟨A, m, c, rfl, hr, hb⟩
  go_wp2_with fail
  go_ret
  exact ⟨A, m, c, rfl, hr, hb⟩
theorem sealed_nil (w : World) : Calls Tryz.prog 32 #[.pointer none] w (GivesI w []) := by
  go_enter Tryz.func32, Tryz.ntmps32
  go_wp2_with fail
  go_ret
  exact ⟨none, 0, 0, rfl, Kind.Row.none_, Below.refl _ _⟩
theorem block_nil (b : Int) (w : World) : Calls Tryz.prog 20 #[.pointer none, .int .i64 b] w (GivesI w []) := by
  go_enter Tryz.func20, Tryz.ntmps20
  go_wp2_with fail
  go_ret
  exact ⟨none, 0, 0, rfl, Kind.Row.none_, Below.refl _ _⟩
theorem room_nil (w : World) : Calls Tryz.prog 21 #[.pointer none] w (SaysI w 0) := by
  go_enter Tryz.func21, Tryz.ntmps21
  go_wp2_with fail
  go_ret
  exact ⟨rfl, Below.refl _ _⟩
set_option maxHeartbeats 2000000 in
theorem block_any (b : Int) (hS : StoreN w base fp g gc s n) : Calls Tryz.prog 20 #[.pointer (some ⟨g, 0, none⟩), .int .i64 b] w (GivesI w (blockS s b)) := by
  have HS := Lib.hid hS
  obtain ⟨gy, gm, fy, fc, rfl, h⟩ := hS
  have c0 := h.c0
  have C1 := Lib.hid (yneeded_any b h.yard)
  have hnl := neededY_len h.yard.wf b
  obtain ⟨ks, HK⟩ : ∃ ks, Hid (neededY s.y b = ks) := ⟨_, rfl⟩
  have HBL : Hid (blockS s b = ks.map fun k => numS s b k) := by show _ = _; unfold blockS; rw [HK.out]
  rw [HK.out] at C1 hnl
  rw [HBL.out]
  have HNL := Lib.hid hnl
  clear h hnl HBL HK
  go_enter Tryz.func20, Tryz.ntmps20
  go_wp2_with fail
  refine C1.out.mono ?_
  rintro e W1 ⟨A, m, c, rfl, hr, hb⟩
  obtain rfl : ks.length = m := hr.out.len
  have S1 := Lib.hid hb.out
  have L1 := Lib.hid hr.out.lie
  obtain ⟨M, HM⟩ : ∃ M : Nat, Hid (ks.length = M) := ⟨_, rfl⟩
  rw [HM.out] at L1 ⊢
  have hm8 : M ≤ 8 := by rw [← HM.out]; exact HNL.out
  have hm9 : (M : Int) ≤ 8 := by omega
  clear hr hb C1 c0
  go_wp2_with fail
  go_loopw [5, 17] (fun t5 t17 wr => ∃ (j : Nat) (A3 : Option Addr) (c3 : Nat), t17 = .int .i64 (j : Int) ∧ j ≤ M ∧ t5 = .slice A3 j c3 ∧ Hid (intK.Row wr W1.heap.size A3 j c3 ((ks.take j).map fun k => numS s b k)) ∧ Hid (Below W1.heap.size W1 wr)) (fun _ t17 _ => M - (intOf t17).toNat)
  case atStart => exact ⟨0, none, 0, rfl, Nat.zero_le _, rfl, Kind.Row.none_, Below.refl _ _⟩
  case round =>
    obtain ⟨j, A3, c3, rfl, hj, rfl, HR, HB⟩ := hrel
    have i0 : (0 : Int) ≤ (j : Int) := by omega
    by_cases hlt : j < M
    · have i1 : (j : Int) < (M : Int) := by omega
      obtain ⟨ad, e1, _, hc⟩ := int_at (L1.out.below HB.out) hlt
      subst e1
      obtain ⟨k, HKK⟩ : ∃ k, Hid (ks.getD j 0 = k) := ⟨_, rfl⟩
      rw [HKK.out] at hc
      have CN := Lib.hid (number_any b k (HS.out.since (below_chain S1.out HB.out)))
      obtain ⟨x, HX⟩ : ∃ x, Hid (numS s b k = x) := ⟨_, rfl⟩
      have hxb := numS_bd s b k
      rw [HX.out] at CN hxb
      go_wp2_with fail
      refine CN.out.mono ?_
      rintro e W5 ⟨rfl, hb5⟩
      have B5 := Lib.hid (below_chain HB.out hb5.out)
      have R5 := HR.out.since hb5.out
      obtain ⟨A4, c4, W4, hr4, ho4, hb4, _⟩ := Kind.append_one (K := intK) B5.out R5 x ⟨by omega, by omega⟩ #[.int .i64 x] rfl (by omega)
      have R4 := Lib.hid (ho4.same (show ((ks.take j).map fun k => numS s b k) ++ [x] = (ks.take (j + 1)).map fun k => numS s b k by rw [take_snoc (by rw [HM.out]; exact hlt), List.map_append, List.map_cons, List.map_nil, HKK.out, HX.out]))
      have B4 := Lib.hid hb4
      have HR4 := Lib.hid hr4
      clear hr4 ho4 hb4 R5 B5 hb5 HR HB CN hc
      go_wp2_with (at_builtin; refine wpList_append_run rfl (.tmp 21) (.tmp 26) 22 rfl rfl rfl HR4.out ?_)
      go_roundw
      case rel => exact ⟨j + 1, A4, c4, by go_num, by omega, rfl, R4, B4⟩
      case measure => simp [intOf]; omega
    · obtain rfl : j = M := by omega
      go_wp2_with fail
      go_ret
      have := HR.out
      rw [List.take_of_length_le (by rw [HM.out]; exact Nat.le_refl _)] at this
      exact ⟨A3, j, c3, rfl, this.elder S1.out.size, below_chain S1.out HB.out⟩
set_option maxHeartbeats 2000000 in
theorem needed_any (hS : StoreN w base fp g gc s n) : Calls Tryz.prog 31 #[.pointer (some ⟨g, 0, none⟩)] w (GivesI w (neededS s)) := by
  have HS := Lib.hid hS
  have C1 := Lib.hid (chip_any hS)
  have C3 := Lib.hid (fun (b : Int) W (hb : Below w.heap.size w W) => block_any b (hS.since hb))
  obtain ⟨gy, gm, fy, fc, rfl, h⟩ := hS
  have HYW := Lib.hid h.yard.wf
  have hnb := h.chip.wf.nb2
  have C2 := Lib.hid (fun W (hb : Below w.heap.size w W) => geo_any (h.since hb).chip)
  obtain ⟨nb, HNB⟩ : ∃ nb : Nat, Hid (s.c.nb = nb) := ⟨_, rfl⟩
  have C2 : Hid (∀ W, Below w.heap.size w W → Calls Tryz.prog 41 #[.pointer (some ⟨gc, 0, none⟩)] W (SaysV W (.agg #[.int .i64 (nb : Int), .int .i64 (s.c.np : Int), .int .i64 (s.c.ns : Int)]))) := fun W hb => by
    have := C2.out W hb
    rw [show geoV (geoOf s.c) = .agg #[.int .i64 (nb : Int), .int .i64 (s.c.np : Int), .int .i64 (s.c.ns : Int)] from by rw [← HNB.out]; rfl] at this
    exact this
  have HND : Hid (neededS s = (List.range nb).flatMap fun (b : Nat) => blockS s (b : Int)) := by show _ = _; unfold neededS; rw [HNB.out]
  rw [HND.out]
  rw [HNB.out] at hnb
  have hnb9 : (nb : Int) ≤ 32 := by omega
  clear h HND HNB
  go_enter Tryz.func31, Tryz.ntmps31
  go_wp2_with fail
  refine C1.out.mono ?_
  rintro e W1 ⟨rfl, hb1⟩
  have C2b := Lib.hid (C2.out W1 hb1.out)
  clear C1 C2
  go_wp2_with fail
  refine C2b.out.mono ?_
  rintro e W2 ⟨rfl, hb2⟩
  have S2 := Lib.hid (below_chain hb1.out hb2.out)
  have f := run_field_blocks (nb : Int) (s.c.np : Int) (s.c.ns : Int) W2
  clear hb1 hb2 C2b
  go_wp2_with (simp only [f])
  clear f
  go_loopw [3, 9] (fun t3 t9 wr => ∃ (j m : Nat) (A3 : Option Addr) (c3 : Nat), t9 = .int .i64 (j : Int) ∧ j ≤ nb ∧ t3 = .slice A3 m c3 ∧ m ≤ 8 * j ∧ Hid (intK.Row wr W2.heap.size A3 m c3 ((List.range j).flatMap fun (b : Nat) => blockS s (b : Int))) ∧ Hid (Below W2.heap.size W2 wr)) (fun _ t9 _ => nb - (intOf t9).toNat)
  case atStart => exact ⟨0, 0, none, 0, rfl, Nat.zero_le _, rfl, Nat.zero_le _, Kind.Row.none_, Below.refl _ _⟩
  case round =>
    obtain ⟨j, m, A3, c3, rfl, hj, rfl, hm, HR, HB⟩ := hrel
    have i0 : (0 : Int) ≤ (j : Int) := by omega
    by_cases hlt : j < nb
    · have i1 : (j : Int) < (nb : Int) := by omega
      have CB := Lib.hid (C3.out (j : Int) wr (below_chain S2.out HB.out))
      have hbl := blockS_len HYW.out (j : Int)
      obtain ⟨bs, HBS⟩ : ∃ bs, Hid (blockS s (j : Int) = bs) := ⟨_, rfl⟩
      rw [HBS.out] at CB hbl
      go_wp2_with fail
      refine CB.out.mono ?_
      rintro e W5 ⟨A5, m5, c5, rfl, hr5, hb5⟩
      obtain rfl : bs.length = m5 := hr5.out.len
      have B5 := Lib.hid (below_chain HB.out hb5.out)
      have R5 := HR.out.since hb5.out
      obtain ⟨A4, c4, W4, hr4, ho4, hg4⟩ := Kind.append_b (K := intK) (base := W2.heap.size) (c' := c5) B5.out.size R5 hr5.out.lie (by omega)
      have R4 := Lib.hid (ho4.same (show ((List.range j).flatMap fun (b : Nat) => blockS s (b : Int)) ++ bs = (List.range (j + 1)).flatMap fun (b : Nat) => blockS s (b : Int) by rw [List.range_succ, List.flatMap_append, List.flatMap_singleton, HBS.out]))
      have B4 := Lib.hid (B5.out.grown hg4 B5.out.size (fun b hb => (R5.row.lt b hb).1))
      have HR4 := Lib.hid hr4
      obtain ⟨M5, HM5⟩ : ∃ M5, Hid (bs.length = M5) := ⟨_, rfl⟩
      rw [HM5.out] at HR4 R4 hbl ⊢
      clear hr4 ho4 hg4 R5 B5 hb5 HR HB CB hr5
      go_wp2_with (at_builtin; refine wpList_append_run rfl (.tmp 12) (.tmp 15) 22 rfl rfl rfl HR4.out ?_)
      go_roundw
      case rel => exact ⟨j + 1, m + M5, A4, c4, by go_num, by omega, rfl, by omega, R4, B4⟩
      case measure => simp [intOf]; omega
    · obtain rfl : j = nb := by omega
      go_wp2_with fail
      go_ret
      exact ⟨A3, m, c3, rfl, HR.out.elder S2.out.size, below_chain S2.out HB.out⟩
theorem needed_nil (w : World) : Calls Tryz.prog 31 #[.pointer none] w (GivesI w []) := by
  have C1 := Lib.hid (chip_nil w)
  have C2 := Lib.hid (fun W => geo_nil (w := W))
  go_enter Tryz.func31, Tryz.ntmps31
  go_wp2_with fail
  refine C1.out.mono ?_
  rintro e W1 ⟨rfl, hb1⟩
  have C2b := Lib.hid (C2.out W1)
  rw [show geoV ⟨0, 0, 0⟩ = .agg #[.int .i64 0, .int .i64 0, .int .i64 0] from rfl] at C2b
  clear C1 C2
  go_wp2_with fail
  refine C2b.out.mono ?_
  rintro e W2 ⟨rfl, hb2⟩
  have S2 := Lib.hid (below_chain hb1.out hb2.out)
  have f := run_field_blocks 0 0 0 W2
  clear hb1 hb2 C2b
  go_wp2_with (simp only [f])
  clear f
  go_loopw [3, 9] (fun t3 t9 wr => t3 = .slice none 0 0 ∧ t9 = .int .i64 0 ∧ Hid (Below w.heap.size w wr)) (fun _ _ _ => 0)
  case atStart => exact ⟨rfl, rfl, S2⟩
  case round =>
    obtain ⟨rfl, rfl, HB⟩ := hrel
    go_wp2_with fail
    go_ret
    exact ⟨none, 0, 0, rfl, Kind.Row.none_, HB.out⟩
end
end Go.Proofs.YthgkdnegnecnjaaGreatDoor

/- The landed store: Room, Head. Conditions: the store's cells. -/
set_option linter.unusedVariables false
set_option linter.unusedSimpArgs false
set_option maxRecDepth 20000
namespace Go.Proofs.YthgkdnegnecnjaaGreatDoor
open Go.RowKit

structure LenJ (WD : World) (m : Nat) (fs : List Bool) (vs : List Value) (W : World) : Prop where
  below : Below WD.heap.size WD W
  sl : fs.getD 0 false = true → ∃ A c, vs.getD 0 undef = .slice A m c
theorem LenJ.later {WD : World} {m : Nat} {fs : List Bool} {vs : List Value} {x y : World} (h : LenJ WD m fs vs x) (hl : Later x y) : LenJ WD m fs vs y := ⟨below_chain h.below hl, h.sl⟩
theorem LenJ.first {WD : World} {m : Nat} {fs : List Bool} {vs : List Value} {x : World} (h : LenJ WD m fs vs x) (hv : 0 < vs.length) (A : Option Addr) (c : Nat) : LenJ WD m (fs.set 0 true) (vs.set 0 (.slice A m c)) x :=
  ⟨h.below, fun _ => ⟨A, c, by rw [List.getD_eq_getElem?_getD, List.getElem?_set_self hv]; rfl⟩⟩
theorem left_bd {s : SS} (h : s.c.Wf) (b : Int) : 0 ≤ leftS s b ∧ leftS s b ≤ 8 := by
  have h1 := h.np2
  have h2 := next_le h b
  unfold leftS
  omega
section
variable {w : World} {base g gc n : Nat} {fp : Nat → Prop} {s : SS}
set_option maxHeartbeats 4000000 in
theorem sroom_any (hS : StoreN w base fp g gc s n) : Calls Tryz.prog 21 #[.pointer (some ⟨g, 0, none⟩)] w (SaysI w (roomS s)) := by
  have HS := Lib.hid hS
  obtain ⟨gy, gm, fy, fc, rfl, h⟩ := hS
  have D0 : Hid (∀ W, Below w.heap.size w W → W.cell? ⟨g, 0, none⟩ = some (.pointer (some ⟨gy, 0, none⟩))) := fun W hb => (h.since hb).c0
  have D1 : Hid (∀ W, Below w.heap.size w W → W.cell? ⟨g, 1, none⟩ = some (.pointer (some ⟨gc, 0, none⟩))) := fun W hb => (h.since hb).c1
  have CL := Lib.hid (fun (x : Int) W (hb : Below w.heap.size w W) => ylist_any x (h.since hb).yard)
  have CG := Lib.hid (fun W (hb : Below w.heap.size w W) => geo_any (h.since hb).chip)
  have HWF := Lib.hid h.chip.wf
  have hl1 := listY_len 1 h.yard.wf
  have hl2 := listY_len 2 h.yard.wf
  have hnp := h.chip.wf.np2
  obtain ⟨fs, HFS⟩ : ∃ fs, Hid (listY s.y 1 = fs) := ⟨_, rfl⟩
  obtain ⟨os, HOS⟩ : ∃ os, Hid (listY s.y 2 = os) := ⟨_, rfl⟩
  obtain ⟨m, HM⟩ : ∃ m : Nat, Hid (fs.length = m) := ⟨_, rfl⟩
  obtain ⟨np, HNP⟩ : ∃ np : Nat, Hid (s.c.np = np) := ⟨_, rfl⟩
  obtain ⟨r, HR⟩ : ∃ r : Int, Hid ((m : Int) * (np : Int) = r) := ⟨_, rfl⟩
  have HRM : Hid (roomS s = r + sumI (os.map fun b => leftS s b)) := by show _ = _; unfold roomS; rw [HFS.out, HOS.out, HM.out, HNP.out, HR.out]
  rw [HFS.out, HM.out] at hl1
  rw [HOS.out] at hl2
  rw [HNP.out] at hnp
  have hr0 : 0 ≤ r := by rw [← HR.out]; exact Int.mul_nonneg (by omega) (by omega)
  have hr1 : r ≤ 256 := by
    have : m * np ≤ 32 * 8 := Nat.mul_le_mul hl1 hnp
    rw [← HR.out]
    have e : (m : Int) * (np : Int) = ((m * np : Nat) : Int) := by simp
    omega
  have CF : Hid (∀ W, Below w.heap.size w W → Calls Tryz.prog 56 #[.pointer (some ⟨gy, 0, none⟩), .int .i64 1] W (GivesI W fs)) := fun W hb => by have := CL.out 1 W hb; rw [HFS.out] at this; exact this
  have CO : Hid (∀ W, Below w.heap.size w W → Calls Tryz.prog 56 #[.pointer (some ⟨gy, 0, none⟩), .int .i64 2] W (GivesI W os)) := fun W hb => by have := CL.out 2 W hb; rw [HOS.out] at this; exact this
  have CG : Hid (∀ W, Below w.heap.size w W → Calls Tryz.prog 41 #[.pointer (some ⟨gc, 0, none⟩)] W (SaysV W (.agg #[.int .i64 (s.c.nb : Int), .int .i64 (np : Int), .int .i64 (s.c.ns : Int)]))) := fun W hb => by
    have := CG.out W hb
    rw [show geoV (geoOf s.c) = .agg #[.int .i64 (s.c.nb : Int), .int .i64 (np : Int), .int .i64 (s.c.ns : Int)] from by rw [← HNP.out]; rfl] at this
    exact this
  have HR0 := Lib.hid hr0
  have HR1 := Lib.hid hr1
  have HL2 := Lib.hid hl2
  rw [HRM.out]
  clear h hl1 hl2 hnp hr0 hr1 CL HRM HFS HOS HNP
  go_enter Tryz.func21, Tryz.ntmps21
  go_wp2_with fail
  refine region_of_steps7 (by kernel_rfl) [some (.pointer (some ⟨g, 0, none⟩)), some (.pointer (some ⟨g, 0, none⟩)), some (.pointer (some ⟨g, 0, none⟩)), some (.pointer (some ⟨gy, 0, none⟩)), none, some (.int .i64 (m : Int)), some (.pointer (some ⟨g, 0, none⟩)), some (.pointer (some ⟨g, 0, none⟩)), some (.pointer (some ⟨g, 1, none⟩)), some (.pointer (some ⟨gc, 0, none⟩)), some (.agg #[.int .i64 (s.c.nb : Int), .int .i64 (np : Int), .int .i64 (s.c.ns : Int)]), some (.int .i64 (np : Int)), some (.int .i64 r), some (.int .i64 r)] [4] [12] (LenJ w m) (by kernel_rfl) (by kernel_rfl) (⟨(Below.refl _ _).drew, fun h => absurd h (by decide)⟩) ?_ ?_
  · refine Steps7.cons ?_ (Steps7.cons ?_ (Steps7.cons ?_ (Steps7.cons ?_ (Steps7.cons ?_ (Steps7.cons ?_ (Steps7.cons ?_ (Steps7.cons ?_ (Steps7.cons ?_ (Steps7.cons ?_ (Steps7.cons ?_ (Steps7.cons ?_ (Steps7.cons ?_ (Steps7.cons ?_ (Steps7.nil))))))))))))))
    · intro listed a W H hj hl hd
      have t0 : a.tmps.getD 0 undef = .pointer (some ⟨g, 0, none⟩) := (H.old 0 (by kernel_rfl)).trans rfl
      exact step7_value (i := 0) rfl rfl (run_op_move rfl t0) (calm7 (fun fs vs x y h hl => LenJ.later h hl) (by kernel_rfl) (by kernel_rfl) hj (later_refl _)) rfl
    · intro listed a W H hj hl hd
      have t8 : a.tmps.getD 8 undef = .pointer (some ⟨g, 0, none⟩) := H.get 0 8 (by kernel_rfl) (dep_of hd 0 (by kernel_rfl)) (fun _ h => by cases h)
      exact step7_value (i := 1) rfl rfl (run_op_nilCheck rfl t8) (calm7 (fun fs vs x y h hl => LenJ.later h hl) (by kernel_rfl) (by kernel_rfl) hj (later_refl _)) rfl
    · intro listed a W H hj hl hd
      have t9 : a.tmps.getD 9 undef = .pointer (some ⟨g, 0, none⟩) := H.get 1 9 (by kernel_rfl) (dep_of hd 1 (by kernel_rfl)) (fun _ h => by cases h)
      exact step7_value (i := 2) rfl rfl (run_op_fieldAddr rfl t9 (by go_simp)) (calm7 (fun fs vs x y h hl => LenJ.later h hl) (by kernel_rfl) (by kernel_rfl) hj (later_refl _)) rfl
    · intro listed a W H hj hl hd
      have t10 : a.tmps.getD 10 undef = .pointer (some ⟨g, 0, none⟩) := H.get 2 10 (by kernel_rfl) (dep_of hd 2 (by kernel_rfl)) (fun _ h => by cases h)
      exact step7_value (i := 3) rfl rfl (run_op_load rfl t10 (run_load_yard _ _ _ (D0.out _ hj.below))) (calm7 (fun fs vs x y h hl => LenJ.later h hl) (by kernel_rfl) (by kernel_rfl) hj (later_refl _)) rfl
    · intro listed a W H hj hl hd
      have t11 : a.tmps.getD 11 undef = .pointer (some ⟨gy, 0, none⟩) := H.get 3 11 (by kernel_rfl) (dep_of hd 3 (by kernel_rfl)) (fun _ h => by cases h)
      refine step7_call (i := 4) rfl rfl (run_op_call (vs := #[.pointer (some ⟨gy, 0, none⟩), .int .i64 1]) Tryz.func56 (by kernel_rfl) (by kernel_rfl) rfl (by simp only [List.map_toArray, List.map_cons, List.map_nil]; show #[a.tmps.getD 11 undef, .int .i64 1] = _; rw [t11])) ?_
      refine (CF.out W hj.below).mono ?_
      rintro e w' ⟨A9, m9, c9, rfl, hr9, hb9⟩
      obtain rfl : m = m9 := HM.out.symm.trans hr9.out.len
      have hk9 := (hj.later hb9.out).first (by rw [slots_len]; decide) A9 c9
      rw [← flags_put (m := 4) 0 rfl (by decide), ← slots_at (a := a) (d := 12) 0 rfl (by decide) (by rw [H.size]; exact of_decide_eq_true (by kernel_rfl))] at hk9
      exact ⟨_, rfl, hk9, trivial⟩
    · intro listed a W H hj hl hd
      have d12 : listed.getD 4 false = true := dep_of hd 4 (by kernel_rfl)
      have d12 : listed.getD 4 false = true := dep_of hd 4 (by kernel_rfl)
      have f0 : (flags [4] listed).getD 0 false = true := done_true d12
      obtain ⟨A9, c9, e9⟩ := hj.sl f0
      have e9a : a.tmps.getD 12 undef = .slice A9 m c9 := e9
      exact step7_value (i := 5) rfl rfl (run_op_len Tryz.underlying22 rfl e9a) (calm7 (fun fs vs x y h hl => LenJ.later h hl) (by kernel_rfl) (by kernel_rfl) hj (later_refl _)) rfl
    · intro listed a W H hj hl hd
      have t0 : a.tmps.getD 0 undef = .pointer (some ⟨g, 0, none⟩) := (H.old 0 (by kernel_rfl)).trans rfl
      exact step7_value (i := 6) rfl rfl (run_op_move rfl t0) (calm7 (fun fs vs x y h hl => LenJ.later h hl) (by kernel_rfl) (by kernel_rfl) hj (later_refl _)) rfl
    · intro listed a W H hj hl hd
      have t14 : a.tmps.getD 14 undef = .pointer (some ⟨g, 0, none⟩) := H.get 6 14 (by kernel_rfl) (dep_of hd 6 (by kernel_rfl)) (fun _ h => by cases h)
      exact step7_value (i := 7) rfl rfl (run_op_nilCheck rfl t14) (calm7 (fun fs vs x y h hl => LenJ.later h hl) (by kernel_rfl) (by kernel_rfl) hj (later_refl _)) rfl
    · intro listed a W H hj hl hd
      have t15 : a.tmps.getD 15 undef = .pointer (some ⟨g, 0, none⟩) := H.get 7 15 (by kernel_rfl) (dep_of hd 7 (by kernel_rfl)) (fun _ h => by cases h)
      exact step7_value (i := 8) rfl rfl (run_op_fieldAddr rfl t15 (by go_simp)) (calm7 (fun fs vs x y h hl => LenJ.later h hl) (by kernel_rfl) (by kernel_rfl) hj (later_refl _)) rfl
    · intro listed a W H hj hl hd
      have t16 : a.tmps.getD 16 undef = .pointer (some ⟨g, 1, none⟩) := H.get 8 16 (by kernel_rfl) (dep_of hd 8 (by kernel_rfl)) (fun _ h => by cases h)
      exact step7_value (i := 9) rfl rfl (run_op_load rfl t16 (run_load_chip _ _ _ (D1.out _ hj.below))) (calm7 (fun fs vs x y h hl => LenJ.later h hl) (by kernel_rfl) (by kernel_rfl) hj (later_refl _)) rfl
    · intro listed a W H hj hl hd
      have t17 : a.tmps.getD 17 undef = .pointer (some ⟨gc, 0, none⟩) := H.get 9 17 (by kernel_rfl) (dep_of hd 9 (by kernel_rfl)) (fun _ h => by cases h)
      refine step7_call (i := 10) rfl rfl (run_op_call (vs := #[.pointer (some ⟨gc, 0, none⟩)]) Tryz.func41 (by kernel_rfl) (by kernel_rfl) rfl (by simp only [List.map_toArray, List.map_cons, List.map_nil]; show #[a.tmps.getD 17 undef] = _; rw [t17])) ?_
      refine (CG.out W hj.below).mono ?_
      rintro e w' ⟨rfl, hb⟩
      refine ⟨_, rfl, (calm7 (fun fs vs x y h hl => LenJ.later h hl) (by kernel_rfl) (by kernel_rfl) hj  hb.out), ?_⟩
      rfl
    · intro listed a W H hj hl hd
      have t18 : a.tmps.getD 18 undef = .agg #[.int .i64 (s.c.nb : Int), .int .i64 (np : Int), .int .i64 (s.c.ns : Int)] := H.get 10 18 (by kernel_rfl) (dep_of hd 10 (by kernel_rfl)) (fun _ h => by cases h)
      exact step7_value (i := 11) rfl rfl (run_op_field rfl t18 (run_field_pages _ _ _ _)) (calm7 (fun fs vs x y h hl => LenJ.later h hl) (by kernel_rfl) (by kernel_rfl) hj (later_refl _)) rfl
    · intro listed a W H hj hl hd
      have t13 : a.tmps.getD 13 undef = .int .i64 (m : Int) := H.get 5 13 (by kernel_rfl) (dep_of hd 5 (by kernel_rfl)) (fun _ h => by cases h)
      have t19 : a.tmps.getD 19 undef = .int .i64 (np : Int) := H.get 11 19 (by kernel_rfl) (dep_of hd 11 (by kernel_rfl)) (fun _ h => by cases h)
      exact step7_value (i := 12) rfl rfl (run_op_bin rfl t13 t19 (run_mul_i64 _ _ _ _ _ HR.out HR0.out (by have := HR1.out; omega) _)) (calm7 (fun fs vs x y h hl => LenJ.later h hl) (by kernel_rfl) (by kernel_rfl) hj (later_refl _)) rfl
    · intro listed a W H hj hl hd
      have t20 : a.tmps.getD 20 undef = .int .i64 r := H.get 12 20 (by kernel_rfl) (dep_of hd 12 (by kernel_rfl)) (fun _ h => by cases h)
      exact step7_value (i := 13) rfl rfl (run_op_assign rfl t20) (calm7 (fun fs vs x y h hl => LenJ.later h hl) (by kernel_rfl) (by kernel_rfl) hj (later_refl _)) rfl
  · intro a WC hdef hsz hw hall hact
    obtain ⟨u, hu⟩ : ∃ u : Nat → Value, ∀ k, a.tmps.getD k undef = u k := ⟨_, fun _ => rfl⟩
    have h3 : u 3 = .int .i64 r := by rw [← hu]; exact hall 13 _ rfl
    simp only [hu] at hact
    have hact' : a = ([8, 9, 10, 11, 12, 13, 14, 15, 16, 17, 18, 19, 20, 3] : List Nat).foldl (fun b k => b.put (some k) (u k)) _ := hact
    simp only [List.foldl] at hact'
    simp only [Act.put, List.setIfInBounds_toArray, List.set_cons_succ, List.set_cons_zero] at hact'
    have HAC := Lib.hid hact'
    have HX := Lib.hid hw
    clear hact hact' hall hdef hsz hw
    rw [h3] at HAC
    rw [HAC.out]
    obtain ⟨W1, HW1⟩ : ∃ W1, Hid (W1 = WC) := ⟨_, rfl⟩
    rw [← HW1.out]
    rw [← HW1.out] at HX
    have S1 := Lib.hid HX.out.below
    clear HX HW1 CF CG HAC hu HR HM
    have c0 := D0.out W1 S1.out
    have C2 := Lib.hid (CO.out W1 S1.out)
    go_wp2_with fail
    refine C2.out.mono ?_
    rintro e W2 ⟨A, mm, c, rfl, hr, hb⟩
    obtain rfl : os.length = mm := hr.out.len
    have S2 := Lib.hid (below_chain S1.out hb.out)
    have L2 := Lib.hid hr.out.lie
    obtain ⟨M, HM⟩ : ∃ M : Nat, Hid (os.length = M) := ⟨_, rfl⟩
    rw [HM.out] at L2 ⊢
    have hm8 : M ≤ 32 := by rw [← HM.out]; exact HL2.out
    have hm9 : (M : Int) ≤ 32 := by omega
    clear hr hb C2 c0 S1 CO
    go_wp2_with fail
    go_loopw [3, 27] (fun t3 t27 wr => ∃ (j : Nat) (z : Int), t27 = .int .i64 (j : Int) ∧ j ≤ M ∧ t3 = .int .i64 z ∧ 0 ≤ z ∧ z ≤ 256 + 8 * j ∧ Hid (z = r + sumI ((os.take j).map fun b => leftS s b)) ∧ Hid (Below W2.heap.size W2 wr)) (fun _ t27 _ => M - (intOf t27).toNat)
    case atStart => exact ⟨0, r, rfl, Nat.zero_le _, rfl, HR0.out, by have := HR1.out; omega, by show r = r + 0; omega, Below.refl _ _⟩
    case round =>
      obtain ⟨j, z, rfl, hj, rfl, z0, z1, HZ, HB⟩ := hrel
      have i0 : (0 : Int) ≤ (j : Int) := by omega
      by_cases hlt : j < M
      · have i1 : (j : Int) < (M : Int) := by omega
        obtain ⟨ad, e1, _, hc⟩ := int_at (L2.out.below HB.out) hlt
        subst e1
        obtain ⟨b, HBB⟩ : ∃ b, Hid (os.getD j 0 = b) := ⟨_, rfl⟩
        rw [HBB.out] at hc
        have CN := Lib.hid (left_any b (HS.out.since (below_chain S2.out HB.out)))
        obtain ⟨lf, HLF⟩ : ∃ lf, Hid (leftS s b = lf) := ⟨_, rfl⟩
        have hlf := left_bd HWF.out b
        rw [HLF.out] at CN hlf
        have HSN : Hid (z + lf = r + sumI ((os.take (j + 1)).map fun b => leftS s b)) := by
          show _ = _
          rw [take_snoc (by rw [HM.out]; exact hlt), List.map_append, List.map_cons, List.map_nil, sumI_snoc, HBB.out, HLF.out, HZ.out]
          omega
        obtain ⟨l0, l1⟩ := hlf
        have a1 : -9223372036854775808 ≤ z + lf := by omega
        have a2 : z + lf ≤ 9223372036854775807 := by omega
        go_wp2_with fail
        refine CN.out.mono ?_
        rintro e W5 ⟨rfl, hb5⟩
        have B5 := Lib.hid (below_chain HB.out hb5.out)
        clear hb5 HB CN hc HZ
        go_wp2_with fail
        go_roundw
        case rel => exact ⟨j + 1, z + lf, by go_num, by omega, by first | rfl | (rw [wrap64_id (by omega) (by omega)]), by omega, by omega, HSN, B5⟩
        case measure => simp [intOf]; omega
      · obtain rfl : j = M := by omega
        go_wp2_with fail
        go_ret
        have := HZ.out
        rw [List.take_of_length_le (by rw [HM.out]; exact Nat.le_refl _)] at this
        exact ⟨by rw [this]; rfl, below_chain S2.out HB.out⟩
theorem shead_nil (p : Int) (w : World) : Calls Tryz.prog 30 #[.pointer none, .int .i64 p] w (SaysV w (.tuple #[.agg #[.int .i64 0, .int .u64 0, .int .i64 0, .int .i64 0], .bool false])) := by
  have r := RowC.new w #[.int .i64 0, .int .u64 0, .int .i64 0, .int .i64 0] 42
  have f0 := r.free 0
  have f1 := r.free 1
  have f2 := r.free 2
  have f3 := r.free 3
  have r0 : (w.alloc (.cells #[.int .i64 0, .int .u64 0, .int .i64 0, .int .i64 0] 42)).cell? ⟨w.heap.size, 0, none⟩ = some (.int .i64 0) := r.cell 0
  have r1 : (w.alloc (.cells #[.int .i64 0, .int .u64 0, .int .i64 0, .int .i64 0] 42)).cell? ⟨w.heap.size, 1, none⟩ = some (.int .u64 0) := r.cell 1
  have r2 : (w.alloc (.cells #[.int .i64 0, .int .u64 0, .int .i64 0, .int .i64 0] 42)).cell? ⟨w.heap.size, 2, none⟩ = some (.int .i64 0) := r.cell 2
  have r3 : (w.alloc (.cells #[.int .i64 0, .int .u64 0, .int .i64 0, .int .i64 0] 42)).cell? ⟨w.heap.size, 3, none⟩ = some (.int .i64 0) := r.cell 3
  have R9 := Lib.hid r
  have S9 : Hid (Below w.heap.size w (w.alloc (.cells #[.int .i64 0, .int .u64 0, .int .i64 0, .int .i64 0] 42))) := (Below.refl _ _).alloc (Nat.le_refl _) _
  clear r
  go_enter Tryz.func30, Tryz.ntmps30
  go_wp2_with fail
  obtain ⟨W9, HW9⟩ : ∃ W9, Hid (W9 = w.alloc (.cells #[.int .i64 0, .int .u64 0, .int .i64 0, .int .i64 0] 42)) := ⟨_, rfl⟩
  rw [← HW9.out] at R9 S9 ⊢
  clear r0 r1 r2 r3 f0 f1 f2 f3
  have r0 : W9.cell? ⟨w.heap.size, 0, none⟩ = some (.int .i64 0) := R9.out.cell 0
  have r1 : W9.cell? ⟨w.heap.size, 1, none⟩ = some (.int .u64 0) := R9.out.cell 1
  have r2 : W9.cell? ⟨w.heap.size, 2, none⟩ = some (.int .i64 0) := R9.out.cell 2
  have r3 : W9.cell? ⟨w.heap.size, 3, none⟩ = some (.int .i64 0) := R9.out.cell 3
  exact bodyPost_ret (v := .tuple #[.agg #[.int .i64 0, .int .u64 0, .int .i64 0, .int .i64 0], .bool false]) (by simp [results, Tryz.results30, go_sem, r0, r1, r2, r3]) rfl ⟨rfl, S9⟩
theorem zero_cells (w : World) : (∀ k, (w.alloc (.cells #[.int .i64 0, .int .u64 0, .int .i64 0, .int .i64 0] 42)).frozen? ⟨w.heap.size, k, none⟩ = false) ∧ (∀ k, (w.alloc (.cells #[.int .i64 0, .int .u64 0, .int .i64 0, .int .i64 0] 42)).cell? ⟨w.heap.size, k, none⟩ = (#[.int .i64 0, .int .u64 0, .int .i64 0, .int .i64 0] : Array Value)[k]?) :=
  ⟨(RowC.new w _ _).free, (RowC.new w _ _).cell⟩
/-- A head that there may be, as a value. -/
def hdO : Option Hd.H → Value
  | some x => hdV x
  | none => .agg #[.int .i64 0, .int .u64 0, .int .i64 0, .int .i64 0]
theorem MapAt.look2 {w : World} {b n : Nat} {hd : Int → Option Hd.H} (h : MapAt w b n hd) {p : Int} (hp : KeyOk p) :
    (Instr.lookup 91 (.map (some b)) (.int .i64 p) true).run Tryz.prog w = .ok (.tuple #[hdO (hd p), .bool (hd p).isSome]) w := by
  have := h.look hp
  cases e : hd p <;> rw [e] at this <;> exact this
theorem hdO_cells (o : Option Hd.H) : ∃ K A S G, hdO o = .agg #[.int .i64 K, .int .u64 A, .int .i64 S, .int .i64 G] := by
  cases o with
  | none => exact ⟨_, _, _, _, rfl⟩
  | some x => exact ⟨_, _, _, _, rfl⟩
theorem head_any (p : Int) (hp : KeyOk p) (hS : StoreN w base fp g gc s n) : Calls Tryz.prog 30 #[.pointer (some ⟨g, 0, none⟩), .int .i64 p] w (SaysV w (.tuple #[hdO (s.hd p), .bool (s.hd p).isSome])) := by
  obtain ⟨gy, gm, fy, fc, rfl, h⟩ := hS
  have hb : Below w.heap.size w (w.alloc (.cells #[.int .i64 0, .int .u64 0, .int .i64 0, .int .i64 0] 42)) := (Below.refl _ _).alloc (Nat.le_refl _) _
  have c2 := (h.since hb).c2
  have hl := (h.since hb).map.look2 hp
  obtain ⟨q, HQ⟩ : ∃ q, Hid ((s.hd p).isSome = q) := ⟨_, rfl⟩
  obtain ⟨K, A, S, G, hv⟩ := hdO_cells (s.hd p)
  rw [hv, HQ.out] at hl ⊢
  clear hv
  obtain ⟨z1, z2⟩ := zero_cells w
  have f0 := z1 0
  have f1 := z1 1
  have f2 := z1 2
  have f3 := z1 3
  have e0 : (w.alloc (.cells #[.int .i64 0, .int .u64 0, .int .i64 0, .int .i64 0] 42)).cell? ⟨w.heap.size, 0, none⟩ = some (.int .i64 0) := z2 0
  have e1 : (w.alloc (.cells #[.int .i64 0, .int .u64 0, .int .i64 0, .int .i64 0] 42)).cell? ⟨w.heap.size, 1, none⟩ = some (.int .u64 0) := z2 1
  have e2 : (w.alloc (.cells #[.int .i64 0, .int .u64 0, .int .i64 0, .int .i64 0] 42)).cell? ⟨w.heap.size, 2, none⟩ = some (.int .i64 0) := z2 2
  have e3 : (w.alloc (.cells #[.int .i64 0, .int .u64 0, .int .i64 0, .int .i64 0] 42)).cell? ⟨w.heap.size, 3, none⟩ = some (.int .i64 0) := z2 3
  clear h z1 z2 HQ
  go_enter Tryz.func30, Tryz.ntmps30
  go_wp2_with (simp only [hl])
  obtain ⟨W9, HW9⟩ : ∃ W9, Hid (W9 = (w.alloc (.cells #[.int .i64 K, .int .u64 A, .int .i64 S, .int .i64 G] 42)).alloc (.cells #[.int .i64 K, .int .u64 A, .int .i64 S, .int .i64 G] 42)) := ⟨_, rfl⟩
  have B1 : Below w.heap.size w (w.alloc (.cells #[.int .i64 K, .int .u64 A, .int .i64 S, .int .i64 G] 42)) := (Below.refl _ _).alloc (Nat.le_refl _) _
  have B2 := Lib.hid (below_chain B1 ((Below.refl _ _).alloc (Nat.le_refl _) (.cells #[.int .i64 K, .int .u64 A, .int .i64 S, .int .i64 G] 42)))
  have R9 := Lib.hid ((RowC.new w #[.int .i64 K, .int .u64 A, .int .i64 S, .int .i64 G] 42).since ((Below.refl _ _).alloc (Nat.le_refl _) (.cells #[.int .i64 K, .int .u64 A, .int .i64 S, .int .i64 G] 42)))
  rw [← HW9.out] at R9 B2 ⊢
  clear B1 hb hl c2 e0 e1 e2 e3 f0 f1 f2 f3
  have r0 : W9.cell? ⟨w.heap.size, 0, none⟩ = some (.int .i64 K) := R9.out.cell 0
  have r1 : W9.cell? ⟨w.heap.size, 1, none⟩ = some (.int .u64 A) := R9.out.cell 1
  have r2 : W9.cell? ⟨w.heap.size, 2, none⟩ = some (.int .i64 S) := R9.out.cell 2
  have r3 : W9.cell? ⟨w.heap.size, 3, none⟩ = some (.int .i64 G) := R9.out.cell 3
  exact bodyPost_ret (v := .tuple #[.agg #[.int .i64 K, .int .u64 A, .int .i64 S, .int .i64 G], .bool q]) (by simp [results, Tryz.results30, go_sem, r0, r1, r2, r3]) rfl ⟨rfl, B2⟩
end
end Go.Proofs.YthgkdnegnecnjaaGreatDoor

/- The landed store: Drop. Conditions: the store's cells. -/
set_option linter.unusedVariables false
set_option linter.unusedSimpArgs false
set_option maxRecDepth 20000
namespace Go.Proofs.YthgkdnegnecnjaaGreatDoor
open Go.RowKit

def dropS (s : SS) (p : Int) : SS × Int :=
  if (dropY s.y (placeS s p).1 (placeS s p).2).2 ≠ 0 then ({ s with y := (dropY s.y (placeS s p).1 (placeS s p).2).1 }, (dropY s.y (placeS s p).1 (placeS s p).2).2)
  else if stY (dropY s.y (placeS s p).1 (placeS s p).2).1 (placeS s p).1 = 3 then (⟨s.c, (freeY (dropY s.y (placeS s p).1 (placeS s p).2).1 (placeS s p).1).1, updH s.hd p none⟩, 0)
  else (⟨s.c, (dropY s.y (placeS s p).1 (placeS s p).2).1, updH s.hd p none⟩, 0)
section
variable {s : SS} {p b k q : Int} {y : Yd}
theorem dropS_no (h : placeS s p = (b, k)) (h2 : dropY s.y b k = (y, q)) (hq : q ≠ 0) : dropS s p = ({ s with y := y }, q) := by unfold dropS; rw [h]; simp only [h2]; exact if_pos hq
theorem dropS_free (h : placeS s p = (b, k)) (h2 : dropY s.y b k = (y, 0)) (h3 : stY y b = 3) : dropS s p = (⟨s.c, (freeY y b).1, updH s.hd p none⟩, 0) := by unfold dropS; rw [h]; simp [h2, h3]
theorem dropS_ok (h : placeS s p = (b, k)) (h2 : dropY s.y b k = (y, 0)) (h3 : stY y b ≠ 3) : dropS s p = (⟨s.c, y, updH s.hd p none⟩, 0) := by unfold dropS; rw [h]; simp [h2, h3]
theorem place_in (h : placeS s p = (b, k)) (h2 : dropY s.y b k = (y, 0)) : 0 ≤ p ∧ p ≤ 255 := by
  have hb : 0 ≤ b := by
    unfold dropY at h2
    split at h2
    · exact absurd (Prod.mk.inj h2).2 (by decide)
    · next hp =>
      have := (Classical.not_not.1 hp).1
      unfold stY at this
      split at this
      · exact absurd rfl this
      · omega
  unfold placeS placeG at h
  split at h
  · next h3 =>
    unfold placeIn at h3
    obtain ⟨h4, h5⟩ := Bool.and_eq_true_iff.1 h3
    have h5 := of_decide_eq_true h5
    have := area_bd (mayG_in h4)
    omega
  · have := (Prod.mk.inj h).1
    omega
theorem drop_err {q : Int} (h : dropY s.y b k = (y, q)) (hq : q ≠ 0) : y = s.y := by
  unfold dropY at h
  split at h
  · exact (Prod.mk.inj h).1.symm
  · split at h
    · exact (Prod.mk.inj h).1.symm
    · exact absurd (Prod.mk.inj h).2.symm hq
end
/-- What a call of the store leaves that answers an error. -/
def SLeadsA (w : World) (base : Nat) (fp : Nat → Prop) (g gc : Nat) (r : SS × Int) (e : Ending) (w' : World) : Prop :=
  ∃ v fp', e = .returned v ∧ ErrNew w fp' w' r.2 v ∧ StoreAt w' base fp' g gc r.1 ∧ Moves w fp w' fp'
theorem sdrop_nil (p : Int) (w : World) : Calls Tryz.prog 27 #[.pointer none, .int .i64 p] w fun e w' => ∃ v, e = .returned v ∧ ErrNew w (fun b => b < w.heap.size) w' 1 v ∧ Below w.heap.size w w' := by
  have CW := fun st => Lib.hid (swrong_new st 1 (by omega) w (fun b => b < w.heap.size) (fun b hb => hb))
  go_enter Tryz.func27, Tryz.ntmps27
  go_wp2_with fail
  refine (CW _).out.mono ?_
  rintro e W1 ⟨v, rfl, he, hb⟩
  have HE := Lib.hid he
  have HB := Lib.hid hb
  clear he hb CW
  go_wp2_with fail
  go_ret
  exact ⟨v, rfl, HE.out, HB.out⟩
section
variable {w : World} {base g gc : Nat} {fp : Nat → Prop} {s : SS}
set_option maxHeartbeats 4000000 in
theorem sdrop_any (p : Int) (hS : StoreAt w base fp g gc s) :
    Calls Tryz.prog 27 #[.pointer (some ⟨g, 0, none⟩), .int .i64 p] w (SLeadsA w base fp g gc (dropS s p)) := by
  obtain ⟨n0, hn0, gy, gm, fy, fc, rfl, h⟩ := hS
  have HN0 := Lib.hid hn0
  have H0 := Lib.hid h
  have M0 := Lib.hid (Moves.refl (fpS g gm fy fc) w)
  have CP := Lib.hid (splace_any p (⟨gy, gm, fy, fc, rfl, h⟩ : StoreN w base _ g gc _ n0))
  obtain ⟨b, k, HP⟩ : ∃ b k, Hid (placeS s p = (b, k)) := ⟨_, _, rfl⟩
  rw [HP.out] at CP
  clear h hn0
  obtain ⟨R, HR⟩ : ∃ R, Hid (dropS s p = R) := ⟨_, rfl⟩
  rw [HR.out]
  go_enter Tryz.func27, Tryz.ntmps27
  go_wp2_with fail
  refine CP.out.mono ?_
  rintro e W1 ⟨rfl, hb1⟩
  have hb1 := hb1.out
  have H2 := Lib.hid (H0.out.since hb1)
  have M2 := Lib.hid (M0.out.trans (Moves.of_below (fp := fpS g gm fy fc) hb1))
  clear H0 M0 hb1 CP
  have c0 := H2.out.c0
  have CD := Lib.hid (ydrop_any b k H2.out.yard)
  obtain ⟨y1, e1, HD⟩ : ∃ y1 e1, Hid (dropY s.y b k = (y1, e1)) := ⟨_, _, rfl⟩
  rw [HD.out] at CD
  go_wp2_with fail
  refine CD.out.mono ?_
  rintro e W3 ⟨v3, fy3, rfl, he3, hy3, hm3⟩
  obtain ⟨r3, m3⟩ := H2.out.withY hy3 hm3
  have E3 := Lib.hid (he3.yard H2.out M2.out.size)
  have H3 := Lib.hid r3
  have M3 := Lib.hid (M2.out.trans m3)
  clear H2 M2 CD he3 hy3 hm3 r3 m3 c0
  by_cases he : e1 = 0
  · subst he
    obtain rfl := E3.out.nil
    clear E3
    have c2 := H3.out.c2
    have hk := place_in HP.out HD.out
    obtain ⟨W8, hrun, hmap, hg⟩ := H3.out.map.del (p := p) (keyOk (by omega) (by omega)) 0
    have hrun : ∀ ty, (Builtin.delete_ #[91, 3] ty #[.map (some gm), .int .i64 p]).run Tryz.prog W3 = .ok (.tuple #[]) W8 := fun ty => hrun
    obtain ⟨r8, m8⟩ := H3.out.withM hg hmap
    have H8 := Lib.hid r8
    have M8 := Lib.hid (M3.out.trans m8)
    clear hk hmap hg r8 m8 H3 M3
    have c0 := H8.out.c0
    have CT := Lib.hid (ystate_any b H8.out.yard)
    obtain ⟨st, HST⟩ : ∃ st, Hid (stY y1 b = st) := ⟨_, rfl⟩
    rw [show ({ s with y := y1, hd := updH s.hd p none } : SS).y = y1 from rfl, HST.out] at CT
    go_wp2_with (simp only [hrun])
    clear hrun c2
    refine CT.out.mono ?_
    rintro e W4 ⟨rfl, hb4⟩
    have hb4 := hb4.out
    have H5 := Lib.hid (H8.out.since hb4)
    have M5 := Lib.hid (M8.out.trans (Moves.of_below (fp := fpS g gm fy3 fc) hb4))
    clear H8 M8 hb4 CT c0
    by_cases h3 : st = 3
    · subst h3
      have c0 := H5.out.c0
      have CF := Lib.hid (yfree_any b H5.out.yard)
      go_wp2_with fail
      refine CF.out.mono ?_
      rintro e W6 ⟨v6, fy6, rfl, he6, hy6, hm6⟩
      obtain ⟨r6, m6⟩ := H5.out.withY hy6 hm6
      have E6 := Lib.hid (he6.yard H5.out M5.out.size)
      have H6 := Lib.hid r6
      have M6 := Lib.hid (M5.out.trans m6)
      clear H5 M5 CF he6 hy6 hm6 r6 m6 c0
      go_wp2_with fail
      go_ret
      rw [← HR.out, dropS_free HP.out HD.out HST.out]
      exact ⟨_, _, rfl, ErrNew.none_, ⟨n0, HN0.out, _, _, _, _, rfl, H6.out⟩, M6.out⟩
    · have H3N := Lib.hid h3
      go_wp2_with fail
      go_ret
      rw [← HR.out, dropS_ok HP.out HD.out (by rw [HST.out]; exact H3N.out)]
      exact ⟨_, _, rfl, ErrNew.none_, ⟨n0, HN0.out, _, _, _, _, rfl, H5.out⟩, M5.out⟩
  · have HEN := Lib.hid he
    have HPE := Lib.hid (E3.out.pos he)
    have CC := Lib.hid (code_wrong e1 _ W3 (E3.out.wrong he))
    obtain ⟨xv, HXV⟩ := (E3.out.wrong he).ne
    subst HXV
    clear E3
    clear he
    go_wp2_with fail
    refine CC.out.mono ?_
    rintro e w9 ⟨rfl, rfl⟩
    clear CC
    have CW := fun st => Lib.hid (swrong_new st e1 HPE.out W3 (fpS g gm fy3 fc) H3.out.lt)
    go_wp2_with fail
    refine (CW _).out.mono ?_
    rintro e W4 ⟨v4, rfl, he4, hb4⟩
    have E4 := Lib.hid (he4.wide M3.out.size fun b hb => Or.inl hb)
    have H4 := Lib.hid (H3.out.since hb4)
    have M4 := Lib.hid (M3.out.trans (Moves.of_below hb4))
    clear CW H3 M3 he4 hb4
    go_wp2_with fail
    go_ret
    rw [← HR.out, dropS_no HP.out HD.out HEN.out]
    exact ⟨_, _, rfl, E4.out, ⟨n0, HN0.out, _, _, _, _, rfl, H4.out⟩, M4.out⟩
end
end Go.Proofs.YthgkdnegnecnjaaGreatDoor
