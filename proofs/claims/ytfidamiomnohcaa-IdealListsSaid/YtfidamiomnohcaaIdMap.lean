/- A map from words to slices, by its keys and its elements; a range over it, by what is still to come; a store at a key that is there within the range. Conditions: keys are words. -/
import Derived.Test.YtfidamiomnohcaaIdLeaf
import Derived.Maps.RangeWalk
set_option linter.unusedVariables false
set_option linter.unusedSimpArgs false
set_option maxRecDepth 20000
namespace Go.Proofs.Ytfidamiomnohcaa
open Go.RowKit Go.ChangeMaps Go.MapKept Go.WideShapes
open Go.WideElems (Fit rd rg pl rd_key rd_val rg_of rd_mk rd_stay other_key)
open Go.Maps (Keyed)

/-- An element, as it is. -/
def tokR : Value → Option (DataW Value × List MemPlace)
  | .slice a n c => some (.held (.slice a n c), [])
  | _ => none
theorem tokR_inv {v : Value} {y : DataW Value × List MemPlace} (h : tokR v = some y) : ∃ a n c, v = .slice a n c ∧ y = (.held v, []) := by
  cases v <;> simp [tokR] at h
  exact ⟨_, _, _, rfl, h.symm⟩
theorem keyLaw : Keyed Try.prog 29 := Maps.int_keyed Try.underlying29
def U64 (x : Int) : Prop := 0 ≤ x ∧ x ≤ 18446744073709551615
theorem u64_wf {x : Int} (h : U64 x) : (Lit.int .u64 x).wf = true := WalkArith.wf_u64 h
theorem key_u64 {x : Int} (h : U64 x) : keyOf Try.prog 29 (.int .u64 x) = some (.int .u64 x) := Maps.keyOf_int_mk Try.underlying29 (u64_wf h)
theorem lit_ne {x y : Int} (h : x ≠ y) : Lit.int .u64 x ≠ Lit.int .u64 y := fun e => h (by cases e; rfl)
theorem zero_slice (w : World) : (zeroValue 72).run Try.prog w = .ok (.slice none 0 0) w := by kernel_rfl
/-- What a datum says, as keys and elements. -/
structure Link (D : DataW Value) (ks : List Int) (F : Int → Value) : Prop where
  has : ∀ x, U64 x → Maps.has D (.int .u64 x) = decide (x ∈ ks)
  at_ : ∀ x, x ∈ ks → ∀ z, D.atKey (.int .u64 x) z = .held (F x)
  u64 : ∀ x ∈ ks, U64 x
  nodup : ks.Nodup
  size : Maps.size D = ks.length
theorem Link.perm {D : DataW Value} {ks ks' : List Int} {F : Int → Value} (h : Link D ks F) (hp : ks'.Perm ks) : Link D ks' F :=
  ⟨fun x hx => by rw [h.has x hx]; exact decide_eq_decide.2 hp.mem_iff.symm, fun x hx z => h.at_ x (hp.mem_iff.1 hx) z, fun x hx => h.u64 x (hp.mem_iff.1 hx), hp.nodup_iff.2 h.nodup, by rw [h.size, hp.length_eq]⟩
/-- Elements that are another one at one key. -/
def upd {α : Type} (F : Int → α) (x : Int) (v : α) : Int → α := fun y => if y = x then v else F y
theorem upd_self {α : Type} (F : Int → α) (x : Int) (v : α) : upd F x v x = v := if_pos rfl
theorem upd_ne {α : Type} (F : Int → α) {x y : Int} (v : α) (h : y ≠ x) : upd F x v y = F y := if_neg h
theorem Link.put {D : DataW Value} {ks ks' : List Int} {F : Int → Value} (h : Link D ks F) (hT : Maps.Tidy D) {x : Int} (hx : U64 x) (v : Value) (hn : ks'.Nodup) (hm : ∀ y, y ∈ ks' ↔ y = x ∨ y ∈ ks) : Link (D.put (.int .u64 x) (.held v)) ks' (upd F x v) := by
  have hk : WideAt.IsKeyLit (.int .u64 x) := keyLaw.key (key_u64 hx)
  refine ⟨fun y hy => ?_, fun y hy z => ?_, fun y hy => ?_, hn, ?_⟩
  · by_cases e : y = x
    · subst e
      rw [Maps.has_put_same hT.isMap hk]
      exact (decide_eq_true ((hm y).2 (Or.inl rfl))).symm
    · rw [Maps.has_put_other (lit_ne e), h.has y hy]
      exact decide_eq_decide.2 ((hm y).trans ⟨fun q => q.resolve_left e, Or.inr⟩).symm
  · by_cases e : y = x
    · subst e
      rw [Maps.atKey_put_same hT.isMap hk, upd_self]
    · rw [Maps.atKey_put_other (lit_ne e), upd_ne F v e]
      exact h.at_ y (((hm y).1 hy).resolve_left e) z
  · rcases (hm y).1 hy with rfl | hy
    · exact hx
    · exact h.u64 y hy
  · rw [Maps.size_put hT, h.has x hx]
    by_cases e : x ∈ ks
    · rw [if_pos (by simpa using e), h.size]
      exact ((List.perm_ext_iff_of_nodup hn h.nodup).2 fun y => (hm y).trans ⟨fun q => q.elim (fun q => q ▸ e) id, Or.inr⟩).length_eq.symm
    · rw [if_neg (by simpa using e), h.size]
      have hp : ks'.Perm (x :: ks) := (List.perm_ext_iff_of_nodup hn (List.nodup_cons.2 ⟨e, h.nodup⟩)).2 fun y => (hm y).trans List.mem_cons.symm
      rw [hp.length_eq]; rfl
theorem Link.del {D : DataW Value} {ks ks' : List Int} {F : Int → Value} (h : Link D ks F) (hT : Maps.Tidy D) {x : Int} (hx : U64 x) (hn : ks'.Nodup) (hm : ∀ y, y ∈ ks' ↔ y ≠ x ∧ y ∈ ks) : Link (D.del (.int .u64 x)) ks' F := by
  refine ⟨fun y hy => ?_, fun y hy z => ?_, fun y hy => h.u64 y ((hm y).1 hy).2, hn, ?_⟩
  · by_cases e : y = x
    · subst e
      rw [Maps.has_del_same]
      exact (decide_eq_false fun q => ((hm y).1 q).1 rfl).symm
    · rw [Maps.has_del_other (lit_ne e), h.has y hy]
      exact decide_eq_decide.2 ((hm y).trans ⟨fun q => q.2, fun q => ⟨e, q⟩⟩).symm
  · obtain ⟨e, hk⟩ := (hm y).1 hy
    rw [Maps.atKey_del_other (lit_ne e)]
    exact h.at_ y hk z
  · have hs := Maps.size_del (k := .int .u64 x) hT
    rw [h.has x hx, h.size] at hs
    by_cases e : x ∈ ks
    · rw [if_pos (by simpa using e)] at hs
      have hp : ks.Perm (x :: ks') := (List.perm_ext_iff_of_nodup h.nodup (List.nodup_cons.2 ⟨fun q => ((hm x).1 q).1 rfl, hn⟩)).2 fun y => by
        rw [List.mem_cons, hm y]
        by_cases q : y = x
        · subst q; simp [e]
        · simp [q]
      rw [hp.length_eq, List.length_cons] at hs
      omega
    · rw [if_neg (by simpa using e)] at hs
      have hp : ks'.Perm ks := (List.perm_ext_iff_of_nodup hn h.nodup).2 fun y => (hm y).trans ⟨fun q => q.2, fun q => ⟨fun q2 => e (q2 ▸ q), q⟩⟩
      rw [hp.length_eq]; omega
/-- Block b is a map of these keys and elements. -/
def MapF (w : World) (b : Nat) (ks : List Int) (F : Int → Value) : Prop := ∃ D, w.ownsMap Try.prog 29 tokR b (Maps.size D) D ∧ Link D ks F
section
variable {w w' : World} {b r n : Nat} {ks ks' ls : List Int} {F : Int → Value} {x : Int} {v : Value}
theorem tight {D : DataW Value} (h : w.ownsMap Try.prog 29 tokR b n D) : w.ownsMap Try.prog 29 tokR b (Maps.size D) D := by
  obtain ⟨es, clock, hb, F, hs, rfl⟩ := h
  exact ⟨es, clock, hb, F, by simp [Maps.size, length_sorted], rfl⟩
theorem MapF.lt (h : MapF w b ks F) : b < w.heap.size := by
  obtain ⟨D, h1, _⟩ := h
  exact h1.lt
theorem MapF.u64 (h : MapF w b ks F) : ∀ x ∈ ks, U64 x := by
  obtain ⟨D, _, h2⟩ := h
  exact h2.u64
theorem MapF.nodup (h : MapF w b ks F) : ks.Nodup := by
  obtain ⟨D, _, h2⟩ := h
  exact h2.nodup
theorem MapF.perm (h : MapF w b ks F) (hp : ks'.Perm ks) : MapF w b ks' F := by
  obtain ⟨D, h1, h2⟩ := h
  exact ⟨D, h1, h2.perm hp⟩
theorem MapF.keep (h : MapF w b ks F) (e : w'.heap[b]? = w.heap[b]?) : MapF w' b ks F := by
  obtain ⟨D, ⟨es, clock, hb, r⟩, h2⟩ := h
  exact ⟨D, ⟨es, clock, e.trans hb, r⟩, h2⟩
theorem MapF.made (w : World) (F : Int → Value) : MapF (w.alloc (.map #[] 0)) w.heap.size [] F :=
  ⟨.map [], World.ownsMap_made w _ _ _, ⟨fun x _ => by simp [Maps.has], fun x hx => (by cases hx), fun x hx => (by cases hx), List.nodup_nil, rfl⟩⟩
theorem MapF.look_yes (h : MapF w b ks F) (hx : x ∈ ks) : (Instr.lookup 58 (.map (some b)) (.int .u64 x) true).run Try.prog w = .ok (.tuple #[F x, .bool true]) w := by
  obtain ⟨D, h1, h2⟩ := h
  obtain ⟨v, ps, hr, hv⟩ := h1.look_ok keyLaw Try.underlying58 (zero_slice w) (zd := .held (.slice none 0 0)) (zp := []) rfl (key_u64 (h2.u64 x hx))
  rw [h2.at_ x hx] at hv
  obtain ⟨a, n, c, rfl, e⟩ := tokR_inv hv
  have e2 := congrArg Prod.fst e
  simp only at e2
  injection e2 with e2
  rw [h2.has x (h2.u64 x hx), decide_eq_true hx] at hr
  rw [hr, e2]
theorem MapF.look_no (h : MapF w b ks F) (hu : U64 x) (hx : x ∉ ks) : (Instr.lookup 58 (.map (some b)) (.int .u64 x) true).run Try.prog w = .ok (.tuple #[.slice none 0 0, .bool false]) w := by
  obtain ⟨D, h1, h2⟩ := h
  obtain ⟨v, ps, hr, hv⟩ := h1.look_ok keyLaw Try.underlying58 (zero_slice w) (zd := .held (.slice none 0 0)) (zp := []) rfl (key_u64 hu)
  have hh := h2.has x hu
  rw [decide_eq_false hx] at hh
  rw [Maps.atKey_of_not_has hh] at hv
  obtain ⟨a, n, c, rfl, e⟩ := tokR_inv hv
  have e2 := congrArg Prod.fst e
  simp only at e2
  injection e2 with e2
  rw [hh] at hr
  rw [hr, e2]
theorem look_nil (hu : U64 x) (w : World) : (Instr.lookup 58 (.map none) (.int .u64 x) true).run Try.prog w = .ok (.tuple #[.slice none 0 0, .bool false]) w :=
  Maps.look_nil true keyLaw Try.underlying58 (zero_slice w) (key_u64 hu)
theorem drop_nil (hu : U64 x) (ty : TypeId) (w : World) : (Builtin.delete_ #[58, 29] ty #[.map none, .int .u64 x]).run Try.prog w = .ok (.tuple #[]) w :=
  Maps.drop_nil keyLaw Try.underlying58 (key_u64 hu) ty
theorem MapF.store (h : MapF w b ks F) (hu : U64 x) (hl : ks.length ≤ 1000) (a : Option Addr) (n c : Nat) (hn : ks'.Nodup) (hm : ∀ y, y ∈ ks' ↔ y = x ∨ y ∈ ks) :
    ∃ w', (Instr.mapUpdate 58 (.map (some b)) (.int .u64 x) (.slice a n c)).run Try.prog w = .ok () w' ∧ MapF w' b ks' (upd F x (.slice a n c)) ∧ w.grownBy w' (some b) ∧ w'.heap.size = w.heap.size := by
  obtain ⟨D, h1, h2⟩ := h
  obtain ⟨w', hr, ho, ht⟩ := h1.store (val := .slice a n c) (d := .held (.slice a n c)) (ps := []) keyLaw Try.underlying58 (by rw [h2.size]; unfold maxLen; omega) (key_u64 hu) rfl
  refine ⟨w', hr, ⟨_, tight ho, h2.put (h1.tidy keyLaw) hu _ hn hm⟩, ht.grown, ?_⟩
  obtain ⟨es, clock, es', clock', hb, rfl⟩ := ht
  simp [setBlock]
theorem MapF.drop (h : MapF w b ks F) (hu : U64 x) (ty : TypeId) (hn : ks'.Nodup) (hm : ∀ y, y ∈ ks' ↔ y ≠ x ∧ y ∈ ks) :
    ∃ w', (Builtin.delete_ #[58, 29] ty #[.map (some b), .int .u64 x]).run Try.prog w = .ok (.tuple #[]) w' ∧ MapF w' b ks' F ∧ w.grownBy w' (some b) ∧ w'.heap.size = w.heap.size := by
  obtain ⟨D, h1, h2⟩ := h
  obtain ⟨w', hr, ho, ht⟩ := h1.drop keyLaw Try.underlying58 (key_u64 hu) ty
  refine ⟨w', hr, ⟨_, tight ho, h2.del (h1.tidy keyLaw) hu hn hm⟩, ht.grown, ?_⟩
  obtain ⟨es, clock, es', clock', hb, rfl⟩ := ht
  simp [setBlock]
/-- A range under way: the map, and which of its keys are still to come. -/
def RangeF (w : World) (b r : Nat) (ks : List Int) (F : Int → Value) (ls : List Int) : Prop :=
  ∃ D n left cnt, w.ranges Try.prog 29 tokR b r n D left cnt ∧ Link D ks F ∧ ls.Nodup ∧ (∀ x ∈ ls, x ∈ ks) ∧ ∀ x, U64 x → left (.int .u64 x) = decide (x ∈ ls)
theorem RangeF.map (h : RangeF w b r ks F ls) : MapF w b ks F := by
  obtain ⟨D, n, left, cnt, h1, h2, _⟩ := h
  exact ⟨D, tight h1.owns, h2⟩
theorem RangeF.lt (h : RangeF w b r ks F ls) : r < w.heap.size := by
  obtain ⟨D, n, left, cnt, h1, h2, _⟩ := h
  exact h1.lt
theorem RangeF.keep (h : RangeF w b r ks F ls) (e : w'.heap[b]? = w.heap[b]?) (e2 : w'.heap[r]? = w.heap[r]?) : RangeF w' b r ks F ls := by
  obtain ⟨D, n, left, cnt, ⟨es, clock, since, seen, c0, hb, F1, hs, hD, hr, rest⟩, h2⟩ := h
  exact ⟨D, n, left, cnt, ⟨es, clock, since, seen, c0, e.trans hb, F1, hs, hD, e2.trans hr, rest⟩, h2⟩
theorem RangeF.left_keep (e : w'.heap[b]? = w.heap[b]?) (e2 : w'.heap[r]? = w.heap[r]?) : w'.rangeLeft b r = w.rangeLeft b r := by
  simp only [World.rangeLeft, e, e2]
theorem MapF.range (h : MapF w b ks F) : ∃ w', (Instr.range 58 (.map (some b))).run Try.prog w = .ok (.pointer (some ⟨w.heap.size, 0, none⟩)) w' ∧ RangeF w' b w.heap.size ks F ks ∧ w.grownBy w' none ∧ w'.heap.size = w.heap.size + 1 := by
  obtain ⟨D, h1, h2⟩ := h
  obtain ⟨w', hr, hR, hg, hs⟩ := h1.range keyLaw Try.underlying58
  exact ⟨w', hr, ⟨D, _, _, _, hR, h2, h2.nodup, fun x hx => hx, fun x hx => h2.has x hx⟩, hg, hs⟩
theorem RangeF.next (h : RangeF w b r ks F ls) :
    (ls = [] ∧ ∀ ty, (Instr.next (.pointer (some ⟨r, 0, none⟩)) false ty).run Try.prog w = .ok (.tuple #[.bool false]) w) ∨
    ∃ x w', x ∈ ls ∧ (∃ a n c, F x = .slice a n c) ∧ (∀ ty, (Instr.next (.pointer (some ⟨r, 0, none⟩)) false ty).run Try.prog w = .ok (.tuple #[.bool true, .int .u64 x, F x]) w') ∧ (Instr.entry (.pointer (some ⟨r, 0, none⟩))).run Try.prog w' = .ok (.tuple #[.int .u64 x, F x]) w' ∧
      RangeF w' b r ks F (ls.erase x) ∧ w.grownBy w' (some r) ∧ w'.heap.size = w.heap.size ∧ w'.rangeLeft b r < w.rangeLeft b r := by
  obtain ⟨D, n, left, cnt, h1, h2, h3, h4, h5⟩ := h
  rcases h1.next keyLaw 0 with ⟨h0, hl, hrun⟩ | ⟨key, v, kl, y, w', cnt', hkey, hlk, hv, hat, hrun, hrg, hlt, hgr, hsz, hen⟩
  · refine Or.inl ⟨?_, fun ty => hrun⟩
    cases ls with
    | nil => rfl
    | cons x r =>
      have := h5 x (h2.u64 x (h4 x List.mem_cons_self))
      rw [hl, decide_eq_true List.mem_cons_self] at this
      cases this
  · obtain ⟨x, rfl, rfl, hwx⟩ := Maps.keyOf_int_inv Try.underlying29 hkey
    have hu : U64 x := bounds_u64 hwx
    have hxl : x ∈ ls := by
      have := h5 x hu
      rw [hlk] at this
      exact of_decide_eq_true this.symm
    obtain ⟨a, m, c, rfl, rfl⟩ := tokR_inv hv
    have hF : F x = .slice a m c := by
      have e1 := hat .nil
      rw [h2.at_ x (h4 x hxl)] at e1
      injection e1
    refine Or.inr ⟨x, w', hxl, ⟨a, m, c, hF⟩, fun ty => by rw [hF]; exact hrun, by rw [hF]; exact hen, ⟨D, n, _, cnt', hrg, h2, h3.erase x, fun y hy => h4 y (List.mem_of_mem_erase hy), fun y hy => ?_⟩, hgr, hsz, by rw [hrg.left_eq, h1.left_eq]; exact hlt⟩
    show (left (.int .u64 y) && !(Lit.int .u64 y).sameKey (.int .u64 x)) = _
    rw [h5 y hy]
    by_cases e : y = x
    · subst e
      rw [WideAt.sameKey_self (keyLaw.key (key_u64 hy)), decide_eq_false (h3.not_mem_erase)]
      simp
    · rw [Maps.sameKey_ne (lit_ne e)]
      simp [List.mem_erase_of_ne e]
/-- delete(m, k) of a key that has come. -/
theorem RangeF.drop (h : RangeF w b r ks F ls) (hu : U64 x) (hx : x ∉ ls) (ty : TypeId) (hn : ks'.Nodup) (hm : ∀ y, y ∈ ks' ↔ y ≠ x ∧ y ∈ ks) :
    ∃ w', (Builtin.delete_ #[58, 29] ty #[.map (some b), .int .u64 x]).run Try.prog w = .ok (.tuple #[]) w' ∧ RangeF w' b r ks' F ls ∧ w.grownBy w' (some b) ∧ w'.heap.size = w.heap.size ∧ w'.rangeLeft b r ≤ w.rangeLeft b r := by
  obtain ⟨D, n, left, cnt, h1, h2, h3, h4, h5⟩ := h
  obtain ⟨w', cnt', hr, hR, hle, ht⟩ := h1.drop keyLaw Try.underlying58 (key_u64 hu) ty
  refine ⟨w', hr, ⟨_, n, _, cnt', hR, h2.del (h1.owns.tidy keyLaw) hu hn hm, h3, fun y hy => (hm y).2 ⟨fun e => hx (e ▸ hy), h4 y hy⟩, fun y hy => ?_⟩, ht.grown, ?_, by rw [hR.left_eq, h1.left_eq]; exact hle⟩
  · show (left (.int .u64 y) && !(Lit.int .u64 y).sameKey (.int .u64 x)) = _
    rw [h5 y hy]
    by_cases e : y = x
    · subst e
      rw [decide_eq_false hx]; rfl
    · rw [Maps.sameKey_ne (lit_ne e)]; simp
  · obtain ⟨es, clock, es', clock', hb, rfl⟩ := ht
    simp [setBlock]
/-- m[k] = v at a key that is there: each entry stays as it came, that one with another element. -/
theorem store_there {es : Array MapEntry} {clock : Nat} {val : Value} {yv : DataW Value × List MemPlace} (hb : w.heap[b]? = some (.map es clock)) (Fi : Fit Try.prog 29 tokR es clock) (hu : U64 x) (hv : tokR val = some yv) (hin : ∃ e ∈ es.toList, e.key = .int .u64 x) :
    ∃ es', (Instr.mapUpdate 58 (.map (some b)) (.int .u64 x) val).run Try.prog w = .ok () (setBlock w b (.map es' clock)) ∧ es'.size = es.size ∧ (es'.toList.map fun e => (e.key, e.born)) = es.toList.map fun e => (e.key, e.born) := by
  have hkey := key_u64 hu
  have K := keyLaw
  rcases K.find w hkey es.toList Fi.keys with ⟨h1, h2⟩ | ⟨j, e0, h1, h2, h3⟩
  · obtain ⟨e, he, hk⟩ := hin
    exact absurd hk (h2 e he)
  · have hj : es[j]? = some e0 := by simpa using h2
    have hlist : (es.modify j (fun e' => { e' with key := .int .u64 x, val := val })).toList = es.toList.set j { e0 with key := .int .u64 x, val := val } := by rw [Array.toList_modify, modify_eq_set _ _ _ _ h2]
    refine ⟨es.modify j (fun e' => { e' with key := .int .u64 x, val := val }), ?_, by simp, ?_⟩
    · simp [Instr.mapUpdate, run_underlying Try.underlying58, MapKept.run_getObj_map hb, K.check w false hkey, h1, hj, h3, K.stays w hkey, MapKept.run_setObj_map _ hb, Result.andThen, setBlock]
    · rw [hlist, List.map_set]
      have hj' : j < es.toList.length := (List.getElem?_eq_some_iff.1 h2).1
      have e1 : (es.toList.map fun e => (e.key, e.born))[j]? = some ((.int .u64 x), e0.born) := by rw [List.getElem?_map, h2]; simp [h3]
      apply List.ext_getElem?
      intro i
      rw [List.getElem?_set]
      by_cases e : j = i
      · subst e
        rw [if_pos rfl, if_pos (by simpa using hj'), e1]
      · rw [if_neg e]
theorem RangeF.store (h : RangeF w b r ks F ls) (hx : x ∈ ks) (hl : ks.length ≤ 1000) (a : Option Addr) (n c : Nat) :
    ∃ w', (Instr.mapUpdate 58 (.map (some b)) (.int .u64 x) (.slice a n c)).run Try.prog w = .ok () w' ∧ RangeF w' b r ks (upd F x (.slice a n c)) ls ∧ w.grownBy w' (some b) ∧ w'.heap.size = w.heap.size ∧ w'.rangeLeft b r ≤ w.rangeLeft b r := by
  obtain ⟨D, m, left, cnt, h1, h2, h3, h4, h5⟩ := h
  have hu := h2.u64 x hx
  have howns := h1.owns
  have hne := h1.ne
  have hlt := howns.lt
  have hT := howns.tidy keyLaw
  obtain ⟨w1, hr1, ho1, ht1⟩ := (tight howns).store (val := .slice a n c) (d := .held (.slice a n c)) (ps := []) keyLaw Try.underlying58 (by rw [h2.size]; unfold maxLen; omega) (key_u64 hu) rfl
  have hcnt := h1.left_eq
  obtain ⟨es, clock, since, seen, c0, hb, Fi, hs, rfl, hri, hold, hcn, hl1, hl2, hsc, hsk⟩ := h1
  have hin : ∃ e ∈ es.toList, e.key = .int .u64 x := by
    have hh := h2.has x hu
    rw [decide_eq_true hx] at hh
    obtain ⟨p, hp, hpk⟩ := List.any_eq_true.1 hh
    obtain ⟨e, he, rfl⟩ := List.mem_map.1 (mem_sorted.1 hp)
    obtain ⟨y, hy⟩ := Fi.reads e he
    refine ⟨e, he, ?_⟩
    have e1 := WideAt.sameKey_eq hpk
    rw [rg_of hy] at e1
    have e2 := rd_key hy
    rw [e1] at e2
    exact keyLaw.inj e2 (key_u64 hu)
  obtain ⟨es2, hr2, hsz2, hkb⟩ := store_there (w := w) (val := .slice a n c) hb Fi hu rfl hin
  rw [hr2] at hr1
  injection hr1 with _ hw1
  subst hw1
  obtain ⟨es3, clock3, hb3, Fi3, hs3, hD3⟩ := ho1
  have e3 : es3 = es2 ∧ clock3 = clock := by
    rw [heap_setBlock_same hb] at hb3
    injection hb3 with hb3
    injection hb3 with hb3 hb4
    exact ⟨hb3.symm, hb4.symm⟩
  obtain ⟨rfl, rfl⟩ := e3
  have hborn : ∀ p : Value × Nat, p ∈ (es3.toList.map fun e => (e.key, e.born)) ↔ p ∈ (es.toList.map fun e => (e.key, e.born)) := fun p => by rw [hkb]
  have old : ∀ e ∈ es3.toList, ∃ e' ∈ es.toList, e'.key = e.key ∧ e'.born = e.born := fun e he => by
    obtain ⟨e', he', hh⟩ := List.mem_map.1 ((hborn (e.key, e.born)).1 (List.mem_map.2 ⟨e, he, rfl⟩))
    exact ⟨e', he', congrArg Prod.fst hh, congrArg Prod.snd hh⟩
  have new : ∀ e ∈ es.toList, ∃ e' ∈ es3.toList, e'.key = e.key ∧ e'.born = e.born := fun e he => by
    obtain ⟨e', he', hh⟩ := List.mem_map.1 ((hborn (e.key, e.born)).2 (List.mem_map.2 ⟨e, he, rfl⟩))
    exact ⟨e', he', congrArg Prod.fst hh, congrArg Prod.snd hh⟩
  have keyEq : ∀ e ∈ es3.toList, ∀ e' ∈ es.toList, e'.key = e.key → (rg Try.prog 29 tokR e).1 = (rg Try.prog 29 tokR e').1 := fun e he e' he' hk => by
    obtain ⟨y, hy⟩ := Fi3.reads e he
    obtain ⟨y', hy'⟩ := Fi.reads e' he'
    rw [rg_of hy, rg_of hy']
    have a1 := rd_key hy
    have a2 := rd_key hy'
    rw [hk, a1] at a2
    exact Option.some.inj a2
  have hcnt3 : (leftOf es3 seen).size = cnt := by
    have e1 : ∀ z : Array MapEntry, (leftOf z seen).size = ((z.toList.map fun e => (e.key, e.born)).filter fun p => !seen.contains p.2).length := fun z => by
      unfold leftOf
      rw [List.filter_map, List.length_map, ← Array.length_toList, Array.toList_filter]
      rfl
    rw [e1, hkb, ← e1]; exact hcn
  have hR : (setBlock w b (.map es3 clock3)).ranges Try.prog 29 tokR b r m ((DataW.map ((es.toList.map (rg Try.prog 29 tokR)).foldr DataW.insert [])).put (.int .u64 x) (.held (.slice a n c))) left cnt := by
    refine ⟨es3, clock3, since, seen, c0, heap_setBlock_same hb _, Fi3, by omega, hD3, (heap_setBlock_other hb _ hne).trans hri, fun e he => ?_, hcnt3, fun e he => ?_, fun kl hk => ?_, hsc, hsk⟩
    · obtain ⟨e', he', _, hb'⟩ := old e he
      rw [← hb']; exact hold e' he'
    · obtain ⟨e', he', hk', hb'⟩ := old e he
      rw [keyEq e he e' he' hk', ← hb']; exact hl1 e' he'
    · obtain ⟨e', he', hk'⟩ := hl2 kl hk
      obtain ⟨e, he, hke, _⟩ := new e' he'
      exact ⟨e, he, (keyEq e he e' he' hke.symm).trans hk'⟩
  refine ⟨_, hr2, ⟨_, m, left, cnt, hR, h2.put hT hu _ h2.nodup fun y => ⟨Or.inr, fun q => q.elim (fun q => q ▸ hx) id⟩, h3, h4, h5⟩, ht1.grown, by simp [setBlock], by rw [hR.left_eq, hcnt]; exact Nat.le_refl _⟩
end
end Go.Proofs.Ytfidamiomnohcaa
