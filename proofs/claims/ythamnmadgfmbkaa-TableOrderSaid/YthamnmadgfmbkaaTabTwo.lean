/- Two tables side by side; what calls answer, spelt out. Conditions: the tables' blocks. -/
import Derived.Test.YthamnmadgfmbkaaTabFace
set_option linter.unusedVariables false
set_option linter.unusedSimpArgs false
namespace Go.Proofs.Ythamnmadgfmbkaa
open Go.RowKit

theorem pairO_none : pairO none = .tuple #[.agg #[.int .u64 0, .int .i64 0, .bool false, .int .i64 0], .bool false] := rfl
theorem pairO_some (x : E) : pairO (some x) = .tuple #[.agg #[.int .u64 x.addr, .int .i64 x.page, .bool x.dirty, .int .i64 x.seq], .bool true] := rfl
/-- Whatever it is: an entry, and whether it is one. -/
theorem pairO_any (o : Option E) : pairO o = .tuple #[.agg #[.int .u64 (o.getD E.zero).addr, .int .i64 (o.getD E.zero).page, .bool (o.getD E.zero).dirty, .int .i64 (o.getD E.zero).seq], .bool o.isSome] := rfl
structure Tabs2 (w : World) (base : Nat) (fD fK : Nat → Prop) (gD gK : Nat) (l m : List E) : Prop where
  d : TabAt w base fD gD l
  k : TabAt w base fK gK m
  two : Two fD fK
section
variable {w w' w0 : World} {base gD gK B : Nat} {fD fK fD' fK' : Nat → Prop} {l m l' m' : List E}
theorem Tabs2.lt (h : Tabs2 w base fD fK gD gK l m) : ∀ b, Or2 fD fK b → b < w.heap.size := fun b hb => hb.elim (h.d.lt b) (h.k.lt b)
theorem Tabs2.ge (h : Tabs2 w base fD fK gD gK l m) : ∀ b, Or2 fD fK b → base ≤ b := fun b hb => hb.elim (h.d.ge b) (h.k.ge b)
theorem Tabs2.since (h : Tabs2 w base fD fK gD gK l m) (hb : Below w.heap.size w w') : Tabs2 w' base fD fK gD gK l m := ⟨h.d.since hb, h.k.since hb, h.two⟩
theorem Tabs2.left (h : Tabs2 w base fD fK gD gK l m) (hc : TabAt w' base fD' gD l') (hm : Moves w fD w' fD') : Tabs2 w' base fD' fK gD gK l' m ∧ Moves w (Or2 fD fK) w' (Or2 fD' fK) :=
  ⟨⟨hc, h.k.keep hm.turn h.two, h.two.left hm h.k.lt⟩, hm.orL fK⟩
theorem Tabs2.right (h : Tabs2 w base fD fK gD gK l m) (hc : TabAt w' base fK' gK m') (hm : Moves w fK w' fK') : Tabs2 w' base fD fK' gD gK l m' ∧ Moves w (Or2 fD fK) w' (Or2 fD fK') :=
  ⟨⟨h.d.keep hm.turn h.two.flip, hc, h.two.right hm h.d.lt⟩, hm.orR fD⟩
theorem Tabs2.below (h : Tabs2 w base fD fK gD gK l m) (hs : Below base w0 w) (hm : Moves w (Or2 fD fK) w' (Or2 fD' fK')) : Below base w0 w' := hm.below hs h.ge h.d.base_le
/-- A second one is made. -/
theorem Tabs2.of_new {fp : Nat → Prop} {g : Nat} (h : TabAt w base fD gD l) (hc : TabAt w' w.heap.size fp g m) (hb : Below w.heap.size w w') : Tabs2 w' base fD fp gD g l m :=
  ⟨h.since hb, hc.elder h.base_le, fun b h1 h2 => by have := h.lt b h1; have := hc.ge b h2; omega⟩
end
end Go.Proofs.Ythamnmadgfmbkaa
