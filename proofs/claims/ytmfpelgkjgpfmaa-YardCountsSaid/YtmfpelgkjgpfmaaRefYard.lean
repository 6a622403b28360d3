/- The document's own yard in memory: where its rows stand; what one store leaves. Conditions: the yard's blocks. -/
import Derived.Test.YtmfpelgkjgpfmaaMoves
import Derived.Test.YtmfpelgkjgpfmaaKindMade
import Derived.Test.YtmfpelgkjgpfmaaBSlices
import Derived.Test.YtmfpelgkjgpfmaaIntsShared
import Derived.Test.YtmfpelgkjgpfmaaGives
import Derived.Test.YtmfpelgkjgpfmaaYardMath
set_option linter.unusedVariables false
set_option linter.unusedSimpArgs false
namespace Go.Proofs.Ytmfpelgkjgpfmaa
open Go.RowKit

/-- Where it stands. -/
structure YL where
  AS : Option Addr
  cS : Nat
  AT : Option Addr
  cT : Nat
  AN : Option Addr
  cN : Nat
  AD : Option Addr
  cD : Nat
  bN : Nat → Nat
  bD : Nat → Nat
structure RYard (w : World) (base g : Nat) (s : Yd) (L : YL) : Prop where
  base_le : base ≤ g
  row : w.heap[g]? = some (.cells #[.slice L.AS s.S.length L.cS, .slice L.AT s.S.length L.cT, .slice L.AN s.S.length L.cN, .slice L.AD s.S.length L.cD, .int .i64 (s.P : Int)] 74 (0, 0))
  sr : intK.Row w base L.AS s.S.length L.cS s.S
  tr : intK.Row w base L.AT s.S.length L.cT s.T
  st : ∀ b ∈ blk L.AS, b ∉ blk L.AT
  nr : bsK.Row w base L.AN s.S.length L.cN (rowsV L.bN s.S.length s.P)
  dr : bsK.Row w base L.AD s.S.length L.cD (rowsV L.bD s.S.length s.P)
  nd : ∀ b ∈ blk L.AN, b ∉ blk L.AD
  nb : ∀ k, k < s.S.length → base ≤ L.bN k ∧ w.heap[L.bN k]? = some (.cells (bitsC (s.N.getD k [])) 4 (0, 0))
  db : ∀ k, k < s.S.length → base ≤ L.bD k ∧ w.heap[L.bD k]? = some (.cells (bitsC (s.D.getD k [])) 4 (0, 0))
  nn : ∀ j k, j < s.S.length → k < s.S.length → L.bN j = L.bN k → j = k
  dd : ∀ j k, j < s.S.length → k < s.S.length → L.bD j = L.bD k → j = k
  xx : ∀ j k, j < s.S.length → k < s.S.length → L.bN j ≠ L.bD k
  ln : s.N.length = s.S.length
  ld : s.D.length = s.S.length
  nl : ∀ k, k < s.S.length → (s.N.getD k []).length = s.P
  dl : ∀ k, k < s.S.length → (s.D.getD k []).length = s.P
  pz : s.P ≤ 8
  sz : s.S.length ≤ 32
structure CellsY (w : World) (g : Nat) (s : Yd) (L : YL) : Prop where
  c0 : w.cell? ⟨g, 0, none⟩ = some (.slice L.AS s.S.length L.cS)
  c1 : w.cell? ⟨g, 1, none⟩ = some (.slice L.AT s.S.length L.cT)
  c2 : w.cell? ⟨g, 2, none⟩ = some (.slice L.AN s.S.length L.cN)
  c3 : w.cell? ⟨g, 3, none⟩ = some (.slice L.AD s.S.length L.cD)
  c4 : w.cell? ⟨g, 4, none⟩ = some (.int .i64 (s.P : Int))
/-- Its blocks are of the set. -/
structure YL.In (L : YL) (m : Nat) (fp : Nat → Prop) : Prop where
  s : ∀ b ∈ blk L.AS, fp b
  t : ∀ b ∈ blk L.AT, fp b
  n : ∀ b ∈ blk L.AN, fp b
  d : ∀ b ∈ blk L.AD, fp b
  bn : ∀ k, k < m → fp (L.bN k)
  bd : ∀ k, k < m → fp (L.bD k)
section
variable {w w' : World} {base g k q : Nat} {s : Yd} {L : YL} {fp fq : Nat → Prop}
theorem RYard.lt (h : RYard w base g s L) : g < w.heap.size := (Array.getElem?_eq_some_iff.1 h.row).1
theorem RYard.cells (h : RYard w base g s L) : CellsY w g s L :=
  ⟨by rw [cell_of_row _ _ _ _ _ _ h.row]; rfl, by rw [cell_of_row _ _ _ _ _ _ h.row]; rfl, by rw [cell_of_row _ _ _ _ _ _ h.row]; rfl, by rw [cell_of_row _ _ _ _ _ _ h.row]; rfl, by rw [cell_of_row _ _ _ _ _ _ h.row]; rfl⟩
/-- It stays where its blocks do. -/
theorem RYard.stays (h : RYard w base g s L) (h0 : w'.heap[g]? = w.heap[g]?) (hi : L.In s.S.length fp) (hb : ∀ b, fp b → w'.heap[b]? = w.heap[b]?) : RYard w' base g s L :=
  ⟨h.base_le, h0.trans h.row, Row.at_block h.sr fun b hm => hb b (hi.s b hm), Row.at_block h.tr fun b hm => hb b (hi.t b hm), h.st, Row.at_block h.nr fun b hm => hb b (hi.n b hm), Row.at_block h.dr fun b hm => hb b (hi.d b hm), h.nd,
   fun k hk => ⟨(h.nb k hk).1, (hb _ (hi.bn k hk)).trans (h.nb k hk).2⟩, fun k hk => ⟨(h.db k hk).1, (hb _ (hi.bd k hk)).trans (h.db k hk).2⟩, h.nn, h.dd, h.xx, h.ln, h.ld, h.nl, h.dl, h.pz, h.sz⟩
theorem int_not_bool {b : Nat} {x y : Array Value} (h : w.heap[b]? = some (.cells x 3 (0, 0))) (k : w.heap[b]? = some (.cells y 4 (0, 0))) : False := absurd (other_type h k) (by decide)
theorem RYard.sAt (h : RYard w base g s L) (hk : k < s.S.length) : ∃ b, L.AS = some ⟨b, 0, none⟩ ∧ b ∈ blk L.AS ∧ w.cell? ⟨b, k, none⟩ = some (.int .i64 (s.S.getD k 0)) ∧ w.frozen? ⟨b, k, none⟩ = false := by
  rcases h.sr.row.2 with ⟨_, h0⟩ | ⟨b, cap, cur, hv, _, hg, _⟩
  · omega
  · injection hv with e1 e2 e3
    obtain ⟨ad, e4, _, e5⟩ := int_at h.sr.lie hk
    rw [e1] at e4
    obtain rfl := Option.some.inj e4
    rw [add_zero_addr] at e5
    exact ⟨b, e1, by rw [e1]; simp [blk], e5, by simp [World.frozen?, hg]⟩
theorem RYard.tAt (h : RYard w base g s L) (hk : k < s.S.length) : ∃ b, L.AT = some ⟨b, 0, none⟩ ∧ b ∈ blk L.AT ∧ w.cell? ⟨b, k, none⟩ = some (.int .i64 (s.T.getD k 0)) ∧ w.frozen? ⟨b, k, none⟩ = false := by
  rcases h.tr.row.2 with ⟨_, h0⟩ | ⟨b, cap, cur, hv, _, hg, _⟩
  · omega
  · injection hv with e1 e2 e3
    obtain ⟨ad, e4, _, e5⟩ := int_at h.tr.lie hk
    rw [e1] at e4
    obtain rfl := Option.some.inj e4
    rw [add_zero_addr] at e5
    exact ⟨b, e1, by rw [e1]; simp [blk], e5, by simp [World.frozen?, hg]⟩
theorem RYard.nAt (h : RYard w base g s L) (hk : k < s.S.length) : ∃ ad, L.AN = some ad ∧ w.cell? (ad.add k) = some (.slice (some ⟨L.bN k, 0, none⟩) s.P s.P) := by
  obtain ⟨ad, e1, _, e3⟩ := h.nr.lie.each k hk
  refine ⟨ad, e1, ?_⟩
  have := bsK_at (v := (rowsV L.bN s.S.length s.P).getD k BV.zero) e3
  rw [rowsV_at hk, show k * bsK.k = k from Nat.mul_one k] at this
  exact this
theorem RYard.dAt (h : RYard w base g s L) (hk : k < s.S.length) : ∃ ad, L.AD = some ad ∧ w.cell? (ad.add k) = some (.slice (some ⟨L.bD k, 0, none⟩) s.P s.P) := by
  obtain ⟨ad, e1, _, e3⟩ := h.dr.lie.each k hk
  refine ⟨ad, e1, ?_⟩
  have := bsK_at (v := (rowsV L.bD s.S.length s.P).getD k BV.zero) e3
  rw [rowsV_at hk, show k * bsK.k = k from Nat.mul_one k] at this
  exact this
theorem RYard.nBit (h : RYard w base g s L) (hk : k < s.S.length) (hq : q < s.P) : w.cell? ⟨L.bN k, q, none⟩ = some (.bool ((s.N.getD k []).getD q false)) ∧ w.frozen? ⟨L.bN k, q, none⟩ = false :=
  ⟨by rw [cell_of_row _ _ _ _ _ _ (h.nb k hk).2]; exact bitsC_at (by rw [h.nl k hk]; exact hq), by simp [World.frozen?, (h.nb k hk).2]⟩
theorem RYard.dBit (h : RYard w base g s L) (hk : k < s.S.length) (hq : q < s.P) : w.cell? ⟨L.bD k, q, none⟩ = some (.bool ((s.D.getD k []).getD q false)) ∧ w.frozen? ⟨L.bD k, q, none⟩ = false :=
  ⟨by rw [cell_of_row _ _ _ _ _ _ (h.db k hk).2]; exact bitsC_at (by rw [h.dl k hk]; exact hq), by simp [World.frozen?, (h.db k hk).2]⟩
/- what a store leaves -/
/-- A store into a row of numbers: rows of other types stay. -/
theorem set_else {b c k : Nat} {x : Array Value} {T : TypeId} {v : Value} (hc : w.heap[c]? = some (.cells x T (0, 0))) (h : b ≠ c) : (w.setCell ⟨b, k, none⟩ v).heap[c]? = some (.cells x T (0, 0)) := (setCell_heap w b k c v (Ne.symm h)).trans hc
theorem RYard.putS (h : RYard w base g s L) {b : Nat} (hA : L.AS = some ⟨b, 0, none⟩) (hk : k < s.S.length) {x : Int} (hx : intK.wf x) : RYard (w.setCell ⟨b, k, none⟩ (.int .i64 x)) base g (s.setS k x) L := by
  obtain ⟨cur, hcur⟩ := Row.typed h.sr b (by rw [hA]; simp [blk])
  have ne : ∀ {c : Nat} {y : Array Value} {T : TypeId}, w.heap[c]? = some (.cells y T (0, 0)) → intK.T ≠ T → b ≠ c := fun hc hT e => hT (other_type (w := w) (b := b) hcur (e ▸ hc))
  have hrow : ∀ {A : Option Addr} {n c : Nat} {vs : List BV}, bsK.Row w base A n c vs → bsK.Row (w.setCell ⟨b, k, none⟩ (.int .i64 x)) base A n c vs := fun hr => Row.at_block hr fun c hc => by
    obtain ⟨y, hy⟩ := Row.typed hr c hc
    exact setCell_heap w b k c _ (Ne.symm (ne hy (by decide)))
  have hl : (s.setS k x).S.length = s.S.length := by simp [Yd.setS]
  refine ⟨h.base_le, ?_, ?_, ?_, h.st, ?_, ?_, h.nd, ?_, ?_, ?_, ?_, ?_, ?_, ?_, ?_, ?_, h.pz, ?_⟩
  all_goals simp only [hl]
  · exact set_else h.row (ne h.row (by decide))
  · have hr := h.sr
    rw [hA] at hr ⊢
    have := hr.put (i := k) (r := 0) hk (by decide) (.int .i64 x) x rfl hx
    rwa [show k * intK.k + 0 = k from Nat.mul_one k] at this
  · exact Row.at_block h.tr fun c hc => setCell_heap w b k c _ (fun e => h.st b (by rw [hA]; simp [blk]) (e ▸ hc))
  · exact hrow h.nr
  · exact hrow h.dr
  · exact fun j hj => ⟨(h.nb j hj).1, set_else (h.nb j hj).2 (ne (h.nb j hj).2 (by decide))⟩
  · exact fun j hj => ⟨(h.db j hj).1, set_else (h.db j hj).2 (ne (h.db j hj).2 (by decide))⟩
  · exact h.nn
  · exact h.dd
  · exact h.xx
  · exact h.ln
  · exact h.ld
  · exact h.nl
  · exact h.dl
  · exact h.sz
theorem RYard.putT (h : RYard w base g s L) {b : Nat} (hA : L.AT = some ⟨b, 0, none⟩) (hk : k < s.S.length) {x : Int} (hx : intK.wf x) : RYard (w.setCell ⟨b, k, none⟩ (.int .i64 x)) base g (s.setT k x) L := by
  obtain ⟨cur, hcur⟩ := Row.typed h.tr b (by rw [hA]; simp [blk])
  have ne : ∀ {c : Nat} {y : Array Value} {T : TypeId}, w.heap[c]? = some (.cells y T (0, 0)) → intK.T ≠ T → b ≠ c := fun hc hT e => hT (other_type (w := w) (b := b) hcur (e ▸ hc))
  have hrow : ∀ {A : Option Addr} {n c : Nat} {vs : List BV}, bsK.Row w base A n c vs → bsK.Row (w.setCell ⟨b, k, none⟩ (.int .i64 x)) base A n c vs := fun hr => Row.at_block hr fun c hc => by
    obtain ⟨y, hy⟩ := Row.typed hr c hc
    exact setCell_heap w b k c _ (Ne.symm (ne hy (by decide)))
  refine ⟨h.base_le, set_else h.row (ne h.row (by decide)), ?_, ?_, h.st, hrow h.nr, hrow h.dr, h.nd, fun j hj => ⟨(h.nb j hj).1, set_else (h.nb j hj).2 (ne (h.nb j hj).2 (by decide))⟩, fun j hj => ⟨(h.db j hj).1, set_else (h.db j hj).2 (ne (h.db j hj).2 (by decide))⟩, h.nn, h.dd, h.xx, h.ln, h.ld, h.nl, h.dl, h.pz, h.sz⟩
  · exact Row.at_block h.sr fun c hc => setCell_heap w b k c _ (fun e => h.st c hc (by rw [hA, e]; simp [blk]))
  · have hr := h.tr
    rw [hA] at hr ⊢
    have := hr.put (i := k) (r := 0) hk (by decide) (.int .i64 x) x rfl hx
    rwa [show k * intK.k + 0 = k from Nat.mul_one k] at this
theorem RYard.putN (h : RYard w base g s L) (hk : k < s.S.length) (x : Bool) : RYard (w.setCell ⟨L.bN k, q, none⟩ (.bool x)) base g (s.setN k q x) L := by
  have hcur := (h.nb k hk).2
  have ne : ∀ {c : Nat} {y : Array Value} {T : TypeId}, w.heap[c]? = some (.cells y T (0, 0)) → 4 ≠ T → L.bN k ≠ c := fun hc hT e => hT (other_type (w := w) (b := L.bN k) hcur (e ▸ hc))
  have hrow : ∀ {A : Option Addr} {n c : Nat} {vs : List BV}, bsK.Row w base A n c vs → bsK.Row (w.setCell ⟨L.bN k, q, none⟩ (.bool x)) base A n c vs := fun hr => Row.at_block hr fun c hc => by
    obtain ⟨y, hy⟩ := Row.typed hr c hc
    exact setCell_heap w (L.bN k) q c _ (Ne.symm (ne hy (by decide)))
  have hint : ∀ {A : Option Addr} {n c : Nat} {vs : List Int}, intK.Row w base A n c vs → intK.Row (w.setCell ⟨L.bN k, q, none⟩ (.bool x)) base A n c vs := fun hr => Row.at_block hr fun c hc => by
    obtain ⟨y, hy⟩ := Row.typed hr c hc
    exact setCell_heap w (L.bN k) q c _ (Ne.symm (ne hy (by decide)))
  have hN : ∀ j, (s.setN k q x).N.getD j [] = if j = k then (s.N.getD k []).set q x else s.N.getD j [] := fun j => by
    show (s.N.set k _).getD j [] = _
    rw [getD_setY]
    by_cases e : j = k
    · rw [if_pos e, if_pos ⟨e, by rw [h.ln]; exact hk⟩]
    · rw [if_neg e, if_neg (fun hh => e hh.1)]
  refine ⟨h.base_le, set_else h.row (ne h.row (by decide)), hint h.sr, hint h.tr, h.st, hrow h.nr, hrow h.dr, h.nd, fun j hj => ⟨(h.nb j hj).1, ?_⟩, fun j hj => ⟨(h.db j hj).1, set_else (h.db j hj).2 (h.xx k j hk hj)⟩, h.nn, h.dd, h.xx, ?_, h.ld, fun j hj => ?_, h.dl, h.pz, h.sz⟩
  · rw [hN]
    by_cases e : j = k
    · subst e
      rw [if_pos rfl]
      have := hcur
      rw [← bitsC_set]
      simp [World.setCell, Array.getElem?_modify, hcur]
    · rw [if_neg e]; exact set_else (h.nb j hj).2 (fun e2 => e (h.nn k j hk hj e2).symm)
  · show (s.N.set k _).length = _
    rw [List.length_set]; exact h.ln
  · rw [hN]
    split
    · rw [List.length_set]; exact h.nl k hk
    · exact h.nl j hj
theorem RYard.putD (h : RYard w base g s L) (hk : k < s.S.length) (x : Bool) : RYard (w.setCell ⟨L.bD k, q, none⟩ (.bool x)) base g (s.setD k q x) L := by
  have hcur := (h.db k hk).2
  have ne : ∀ {c : Nat} {y : Array Value} {T : TypeId}, w.heap[c]? = some (.cells y T (0, 0)) → 4 ≠ T → L.bD k ≠ c := fun hc hT e => hT (other_type (w := w) (b := L.bD k) hcur (e ▸ hc))
  have hrow : ∀ {A : Option Addr} {n c : Nat} {vs : List BV}, bsK.Row w base A n c vs → bsK.Row (w.setCell ⟨L.bD k, q, none⟩ (.bool x)) base A n c vs := fun hr => Row.at_block hr fun c hc => by
    obtain ⟨y, hy⟩ := Row.typed hr c hc
    exact setCell_heap w (L.bD k) q c _ (Ne.symm (ne hy (by decide)))
  have hint : ∀ {A : Option Addr} {n c : Nat} {vs : List Int}, intK.Row w base A n c vs → intK.Row (w.setCell ⟨L.bD k, q, none⟩ (.bool x)) base A n c vs := fun hr => Row.at_block hr fun c hc => by
    obtain ⟨y, hy⟩ := Row.typed hr c hc
    exact setCell_heap w (L.bD k) q c _ (Ne.symm (ne hy (by decide)))
  have hD : ∀ j, (s.setD k q x).D.getD j [] = if j = k then (s.D.getD k []).set q x else s.D.getD j [] := fun j => by
    show (s.D.set k _).getD j [] = _
    rw [getD_setY]
    by_cases e : j = k
    · rw [if_pos e, if_pos ⟨e, by rw [h.ld]; exact hk⟩]
    · rw [if_neg e, if_neg (fun hh => e hh.1)]
  refine ⟨h.base_le, set_else h.row (ne h.row (by decide)), hint h.sr, hint h.tr, h.st, hrow h.nr, hrow h.dr, h.nd, fun j hj => ⟨(h.nb j hj).1, set_else (h.nb j hj).2 (Ne.symm (h.xx j k hj hk))⟩, fun j hj => ⟨(h.db j hj).1, ?_⟩, h.nn, h.dd, h.xx, h.ln, ?_, h.nl, fun j hj => ?_, h.pz, h.sz⟩
  · rw [hD]
    by_cases e : j = k
    · subst e
      rw [if_pos rfl, ← bitsC_set]
      simp [World.setCell, Array.getElem?_modify, hcur]
    · rw [if_neg e]; exact set_else (h.db j hj).2 (fun e2 => e (h.dd k j hk hj e2).symm)
  · show (s.D.set k _).length = _
    rw [List.length_set]; exact h.ld
  · rw [hD]
    split
    · rw [List.length_set]; exact h.dl k hk
    · exact h.dl j hj
end
/-- The same as an object apart: its blocks are of the set fp. -/
structure RefY (w : World) (base : Nat) (fp : Nat → Prop) (g : Nat) (s : Yd) : Prop where
  ex : ∃ L, RYard w base g s L ∧ L.In s.S.length fp
  own : fp g
  ge : ∀ b, fp b → base ≤ b
  lt : ∀ b, fp b → b < w.heap.size
  wf : YW s
section
variable {w w' : World} {base g : Nat} {s : Yd} {L : YL} {fp fq : Nat → Prop}
theorem RefY.keep (h : RefY w base fp g s) (ht : Turn fq w w') (hd : Two fq fp) : RefY w' base fp g s := by
  obtain ⟨L, h1, h2⟩ := h.ex
  have hb : ∀ b, fp b → w'.heap[b]? = w.heap[b]? := fun b hb => ht.block b (h.lt b hb) fun hq => hd b hq hb
  exact ⟨⟨L, h1.stays (hb g h.own) h2 hb, h2⟩, h.own, h.ge, fun b hb => Nat.lt_of_lt_of_le (h.lt b hb) ht.size, h.wf⟩
theorem RYard.elder {base' : Nat} (h : RYard w base g s L) (hb : base' ≤ base) : RYard w base' g s L :=
  ⟨Nat.le_trans hb h.base_le, h.row, h.sr.elder hb, h.tr.elder hb, h.st, h.nr.elder hb, h.dr.elder hb, h.nd, fun k hk => ⟨Nat.le_trans hb (h.nb k hk).1, (h.nb k hk).2⟩, fun k hk => ⟨Nat.le_trans hb (h.db k hk).1, (h.db k hk).2⟩, h.nn, h.dd, h.xx, h.ln, h.ld, h.nl, h.dl, h.pz, h.sz⟩
theorem RefY.elder {base' : Nat} (h : RefY w base fp g s) (hb : base' ≤ base) : RefY w base' fp g s := by
  obtain ⟨L, h1, h2⟩ := h.ex
  exact ⟨⟨L, h1.elder hb, h2⟩, h.own, fun b hm => Nat.le_trans hb (h.ge b hm), h.lt, h.wf⟩
theorem RefY.since (h : RefY w base fp g s) (hb : Below w.heap.size w w') : RefY w' base fp g s := h.keep (fq := fun _ => False) (Turn.of_below hb) fun b hb => hb.elim
theorem RefY.base_le (h : RefY w base fp g s) : base ≤ w.heap.size := Nat.le_of_lt (Nat.lt_of_le_of_lt (h.ge g h.own) (h.lt g h.own))
/-- A store into one of its blocks. -/
theorem RefY.turned {s' : Yd} (h : RefY w base fp g s) (h1 : RYard w' base g s' L) (hl : s'.S.length = s.S.length) (h2 : L.In s.S.length fp) (ht : Turn fp w w') (hw : YW s') : RefY w' base fp g s' :=
  ⟨⟨L, h1, by rw [hl]; exact h2⟩, h.own, h.ge, fun b hb => Nat.lt_of_lt_of_le (h.lt b hb) ht.size, hw⟩
end
/-- What a call leaves that turns it, and answers a number. -/
def RLeads (w : World) (base : Nat) (fp : Nat → Prop) (g : Nat) (r : Yd × Int) (e : Ending) (w' : World) : Prop :=
  e = .returned (.int .i64 r.2) ∧ RefY w' base fp g r.1 ∧ Moves w fp w' fp
end Go.Proofs.Ytmfpelgkjgpfmaa
