/- The landed disk in memory: its cells, its sectors' cells, what waits; what each store leaves. No conditions. -/
import Derived.Test.YtfhfjfgajbgdcaaRefNew
import Derived.Test.YtfhfjfgajbgdcaaMoves
import Derived.Test.YtfhfjfgajbgdcaaQuiet
set_option linter.unusedVariables false
set_option linter.unusedSimpArgs false
namespace Go.Proofs.Ytfhfjfgajbgdcaa
open Go.RowKit

/-- All blocks but those of one type stay. -/
def KeepN (w w' : World) (T0 : TypeId) : Prop := ∀ (b : Nat) (cur : Array Value) (T : TypeId), w.heap[b]? = some (.cells cur T (0, 0)) → T ≠ T0 → w'.heap[b]? = w.heap[b]?
section
variable {w w' : World} {base n c : Nat} {A : Option Addr} {bs : List Nat} {T0 : TypeId}
theorem keepN_setCell {b0 k : Nat} {v : Value} {cur0 : Array Value} (h0 : w.heap[b0]? = some (.cells cur0 T0 (0, 0))) : KeepN w (w.setCell ⟨b0, k, none⟩ v) T0 := fun b cur T hb hT =>
  setCell_heap w b0 k b v fun e => by
    subst e
    exact hT (other_type hb h0)
theorem keepN_below (h : Below w.heap.size w w') : KeepN w w' T0 := fun b cur T hb _ => h.block b (Array.getElem?_eq_some_iff.1 hb).1
theorem keepN_grown {α : Type} {K : Kind α} {vs : List α} (hr : K.Row w base A n c vs) (hg : w.grownBy w' (Value.slice A n c).ownBlock) : KeepN w w' K.T := fun b cur T hb hT => hg.block b (Array.getElem?_eq_some_iff.1 hb).1 fun e => by
  have hm : b ∈ blk A := by
    cases A with
    | none => cases e
    | some a => simp [blk]; simpa [Value.ownBlock] using e
  obtain ⟨cur2, hc⟩ := Row.typed hr b hm
  exact hT (other_type hb hc)
theorem Own.keepN (h : Own w base A n c bs) (k : KeepN w w' T0) (hT : 5 ≠ T0) : Own w' base A n c bs := h.at_block fun b hb => by
  obtain ⟨cur, hc⟩ := h.typed b hb
  exact k b cur _ hc hT
theorem Row.keepN {α : Type} {K : Kind α} {vs : List α} (h : K.Row w base A n c vs) (k : KeepN w w' T0) (hT : K.T ≠ T0) : K.Row w' base A n c vs := Row.at_block h fun b hb => by
  obtain ⟨cur, hc⟩ := Row.typed h b hb
  exact k b cur _ hc hT
end
/-- A sector, as its cells have it. -/
structure TV where
  f : SV
  l : SV
  b : Bool
def TV.zero : TV := ⟨SV.zero, SV.zero, false⟩
theorem infoT : (Try.prog.info? 63).map (fun i => (i.zero, i.size, i.bytes)) = some (some (.agg #[.slice none 0 0, .slice none 0 0, .bool false]), 3, 56) := by kernel_rfl
def secK : Kind TV where
  T := 63
  L := 58
  k := 3
  cv := fun v => [.slice v.f.a v.f.n v.f.c, .slice v.l.a v.l.n v.l.c, .bool v.b]
  wf := fun _ => True
  dflt := TV.zero
  len := fun v => rfl
  one := fun v u hu => by
    simp only [List.mem_cons, List.not_mem_nil, or_false] at hu
    rcases hu with rfl | rfl | rfl <;> rfl
  pos := by decide
  ok := trivial
  under := Try.underlying58
  elem := by kernel_rfl
  info := by
    obtain ⟨i0, hi, hz0, hz1, hz2⟩ := info_parts infoT
    exact ⟨i0, _, hi, hz0, hz1, by rw [hz2]; omega, rfl⟩
theorem infoWt : (Try.prog.info? 74).map (fun i => (i.zero, i.size, i.bytes)) = some (some (.agg #[.int .i64 0, .slice none 0 0]), 2, 32) := by kernel_rfl
def wrtK : Kind WV where
  T := 74
  L := 59
  k := 2
  cv := fun v => [.int .i64 v.at_, .slice v.s.a v.s.n v.s.c]
  wf := fun v => True
  dflt := ⟨0, SV.zero⟩
  len := fun v => rfl
  one := fun v u hu => by
    simp only [List.mem_cons, List.not_mem_nil, or_false] at hu
    rcases hu with rfl | rfl <;> rfl
  pos := by decide
  ok := trivial
  under := Try.underlying59
  elem := by kernel_rfl
  info := by
    obtain ⟨i0, hi, hz0, hz1, hz2⟩ := info_parts infoWt
    exact ⟨i0, _, hi, hz0, hz1, by rw [hz2]; omega, rfl⟩
theorem secK_T : secK.T = 63 := rfl
theorem wrtK_T : wrtK.T = 74 := rfl
/-- Where it stands. -/
structure DL where
  ab : Addr
  cS : Nat
  vS : List TV
  AW : Option Addr
  cW : Nat
  vW : List WV
def DL.sec (L : DL) (k : Nat) : TV := L.vS.getD k TV.zero
def DL.wrt (L : DL) (k : Nat) : WV := L.vW.getD k ⟨0, SV.zero⟩
structure DCore (w : World) (base g z : Nat) (F La : List (List Nat)) (B : List Bool) (L : DL) (nW : Nat) : Prop where
  base_le : base ≤ g
  row : w.heap[g]? = some (.cells #[.int .i64 (z : Int), .slice (some L.ab) F.length L.cS, .slice L.AW nW L.cW] 61 (0, 0))
  sr : secK.Row w base (some L.ab) F.length L.cS L.vS
  fb : ∀ k, k < F.length → Own w base (L.sec k).f.a (L.sec k).f.n (L.sec k).f.c (F.getD k [])
  lb : ∀ k, k < F.length → Own w base (L.sec k).l.a (L.sec k).l.n (L.sec k).l.c (La.getD k [])
  bb : ∀ k, k < F.length → (L.sec k).b = B.getD k false
  lenL : La.length = F.length
  lenB : B.length = F.length
  few : F.length ≤ 256
  sizes : ∀ k, (F.getD k []).length ≤ 256
  sizel : ∀ k, (La.getD k []).length ≤ 256
structure DWait (w : World) (base nF : Nat) (W : List (Int × List Nat)) (A : Option Addr) (c : Nat) (vW : List WV) : Prop where
  wr : wrtK.Row w base A W.length c vW
  wb : ∀ k, k < W.length → (vW.getD k ⟨0, SV.zero⟩).at_ = (waitAt W k).1 ∧ Own w base (vW.getD k ⟨0, SV.zero⟩).s.a (vW.getD k ⟨0, SV.zero⟩).s.n (vW.getD k ⟨0, SV.zero⟩).s.c (waitAt W k).2
  many : W.length ≤ 1000
  sizew : ∀ k, (waitAt W k).2.length ≤ 256
  ins : ∀ k, k < W.length → 0 ≤ (waitAt W k).1 ∧ (waitAt W k).1 < (nF : Int)
structure CellsT (w : World) (p : Addr) (v : TV) : Prop where
  c0 : w.cell? p = some (.slice v.f.a v.f.n v.f.c)
  c1 : w.cell? ⟨p.block, p.off + 1, none⟩ = some (.slice v.l.a v.l.n v.l.c)
  c2 : w.cell? ⟨p.block, p.off + 2, none⟩ = some (.bool v.b)
theorem cellsT_of {w : World} {p : Addr} {v : TV} (h : secK.At w p v) : CellsT w p v :=
  ⟨by have := h 0 (.slice v.f.a v.f.n v.f.c) rfl; rwa [add_none] at this, by have := h 1 (.slice v.l.a v.l.n v.l.c) rfl; rwa [add_at p 0] at this, by have := h 2 (.bool v.b) rfl; rwa [add_at p 1] at this⟩
section
variable {w w' : World} {base g z nW nF k : Nat} {F La : List (List Nat)} {B : List Bool} {L : DL} {W : List (Int × List Nat)} {A : Option Addr} {c : Nat} {vW : List WV}
theorem DCore.glt (h : DCore w base g z F La B L nW) : g < w.heap.size := (Array.getElem?_eq_some_iff.1 h.row).1
theorem DCore.free (h : DCore w base g z F La B L nW) (k : Nat) : w.frozen? ⟨g, k, none⟩ = false := by simp [World.frozen?, h.row]
theorem DCore.c0 (h : DCore w base g z F La B L nW) : w.cell? ⟨g, 0, none⟩ = some (.int .i64 (z : Int)) := by rw [cell_of_row _ _ _ _ _ _ h.row]; rfl
theorem DCore.c1 (h : DCore w base g z F La B L nW) : w.cell? ⟨g, 1, none⟩ = some (.slice (some L.ab) F.length L.cS) := by rw [cell_of_row _ _ _ _ _ _ h.row]; rfl
theorem DCore.c2 (h : DCore w base g z F La B L nW) : w.cell? ⟨g, 2, none⟩ = some (.slice L.AW nW L.cW) := by rw [cell_of_row _ _ _ _ _ _ h.row]; rfl
theorem DCore.keep (h : DCore w base g z F La B L nW) (hg : w'.heap[g]? = w.heap[g]?) (hs : w'.heap[L.ab.block]? = w.heap[L.ab.block]?) (hf : ∀ k, k < F.length → ∀ b ∈ blk (L.sec k).f.a, w'.heap[b]? = w.heap[b]?) (hl : ∀ k, k < F.length → ∀ b ∈ blk (L.sec k).l.a, w'.heap[b]? = w.heap[b]?) : DCore w' base g z F La B L nW :=
  ⟨h.base_le, hg.trans h.row, Row.at_block h.sr fun b hb => by
    have : b = L.ab.block := by simpa [blk] using hb
    rw [this]; exact hs, fun k hk => (h.fb k hk).at_block (hf k hk), fun k hk => (h.lb k hk).at_block (hl k hk), h.bb, h.lenL, h.lenB, h.few, h.sizes, h.sizel⟩
theorem DCore.since (h : DCore w base g z F La B L nW) (hb : Below w.heap.size w w') : DCore w' base g z F La B L nW :=
  h.keep (hb.block g h.glt) (hb.block _ (Row.blk_lt h.sr _ (by simp [blk]))) (fun k hk b hb' => hb.block b ((h.fb k hk).blk_lt b hb')) (fun k hk b hb' => hb.block b ((h.lb k hk).blk_lt b hb'))
theorem DCore.elder (h : DCore w base g z F La B L nW) {base' : Nat} (hb : base' ≤ base) : DCore w base' g z F La B L nW :=
  ⟨Nat.le_trans hb h.base_le, h.row, h.sr.elder hb, fun k hk => (h.fb k hk).elder hb, fun k hk => (h.lb k hk).elder hb, h.bb, h.lenL, h.lenB, h.few, h.sizes, h.sizel⟩
/-- A store elsewhere, by the block's type. -/
theorem DCore.keepN {T0 : TypeId} (h : DCore w base g z F La B L nW) (hk : KeepN w w' T0) (h1 : 61 ≠ T0) (h2 : 63 ≠ T0) (h3 : 5 ≠ T0) : DCore w' base g z F La B L nW :=
  ⟨h.base_le, (hk _ _ _ h.row h1).trans h.row, Row.keepN h.sr hk h2, fun k hk' => (h.fb k hk').keepN hk h3, fun k hk' => (h.lb k hk').keepN hk h3, h.bb, h.lenL, h.lenB, h.few, h.sizes, h.sizel⟩
theorem DWait.since (h : DWait w base nF W A c vW) (hb : Below w.heap.size w w') : DWait w' base nF W A c vW :=
  ⟨h.wr.since hb, fun k hk => ⟨(h.wb k hk).1, (h.wb k hk).2.since hb⟩, h.many, h.sizew, h.ins⟩
theorem DWait.elder (h : DWait w base nF W A c vW) {base' : Nat} (hb : base' ≤ base) : DWait w base' nF W A c vW :=
  ⟨h.wr.elder hb, fun k hk => ⟨(h.wb k hk).1, (h.wb k hk).2.elder hb⟩, h.many, h.sizew, h.ins⟩
theorem DWait.keepN {T0 : TypeId} (h : DWait w base nF W A c vW) (hk : KeepN w w' T0) (h2 : 74 ≠ T0) (h3 : 5 ≠ T0) : DWait w' base nF W A c vW :=
  ⟨Row.keepN h.wr hk h2, fun k hk' => ⟨(h.wb k hk').1, (h.wb k hk').2.keepN hk h3⟩, h.many, h.sizew, h.ins⟩
/-- The sectors' row begins its block. -/
theorem DCore.ab (h : DCore w base g z F La B L nW) : L.ab = ⟨L.ab.block, 0, none⟩ := by
  rcases h.sr.row.2 with ⟨hv, _⟩ | ⟨b, cap, cur, hv, _⟩
  · injection hv with h1; cases h1
  · injection hv with h1
    rw [Option.some.inj h1]
theorem place3 {a : Addr} (h : a = ⟨a.block, 0, none⟩) (k : Nat) : a.add (k * 3) = ⟨a.block, k * 3, none⟩ := by
  rw [h]
  unfold Addr.add
  split
  · next h0 => rw [h0]
  · simp
theorem DCore.place (h : DCore w base g z F La B L nW) (k : Nat) : L.ab.add (k * 3) = ⟨L.ab.block, k * 3, none⟩ := place3 h.ab k
theorem DCore.sector (h : DCore w base g z F La B L nW) (hk : k < F.length) : CellsT w (L.ab.add (k * 3)) (L.sec k) := by
  obtain ⟨ad, e1, e2, e3⟩ := h.sr.lie.each k hk
  obtain rfl := Option.some.inj e1
  exact cellsT_of (v := L.sec k) e3
theorem DCore.free3 (h : DCore w base g z F La B L nW) (k r : Nat) : w.frozen? ⟨(L.ab.add (k * 3)).block, (L.ab.add (k * 3)).off + r, none⟩ = false := by
  rw [h.place k]
  have hb := h.sr.row
  rw [h.ab] at hb
  exact hb.frozenAt _
theorem DCore.free0 (h : DCore w base g z F La B L nW) (k : Nat) : w.frozen? (L.ab.add (k * 3)) = false := by
  rw [h.place k]
  have hb := h.sr.row
  rw [h.ab] at hb
  exact hb.frozenAt _
theorem DCore.vlen (h : DCore w base g z F La B L nW) : L.vS.length = F.length := h.sr.len
theorem DCore.slt (h : DCore w base g z F La B L nW) : L.ab.block < w.heap.size := Row.blk_lt h.sr _ (by simp [blk])
theorem DCore.typedS (h : DCore w base g z F La B L nW) : ∃ cur, w.heap[L.ab.block]? = some (.cells cur 63 (0, 0)) := Row.typed h.sr _ (by simp [blk])
theorem DWait.wait (h : DWait w base nF W A c vW) (hk : k < W.length) : ∃ ad A1 n1 c1, A = some ad ∧ ad.block < w.heap.size ∧ w.cell? (ad.add (k * 2)) = some (.int .i64 (waitAt W k).1) ∧ w.cell? ⟨(ad.add (k * 2)).block, (ad.add (k * 2)).off + 1, none⟩ = some (.slice A1 n1 c1) ∧ Own w base A1 n1 c1 (waitAt W k).2 ∧ (⟨A1, n1, c1⟩ : SV) = (vW.getD k ⟨0, SV.zero⟩).s := by
  obtain ⟨ad, e1, e2, e3⟩ := h.wr.lie.each k hk
  obtain ⟨h1, h2⟩ := h.wb k hk
  have c0 := e3 0 (.int .i64 (vW.getD k ⟨0, SV.zero⟩).at_) rfl
  have c1 := e3 1 (.slice (vW.getD k ⟨0, SV.zero⟩).s.a (vW.getD k ⟨0, SV.zero⟩).s.n (vW.getD k ⟨0, SV.zero⟩).s.c) rfl
  rw [add_none] at c0
  rw [add_at _ 0] at c1
  refine ⟨ad, _, _, _, e1, e2, ?_, c1, h2, rfl⟩
  rw [← h1]; exact c0
theorem getD_setN {α : Type} (l : List α) (k i : Nat) (x d : α) (h : k < l.length) : (l.set k x).getD i d = if i = k then x else l.getD i d := by
  rw [List.getD_eq_getElem?_getD, List.getD_eq_getElem?_getD, List.getElem?_set]
  by_cases e : i = k
  · subst e; simp [h]
  · simp [e, Ne.symm e]
/-- s.firm = v -/
theorem DCore.putF (h : DCore w base g z F La B L nW) (hk : k < F.length) {v : SV} {bs : List Nat} (ho : Own w base v.a v.n v.c bs) (hz : bs.length ≤ 256) :
    DCore (w.setCell (L.ab.add (k * 3)) (.slice v.a v.n v.c)) base g z (F.set k bs) La B { L with vS := L.vS.set k { L.sec k with f := v } } nW := by
  obtain ⟨cur, hc⟩ := h.typedS
  rw [h.place k]
  have hK : KeepN w (w.setCell ⟨L.ab.block, k * 3, none⟩ (.slice v.a v.n v.c)) 63 := keepN_setCell hc
  have hsr : secK.Row (w.setCell ⟨L.ab.block, k * 3, none⟩ (.slice v.a v.n v.c)) base (some L.ab) F.length L.cS (L.vS.set k { L.sec k with f := v }) := by
    have hr := h.sr
    rw [h.ab] at hr ⊢
    exact hr.put (i := k) (r := 0) hk (by decide) (.slice v.a v.n v.c) { L.sec k with f := v } rfl trivial
  have hsec : ∀ i, (L.vS.set k { L.sec k with f := v }).getD i TV.zero = if i = k then { L.sec k with f := v } else L.sec i := fun i => getD_setN _ _ _ _ _ (by rw [h.vlen]; exact hk)
  refine ⟨h.base_le, ?_, by rw [List.length_set]; exact hsr, fun i hi => ?_, fun i hi => ?_, fun i hi => ?_, by rw [List.length_set]; exact h.lenL, by rw [List.length_set]; exact h.lenB, by rw [List.length_set]; exact h.few, fun i => ?_, h.sizel⟩
  · rw [List.length_set]
    exact (hK _ _ _ h.row (by decide)).trans h.row
  · rw [List.length_set] at hi
    show Own _ base ((L.vS.set k { L.sec k with f := v }).getD i TV.zero).f.a ((L.vS.set k { L.sec k with f := v }).getD i TV.zero).f.n ((L.vS.set k { L.sec k with f := v }).getD i TV.zero).f.c ((F.set k bs).getD i [])
    rw [hsec, getD_setN _ _ _ _ _ hk]
    by_cases e : i = k
    · rw [if_pos e, if_pos e]; exact ho.keepN hK (by decide)
    · rw [if_neg e, if_neg e]; exact (h.fb i hi).keepN hK (by decide)
  · rw [List.length_set] at hi
    show Own _ base ((L.vS.set k { L.sec k with f := v }).getD i TV.zero).l.a ((L.vS.set k { L.sec k with f := v }).getD i TV.zero).l.n ((L.vS.set k { L.sec k with f := v }).getD i TV.zero).l.c (La.getD i [])
    rw [hsec]
    by_cases e : i = k
    · rw [if_pos e, e]; exact (h.lb k hk).keepN hK (by decide)
    · rw [if_neg e]; exact (h.lb i hi).keepN hK (by decide)
  · rw [List.length_set] at hi
    show ((L.vS.set k { L.sec k with f := v }).getD i TV.zero).b = B.getD i false
    rw [hsec]
    by_cases e : i = k
    · rw [if_pos e, e]; exact h.bb k hk
    · rw [if_neg e]; exact h.bb i hi
  · rw [getD_setN _ _ _ _ _ hk]
    by_cases e : i = k
    · rw [if_pos e]; exact hz
    · rw [if_neg e]; exact h.sizes i
/-- s.last = v -/
theorem DCore.putL (h : DCore w base g z F La B L nW) (hk : k < F.length) {v : SV} {bs : List Nat} (ho : Own w base v.a v.n v.c bs) (hz : bs.length ≤ 256) :
    DCore (w.setCell ⟨(L.ab.add (k * 3)).block, (L.ab.add (k * 3)).off + 1, none⟩ (.slice v.a v.n v.c)) base g z F (La.set k bs) B { L with vS := L.vS.set k { L.sec k with l := v } } nW := by
  obtain ⟨cur, hc⟩ := h.typedS
  rw [h.place k]
  have hK : KeepN w (w.setCell ⟨L.ab.block, k * 3 + 1, none⟩ (.slice v.a v.n v.c)) 63 := keepN_setCell hc
  have hsr : secK.Row (w.setCell ⟨L.ab.block, k * 3 + 1, none⟩ (.slice v.a v.n v.c)) base (some L.ab) F.length L.cS (L.vS.set k { L.sec k with l := v }) := by
    have hr := h.sr
    rw [h.ab] at hr ⊢
    exact hr.put (i := k) (r := 1) hk (by decide) (.slice v.a v.n v.c) { L.sec k with l := v } rfl trivial
  have hsec : ∀ i, (L.vS.set k { L.sec k with l := v }).getD i TV.zero = if i = k then { L.sec k with l := v } else L.sec i := fun i => getD_setN _ _ _ _ _ (by rw [h.vlen]; exact hk)
  have hkl : k < La.length := by rw [h.lenL]; exact hk
  refine ⟨h.base_le, (hK _ _ _ h.row (by decide)).trans h.row, hsr, fun i hi => ?_, fun i hi => ?_, fun i hi => ?_, by rw [List.length_set]; exact h.lenL, h.lenB, h.few, h.sizes, fun i => ?_⟩
  · show Own _ base ((L.vS.set k { L.sec k with l := v }).getD i TV.zero).f.a ((L.vS.set k { L.sec k with l := v }).getD i TV.zero).f.n ((L.vS.set k { L.sec k with l := v }).getD i TV.zero).f.c (F.getD i [])
    rw [hsec]
    by_cases e : i = k
    · rw [if_pos e, e]; exact (h.fb k hk).keepN hK (by decide)
    · rw [if_neg e]; exact (h.fb i hi).keepN hK (by decide)
  · show Own _ base ((L.vS.set k { L.sec k with l := v }).getD i TV.zero).l.a ((L.vS.set k { L.sec k with l := v }).getD i TV.zero).l.n ((L.vS.set k { L.sec k with l := v }).getD i TV.zero).l.c ((La.set k bs).getD i [])
    rw [hsec, getD_setN _ _ _ _ _ hkl]
    by_cases e : i = k
    · rw [if_pos e, if_pos e]; exact ho.keepN hK (by decide)
    · rw [if_neg e, if_neg e]; exact (h.lb i hi).keepN hK (by decide)
  · show ((L.vS.set k { L.sec k with l := v }).getD i TV.zero).b = B.getD i false
    rw [hsec]
    by_cases e : i = k
    · rw [if_pos e, e]; exact h.bb k hk
    · rw [if_neg e]; exact h.bb i hi
  · rw [getD_setN _ _ _ _ _ hkl]
    by_cases e : i = k
    · rw [if_pos e]; exact hz
    · rw [if_neg e]; exact h.sizel i
/-- d.waiting = v -/
theorem DCore.putW (h : DCore w base g z F La B L nW) (A : Option Addr) (n c : Nat) (vW : List WV) :
    DCore (w.setCell ⟨g, 2, none⟩ (.slice A n c)) base g z F La B { L with AW := A, cW := c, vW := vW } n := by
  have hK : KeepN w (w.setCell ⟨g, 2, none⟩ (.slice A n c)) 61 := keepN_setCell h.row
  refine ⟨h.base_le, ?_, Row.keepN h.sr hK (by rw [secK_T]; decide), fun i hi => (h.fb i hi).keepN hK (by decide), fun i hi => (h.lb i hi).keepN hK (by decide), h.bb, h.lenL, h.lenB, h.few, h.sizes, h.sizel⟩
  simp [World.setCell, Array.getElem?_modify, h.row]
theorem DWait.none_ : DWait w base nF [] none 0 [] := ⟨Kind.Row.none_, fun k hk => absurd hk (Nat.not_lt_zero k), Nat.zero_le _, fun k => by simp [waitAt], fun k hk => absurd hk (Nat.not_lt_zero k)⟩
/-- A write more. -/
theorem DWait.snoc (h : DWait w base nF W A c vW) {A2 : Option Addr} {c2 : Nat} {x : Nat} {v : SV} {bs : List Nat} (hk : KeepN w w' 74) (hr : wrtK.Row w' base A2 (W.length + 1) c2 (vW ++ [⟨(x : Int), v⟩])) (ho : Own w' base v.a v.n v.c bs) (hz : bs.length ≤ 256) (hx : x < nF) (hm : W.length < 1000) :
    DWait w' base nF (W ++ [((x : Int), bs)]) A2 c2 (vW ++ [⟨(x : Int), v⟩]) := by
  have hw : ∀ k, waitAt (W ++ [((x : Int), bs)]) k = if k = W.length then ((x : Int), bs) else waitAt W k := fun k => getD_snoc _ _ _ _
  have hv : ∀ k, (vW ++ [(⟨(x : Int), v⟩ : WV)]).getD k ⟨0, SV.zero⟩ = if k = W.length then ⟨(x : Int), v⟩ else vW.getD k ⟨0, SV.zero⟩ := fun k => by rw [getD_snoc, h.wr.len]
  refine ⟨by rw [List.length_append, List.length_singleton]; exact hr, fun k hk' => ?_, by rw [List.length_append, List.length_singleton]; omega, fun k => ?_, fun k hk' => ?_⟩
  · rw [hw, hv]
    by_cases e : k = W.length
    · rw [if_pos e, if_pos e]; exact ⟨rfl, ho⟩
    · rw [if_neg e, if_neg e]
      rw [List.length_append, List.length_singleton] at hk'
      obtain ⟨h1, h2⟩ := h.wb k (by omega)
      exact ⟨h1, h2.keepN hk (by decide)⟩
  · rw [hw]
    by_cases e : k = W.length
    · rw [if_pos e]; exact hz
    · rw [if_neg e]; exact h.sizew k
  · rw [hw]
    by_cases e : k = W.length
    · rw [if_pos e]; exact ⟨by show (0 : Int) ≤ (x : Int); omega, by show (x : Int) < (nF : Int); omega⟩
    · rw [if_neg e]
      rw [List.length_append, List.length_singleton] at hk'
      exact h.ins k (by omega)
end
/-- The bytes of a sector that were written last. -/
def lastOf (s : RD) (k : Nat) : List Nat := match lastW (k : Int) s.W with | some b => b | none => s.F.getD k []
structure DRep (w : World) (base g : Nat) (s : RD) (L : DL) (La : List (List Nat)) : Prop where
  core : DCore w base g s.size s.F La s.B L s.W.length
  wait : DWait w base s.F.length s.W L.AW L.cW L.vW
  last : ∀ k, k < s.F.length → La.getD k [] = lastOf s k
  size : s.size ≤ 256
/-- All its blocks but its own are of a set. -/
structure DL.In (fp : Nat → Prop) (L : DL) : Prop where
  s : fp L.ab.block
  f : ∀ v ∈ L.vS, ∀ b ∈ blk v.f.a, fp b
  l : ∀ v ∈ L.vS, ∀ b ∈ blk v.l.a, fp b
  w : ∀ b ∈ blk L.AW, fp b
  vw : ∀ v ∈ L.vW, ∀ b ∈ blk v.s.a, fp b
section
variable {w w' : World} {base g : Nat} {s : RD} {L : DL} {La : List (List Nat)} {fp fq : Nat → Prop}
theorem DL.In.mono (h : L.In fp) (k : ∀ b, fp b → fq b) : L.In fq :=
  ⟨k _ h.s, fun v hv b hb => k b (h.f v hv b hb), fun v hv b hb => k b (h.l v hv b hb), fun b hb => k b (h.w b hb), fun v hv b hb => k b (h.vw v hv b hb)⟩
theorem DL.In.secf (h : L.In fp) {k : Nat} (hk : k < L.vS.length) : ∀ b ∈ blk (L.sec k).f.a, fp b := h.f _ (getD_mem_lt hk _)
theorem DL.In.secl (h : L.In fp) {k : Nat} (hk : k < L.vS.length) : ∀ b ∈ blk (L.sec k).l.a, fp b := h.l _ (getD_mem_lt hk _)
theorem DRep.keep (h : DRep w base g s L La) (hi : L.In fp) (hg : w'.heap[g]? = w.heap[g]?) (hb : ∀ b, fp b → w'.heap[b]? = w.heap[b]?) : DRep w' base g s L La :=
  ⟨h.core.keep hg (hb _ hi.s) (fun k hk b hb' => hb b (hi.secf (by rw [h.core.vlen]; exact hk) b hb')) (fun k hk b hb' => hb b (hi.secl (by rw [h.core.vlen]; exact hk) b hb')),
   ⟨Row.at_block h.wait.wr fun b hb' => hb b (hi.w b hb'), fun k hk => ⟨(h.wait.wb k hk).1, (h.wait.wb k hk).2.at_block fun b hb' => hb b (hi.vw _ (getD_mem_lt (by rw [h.wait.wr.len]; exact hk) _) b hb')⟩, h.wait.many, h.wait.sizew, h.wait.ins⟩, h.last, h.size⟩
theorem DRep.since (h : DRep w base g s L La) (hb : Below w.heap.size w w') : DRep w' base g s L La := ⟨h.core.since hb, h.wait.since hb, h.last, h.size⟩
theorem DRep.in_lt (h : DRep w base g s L La) : L.In (fun b => b < w.heap.size) :=
  ⟨h.core.slt, fun v hv b hb => by
    obtain ⟨k, hk, e⟩ := mem_getD hv TV.zero
    rw [← e] at hb
    exact (h.core.fb k (by rw [h.core.vlen] at hk; exact hk)).blk_lt b hb, fun v hv b hb => by
    obtain ⟨k, hk, e⟩ := mem_getD hv TV.zero
    rw [← e] at hb
    exact (h.core.lb k (by rw [h.core.vlen] at hk; exact hk)).blk_lt b hb, Row.blk_lt h.wait.wr, fun v hv b hb => by
    obtain ⟨k, hk, e⟩ := mem_getD hv ⟨0, SV.zero⟩
    rw [← e] at hb
    exact (h.wait.wb k (by rw [h.wait.wr.len] at hk; exact hk)).2.blk_lt b hb⟩
theorem DRep.in_ge (h : DRep w base g s L La) : L.In (fun b => base ≤ b) :=
  ⟨Row.blk_ge h.core.sr _ (by simp [blk]), fun v hv b hb => by
    obtain ⟨k, hk, e⟩ := mem_getD hv TV.zero
    rw [← e] at hb
    exact (h.core.fb k (by rw [h.core.vlen] at hk; exact hk)).blk_ge b hb, fun v hv b hb => by
    obtain ⟨k, hk, e⟩ := mem_getD hv TV.zero
    rw [← e] at hb
    exact (h.core.lb k (by rw [h.core.vlen] at hk; exact hk)).blk_ge b hb, Row.blk_ge h.wait.wr, fun v hv b hb => by
    obtain ⟨k, hk, e⟩ := mem_getD hv ⟨0, SV.zero⟩
    rw [← e] at hb
    exact (h.wait.wb k (by rw [h.wait.wr.len] at hk; exact hk)).2.blk_ge b hb⟩
end
/-- A disk at block g, all its blocks in fp. -/
structure DiskAt (w : World) (base : Nat) (fp : Nat → Prop) (g : Nat) (s : RD) : Prop where
  ex : ∃ L La, DRep w base g s L La ∧ L.In fp
  own : fp g
  ge : ∀ b, fp b → base ≤ b
  lt : ∀ b, fp b → b < w.heap.size
section
variable {w w' : World} {base g : Nat} {s : RD} {L : DL} {La : List (List Nat)} {fp fq : Nat → Prop}
theorem DiskAt.keep (h : DiskAt w base fp g s) (ht : Turn fq w w') (hd : Two fq fp) : DiskAt w' base fp g s := by
  obtain ⟨L, La, h1, h2⟩ := h.ex
  have hb : ∀ b, fp b → w'.heap[b]? = w.heap[b]? := fun b hb => ht.block b (h.lt b hb) fun hq => hd b hq hb
  exact ⟨⟨L, La, h1.keep h2 (hb g h.own) hb, h2⟩, h.own, h.ge, fun b hb => Nat.lt_of_lt_of_le (h.lt b hb) ht.size⟩
theorem DiskAt.since (h : DiskAt w base fp g s) (hb : Below w.heap.size w w') : DiskAt w' base fp g s := h.keep (fq := fun _ => False) (Turn.of_below hb) fun b hb => hb.elim
theorem DiskAt.elder (h : DiskAt w base fp g s) {base' : Nat} (hb : base' ≤ base) : DiskAt w base' fp g s := by
  obtain ⟨L, La, h1, h2⟩ := h.ex
  exact ⟨⟨L, La, ⟨h1.core.elder hb, h1.wait.elder hb, h1.last, h1.size⟩, h2⟩, h.own, fun b hf => Nat.le_trans hb (h.ge b hf), h.lt⟩
theorem DiskAt.same (h : DiskAt w base fp g s) {s' : RD} (e : s = s') : DiskAt w base fp g s' := e ▸ h
theorem DiskAt.base_le (h : DiskAt w base fp g s) : base ≤ w.heap.size := Nat.le_of_lt (Nat.lt_of_le_of_lt (h.ge g h.own) (h.lt g h.own))
/-- What a call leaves that turned it: it stands again, in its blocks and in new ones. -/
theorem disk_turned {s' : RD} {L' : DL} {La' : List (List Nat)} (hR : DiskAt w base fp g s) (h1 : DRep w' base g s' L' La') (h2 : L'.In fun b => fp b ∨ w.heap.size ≤ b) (ht : Turn fp w w') : ∃ fp', DiskAt w' base fp' g s' ∧ Moves w fp w' fp' := by
  have h3 := h1.in_lt
  have hbw := hR.base_le
  refine ⟨fun b => fp b ∨ (w.heap.size ≤ b ∧ b < w'.heap.size), ⟨⟨L', La', h1, ⟨?_, fun v hv b hb => ?_, fun v hv b hb => ?_, fun b hb => ?_, fun v hv b hb => ?_⟩⟩, Or.inl hR.own, fun b hb => ?_, fun b hb => ?_⟩, ht, fun b hb => ?_⟩
  · exact h2.s.imp id fun h => ⟨h, h3.s⟩
  · exact (h2.f v hv b hb).imp id fun h => ⟨h, h3.f v hv b hb⟩
  · exact (h2.l v hv b hb).imp id fun h => ⟨h, h3.l v hv b hb⟩
  · exact (h2.w b hb).imp id fun h => ⟨h, h3.w b hb⟩
  · exact (h2.vw v hv b hb).imp id fun h => ⟨h, h3.vw v hv b hb⟩
  · exact hb.elim (hR.ge b) fun h => Nat.le_trans hbw h.1
  · exact hb.elim (fun h => Nat.lt_of_lt_of_le (hR.lt b h) ht.size) fun h => h.2
  · exact hb.imp id fun h => h.1
end
end Go.Proofs.Ytfhfjfgajbgdcaa
