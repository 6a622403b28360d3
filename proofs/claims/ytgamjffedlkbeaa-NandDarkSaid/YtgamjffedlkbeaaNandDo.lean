/- What is left of a Program under a mishap. Conditions: the chip's cells; fewer than a million operations; a page of the chip. -/
import Derived.Test.YtgamjffedlkbeaaNandBegin
import Derived.Test.YtgamjffedlkbeaaNandFill
import Derived.Test.YtgamjffedlkbeaaCopyOwn
set_option linter.unusedVariables false
set_option linter.unusedSimpArgs false
namespace Go.Proofs.Ytgamjffedlkbeaa
open Go.RowKit

section
variable {w w' : World} {base g : Nat} {fp : Nat → Prop} {s s' : Chip} {L : CL}
theorem nth_self {k : Nat} (hk : k < s.bs.length) (y : Blk) : (s.setB (k : Int) y).nth k = y := by
  unfold Chip.nth Chip.setB
  rw [Int.toNat_natCast]; exact getD_set_self hk _ _
theorem setB_twice (k : Nat) (x y : Blk) : (s.setB (k : Int) x).setB (k : Int) y = s.setB (k : Int) y := by
  unfold Chip.setB
  simp
/-- A block's cells, by what the block is. -/
structure CellsK (w : World) (p : Addr) (b : Blk) : Prop where
  c1 : w.cell? ⟨p.block, p.off + 1, none⟩ = some (.int .i64 (b.next : Int))
  c2 : w.cell? ⟨p.block, p.off + 2, none⟩ = some (.int .i64 (b.wear : Int))
  c3 : w.cell? ⟨p.block, p.off + 3, none⟩ = some (.bool b.marked)
  c4 : w.cell? ⟨p.block, p.off + 4, none⟩ = some (.bool b.failed)
theorem Rep.cellsK (h : Rep w base fp g s L) {k : Nat} (hk : k < s.nb) : CellsK w (L.ab.add (k * 5)) (s.nth k) := by
  obtain ⟨d0, d1, d2, d3, d4⟩ := h.block hk
  have e := h.each k hk
  exact ⟨by rw [← e.next]; exact d1, by rw [← e.wear]; exact d2, by rw [← e.marked]; exact d3, by rw [← e.failed]; exact d4⟩
/- each store, by what it makes of the chip -/
theorem Rep.misuse (h : Rep w base fp g s L) (hT : s.Tk) : Rep (w.setCell ⟨g, 7, none⟩ (.int .i64 ((s.misuse : Int) + 1))) base fp g { s with misuse := s.misuse + 1 } L :=
  h.head (h.wf.misused hT) rfl rfl rfl rfl rfl (by simp [World.setCell, Array.getElem?_modify, h.row, chipRow]) (fun b hb => setCell_heap _ _ _ _ _ hb) (by simp [World.setCell])
theorem Rep.programmed (h : Rep w base fp g s L) (hT : s.programs < s.ops) : Rep (w.setCell ⟨g, 8, none⟩ (.int .i64 ((s.programs : Int) + 1))) base fp g { s with programs := s.programs + 1 } L :=
  h.head (h.wf.programmed hT) rfl rfl rfl rfl rfl (by simp [World.setCell, Array.getElem?_modify, h.row, chipRow]) (fun b hb => setCell_heap _ _ _ _ _ hb) (by simp [World.setCell])
theorem Rep.atk (h : Rep w base fp g s L) {k : Nat} (hk : k < s.nb) (x : BV) : ({ L with v := L.v.set k x } : CL).at_ k = x := getD_set_self (by rw [h.vlen]; exact hk) _ _
theorem Wf.nthpg (h : s.Wf) {k : Nat} (hk : k < s.nb) : (s.nth k).pg.length = s.np ∧ (∀ p, p < s.np → ((s.nth k).pg.getD p []).length = s.long) ∧ (s.nth k).next ≤ s.np ∧ (s.nth k).wear ≤ s.ops := ⟨h.pages k hk, fun p hp => h.bytes k p hk hp, h.next k hk, h.wear k hk⟩
/-- b.next = n -/
theorem Rep.setNext (h : Rep w base fp g s L) {k : Nat} (hk : k < s.nb) (n : Nat) (hn : n ≤ s.np) : ∃ L', Rep (w.setCell ⟨(L.ab.add (k * 5)).block, (L.ab.add (k * 5)).off + 1, none⟩ (.int .i64 (n : Int))) base fp g (s.setB (k : Int) { s.nth k with next := n }) L' ∧ L'.ab = L.ab ∧ (L'.at_ k).a = (L.at_ k).a ∧ (L'.at_ k).c = (L.at_ k).c := by
  have e := h.each k hk
  obtain ⟨p1, p2, p3, p4⟩ := Wf.nthpg h.wf hk
  refine ⟨_, h.cell hk (r := 1) (by omega) (.int .i64 (n : Int)) { L.at_ k with next := n } { s.nth k with next := n } rfl rfl rfl rfl rfl rfl e.wear e.marked e.failed (h.wf.setB hk _ p1 p2 hn p4), rfl, ?_, ?_⟩
  · rw [h.atk hk]
  · rw [h.atk hk]
/-- b.wear = n -/
theorem Rep.setWear (h : Rep w base fp g s L) {k : Nat} (hk : k < s.nb) (n : Nat) (hn : n ≤ s.ops) : ∃ L', Rep (w.setCell ⟨(L.ab.add (k * 5)).block, (L.ab.add (k * 5)).off + 2, none⟩ (.int .i64 (n : Int))) base fp g (s.setB (k : Int) { s.nth k with wear := n }) L' ∧ L'.ab = L.ab ∧ (L'.at_ k).a = (L.at_ k).a ∧ (L'.at_ k).c = (L.at_ k).c := by
  have e := h.each k hk
  obtain ⟨p1, p2, p3, p4⟩ := Wf.nthpg h.wf hk
  refine ⟨_, h.cell hk (r := 2) (by omega) (.int .i64 (n : Int)) { L.at_ k with wear := n } { s.nth k with wear := n } rfl rfl rfl rfl rfl e.next rfl e.marked e.failed (h.wf.setB hk _ p1 p2 p3 hn), rfl, ?_, ?_⟩
  · rw [h.atk hk]
  · rw [h.atk hk]
/-- b.marked = true -/
theorem Rep.setMarked (h : Rep w base fp g s L) {k : Nat} (hk : k < s.nb) : ∃ L', Rep (w.setCell ⟨(L.ab.add (k * 5)).block, (L.ab.add (k * 5)).off + 3, none⟩ (.bool true)) base fp g (s.setB (k : Int) { s.nth k with marked := true }) L' ∧ L'.ab = L.ab ∧ (L'.at_ k).a = (L.at_ k).a ∧ (L'.at_ k).c = (L.at_ k).c := by
  have e := h.each k hk
  obtain ⟨p1, p2, p3, p4⟩ := Wf.nthpg h.wf hk
  refine ⟨_, h.cell hk (r := 3) (by omega) (.bool true) { L.at_ k with marked := true } { s.nth k with marked := true } rfl rfl rfl rfl rfl e.next e.wear rfl e.failed (h.wf.setB hk _ p1 p2 p3 p4), rfl, ?_, ?_⟩
  · rw [h.atk hk]
  · rw [h.atk hk]
/-- b.failed = true -/
theorem Rep.setFailed (h : Rep w base fp g s L) {k : Nat} (hk : k < s.nb) : ∃ L', Rep (w.setCell ⟨(L.ab.add (k * 5)).block, (L.ab.add (k * 5)).off + 4, none⟩ (.bool true)) base fp g (s.setB (k : Int) { s.nth k with failed := true }) L' ∧ L'.ab = L.ab ∧ (L'.at_ k).a = (L.at_ k).a ∧ (L'.at_ k).c = (L.at_ k).c := by
  have e := h.each k hk
  obtain ⟨p1, p2, p3, p4⟩ := Wf.nthpg h.wf hk
  refine ⟨_, h.cell hk (r := 4) (by omega) (.bool true) { L.at_ k with failed := true } { s.nth k with failed := true } rfl rfl rfl rfl rfl e.next e.wear e.marked rfl (h.wf.setB hk _ p1 p2 p3 p4), rfl, ?_, ?_⟩
  · rw [h.atk hk]
  · rw [h.atk hk]
theorem Rep.pblock (h : Rep w base fp g s L) (k : Nat) : (L.ab.add (k * 5)).block = L.ab.block := by rw [h.place k]
/-- The first bytes of a page are written over. -/
theorem copy_page (h : Rep w base fp g s L) {k q r z K dCap sCap : Nat} {A : Addr} {raw : List Nat} (hk : k < s.nb) (hq : q < s.np) (hr : (L.at_ k).a = some ⟨r, 0, none⟩) (hz : s.ns + 28 = z) (hA : Bytes w w.heap.size (some A) z raw) (hK : K ≤ z)
    (hs' : s.setB (k : Int) { s.nth k with pg := (s.nth k).pg.set q (Chip.part raw ((s.nth k).pg.getD q []) K) } = s') :
    ∃ W2, (Builtin.copy_ #[28, 28] 3 #[.slice (some ⟨r, q * z, none⟩) z dCap, .slice (some A) K sCap]).run Try.prog w = .ok (.int .i64 (K : Int)) W2 ∧ Rep W2 base fp g s' L ∧ Moves w fp W2 fp := by
  subst hs'
  obtain ⟨r', c, e1, e2, e3, e4, e5, e6, e7⟩ := h.rawrow hk
  rw [hr] at e1
  obtain rfl : r = r' := by injection e1 with e1; injection e1
  have hpl : (s.nth k).pg.length = s.np := h.wf.pages k hk
  have hlong := h.long hk
  rw [hz] at hlong e7
  have hqz := page_lt (z := z) hq
  have hal := hA.len
  obtain ⟨W2, hrun, ho, hg⟩ := own_copy (dLen := z) (dCap := dCap) (sCap := sCap) e7 (hA.first hK) hK (o := q * z) (by omega)
  have hfl : (s.nth k).pg.flatten.take (q * z) ++ raw.take K ++ (s.nth k).pg.flatten.drop (q * z + K) = ((s.nth k).pg.set q (Chip.part raw ((s.nth k).pg.getD q []) K)).flatten :=
    (Chip.flat_part raw hlong (by rw [hpl]; exact hq) (by omega) hal).symm
  rw [hfl] at ho
  have hpart : (Chip.part raw ((s.nth k).pg.getD q []) K).length = z := by
    unfold Chip.part
    rw [List.length_append, List.length_take, List.length_drop, hlong q (by rw [hpl]; exact hq)]
    omega
  have hlz : s.long = z := hz
  obtain ⟨p1, p2, p3, p4⟩ := Wf.nthpg h.wf hk
  refine ⟨W2, hrun, h.bytes hk _ (by rw [hr, e2, e3, hz]; exact ho) rfl rfl rfl rfl (fun b hb hn => hg.block b hb fun e => hn (by rw [hr, ← Option.some.inj e]; simp [Go.Proofs.Ytgamjffedlkbeaa.blk])) hg.size (h.wf.setB hk _ (by show ((s.nth k).pg.set q _).length = _; rw [List.length_set]; exact p1) (fun p hp => ?_) p3 p4), ⟨Turn.of_grown hg fun b hb => by rw [← Option.some.inj hb]; exact e6, fun b hb => Or.inl hb⟩⟩
  show (((s.nth k).pg.set q (Chip.part raw ((s.nth k).pg.getD q []) K)).getD p []).length = _
  by_cases e : q = p
  · subst e; rw [getD_set_self (by rw [hpl]; exact hq), hpart, hlz]
  · rw [getD_set_other e]; exact p2 p hp
def CopyF (WD : World) (base : Nat) (fp : Nat → Prop) (g : Nat) (sF : Chip) (LF : CL) (v : Value) (W : World) : Prop := Rep W base fp g sF LF ∧ Moves WD fp W fp
theorem copyF_since (WD : World) (base : Nat) (fp : Nat → Prop) (g : Nat) (sF : Chip) (LF : CL) (v : Value) (w w' : World) (h : CopyF WD base fp g sF LF v w) (hb : Later w w') : CopyF WD base fp g sF LF v w' := ⟨h.1.since hb, h.2.trans (Moves.of_below hb)⟩
theorem Bytes.over {n : Nat} {A : Option Addr} {bs : List Nat} (h : Bytes w w.heap.size A n bs) (hs : ∀ x ∈ Go.Proofs.Ytgamjffedlkbeaa.blk A, ¬ fp x) (hm : Moves w fp w' fp) : Bytes w' w'.heap.size A n bs :=
  ⟨h.len, fun j hj => by
    obtain ⟨ad, rfl, e2, e3⟩ := h.lies j hj
    exact ⟨ad, rfl, Nat.lt_of_lt_of_le e2 hm.size, (same_cell (hm.turn.block _ e2 (hs _ (by simp [Go.Proofs.Ytgamjffedlkbeaa.blk]))) (addr_block _ _)).trans e3⟩, h.small⟩
theorem Rep.mark_moves (h : Rep w base fp g s L) (k r : Nat) (u : Value) : Moves w fp (w.setCell ⟨(L.ab.add (k * 5)).block, (L.ab.add (k * 5)).off + r, none⟩ u) fp :=
  ⟨Turn.of_setCell _ _ (by show fp (L.ab.add (k * 5)).block; rw [h.pblock]; exact h.fb), fun b hb => Or.inl hb⟩
theorem Rep.head_moves (h : Rep w base fp g s L) (j : Nat) (u : Value) : Moves w fp (w.setCell ⟨g, j, none⟩ u) fp := ⟨Turn.of_setCell _ _ h.fg, fun b hb => Or.inl hb⟩
theorem RowM.other {gm b j : Nat} {m : M} (h : RowM w gm m) (hb : gm ≠ b) (u : Value) : RowM (w.setCell ⟨b, j, none⟩ u) gm m := ⟨(setCell_heap w b j gm u hb).trans h.row⟩
set_option maxHeartbeats 16000000 in
set_option maxRecDepth 20000 in
theorem progin_any (m : M) (hm0 : 0 ≤ m.bytes) (hm1 : m.bytes ≤ 65536) (hm2 : m.kind = 0 ∨ m.kind = 1 ∨ m.kind = 2) (k q z c : Nat) (A : Addr) (raw : List Nat) (h : Rep w base fp g s L) (hT : s.Tk) (hops : s.ops ≤ 1000000) (hk : k < s.nb) (hq : q < s.np) (hz : s.ns + 28 = z)
    (hA : Bytes w w.heap.size (some A) z raw) (hc : z ≤ c) (hs : ¬ fp A.block) :
    Calls Try.prog 34 #[.pointer (some ⟨g, 0, none⟩), mishV m, .int .i64 (k : Int), .int .i64 (q : Int), .slice (some A) z c] w (fun e w' => e = .returned (.int .i64 (s.progIn m (k : Int) (q : Int) raw).2) ∧ (∃ L', Rep w' base fp g (s.progIn m (k : Int) (q : Int) raw).1 L') ∧ Moves w fp w' fp) := by
  have L1 := later_alloc w (.cells #[.int .i64 m.at_, .int .i64 m.kind, .int .i64 m.bytes, .int .u8 m.fill] 45)
  have R1 := rowM_new w m
  have h1 := h.since L1
  have hAl := hA.len
  obtain ⟨r, cc, q1, q2, q3, q4, q5, q6, q7⟩ := h1.rawrow hk
  obtain ⟨c0, c1, c2, c3, c4, c5, c6, c7, c8⟩ := h1.cells
  obtain ⟨d1, d2, d3, d4⟩ := h1.cellsK hk
  have hns := h.wf.ns2
  have hnb := h.wf.nb2
  have hnp := h.wf.np2
  have hms := hT.misuse
  have hpr := hT.programs
  have hgm : w.heap.size ≠ g := fun e => by have := h.glt; omega
  have hgb : w.heap.size ≠ (L.ab.add (k * 5)).block := fun e => by rw [h.pblock] at e; have := h.lt _ h.fb; omega
  have M1 : Moves w fp (w.alloc (.cells #[.int .i64 m.at_, .int .i64 m.kind, .int .i64 m.bytes, .int .u8 m.fill] 45)) fp := Moves.of_below L1
  have f7 := h1.free 7
  have HH := Lib.hid h1
  have HMB := Lib.hid (show s.blk (k : Int) = s.nth k from blk_nth s k)
  obtain ⟨nb, HNB⟩ : ∃ n : Nat, Hid (s.nb = n) := ⟨_, rfl⟩
  have i0 : (0 : Int) ≤ (k : Int) := by omega
  have i1 : (k : Int) < (nb : Int) := by rw [← HNB.out]; omega
  rw [HNB.out] at c4
  rw [HNB.out] at hnb
  -- misused
  have HBAD : Hid ((s.nth k).marked = true ∨ q ≠ (s.nth k).next → s.progIn m (k : Int) (q : Int) raw = ({ s with misuse := s.misuse + 1 }, 6)) := fun hb => by
    unfold Chip.progIn
    rw [HMB.out, if_pos (hb.imp id fun e => by omega)]
  have HMS : Hid (Rep ((w.alloc (.cells #[.int .i64 m.at_, .int .i64 m.kind, .int .i64 m.bytes, .int .u8 m.fill] 45)).setCell ⟨g, 7, none⟩ (.int .i64 ((s.misuse : Int) + 1))) base fp g { s with misuse := s.misuse + 1 } L ∧ Moves w fp ((w.alloc (.cells #[.int .i64 m.at_, .int .i64 m.kind, .int .i64 m.bytes, .int .u8 m.fill] 45)).setCell ⟨g, 7, none⟩ (.int .i64 ((s.misuse : Int) + 1))) fp) := ⟨h1.misuse hT, M1.trans (h1.head_moves 7 _)⟩
  by_cases hmk : (s.nth k).marked = true
  · rw [HBAD.out (Or.inl hmk)]
    rw [hmk] at d3
    obtain ⟨o, HO⟩ : ∃ o : Nat, Hid (s.misuse = o) := ⟨_, rfl⟩
    rw [HO.out] at c7 HMS hms
    have hoo : o ≤ 1000000 := by omega
    clear h h1 L1 R1 M1 c0 c1 c2 c3 c5 c6 c8 d1 d2 d4 hmk HH HBAD hA HNB
    unfold mishV
    go_enter Try.func34, Try.ntmps34
    go_wp2_with fail
    go_ret
    exact ⟨rfl, ⟨L, by have := HMS.out.1; rwa [← HO.out] at this ⊢⟩, HMS.out.2⟩
  have hmk' : (s.nth k).marked = false := by simpa using hmk
  rw [hmk'] at d3
  by_cases hne : q ≠ (s.nth k).next
  · rw [HBAD.out (Or.inr hne)]
    obtain ⟨x, HX⟩ : ∃ x : Nat, Hid ((s.nth k).next = x) := ⟨_, rfl⟩
    rw [HX.out] at d1 hne
    have hb : ((q : Int) != (x : Int)) = true := by simp; omega
    obtain ⟨o, HO⟩ : ∃ o : Nat, Hid (s.misuse = o) := ⟨_, rfl⟩
    rw [HO.out] at c7 HMS hms
    have hoo : o ≤ 1000000 := by omega
    clear h h1 L1 R1 M1 c0 c1 c2 c3 c5 c6 c8 d2 d4 hmk hmk' HH HBAD hA HNB hne
    unfold mishV
    go_enter Try.func34, Try.ntmps34
    go_wp2_with fail
    go_ret
    exact ⟨rfl, ⟨L, by have := HMS.out.1; rwa [← HO.out] at this ⊢⟩, HMS.out.2⟩
  -- the next page
  have hqn : q = (s.nth k).next := by omega
  clear hne
  rw [← hqn] at d1
  have hb : ((q : Int) != (q : Int)) = false := by simp
  have f1 := h1.free5 k 1
  obtain ⟨L2, h2, a2, b2, e2⟩ := h1.setNext hk (q + 1) (by omega)
  have M2 := M1.trans (h1.mark_moves k 1 (.int .i64 ((q + 1 : Nat) : Int)))
  have hcast : ((q + 1 : Nat) : Int) = (q : Int) + 1 := by omega
  rw [hcast] at h2 M2
  have R2 := R1.other (j := (L.ab.add (k * 5)).off + 1) hgb (.int .i64 ((q : Int) + 1))
  have hk2 : k < (s.setB (k : Int) { s.nth k with next := q + 1 }).nb := hk
  have K2 := h2.cellsK hk2
  rw [nth_self (by rw [h.wf.len]; exact hk), a2] at K2
  obtain ⟨x1, x2, x3, x4⟩ := K2
  have x4' : ((w.alloc (.cells #[.int .i64 m.at_, .int .i64 m.kind, .int .i64 m.bytes, .int .u8 m.fill] 45)).setCell ⟨(L.ab.add (k * 5)).block, (L.ab.add (k * 5)).off + 1, none⟩ (.int .i64 ((q : Int) + 1))).cell? ⟨(L.ab.add (k * 5)).block, (L.ab.add (k * 5)).off + 4, none⟩ = some (.bool (s.nth k).failed) := x4
  clear x4
  have x4 := x4'
  clear x4' x1 x2 x3
  have HOK : Hid (¬ ((s.nth k).marked = true ∨ ((q : Nat) : Int) ≠ ((s.nth k).next : Int))) := by
    show ¬ _
    rw [hmk', ← hqn]; simp
  by_cases hfl : (s.nth k).failed = true
  · have HV : Hid (s.progIn m (k : Int) (q : Int) raw = (s.setB (k : Int) { s.nth k with next := q + 1 }, 5)) := by
      show _ = _
      unfold Chip.progIn
      rw [HMB.out, if_neg HOK.out, if_pos hfl, ← hqn]
    rw [HV.out]
    rw [hfl] at x4
    have H2 := Lib.hid h2
    have HM2 := Lib.hid M2
    clear h h1 h2 L1 R1 R2 M1 M2 c0 c1 c2 c3 c5 c6 c7 c8 d2 d4 hmk hmk' HH HBAD HMS hA HNB hqn hfl HV HOK hcast f7
    unfold mishV
    go_enter Try.func34, Try.ntmps34
    go_wp2_with fail
    go_ret
    exact ⟨rfl, ⟨L2, H2.out⟩, HM2.out⟩
  have hfl' : (s.nth k).failed = false := by simpa using hfl
  rw [hfl'] at x4
  obtain ⟨u0, u1, u2, u3⟩ := R2.at_
  have hz1 : 1 ≤ z := by omega
  have hz2 : z ≤ 284 := by omega
  have HAW := Lib.hid (show Bytes w w.heap.size (some A) z raw from hA)
  have HSA : Hid (∀ x ∈ Go.Proofs.Ytgamjffedlkbeaa.blk (some A), ¬ fp x) := fun x hx => by rw [show x = A.block by simpa [Go.Proofs.Ytgamjffedlkbeaa.blk] using hx]; exact hs
  have HL2 : Hid ((L2.at_ k).a = some ⟨r, 0, none⟩ ∧ (L2.at_ k).c = cc) := ⟨b2.trans q1, e2.trans q3⟩
  have f4 := h2.free5 k 4
  rw [a2] at f4
  have f8 := h2.free 8
  obtain ⟨y0, y1, y2, y3, y4, y5, y6, y7, y8⟩ := h2.cells
  have hy8 : ((w.alloc (.cells #[.int .i64 m.at_, .int .i64 m.kind, .int .i64 m.bytes, .int .u8 m.fill] 45)).setCell ⟨(L.ab.add (k * 5)).block, (L.ab.add (k * 5)).off + 1, none⟩ (.int .i64 ((q : Int) + 1))).cell? ⟨g, 8, none⟩ = some (.int .i64 (s.programs : Int)) := y8
  clear y0 y1 y2 y3 y4 y5 y6 y7 y8
  have hn2 : (s.setB (k : Int) { s.nth k with next := q + 1 }).nth k = { s.nth k with next := q + 1 } := nth_self (by rw [h.wf.len]; exact hk) _
  have HPAGE : Hid (s.page (k : Int) (q : Int) = (s.nth k).pg.getD q []) := by
    show _ = _
    unfold Chip.page
    rw [HMB.out, Int.toNat_natCast]
  have hT2 : (s.setB (k : Int) { s.nth k with next := q + 1 }).programs < (s.setB (k : Int) { s.nth k with next := q + 1 }).ops := hpr
  have hzq : (s.setB (k : Int) { s.nth k with next := q + 1 }).ns + 28 = z := hz
  rcases hm2 with hmk0 | hmk1 | hmk2
  · have HV : Hid (s.progIn m (k : Int) (q : Int) raw = ({ s.setB (k : Int) (Chip.wrote (s.nth k) q (Chip.part raw ((s.nth k).pg.getD q []) z)) with programs := s.programs + 1 }, 0)) := by
      show _ = _
      unfold Chip.progIn
      rw [HPAGE.out, HMB.out, if_neg HOK.out, if_neg hfl, if_neg (by omega), if_neg (by omega), hAl]
    rw [HV.out]
    have b1 : (m.kind == 1) = false := by simp; omega
    have b3 : (m.kind == 2) = false := by simp; omega
    obtain ⟨o, HO⟩ : ∃ o : Nat, Hid (s.programs = o) := ⟨_, rfl⟩
    have h3 : Rep (((w.alloc (.cells #[.int .i64 m.at_, .int .i64 m.kind, .int .i64 m.bytes, .int .u8 m.fill] 45)).setCell ⟨(L.ab.add (k * 5)).block, (L.ab.add (k * 5)).off + 1, none⟩ (.int .i64 ((q : Int) + 1))).setCell ⟨g, 8, none⟩ (.int .i64 ((o : Int) + 1))) base fp g { s.setB (k : Int) { s.nth k with next := q + 1 } with programs := s.programs + 1 } L2 := by
      have := h2.programmed hT2
      rw [← HO.out]; exact this
    have M3 := M2.trans (h2.head_moves 8 (.int .i64 ((o : Int) + 1)))
    have HB := Lib.hid h3
    have HM := Lib.hid M3
    have HR2 : Hid ((L2.at_ k).a = some ⟨r, 0, none⟩) := HL2.out.1
    have HC2 : Hid ((L2.at_ k).c = cc) := HL2.out.2
    rw [HO.out] at hy8 hpr
    have hoo : o ≤ 1000000 := by omega
    obtain ⟨LF, HLF⟩ : ∃ LF : CL, LF = L2 := ⟨_, rfl⟩
    rw [← HLF] at HB HR2 HC2
    obtain ⟨s2, HS2⟩ : ∃ s2 : Chip, Hid ({ s.setB (k : Int) { s.nth k with next := q + 1 } with programs := s.programs + 1 } = s2) := ⟨_, rfl⟩
    obtain ⟨sF, HSFE⟩ : ∃ s2 : Chip, Hid ({ s.setB (k : Int) (Chip.wrote (s.nth k) q (Chip.part raw ((s.nth k).pg.getD q []) z)) with programs := s.programs + 1 } = s2) := ⟨_, rfl⟩
    have HSF0 : Hid (s2.setB (k : Int) { s2.nth k with pg := (s2.nth k).pg.set q (Chip.part raw ((s2.nth k).pg.getD q []) (z)) } = sF) := by
      show _ = _
      rw [← HSFE.out, ← HS2.out]
      have e : ({ s.setB (k : Int) { s.nth k with next := q + 1 } with programs := s.programs + 1 } : Chip).nth k = { s.nth k with next := q + 1 } := hn2
      rw [e]
      show ({ (s.setB (k : Int) { s.nth k with next := q + 1 }).setB (k : Int) _ with programs := s.programs + 1 } : Chip) = _
      rw [setB_twice]
      unfold Chip.wrote
      rw [Int.toNat_natCast, ← hqn]
    have HK2 : Hid (k < s2.nb) := by rw [← HS2.out]; exact hk
    have HQ2 : Hid (q < s2.np) := by rw [← HS2.out]; exact hq
    have HZ2 : Hid (s2.ns + 28 = z) := by rw [← HS2.out]; exact hz
    rw [HS2.out] at HB
    rw [HSFE.out]
    obtain ⟨K, HKZ⟩ : ∃ K : Nat, Hid (z = K) := ⟨_, rfl⟩
    have hK : K ≤ z := by rw [← HKZ.out]; omega
    have hKZ := HKZ.out
    subst hKZ
    rw [HKZ.out] at HSF0
    have HSF := HSF0
    clear HSF0 h h1 h2 L1 R1 R2 M1 M2 c0 c1 c2 c3 c5 c6 c7 c8 d2 d4 hmk hmk' HH HBAD HMS hA HNB hqn hfl hfl' HV HOK hcast f7 HL2 HPAGE hn2 hT2 hzq HSFE HS2 hAl b2 e2 a2 q1 q2 q3 q4 q5 q6 q7 hT hops hms hpr h3 M3 hmk0 HLF HO f4
    clear HKZ
    unfold mishV
    go_enter Try.func34, Try.ntmps34
    go_wp2_with fail
    obtain ⟨WB, HWB⟩ : ∃ W, Hid (W = ((w.alloc (.cells #[.int .i64 m.at_, .int .i64 m.kind, .int .i64 m.bytes, .int .u8 m.fill] 45)).setCell ⟨(L.ab.add (k * 5)).block, (L.ab.add (k * 5)).off + 1, none⟩ (.int .i64 ((q : Int) + 1))).setCell ⟨g, 8, none⟩ (.int .i64 ((o : Int) + 1))) := ⟨_, rfl⟩
    rw [← HWB.out] at HB HM ⊢
    clear HWB
    obtain ⟨WD, HWD⟩ : ∃ W, Hid (W = WB.drew) := ⟨_, rfl⟩
    have HDL : Hid (Later WB WD) := by rw [HWD.out]; exact (Below.refl _ _).drew
    have HPG : Hid (∀ W, Later WD W → Calls Try.prog 38 #[.pointer (some ⟨g, 0, none⟩), .int .i64 (k : Int), .int .i64 (q : Int)] W fun e w' => e = .returned (.slice (some ⟨r, q * z, none⟩) z (cc - q * z)) ∧ ∃ n, w' = W.drewN n) := fun W hW => by
      have hz2 : s2.ns + 28 = z := HZ2.out
      have := page_any ((HB.out.since HDL.out).since hW) (k := k) (q := q) (r := r) (c := cc) HK2.out HQ2.out HR2.out HC2.out
      rwa [hz2] at this
    have HCP : Hid (∀ W, Later WD W → ∃ W2, (Builtin.copy_ #[28, 28] 3 #[.slice (some ⟨r, q * z, none⟩) z (cc - q * z), .slice (some A) z c]).run Try.prog W = .ok (.int .i64 (z : Int)) W2 ∧ Rep W2 base fp g sF LF ∧ Moves WD fp W2 fp) := fun W hW => by
      obtain ⟨W2, h1, h2, h3⟩ := copy_page ((HB.out.since HDL.out).since hW) HK2.out HQ2.out HR2.out HZ2.out (((HAW.out.over HSA.out HM.out).since HDL.out).since hW) hK HSF.out
      exact ⟨W2, h1, h2, (Moves.of_below hW).trans h3⟩
    have HM3 := Lib.hid (HM.out.trans (Moves.of_below (fp := fp) HDL.out))
    clear HM HB HDL HAW HSA HK2 HQ2 HR2 HC2 HZ2 HSF
    refine region_of_steps4 (by kernel_rfl) (fact2Of [.is (.pointer (some ⟨g, 0, none⟩)), .is (.int .i64 (k : Int)), .is (.int .i64 (q : Int)), .is (.slice (some ⟨r, q * z, none⟩) z (cc - q * z)), .is (.slice (some A) z c), .is (.int .i64 (z : Int)), .is (.slice (some A) z c), .that (CopyF WD base fp g sF LF) (copyF_since _ _ _ _ _ _)]) (deadOf []) (Turns [7]) (TillAll [7] WD) (by kernel_rfl)
      (fun i j v w w' hm hd hn hdd h hR => turns_stays _ _ [7] [] (by kernel_rfl) i j v w w' hm hd hn hdd h hR) (fun listed j w w' h hl k => tillall_step h hl k) (fun listed => by rw [← HWD.out]; exact tillall_start _ _ _) ?_ ?_
    · refine Steps3.cons ?_ (Steps3.cons ?_ (Steps3.cons ?_ (Steps3.cons ?_ (Steps3.cons ?_ (Steps3.cons ?_ (Steps3.cons ?_ (Steps3.cons ?_ (Steps3.nil))))))))
      · intro listed a W H hw hl hd
        have t0 : a.tmps.getD 0 undef = .pointer (some ⟨g, 0, none⟩) := (H.old 0 (by kernel_rfl)).trans rfl
        exact step2_value (i := 0) rfl rfl (run_op_move rfl t0) (turns_refl _) rfl
      · intro listed a W H hw hl hd
        have t2 : a.tmps.getD 2 undef = .int .i64 (k : Int) := (H.old 2 (by kernel_rfl)).trans rfl
        exact step2_value (i := 1) rfl rfl (run_op_move rfl t2) (turns_refl _) rfl
      · intro listed a W H hw hl hd
        have t3 : a.tmps.getD 3 undef = .int .i64 (q : Int) := (H.old 3 (by kernel_rfl)).trans rfl
        exact step2_value (i := 2) rfl rfl (run_op_move rfl t3) (turns_refl _) rfl
      · intro listed a W H hw hl hd
        have t79 : a.tmps.getD 79 undef = .pointer (some ⟨g, 0, none⟩) := H.get 0 79 (by kernel_rfl) (dep_of hd 0 (by kernel_rfl)) (alive_none (by kernel_rfl))
        have t80 : a.tmps.getD 80 undef = .int .i64 (k : Int) := H.get 1 80 (by kernel_rfl) (dep_of hd 1 (by kernel_rfl)) (alive_none (by kernel_rfl))
        have t81 : a.tmps.getD 81 undef = .int .i64 (q : Int) := H.get 2 81 (by kernel_rfl) (dep_of hd 2 (by kernel_rfl)) (alive_none (by kernel_rfl))
        refine step2_call (i := 3) rfl rfl (run_op_call (vs := #[.pointer (some ⟨g, 0, none⟩), .int .i64 (k : Int), .int .i64 (q : Int)]) Try.func38 (by kernel_rfl) (by kernel_rfl) rfl (by simp only [List.map_toArray, List.map_cons, List.map_nil]; show #[a.tmps.getD 79 undef, a.tmps.getD 80 undef, a.tmps.getD 81 undef] = _; rw [t79, t80, t81])) ?_
        refine (HPG.out W (hw (H.nothing 5 hl (by kernel_rfl)))).mono ?_
        rintro e W2 ⟨rfl, nd, hnd⟩
        exact ⟨_, rfl, turns_later (by rw [hnd]; exact below_drewN (Below.refl _ _) nd), rfl⟩
      · intro listed a W H hw hl hd
        have t4 : a.tmps.getD 4 undef = .slice (some A) z c := (H.old 4 (by kernel_rfl)).trans rfl
        exact step2_value (i := 4) rfl rfl (run_op_move rfl t4) (turns_refl _) rfl
      · intro listed a W H hw hl hd
        have t12 : a.tmps.getD 12 undef = .int .i64 (z : Int) := (H.old 12 (by kernel_rfl)).trans rfl
        exact step2_value (i := 5) rfl rfl (run_op_move rfl t12) (turns_refl _) rfl
      · intro listed a W H hw hl hd
        have t83 : a.tmps.getD 83 undef = .slice (some A) z c := H.get 4 83 (by kernel_rfl) (dep_of hd 4 (by kernel_rfl)) (alive_none (by kernel_rfl))
        have t84 : a.tmps.getD 84 undef = .int .i64 (z : Int) := H.get 5 84 (by kernel_rfl) (dep_of hd 5 (by kernel_rfl)) (alive_none (by kernel_rfl))
        exact step2_value (i := 6) rfl rfl (run_op_slice rfl (by show (Instr.sliceAt 28 (a.tmps.getD 83 undef) none (some (a.tmps.getD 84 undef)) none).run _ _ = _; rw [t83, t84]; rw [run_sliceAt_slice (h := under24)]; exact slice_to (some A) z c z hK hc W)) (turns_refl _) rfl
      · intro listed a W H hw hl hd
        have t82 : a.tmps.getD 82 undef = .slice (some ⟨r, q * z, none⟩) z (cc - q * z) := H.get 3 82 (by kernel_rfl) (dep_of hd 3 (by kernel_rfl)) (alive_none (by kernel_rfl))
        have t85 : a.tmps.getD 85 undef = .slice (some A) z c := H.get 6 85 (by kernel_rfl) (dep_of hd 6 (by kernel_rfl)) (alive_none (by kernel_rfl))
        obtain ⟨W2, hr, h1, h2⟩ := HCP.out W (hw (H.nothing 5 hl (by kernel_rfl)))
        exact step2_value (i := 7) rfl rfl (run_op_copy rfl t82 t85 hr) (turns_here (by decide)) ⟨h1, h2⟩
    · intro a WC listed hdef hsz hw hall hact
      obtain ⟨h86, m86⟩ := hall 7 _ rfl (by kernel_rfl)
      have H86 := Lib.hid h86
      have M86 := Lib.hid (HM3.out.trans m86)
      obtain ⟨u, hu⟩ : ∃ u : Nat → Value, ∀ k, a.tmps.getD k undef = u k := ⟨_, fun _ => rfl⟩
      simp only [hu] at hact
      have hact' : a = ([79, 80, 81, 82, 83, 84, 85, 86] : List Nat).foldl (fun b k => b.put (some k) (u k)) _ := hact
      simp only [List.foldl] at hact'
      simp only [Act.put, List.setIfInBounds_toArray, List.set_cons_succ, List.set_cons_zero] at hact'
      have HAC := Lib.hid hact'
      clear hu hact hact' hall hdef hsz hw h86 m86 HM3 HPG HCP
      rw [HAC.out]
      go_wp2_with fail
      go_ret
      exact ⟨rfl, ⟨LF, H86.out⟩, M86.out⟩
  · have HV : Hid (s.progIn m (k : Int) (q : Int) raw = ((s.setB (k : Int) { Chip.wrote (s.nth k) q (Chip.part raw ((s.nth k).pg.getD q []) (min m.bytes.toNat (z - 1))) with failed := true }), 5)) := by
      show _ = _
      unfold Chip.progIn
      rw [HPAGE.out, HMB.out, if_neg HOK.out, if_neg hfl, if_pos hmk1, hAl]
    rw [HV.out]
    have b1 : (m.kind == 1) = true := by simp; omega
    have h3 := h2.setFailed hk2
    rw [a2, hn2] at h3
    obtain ⟨LF, h3, a3, b4, e3⟩ := h3
    rw [setB_twice] at h3
    have M3 := M2.trans (h2.mark_moves k 4 (.bool true))
    rw [a2] at M3
    have HB := Lib.hid h3
    have HM := Lib.hid M3
    have HR2 : Hid ((LF.at_ k).a = some ⟨r, 0, none⟩) := b4.trans HL2.out.1
    have HC2 : Hid ((LF.at_ k).c = cc) := e3.trans HL2.out.2
    have R3 := R2.other (j := (L.ab.add (k * 5)).off + 4) hgb (.bool true)
    obtain ⟨v0, v1, v2, v3⟩ := R3.at_
    obtain ⟨s2, HS2⟩ : ∃ s2 : Chip, Hid (s.setB (k : Int) { s.nth k with next := q + 1, failed := true } = s2) := ⟨_, rfl⟩
    obtain ⟨sF, HSFE⟩ : ∃ s2 : Chip, Hid ((s.setB (k : Int) { Chip.wrote (s.nth k) q (Chip.part raw ((s.nth k).pg.getD q []) (min m.bytes.toNat (z - 1))) with failed := true }) = s2) := ⟨_, rfl⟩
    have HSF0 : Hid (s2.setB (k : Int) { s2.nth k with pg := (s2.nth k).pg.set q (Chip.part raw ((s2.nth k).pg.getD q []) (min m.bytes.toNat (z - 1))) } = sF) := by
      show _ = _
      rw [← HSFE.out, ← HS2.out]
      rw [nth_self (by rw [h.wf.len]; exact hk), setB_twice]
      unfold Chip.wrote
      rw [Int.toNat_natCast, ← hqn]
    have HK2 : Hid (k < s2.nb) := by rw [← HS2.out]; exact hk
    have HQ2 : Hid (q < s2.np) := by rw [← HS2.out]; exact hq
    have HZ2 : Hid (s2.ns + 28 = z) := by rw [← HS2.out]; exact hz
    rw [HS2.out] at HB
    rw [HSFE.out]
    obtain ⟨K, HKZ⟩ : ∃ K : Nat, Hid (min m.bytes.toNat (z - 1) = K) := ⟨_, rfl⟩
    have hK : K ≤ z := by rw [← HKZ.out]; omega
    have hmin := min_at #[3, 3] 3 m.bytes ((z : Int) - 1) (K : Int) (by rw [← HKZ.out]; omega)
    have hw1 : IntKind.i64.wrap ((z : Int) - 1) = (z : Int) - 1 := by rw [IntKind.wrap_i64]; omega
    rw [HKZ.out] at HSF0
    have HSF := HSF0
    clear HSF0 h h1 h2 L1 R1 R2 M1 M2 c0 c1 c2 c3 c5 c6 c7 c8 d2 d4 hmk hmk' HH HBAD HMS hA HNB hqn hfl hfl' HV HOK hcast f7 HL2 HPAGE hn2 hT2 hzq HSFE HS2 hAl b2 e2 a2 q1 q2 q3 q4 q5 q6 q7 hT hops hms hpr h3 M3 hmk1 R3 a3 b4 e3 f8 hy8
    clear HKZ
    unfold mishV
    go_enter Try.func34, Try.ntmps34
    go_wp2_with fail
    obtain ⟨WB, HWB⟩ : ∃ W, Hid (W = ((w.alloc (.cells #[.int .i64 m.at_, .int .i64 m.kind, .int .i64 m.bytes, .int .u8 m.fill] 45)).setCell ⟨(L.ab.add (k * 5)).block, (L.ab.add (k * 5)).off + 1, none⟩ (.int .i64 ((q : Int) + 1))).setCell ⟨(L.ab.add (k * 5)).block, (L.ab.add (k * 5)).off + 4, none⟩ (.bool true)) := ⟨_, rfl⟩
    rw [← HWB.out] at HB HM ⊢
    clear HWB
    obtain ⟨WD, HWD⟩ : ∃ W, Hid (W = WB.drew) := ⟨_, rfl⟩
    have HDL : Hid (Later WB WD) := by rw [HWD.out]; exact (Below.refl _ _).drew
    have HPG : Hid (∀ W, Later WD W → Calls Try.prog 38 #[.pointer (some ⟨g, 0, none⟩), .int .i64 (k : Int), .int .i64 (q : Int)] W fun e w' => e = .returned (.slice (some ⟨r, q * z, none⟩) z (cc - q * z)) ∧ ∃ n, w' = W.drewN n) := fun W hW => by
      have hz2 : s2.ns + 28 = z := HZ2.out
      have := page_any ((HB.out.since HDL.out).since hW) (k := k) (q := q) (r := r) (c := cc) HK2.out HQ2.out HR2.out HC2.out
      rwa [hz2] at this
    have HCP : Hid (∀ W, Later WD W → ∃ W2, (Builtin.copy_ #[28, 28] 3 #[.slice (some ⟨r, q * z, none⟩) z (cc - q * z), .slice (some A) K c]).run Try.prog W = .ok (.int .i64 (K : Int)) W2 ∧ Rep W2 base fp g sF LF ∧ Moves WD fp W2 fp) := fun W hW => by
      obtain ⟨W2, h1, h2, h3⟩ := copy_page ((HB.out.since HDL.out).since hW) HK2.out HQ2.out HR2.out HZ2.out (((HAW.out.over HSA.out HM.out).since HDL.out).since hW) hK HSF.out
      exact ⟨W2, h1, h2, (Moves.of_below hW).trans h3⟩
    have HM3 := Lib.hid (HM.out.trans (Moves.of_below (fp := fp) HDL.out))
    clear HM HB HDL HAW HSA HK2 HQ2 HR2 HC2 HZ2 HSF
    refine region_of_steps4 (by kernel_rfl) (fact2Of [.is (.pointer (some ⟨g, 0, none⟩)), .is (.int .i64 (k : Int)), .is (.int .i64 (q : Int)), .is (.slice (some ⟨r, q * z, none⟩) z (cc - q * z)), .is (.slice (some A) z c), .is (.int .i64 (K : Int)), .is (.slice (some A) K c), .that (CopyF WD base fp g sF LF) (copyF_since _ _ _ _ _ _)]) (deadOf []) (Turns [7]) (TillAll [7] WD) (by kernel_rfl)
      (fun i j v w w' hm hd hn hdd h hR => turns_stays _ _ [7] [] (by kernel_rfl) i j v w w' hm hd hn hdd h hR) (fun listed j w w' h hl k => tillall_step h hl k) (fun listed => by rw [← HWD.out]; exact tillall_start _ _ _) ?_ ?_
    · refine Steps3.cons ?_ (Steps3.cons ?_ (Steps3.cons ?_ (Steps3.cons ?_ (Steps3.cons ?_ (Steps3.cons ?_ (Steps3.cons ?_ (Steps3.cons ?_ (Steps3.nil))))))))
      · intro listed a W H hw hl hd
        have t0 : a.tmps.getD 0 undef = .pointer (some ⟨g, 0, none⟩) := (H.old 0 (by kernel_rfl)).trans rfl
        exact step2_value (i := 0) rfl rfl (run_op_move rfl t0) (turns_refl _) rfl
      · intro listed a W H hw hl hd
        have t2 : a.tmps.getD 2 undef = .int .i64 (k : Int) := (H.old 2 (by kernel_rfl)).trans rfl
        exact step2_value (i := 1) rfl rfl (run_op_move rfl t2) (turns_refl _) rfl
      · intro listed a W H hw hl hd
        have t3 : a.tmps.getD 3 undef = .int .i64 (q : Int) := (H.old 3 (by kernel_rfl)).trans rfl
        exact step2_value (i := 2) rfl rfl (run_op_move rfl t3) (turns_refl _) rfl
      · intro listed a W H hw hl hd
        have t79 : a.tmps.getD 79 undef = .pointer (some ⟨g, 0, none⟩) := H.get 0 79 (by kernel_rfl) (dep_of hd 0 (by kernel_rfl)) (alive_none (by kernel_rfl))
        have t80 : a.tmps.getD 80 undef = .int .i64 (k : Int) := H.get 1 80 (by kernel_rfl) (dep_of hd 1 (by kernel_rfl)) (alive_none (by kernel_rfl))
        have t81 : a.tmps.getD 81 undef = .int .i64 (q : Int) := H.get 2 81 (by kernel_rfl) (dep_of hd 2 (by kernel_rfl)) (alive_none (by kernel_rfl))
        refine step2_call (i := 3) rfl rfl (run_op_call (vs := #[.pointer (some ⟨g, 0, none⟩), .int .i64 (k : Int), .int .i64 (q : Int)]) Try.func38 (by kernel_rfl) (by kernel_rfl) rfl (by simp only [List.map_toArray, List.map_cons, List.map_nil]; show #[a.tmps.getD 79 undef, a.tmps.getD 80 undef, a.tmps.getD 81 undef] = _; rw [t79, t80, t81])) ?_
        refine (HPG.out W (hw (H.nothing 5 hl (by kernel_rfl)))).mono ?_
        rintro e W2 ⟨rfl, nd, hnd⟩
        exact ⟨_, rfl, turns_later (by rw [hnd]; exact below_drewN (Below.refl _ _) nd), rfl⟩
      · intro listed a W H hw hl hd
        have t4 : a.tmps.getD 4 undef = .slice (some A) z c := (H.old 4 (by kernel_rfl)).trans rfl
        exact step2_value (i := 4) rfl rfl (run_op_move rfl t4) (turns_refl _) rfl
      · intro listed a W H hw hl hd
        have t12 : a.tmps.getD 12 undef = .int .i64 (K : Int) := (H.old 12 (by kernel_rfl)).trans rfl
        exact step2_value (i := 5) rfl rfl (run_op_move rfl t12) (turns_refl _) rfl
      · intro listed a W H hw hl hd
        have t83 : a.tmps.getD 83 undef = .slice (some A) z c := H.get 4 83 (by kernel_rfl) (dep_of hd 4 (by kernel_rfl)) (alive_none (by kernel_rfl))
        have t84 : a.tmps.getD 84 undef = .int .i64 (K : Int) := H.get 5 84 (by kernel_rfl) (dep_of hd 5 (by kernel_rfl)) (alive_none (by kernel_rfl))
        exact step2_value (i := 6) rfl rfl (run_op_slice rfl (by show (Instr.sliceAt 28 (a.tmps.getD 83 undef) none (some (a.tmps.getD 84 undef)) none).run _ _ = _; rw [t83, t84]; rw [run_sliceAt_slice (h := under24)]; exact slice_to (some A) z c K hK hc W)) (turns_refl _) rfl
      · intro listed a W H hw hl hd
        have t82 : a.tmps.getD 82 undef = .slice (some ⟨r, q * z, none⟩) z (cc - q * z) := H.get 3 82 (by kernel_rfl) (dep_of hd 3 (by kernel_rfl)) (alive_none (by kernel_rfl))
        have t85 : a.tmps.getD 85 undef = .slice (some A) K c := H.get 6 85 (by kernel_rfl) (dep_of hd 6 (by kernel_rfl)) (alive_none (by kernel_rfl))
        obtain ⟨W2, hr, h1, h2⟩ := HCP.out W (hw (H.nothing 5 hl (by kernel_rfl)))
        exact step2_value (i := 7) rfl rfl (run_op_copy rfl t82 t85 hr) (turns_here (by decide)) ⟨h1, h2⟩
    · intro a WC listed hdef hsz hw hall hact
      obtain ⟨h86, m86⟩ := hall 7 _ rfl (by kernel_rfl)
      have H86 := Lib.hid h86
      have M86 := Lib.hid (HM3.out.trans m86)
      obtain ⟨u, hu⟩ : ∃ u : Nat → Value, ∀ k, a.tmps.getD k undef = u k := ⟨_, fun _ => rfl⟩
      simp only [hu] at hact
      have hact' : a = ([79, 80, 81, 82, 83, 84, 85, 86] : List Nat).foldl (fun b k => b.put (some k) (u k)) _ := hact
      simp only [List.foldl] at hact'
      simp only [Act.put, List.setIfInBounds_toArray, List.set_cons_succ, List.set_cons_zero] at hact'
      have HAC := Lib.hid hact'
      clear hu hact hact' hall hdef hsz hw h86 m86 HM3 HPG HCP
      rw [HAC.out]
      go_wp2_with fail
      go_ret
      exact ⟨rfl, ⟨LF, H86.out⟩, M86.out⟩
  · have HV : Hid (s.progIn m (k : Int) (q : Int) raw = ((s.setB (k : Int) (Chip.wrote (s.nth k) q (Chip.part raw ((s.nth k).pg.getD q []) (min m.bytes.toNat z)))), 0)) := by
      show _ = _
      unfold Chip.progIn
      rw [HPAGE.out, HMB.out, if_neg HOK.out, if_neg hfl, if_neg (by omega), if_pos hmk2, hAl]
    rw [HV.out]
    have b1 : (m.kind == 1) = false := by simp; omega
    have b3 : (m.kind == 2) = true := by simp; omega
    have HB := Lib.hid h2
    have HM := Lib.hid M2
    have HR2 : Hid ((L2.at_ k).a = some ⟨r, 0, none⟩) := HL2.out.1
    have HC2 : Hid ((L2.at_ k).c = cc) := HL2.out.2
    obtain ⟨LF, HLF⟩ : ∃ LF : CL, LF = L2 := ⟨_, rfl⟩
    rw [← HLF] at HB HR2 HC2
    obtain ⟨s2, HS2⟩ : ∃ s2 : Chip, Hid (s.setB (k : Int) { s.nth k with next := q + 1 } = s2) := ⟨_, rfl⟩
    obtain ⟨sF, HSFE⟩ : ∃ s2 : Chip, Hid ((s.setB (k : Int) (Chip.wrote (s.nth k) q (Chip.part raw ((s.nth k).pg.getD q []) (min m.bytes.toNat z)))) = s2) := ⟨_, rfl⟩
    have HSF0 : Hid (s2.setB (k : Int) { s2.nth k with pg := (s2.nth k).pg.set q (Chip.part raw ((s2.nth k).pg.getD q []) (min m.bytes.toNat z)) } = sF) := by
      show _ = _
      rw [← HSFE.out, ← HS2.out]
      rw [hn2, setB_twice]
      unfold Chip.wrote
      rw [Int.toNat_natCast, ← hqn]
    have HK2 : Hid (k < s2.nb) := by rw [← HS2.out]; exact hk
    have HQ2 : Hid (q < s2.np) := by rw [← HS2.out]; exact hq
    have HZ2 : Hid (s2.ns + 28 = z) := by rw [← HS2.out]; exact hz
    rw [HS2.out] at HB
    rw [HSFE.out]
    obtain ⟨K, HKZ⟩ : ∃ K : Nat, Hid (min m.bytes.toNat z = K) := ⟨_, rfl⟩
    have hK : K ≤ z := by rw [← HKZ.out]; omega
    have hmin := min_at #[3, 3] 3 m.bytes (z : Int) (K : Int) (by rw [← HKZ.out]; omega)
    rw [HKZ.out] at HSF0
    have HSF := HSF0
    clear HSF0 h h1 h2 L1 R1 R2 M1 M2 c0 c1 c2 c3 c5 c6 c7 c8 d2 d4 hmk hmk' HH HBAD HMS hA HNB hqn hfl hfl' HV HOK hcast f7 HL2 HPAGE hn2 hT2 hzq HSFE HS2 hAl b2 e2 a2 q1 q2 q3 q4 q5 q6 q7 hT hops hms hpr hmk2 HLF f4 f8 hy8
    clear HKZ
    unfold mishV
    go_enter Try.func34, Try.ntmps34
    go_wp2_with fail
    obtain ⟨WB, HWB⟩ : ∃ W, Hid (W = ((w.alloc (.cells #[.int .i64 m.at_, .int .i64 m.kind, .int .i64 m.bytes, .int .u8 m.fill] 45)).setCell ⟨(L.ab.add (k * 5)).block, (L.ab.add (k * 5)).off + 1, none⟩ (.int .i64 ((q : Int) + 1)))) := ⟨_, rfl⟩
    rw [← HWB.out] at HB HM ⊢
    clear HWB
    obtain ⟨WD, HWD⟩ : ∃ W, Hid (W = WB.drew) := ⟨_, rfl⟩
    have HDL : Hid (Later WB WD) := by rw [HWD.out]; exact (Below.refl _ _).drew
    have HPG : Hid (∀ W, Later WD W → Calls Try.prog 38 #[.pointer (some ⟨g, 0, none⟩), .int .i64 (k : Int), .int .i64 (q : Int)] W fun e w' => e = .returned (.slice (some ⟨r, q * z, none⟩) z (cc - q * z)) ∧ ∃ n, w' = W.drewN n) := fun W hW => by
      have hz2 : s2.ns + 28 = z := HZ2.out
      have := page_any ((HB.out.since HDL.out).since hW) (k := k) (q := q) (r := r) (c := cc) HK2.out HQ2.out HR2.out HC2.out
      rwa [hz2] at this
    have HCP : Hid (∀ W, Later WD W → ∃ W2, (Builtin.copy_ #[28, 28] 3 #[.slice (some ⟨r, q * z, none⟩) z (cc - q * z), .slice (some A) K c]).run Try.prog W = .ok (.int .i64 (K : Int)) W2 ∧ Rep W2 base fp g sF LF ∧ Moves WD fp W2 fp) := fun W hW => by
      obtain ⟨W2, h1, h2, h3⟩ := copy_page ((HB.out.since HDL.out).since hW) HK2.out HQ2.out HR2.out HZ2.out (((HAW.out.over HSA.out HM.out).since HDL.out).since hW) hK HSF.out
      exact ⟨W2, h1, h2, (Moves.of_below hW).trans h3⟩
    have HM3 := Lib.hid (HM.out.trans (Moves.of_below (fp := fp) HDL.out))
    clear HM HB HDL HAW HSA HK2 HQ2 HR2 HC2 HZ2 HSF
    refine region_of_steps4 (by kernel_rfl) (fact2Of [.is (.pointer (some ⟨g, 0, none⟩)), .is (.int .i64 (k : Int)), .is (.int .i64 (q : Int)), .is (.slice (some ⟨r, q * z, none⟩) z (cc - q * z)), .is (.slice (some A) z c), .is (.int .i64 (K : Int)), .is (.slice (some A) K c), .that (CopyF WD base fp g sF LF) (copyF_since _ _ _ _ _ _)]) (deadOf []) (Turns [7]) (TillAll [7] WD) (by kernel_rfl)
      (fun i j v w w' hm hd hn hdd h hR => turns_stays _ _ [7] [] (by kernel_rfl) i j v w w' hm hd hn hdd h hR) (fun listed j w w' h hl k => tillall_step h hl k) (fun listed => by rw [← HWD.out]; exact tillall_start _ _ _) ?_ ?_
    · refine Steps3.cons ?_ (Steps3.cons ?_ (Steps3.cons ?_ (Steps3.cons ?_ (Steps3.cons ?_ (Steps3.cons ?_ (Steps3.cons ?_ (Steps3.cons ?_ (Steps3.nil))))))))
      · intro listed a W H hw hl hd
        have t0 : a.tmps.getD 0 undef = .pointer (some ⟨g, 0, none⟩) := (H.old 0 (by kernel_rfl)).trans rfl
        exact step2_value (i := 0) rfl rfl (run_op_move rfl t0) (turns_refl _) rfl
      · intro listed a W H hw hl hd
        have t2 : a.tmps.getD 2 undef = .int .i64 (k : Int) := (H.old 2 (by kernel_rfl)).trans rfl
        exact step2_value (i := 1) rfl rfl (run_op_move rfl t2) (turns_refl _) rfl
      · intro listed a W H hw hl hd
        have t3 : a.tmps.getD 3 undef = .int .i64 (q : Int) := (H.old 3 (by kernel_rfl)).trans rfl
        exact step2_value (i := 2) rfl rfl (run_op_move rfl t3) (turns_refl _) rfl
      · intro listed a W H hw hl hd
        have t79 : a.tmps.getD 79 undef = .pointer (some ⟨g, 0, none⟩) := H.get 0 79 (by kernel_rfl) (dep_of hd 0 (by kernel_rfl)) (alive_none (by kernel_rfl))
        have t80 : a.tmps.getD 80 undef = .int .i64 (k : Int) := H.get 1 80 (by kernel_rfl) (dep_of hd 1 (by kernel_rfl)) (alive_none (by kernel_rfl))
        have t81 : a.tmps.getD 81 undef = .int .i64 (q : Int) := H.get 2 81 (by kernel_rfl) (dep_of hd 2 (by kernel_rfl)) (alive_none (by kernel_rfl))
        refine step2_call (i := 3) rfl rfl (run_op_call (vs := #[.pointer (some ⟨g, 0, none⟩), .int .i64 (k : Int), .int .i64 (q : Int)]) Try.func38 (by kernel_rfl) (by kernel_rfl) rfl (by simp only [List.map_toArray, List.map_cons, List.map_nil]; show #[a.tmps.getD 79 undef, a.tmps.getD 80 undef, a.tmps.getD 81 undef] = _; rw [t79, t80, t81])) ?_
        refine (HPG.out W (hw (H.nothing 5 hl (by kernel_rfl)))).mono ?_
        rintro e W2 ⟨rfl, nd, hnd⟩
        exact ⟨_, rfl, turns_later (by rw [hnd]; exact below_drewN (Below.refl _ _) nd), rfl⟩
      · intro listed a W H hw hl hd
        have t4 : a.tmps.getD 4 undef = .slice (some A) z c := (H.old 4 (by kernel_rfl)).trans rfl
        exact step2_value (i := 4) rfl rfl (run_op_move rfl t4) (turns_refl _) rfl
      · intro listed a W H hw hl hd
        have t12 : a.tmps.getD 12 undef = .int .i64 (K : Int) := (H.old 12 (by kernel_rfl)).trans rfl
        exact step2_value (i := 5) rfl rfl (run_op_move rfl t12) (turns_refl _) rfl
      · intro listed a W H hw hl hd
        have t83 : a.tmps.getD 83 undef = .slice (some A) z c := H.get 4 83 (by kernel_rfl) (dep_of hd 4 (by kernel_rfl)) (alive_none (by kernel_rfl))
        have t84 : a.tmps.getD 84 undef = .int .i64 (K : Int) := H.get 5 84 (by kernel_rfl) (dep_of hd 5 (by kernel_rfl)) (alive_none (by kernel_rfl))
        exact step2_value (i := 6) rfl rfl (run_op_slice rfl (by show (Instr.sliceAt 28 (a.tmps.getD 83 undef) none (some (a.tmps.getD 84 undef)) none).run _ _ = _; rw [t83, t84]; rw [run_sliceAt_slice (h := under24)]; exact slice_to (some A) z c K hK hc W)) (turns_refl _) rfl
      · intro listed a W H hw hl hd
        have t82 : a.tmps.getD 82 undef = .slice (some ⟨r, q * z, none⟩) z (cc - q * z) := H.get 3 82 (by kernel_rfl) (dep_of hd 3 (by kernel_rfl)) (alive_none (by kernel_rfl))
        have t85 : a.tmps.getD 85 undef = .slice (some A) K c := H.get 6 85 (by kernel_rfl) (dep_of hd 6 (by kernel_rfl)) (alive_none (by kernel_rfl))
        obtain ⟨W2, hr, h1, h2⟩ := HCP.out W (hw (H.nothing 5 hl (by kernel_rfl)))
        exact step2_value (i := 7) rfl rfl (run_op_copy rfl t82 t85 hr) (turns_here (by decide)) ⟨h1, h2⟩
    · intro a WC listed hdef hsz hw hall hact
      obtain ⟨h86, m86⟩ := hall 7 _ rfl (by kernel_rfl)
      have H86 := Lib.hid h86
      have M86 := Lib.hid (HM3.out.trans m86)
      obtain ⟨u, hu⟩ : ∃ u : Nat → Value, ∀ k, a.tmps.getD k undef = u k := ⟨_, fun _ => rfl⟩
      simp only [hu] at hact
      have hact' : a = ([79, 80, 81, 82, 83, 84, 85, 86] : List Nat).foldl (fun b k => b.put (some k) (u k)) _ := hact
      simp only [List.foldl] at hact'
      simp only [Act.put, List.setIfInBounds_toArray, List.set_cons_succ, List.set_cons_zero] at hact'
      have HAC := Lib.hid hact'
      clear hu hact hact' hall hdef hsz hw h86 m86 HM3 HPG HCP
      rw [HAC.out]
      go_wp2_with fail
      go_ret
      exact ⟨rfl, ⟨LF, H86.out⟩, M86.out⟩
end
end Go.Proofs.Ytgamjffedlkbeaa
