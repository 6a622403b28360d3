/- Texts of one layer, laid together. Conditions: as each one says. -/
import Derived.Test.YthgkdnegnecnjaaGreatDoorSstoree
/- A store as mathematics: what holds of each, block by block. No conditions. -/
set_option linter.unusedVariables false
set_option linter.unusedSimpArgs false
set_option maxRecDepth 20000
namespace Go.Proofs.YthgkdnegnecnjaaGreatDoor
open Go.RowKit

/-- What holds of a block: its state, how many pages are taken, which are needed, what stands on the chip, the heads of its pages. -/
structure BI (np ns : Nat) (S T : Int) (N : List Bool) (B : Blk) (hk : Nat → Option Hd.H) : Prop where
  mar : S = 4 ↔ B.marked = true
  op : S = 2 → T = (B.next : Int) ∧ B.next < np
  se : S = 3 → ∃ q, N.getD q false = true
  nd : ∀ q, N.getD q false = true → q < B.next ∧ ∃ ds h, Hd.Ok h ∧ ds.length = ns ∧ B.pg.getD q [] = Hd.page ds h ∧ hk q = some h
  hn : ∀ q h, q < np → hk q = some h → N.getD q false = true
  bl : ∀ q, B.next ≤ q → q < np → B.pg.getD q [] = List.replicate (ns + 28) 255
/-- The number of a page, by its block and its place there. -/
def pno (np k q : Nat) : Int := ((k * np + q : Nat) : Int)
/-- What holds of a store. -/
structure SI (s : SS) : Prop where
  sw : SW s
  yw : YW s.y
  wf : s.c.Wf
  sup : ∀ p h, s.hd p = some h → 0 ≤ p ∧ p < ((s.c.nb * s.c.np : Nat) : Int)
  one : ∀ j k, j < s.c.nb → k < s.c.nb → s.y.S.getD j 0 = 2 → s.y.S.getD k 0 = 2 → j = k
  b : ∀ k, k < s.c.nb → BI s.c.np s.c.ns (s.y.S.getD k 0) (s.y.T.getD k 0) (s.y.N.getD k []) (s.c.nth k) (fun q => s.hd (pno s.c.np k q))
/-- One block turns. -/
structure Eff (s s' : SS) (b : Nat) (S1 T1 : Int) (N1 : List Bool) (B1 : Blk) : Prop where
  S : ∀ k, s'.y.S.getD k 0 = if k = b then S1 else s.y.S.getD k 0
  T : ∀ k, s'.y.T.getD k 0 = if k = b then T1 else s.y.T.getD k 0
  N : ∀ k, s'.y.N.getD k [] = if k = b then N1 else s.y.N.getD k []
  B : ∀ k, s'.c.nth k = if k = b then B1 else s.c.nth k
  fc : FrC s.c s'.c
  len : s'.y.S.length = s.y.S.length
  p : s'.y.P = s.y.P
section
variable {s s' : SS} {b : Nat} {S1 T1 : Int} {N1 : List Bool} {B1 : Blk} {np k q j : Nat}
theorem pno_inj {k k' q q' : Nat} (hq : q < np) (hq' : q' < np) (h : pno np k q = pno np k' q') : k = k' ∧ q = q' := by
  have h : k * np + q = k' * np + q' := by unfold pno at h; omega
  have h1 : (k * np + q) / np = (k' * np + q') / np := by rw [h]
  have h0 : 0 < np := by omega
  rw [Nat.mul_comm k, Nat.mul_comm k', Nat.mul_add_div h0, Nat.mul_add_div h0, Nat.div_eq_of_lt hq, Nat.div_eq_of_lt hq'] at h1
  have h2 : k = k' := by omega
  subst h2
  exact ⟨rfl, by omega⟩
theorem pno_lt {nb : Nat} (hk : k < nb) (hq : q < np) : 0 ≤ pno np k q ∧ pno np k q < ((nb * np : Nat) : Int) := by
  have h : (k + 1) * np ≤ nb * np := Nat.mul_le_mul_right _ hk
  rw [Nat.add_mul, Nat.one_mul] at h
  unfold pno
  omega
theorem pno_of {nb : Nat} {p : Int} (h0 : 0 ≤ p) (h1 : p < ((nb * np : Nat) : Int)) : ∃ k q : Nat, k < nb ∧ q < np ∧ p = pno np k q := by
  have hp : 0 < np := by
    rcases Nat.eq_zero_or_pos np with e | e
    · subst e; simp at h1; omega
    · exact e
  refine ⟨p.toNat / np, p.toNat % np, ?_, Nat.mod_lt _ hp, ?_⟩
  · rw [Nat.div_lt_iff_lt_mul hp]; omega
  · unfold pno
    have := Nat.div_add_mod p.toNat np
    rw [Nat.mul_comm] at this
    omega
theorem Eff.sw (h : Eff s s' b S1 T1 N1 B1) (w : SW s) : SW s' := ⟨by rw [h.len, h.fc.nb]; exact w.nb, by rw [h.p, h.fc.np]; exact w.np, by rw [h.fc.geo]; exact w.may⟩
theorem SI.eff (h : SI s) (e : Eff s s' b S1 T1 N1 B1) (hy : YW s'.y) (hc : s'.c.Wf) (hh : ∀ k q, k < s.c.nb → q < s.c.np → k ≠ b → s'.hd (pno s.c.np k q) = s.hd (pno s.c.np k q)) (hs : ∀ p x, s'.hd p = some x → 0 ≤ p ∧ p < ((s.c.nb * s.c.np : Nat) : Int))
    (ho : S1 = 2 → ∀ k, k < s.c.nb → k ≠ b → s.y.S.getD k 0 ≠ 2) (hb : b < s.c.nb → BI s.c.np s.c.ns S1 T1 N1 B1 (fun q => s'.hd (pno s.c.np b q))) : SI s' := by
  refine ⟨e.sw h.sw, hy, hc, ?_, ?_, ?_⟩
  · rw [e.fc.nb, e.fc.np]; exact hs
  · rw [e.fc.nb]
    intro j k hj hk h1 h2
    rw [e.S] at h1 h2
    by_cases ej : j = b
    · by_cases ek : k = b
      · rw [ej, ek]
      · rw [if_pos ej] at h1
        rw [if_neg ek] at h2
        exact absurd h2 (ho h1 k hk ek)
    · rw [if_neg ej] at h1
      by_cases ek : k = b
      · rw [if_pos ek] at h2
        exact absurd h1 (ho h2 j hj ej)
      · rw [if_neg ek] at h2
        exact h.one j k hj hk h1 h2
  · rw [e.fc.nb, e.fc.np, e.fc.ns]
    intro k hk
    rw [e.S, e.T, e.N, e.B]
    by_cases ek : k = b
    · rw [if_pos ek, if_pos ek, if_pos ek, if_pos ek, ek]
      exact hb (ek ▸ hk)
    · rw [if_neg ek, if_neg ek, if_neg ek, if_neg ek]
      have hB := h.b k hk
      refine ⟨hB.mar, hB.op, hB.se, fun q hq => ?_, fun q x hq hx => ?_, hB.bl⟩
      · obtain ⟨h1, ds, x, h2, h3, h4, h5⟩ := hB.nd q hq
        have hqn : q < s.c.np := Nat.lt_of_lt_of_le h1 (h.wf.next k hk)
        exact ⟨h1, ds, x, h2, h3, h4, by rw [hh k q hk hqn ek]; exact h5⟩
      · exact hB.hn q x hq (by rw [← hh k q hk hq ek]; exact hx)
theorem nth_setB {c : Chip} (hb : b < c.bs.length) (x : Blk) : (c.setB (b : Int) x).nth k = if k = b then x else c.nth k := by
  unfold Chip.nth Chip.setB
  rw [Int.toNat_natCast]
  show (c.bs.set b x).getD k Blk.zero = _
  rw [getD_setY]
  by_cases e : k = b
  · rw [if_pos ⟨e, hb⟩, if_pos e]
  · rw [if_neg (fun h => e h.1), if_neg e]
theorem getD_set_eq {α : Type} {l : List α} {b k : Nat} (hb : b < l.length) (x d : α) : (l.set b x).getD k d = if k = b then x else l.getD k d := by
  rw [getD_setY]
  by_cases e : k = b
  · rw [if_pos ⟨e, hb⟩, if_pos e]
  · rw [if_neg (fun h => e h.1), if_neg e]
end
end Go.Proofs.YthgkdnegnecnjaaGreatDoor

/- A store as mathematics: Put where nothing befalls the chip. No conditions. -/
set_option linter.unusedVariables false
set_option linter.unusedSimpArgs false
set_option maxRecDepth 20000
namespace Go.Proofs.YthgkdnegnecnjaaGreatDoor
open Go.RowKit

/-- A chip with power, that nothing befalls, and of which no block failed. -/
structure NM (c : Chip) : Prop where
  ms : c.ms = []
  on : c.on = true
  ok : ∀ k, k < c.nb → (c.nth k).failed = false
def eraB (np long : Nat) (B : Blk) : Blk := { B with pg := List.replicate np (List.replicate long 255), next := 0, wear := B.wear + 1 }
def base0 (np long : Nat) (S : Int) (B : Blk) : Blk := if S = 1 ∧ 0 < B.next then eraB np long B else B
def putB (B : Blk) (raw : List Nat) : Blk := { B with pg := B.pg.set B.next raw, next := B.next + 1 }
section
variable {s s1 s2 : SS} {b : Nat} {S1 T1 S2 T2 : Int} {N1 N2 : List Bool} {B1 B2 : Blk} {c : Chip} {x : Hd.H} {raw ds : List Nat}
theorem Eff.trans (h : Eff s s1 b S1 T1 N1 B1) (k : Eff s1 s2 b S2 T2 N2 B2) : Eff s s2 b S2 T2 N2 B2 := by
  refine ⟨fun j => ?_, fun j => ?_, fun j => ?_, fun j => ?_, h.fc.trans k.fc, k.len.trans h.len, k.p.trans h.p⟩
  · rw [k.S, h.S]; split <;> rfl
  · rw [k.T, h.T]; split <;> rfl
  · rw [k.N, h.N]; split <;> rfl
  · rw [k.B, h.B]; split <;> rfl
theorem NM.dark (h : NM c) : c.dark = false := Chip.dark_none h.ms
theorem NM.fails (h : NM c) : c.fails = false := Chip.fails_none h.ms
theorem why_nm (h : NM c) (hw : c.Wf) (hb : b < c.nb) {q l : Nat} (hq : q < c.np) (hl : l = c.long) : c.why (b : Int) (q : Int) l = 0 := Chip.why_ok h.on (by omega) (by omega) (by omega) (by omega) hl
theorem erase_wf (hw : c.Wf) (hb : b < c.nb) : (c.tick.setB (b : Int) (eraB c.np c.long (c.nth b))).Wf :=
  hw.tick.setB (k := b) hb (eraB c.np c.long (c.nth b)) (by show (List.replicate c.np _).length = c.np; simp) (fun p hp => by
    show ((List.replicate c.np (List.replicate c.long 255)).getD p []).length = c.long
    rw [getD_rep _ _ _ _ (show p < c.np from hp), List.length_replicate]) (Nat.zero_le _) (by have := hw.wear b hb; show _ + 1 ≤ c.ops + 1; exact Nat.succ_le_succ this)
theorem has_nat (c : Chip) {b : Nat} (hb : b < c.nb) : c.has (b : Int) = true := decide_eq_true ⟨by omega, by omega⟩
theorem next_nat (c : Chip) {b : Nat} (hb : b < c.nb) : c.next (b : Int) = (c.nth b).next := by
  unfold Chip.next; rw [if_pos (has_nat c hb), blk_nth]
theorem stY_nat {y : Yd} {b : Nat} (hb : b < y.S.length) : stY y (b : Int) = y.S.getD b 0 := stY_at hb
theorem numS_nat (s : SS) (hs : SW s) {b q : Nat} (hb : b < s.c.nb) (hq : q < s.c.np) : numS s b q = pno s.c.np b q := by
  unfold numS pageG pno
  rw [if_pos ⟨hs.may, by omega, by show (b : Int) < (s.c.nb : Int); omega, by omega, by show (q : Int) < (s.c.np : Int); omega⟩]
  show (b : Int) * (s.c.np : Int) + (q : Int) = _
  rw [Int.natCast_add, Int.natCast_mul]
/-- An open block again: its first page, if it is blank. -/
theorem ready_nm (hs : SW s) (hy : YW s.y) (hw : s.c.Wf) (hn : NM s.c) (hb : b < s.c.nb) (h1 : s.y.S.getD b 0 = 1) (hm : (s.c.nth b).marked = false) :
    ∃ s1, readyS s b = (s1, 0) ∧ Eff s s1 b 2 0 (s.y.N.getD b []) (base0 s.c.np s.c.long 1 (s.c.nth b)) ∧ s1.hd = s.hd ∧ NM s1.c ∧ YW s1.y ∧ s1.c.Wf ∧ s1.c.misuse = s.c.misuse := by
  have hbS : b < s.y.S.length := by rw [hs.nb]; exact hb
  have ho : openY s.y (b : Int) = ((s.y.setS b 2).setT b 0, 0) := by
    unfold openY
    rw [stY_nat hbS, h1]
    simp
  have hyo : YW ((s.y.setS b 2).setT b 0) := by
    have := yw_open (b := (b : Int)) hy
    rw [ho] at this
    exact this
  have hS : ∀ k, ((s.y.setS b 2).setT b 0).S.getD k 0 = if k = b then 2 else s.y.S.getD k 0 := fun k => getD_set_eq hbS _ _
  have hT : ∀ k, ((s.y.setS b 2).setT b 0).T.getD k 0 = if k = b then 0 else s.y.T.getD k 0 := fun k => getD_set_eq (by show b < s.y.T.length; rw [hy.lt]; exact hbS) _ _
  have hN : ∀ k, s.y.N.getD k [] = if k = b then s.y.N.getD b [] else s.y.N.getD k [] := fun k => by
    by_cases e : k = b
    · rw [if_pos e, e]
    · rw [if_neg e]
  by_cases hx : 0 < (s.c.nth b).next
  · obtain ⟨c1, hc1⟩ : ∃ c1, s.c.tick.setB (b : Int) (eraB s.c.np s.c.long (s.c.nth b)) = c1 := ⟨_, rfl⟩
    have he : s.c.erase (b : Int) = (c1, 0) := by
      have := Chip.erase_ok (s := s.c) (b := (b : Int)) (why_nm hn hw hb (q := 0) hw.np1 rfl) (by rw [blk_nth]; exact hm) (by rw [blk_nth]; exact hn.ok b hb) hn.dark hn.fails
      rw [this, blk_nth, ← hc1]
      rfl
    have hnth : ∀ k, c1.nth k = if k = b then eraB s.c.np s.c.long (s.c.nth b) else s.c.nth k := fun k => by
      rw [← hc1]
      exact nth_setB (c := s.c.tick) (by rw [show s.c.tick.bs = s.c.bs from rfl, hw.len]; exact hb) _
    have hfc : FrC s.c c1 := by rw [← hc1]; exact ⟨rfl, rfl, rfl⟩
    have hcw : c1.Wf := by rw [← hc1]; exact erase_wf hw hb
    refine ⟨⟨c1, (s.y.setS b 2).setT b 0, s.hd⟩, ?_, ⟨hS, hT, hN, fun k => ?_, hfc, by simp [Yd.setS, Yd.setT], rfl⟩, rfl, ⟨by rw [← hc1]; exact hn.ms, by rw [← hc1]; exact hn.on, fun k hk => ?_⟩, hyo, hcw, by rw [← hc1]; rfl⟩
    · rw [readyS_ok (by rw [next_nat _ hb]; exact hx) he]
      unfold openS
      rw [show ({ s with c := c1 } : SS).y = s.y from rfl, ho]
    · rw [show base0 s.c.np s.c.long 1 (s.c.nth b) = eraB s.c.np s.c.long (s.c.nth b) from if_pos ⟨rfl, hx⟩]
      exact hnth k
    · show (c1.nth k).failed = false
      rw [hnth]
      split
      · exact hn.ok b hb
      · exact hn.ok k (by rw [← hfc.nb]; exact hk)
  · refine ⟨⟨s.c, (s.y.setS b 2).setT b 0, s.hd⟩, ?_, ⟨hS, hT, hN, fun k => ?_, ⟨rfl, rfl, rfl⟩, by simp [Yd.setS, Yd.setT], rfl⟩, rfl, hn, hyo, hw, rfl⟩
    · rw [readyS_blank (by rw [next_nat _ hb]; omega)]
      unfold openS
      rw [ho]
    · rw [show base0 s.c.np s.c.long 1 (s.c.nth b) = s.c.nth b from by unfold base0; rw [if_neg (fun h => hx h.2)]]
      by_cases e : k = b
      · rw [if_pos e, e]
      · rw [if_neg e]
theorem program_wf (hw : c.Wf) (hb : b < c.nb) (hq : (c.nth b).next < c.np) (hr : raw.length = c.long) : ({ c.tick.setB (b : Int) (putB (c.nth b) raw) with programs := c.programs + 1 } : Chip).Wf := by
  have h : (c.tick.setB (b : Int) (putB (c.nth b) raw)).Wf := hw.tick.setB (k := b) hb (putB (c.nth b) raw) (by show ((c.nth b).pg.set _ _).length = c.np; rw [List.length_set]; exact hw.pages b hb) (fun p hp => by
    show (((c.nth b).pg.set (c.nth b).next raw).getD p []).length = c.long
    rw [getD_setY]
    split
    · exact hr
    · exact hw.bytes b p hb hp) (by show (c.nth b).next + 1 ≤ c.np; omega) (by have := hw.wear b hb; show (c.nth b).wear ≤ c.ops + 1; exact Nat.le_succ_of_le this)
  exact ⟨h.nb1, h.nb2, h.np1, h.np2, h.ns1, h.ns2, h.may, h.len, h.pages, h.bytes, h.next, h.wear, h.misuse, by have := hw.programs; show c.programs + 1 ≤ c.ops + 1; omega⟩
theorem program_nm (hw : c.Wf) (hn : NM c) (hb : b < c.nb) (hq : (c.nth b).next < c.np) (hm : (c.nth b).marked = false) (hr : raw.length = c.long) :
    c.program (b : Int) ((c.nth b).next : Int) raw = ({ c.tick.setB (b : Int) (putB (c.nth b) raw) with programs := c.programs + 1 }, 0) := by
  have := Chip.program_ok (s := c) (b := (b : Int)) (p := ((c.nth b).next : Int)) (raw := raw) (why_nm hn hw hb hq hr) (by rw [blk_nth]; exact hm) (by rw [blk_nth]) (by rw [blk_nth]; exact hn.ok b hb) hn.dark hn.fails
  rw [this, blk_nth]
  rfl
/-- A page goes to an open block. -/
theorem tail_nm (hs : SW s) (hy : YW s.y) (hw : s.c.Wf) (hn : NM s.c) (hb : b < s.c.nb) (h2 : s.y.S.getD b 0 = 2) (hT : s.y.T.getD b 0 = ((s.c.nth b).next : Int)) (hq : (s.c.nth b).next < s.c.np) (hm : (s.c.nth b).marked = false)
    (hN : ∀ q, (s.y.N.getD b []).getD q false = true → q < (s.c.nth b).next) (hr : raw.length = s.c.long) :
    ∃ s1, tailS s (b : Int) x raw = (s1, pno s.c.np b (s.c.nth b).next, 0) ∧ Eff s s1 b (if (s.c.nth b).next + 1 = s.c.np then 3 else 2) (((s.c.nth b).next + 1 : Nat) : Int) ((s.y.N.getD b []).set (s.c.nth b).next true) (putB (s.c.nth b) raw)
      ∧ s1.hd = updH s.hd (pno s.c.np b (s.c.nth b).next) (some x) ∧ NM s1.c ∧ YW s1.y ∧ s1.c.Wf ∧ s1.c.misuse = s.c.misuse := by
  obtain ⟨q, hqe⟩ : ∃ q, (s.c.nth b).next = q := ⟨_, rfl⟩
  have hbS : b < s.y.S.length := by rw [hs.nb]; exact hb
  have hbT : b < s.y.T.length := by rw [hy.lt]; exact hbS
  have hbN : b < s.y.N.length := by rw [hy.ln]; exact hbS
  have hbD : b < s.y.D.length := by rw [hy.ld]; exact hbS
  have hNq : (s.y.N.getD b []).getD q false = false := by
    cases e : (s.y.N.getD b []).getD q false with
    | false => rfl
    | true => have := hN q e; omega
  have hx : nextY s.y (b : Int) = (s.y.setT b ((q : Int) + 1), (q : Int), 0) := by
    unfold nextY
    rw [stY_nat hbS, h2, if_neg (by decide), if_neg (by decide), Int.toNat_natCast, hT, hqe, if_neg (by rw [hs.np]; omega)]
  have hp := program_nm hw hn hb hq hm hr
  rw [hqe] at hp hq
  obtain ⟨c1, hc1⟩ : ∃ c1 : Chip, ({ s.c.tick.setB (b : Int) (putB (s.c.nth b) raw) with programs := s.c.programs + 1 } : Chip) = c1 := ⟨_, rfl⟩
  have hcw : c1.Wf := by rw [← hc1]; exact program_wf hw hb (by rw [hqe]; exact hq) hr
  have hfc : FrC s.c c1 := by rw [← hc1]; exact ⟨rfl, rfl, rfl⟩
  have hnth : ∀ k, c1.nth k = if k = b then putB (s.c.nth b) raw else s.c.nth k := fun k => by
    rw [← hc1]
    exact nth_setB (c := s.c.tick) (by rw [show s.c.tick.bs = s.c.bs from rfl, hw.len]; exact hb) _
  have hnm : NM c1 := by
    refine ⟨by rw [← hc1]; exact hn.ms, by rw [← hc1]; exact hn.on, fun k hk => ?_⟩
    rw [hnth]
    split
    · exact hn.ok b hb
    · exact hn.ok k (by rw [← hfc.nb]; exact hk)
  have hmis : c1.misuse = s.c.misuse := by rw [← hc1]; rfl
  rw [hc1] at hp
  have hwant : wantY (s.y.setT b ((q : Int) + 1)) (b : Int) (q : Int) false = (((s.y.setT b ((q : Int) + 1)).setN b q true).setD b q false, 0) := by
    unfold wantY
    have h3 : pageY (s.y.setT b ((q : Int) + 1)) (b : Int) (q : Int) := ⟨by rw [show stY (s.y.setT b ((q : Int) + 1)) (b : Int) = stY s.y (b : Int) from rfl, stY_nat hbS, h2]; decide, by omega, by show (q : Int) < (s.y.P : Int); rw [hs.np]; omega⟩
    rw [if_neg (fun h => h h3)]
    have h4 : (s.y.setT b ((q : Int) + 1)).T.getD (b : Int).toNat 0 = (q : Int) + 1 := by
      rw [Int.toNat_natCast]
      show (s.y.T.set b _).getD b 0 = _
      rw [getD_set_eq hbT, if_pos rfl]
    have h5 : isN (s.y.setT b ((q : Int) + 1)) (b : Int) (q : Int) = false := by
      unfold isN
      rw [Int.toNat_natCast, Int.toNat_natCast]
      exact hNq
    rw [h4, h5, if_neg (by rintro (h | h); omega; cases h), Int.toNat_natCast, Int.toNat_natCast]
  have hnum : numS ⟨c1, s.y.setT b ((q : Int) + 1), s.hd⟩ (b : Int) (q : Int) = pno s.c.np b q := by
    have h6 : SW (⟨c1, s.y.setT b ((q : Int) + 1), s.hd⟩ : SS) := ⟨by show s.y.S.length = c1.nb; rw [hfc.nb]; exact hs.nb, by show s.y.P = c1.np; rw [hfc.np]; exact hs.np, by show mayG (geoOf c1) = true; rw [hfc.geo]; exact hs.may⟩
    have := numS_nat _ h6 (b := b) (q := q) (by show b < c1.nb; rw [hfc.nb]; exact hb) (by show q < c1.np; rw [hfc.np]; exact hq)
    rw [this]
    show pno c1.np b q = _
    rw [hfc.np]
  have hkeep : keepS ⟨c1, s.y.setT b ((q : Int) + 1), s.hd⟩ (b : Int) (q : Int) x = ⟨c1, ((s.y.setT b ((q : Int) + 1)).setN b q true).setD b q false, updH s.hd (pno s.c.np b q) (some x)⟩ := by
    unfold keepS
    rw [hnum, show (⟨c1, s.y.setT b ((q : Int) + 1), s.hd⟩ : SS).y = s.y.setT b ((q : Int) + 1) from rfl, hwant]
  obtain ⟨y1, hy1⟩ : ∃ y1, ((s.y.setT b ((q : Int) + 1)).setN b q true).setD b q false = y1 := ⟨_, rfl⟩
  have hyw1 : YW y1 := by
    have h7 := yw_next (b := (b : Int)) hy
    rw [hx] at h7
    have h8 := yw_want (b := (b : Int)) (p := (q : Int)) h7 false
    rw [show ((s.y.setT b ((q : Int) + 1), (q : Int), (0 : Int)) : Yd × Int × Int).1 = s.y.setT b ((q : Int) + 1) from rfl, hwant, hy1] at h8
    exact h8
  have hS1 : ∀ k, y1.S.getD k 0 = s.y.S.getD k 0 := fun k => by rw [← hy1]; rfl
  have hT1 : ∀ k, y1.T.getD k 0 = if k = b then (q : Int) + 1 else s.y.T.getD k 0 := fun k => by rw [← hy1]; exact getD_set_eq hbT _ _
  have hN1 : ∀ k, y1.N.getD k [] = if k = b then (s.y.N.getD b []).set q true else s.y.N.getD k [] := fun k => by rw [← hy1]; exact getD_set_eq hbN _ _
  have hlen1 : y1.S.length = s.y.S.length := by rw [← hy1]; rfl
  have hP1 : y1.P = s.y.P := by rw [← hy1]; rfl
  rw [hy1] at hkeep
  have hleft : leftS ⟨c1, y1, updH s.hd (pno s.c.np b q) (some x)⟩ (b : Int) = (s.c.np : Int) - ((q : Int) + 1) := by
    unfold leftS
    show (c1.np : Int) - (c1.next (b : Int) : Int) = _
    rw [next_nat c1 (by rw [hfc.nb]; exact hb), hnth, if_pos rfl, hfc.np]
    show _ - (((s.c.nth b).next + 1 : Nat) : Int) = _
    rw [hqe]
    omega
  by_cases hl : q + 1 = s.c.np
  · have hseal : sealY y1 (b : Int) = (y1.setS b 3, 0) := by
      unfold sealY
      rw [stY_nat (by rw [hlen1]; exact hbS), hS1, h2, if_neg (by decide), if_neg (by decide), Int.toNat_natCast]
    have hyw2 : YW (y1.setS b 3) := by
      have := yw_seal (b := (b : Int)) hyw1
      rw [hseal] at this
      exact this
    have hbS1 : b < y1.S.length := by rw [hlen1]; exact hbS
    have hst : stY (y1.setS b 3) (b : Int) = 3 := by
      rw [stY_nat (by show b < (y1.S.set b 3).length; rw [List.length_set]; exact hbS1)]
      show (y1.S.set b 3).getD b 0 = 3
      rw [getD_set_eq hbS1, if_pos rfl]
    have hnd : neededY (y1.setS b 3) (b : Int) ≠ [] := by
      unfold neededY
      rw [hst, if_neg (by decide), Int.toNat_natCast]
      show idxB (y1.N.getD b []) ≠ []
      rw [hN1, if_pos rfl]
      intro e
      have := idx_nil.1 e q
      rw [getD_set_eq (by rw [hy.nl b hbS, hs.np]; exact hq), if_pos rfl] at this
      cases this
    have hfree : freeY (y1.setS b 3) (b : Int) = (y1.setS b 3, 9) := by
      unfold freeY
      rw [hst, if_neg (by decide), if_pos (Or.inr hnd)]
    refine ⟨⟨c1, y1.setS b 3, updH s.hd (pno s.c.np b q) (some x)⟩, ?_, ⟨fun k => ?_, fun k => ?_, fun k => ?_, fun k => ?_, hfc, ?_, hP1⟩, ?_, hnm, hyw2, hcw, hmis⟩
    · rw [hqe, tail_ok0 hx hp (by rw [hkeep, hleft]; omega), hkeep, hnum]
      unfold shutS
      rw [show (⟨c1, y1, updH s.hd (pno s.c.np b q) (some x)⟩ : SS).y = y1 from rfl, hseal, hfree]
    · show (y1.S.set b 3).getD k 0 = _
      rw [getD_set_eq hbS1, hqe, if_pos hl, hS1]
    · show y1.T.getD k 0 = _
      rw [hT1, hqe, Int.natCast_add]; rfl
    · show y1.N.getD k [] = _
      rw [hN1, hqe]
    · exact hnth k
    · show (y1.S.set b 3).length = _
      rw [List.length_set, hlen1]
    · rw [hqe]
  · refine ⟨⟨c1, y1, updH s.hd (pno s.c.np b q) (some x)⟩, ?_, ⟨fun k => ?_, fun k => ?_, fun k => ?_, fun k => ?_, hfc, hlen1, hP1⟩, ?_, hnm, hyw1, hcw, hmis⟩
    · rw [hqe, tail_ok1 hx hp (by rw [hkeep, hleft]; omega), hkeep, hnum]
    · rw [hS1, hqe, if_neg hl]
      by_cases e : k = b
      · rw [if_pos e, e, h2]
      · rw [if_neg e]
    · rw [hT1, hqe, Int.natCast_add]; rfl
    · rw [hN1, hqe]
    · exact hnth k
    · rw [hqe]
/-- Put's page, whatever block it goes to. -/
theorem prog_nm (h : SI s) (hn : NM s.c) (hg : goalS s = (b : Int)) (hx : Hd.Ok x) (hl : ds.length = s.c.ns) (hr : raw = Hd.page ds x) :
    ∃ B0 s1, B0 = base0 s.c.np s.c.long (s.y.S.getD b 0) (s.c.nth b) ∧ b < s.c.nb ∧ (s.y.S.getD b 0 = 1 ∨ s.y.S.getD b 0 = 2) ∧ B0.next < s.c.np ∧ (s.y.N.getD b []).getD B0.next false = false
      ∧ progS s (b : Int) x raw = (s1, pno s.c.np b B0.next, 0) ∧ Eff s s1 b (if B0.next + 1 = s.c.np then 3 else 2) ((B0.next + 1 : Nat) : Int) ((s.y.N.getD b []).set B0.next true) (putB B0 raw)
      ∧ s1.hd = updH s.hd (pno s.c.np b B0.next) (some x) ∧ NM s1.c ∧ SI s1 ∧ s1.c.misuse = s.c.misuse := by
  have hrl : raw.length = s.c.long := by rw [hr, Hd.page_len, hl]; rfl
  obtain ⟨h0, h1, h2⟩ : 0 ≤ goalS s ∧ (goalS s).toNat < s.y.S.length ∧ (s.y.S.getD (goalS s).toNat 0 = 1 ∨ s.y.S.getD (goalS s).toNat 0 = 2) := by
    rcases goalS_is s h.sw with e | e
    · rw [hg] at e; omega
    · exact e
  rw [hg, Int.toNat_natCast] at h1 h2
  have hbS := h1
  have hb : b < s.c.nb := by rw [← h.sw.nb]; exact h1
  have hB := h.b b hb
  have hnl : (s.y.N.getD b []).length = s.c.np := by rw [h.yw.nl b hbS, h.sw.np]
  -- the block's page, taken and laid
  have key : ∀ B0 s0, base0 s.c.np s.c.long (s.y.S.getD b 0) (s.c.nth b) = B0 → Eff s s0 b 2 (B0.next : Int) (s.y.N.getD b []) B0 → s0.hd = s.hd → NM s0.c → YW s0.y → s0.c.Wf → s0.c.misuse = s.c.misuse → progS s (b : Int) x raw = tailS s0 (b : Int) x raw → B0.next < s.c.np → B0.marked = false →
      (∀ q, (s.y.N.getD b []).getD q false = true → q < B0.next ∧ ∃ ds h, Hd.Ok h ∧ ds.length = s.c.ns ∧ B0.pg.getD q [] = Hd.page ds h ∧ s.hd (pno s.c.np b q) = some h) → (∀ q, B0.next ≤ q → q < s.c.np → B0.pg.getD q [] = List.replicate (s.c.ns + 28) 255) → B0.pg.length = s.c.np →
      ∃ B0 s1, B0 = base0 s.c.np s.c.long (s.y.S.getD b 0) (s.c.nth b) ∧ b < s.c.nb ∧ (s.y.S.getD b 0 = 1 ∨ s.y.S.getD b 0 = 2) ∧ B0.next < s.c.np ∧ (s.y.N.getD b []).getD B0.next false = false
      ∧ progS s (b : Int) x raw = (s1, pno s.c.np b B0.next, 0) ∧ Eff s s1 b (if B0.next + 1 = s.c.np then 3 else 2) ((B0.next + 1 : Nat) : Int) ((s.y.N.getD b []).set B0.next true) (putB B0 raw)
      ∧ s1.hd = updH s.hd (pno s.c.np b B0.next) (some x) ∧ NM s1.c ∧ SI s1 ∧ s1.c.misuse = s.c.misuse := by
    intro B0 s0 e0 e1 ehd enm eyw ewf emis eprog hq hm hnd hbl hpg
    have n0 : s0.c.nth b = B0 := by rw [e1.B, if_pos rfl]
    have N0 : s0.y.N.getD b [] = s.y.N.getD b [] := by rw [e1.N, if_pos rfl]
    obtain ⟨s1, t1, t2, t3, t4, t5, t6, t7⟩ := tail_nm (s := s0) (b := b) (x := x) (raw := raw) (e1.sw h.sw) eyw ewf enm (by rw [e1.fc.nb]; exact hb) (by rw [e1.S, if_pos rfl]) (by rw [e1.T, if_pos rfl, n0]) (by rw [n0, e1.fc.np]; exact hq) (by rw [n0]; exact hm) (by rw [N0, n0]; exact fun q hq => (hnd q hq).1) (by rw [hrl]; unfold Chip.long; rw [e1.fc.ns])
    rw [n0, N0, e1.fc.np] at t2
    rw [n0, e1.fc.np] at t1 t3
    rw [ehd] at t3
    have e2 := e1.trans t2
    have hNq : (s.y.N.getD b []).getD B0.next false = false := by
      cases e : (s.y.N.getD b []).getD B0.next false with
      | false => rfl
      | true => have := (hnd _ e).1; omega
    refine ⟨B0, s1, e0.symm, hb, h2, hq, hNq, by rw [eprog, t1], e2, t3, t4, ?_, t7.trans emis⟩
    refine h.eff e2 t5 t6 (fun k q hk hq2 hne => ?_) (fun p y hp => ?_) (fun _ k hk hne e => ?_) (fun _ => ?_)
    · rw [t3, updH_other _ _ fun e => hne (pno_inj hq2 hq e).1]
    · rw [t3] at hp
      by_cases e : p = pno s.c.np b B0.next
      · rw [e]; exact pno_lt hb hq
      · rw [updH_other _ _ e] at hp; exact h.sup p y hp
    · -- none other is open
      rcases h2 with h2 | h2
      · have hl : listY s.y 2 = [] := by
          cases e3 : listY s.y 2 with
          | nil => rfl
          | cons z l =>
            have h4 := goalS_open e3
            rw [hg] at h4
            have h5 := (listY_mem (y := s.y) (x := 2) (b := z) (by rw [e3]; exact List.mem_cons_self ..)).2.2
            rw [← h4, Int.toNat_natCast, h2] at h5
            exact absurd h5 (by decide)
        have hkS : k < s.y.S.length := by rw [h.sw.nb]; exact hk
        have : (k : Int) ∈ listY s.y 2 := by
          unfold listY
          exact List.mem_map.2 ⟨k, List.mem_filter.2 ⟨List.mem_range.2 hkS, by rw [e]; rfl⟩, rfl⟩
        rw [hl] at this
        cases this
      · exact hne (h.one k b hk hb e h2)
    · refine ⟨?_, ?_, ?_, fun q hq2 => ?_, fun q y hq2 hy => ?_, fun q hq2 hq3 => ?_⟩
      · constructor
        · intro e; split at e <;> exact absurd e (by decide)
        · intro e; rw [show (putB B0 raw).marked = B0.marked from rfl, hm] at e; cases e
      · intro e
        split at e
        · exact absurd e (by decide)
        · next hne => exact ⟨rfl, by show B0.next + 1 < s.c.np; omega⟩
      · intro _
        exact ⟨B0.next, by rw [getD_set_eq (by rw [hnl]; exact hq), if_pos rfl]⟩
      · rw [getD_set_eq (by rw [hnl]; exact hq)] at hq2
        show q < B0.next + 1 ∧ ∃ ds h, Hd.Ok h ∧ ds.length = s.c.ns ∧ (B0.pg.set B0.next raw).getD q [] = Hd.page ds h ∧ s1.hd (pno s.c.np b q) = some h
        rw [getD_set_eq (by rw [hpg]; exact hq), t3]
        by_cases e : q = B0.next
        · rw [if_pos e, e, updH_same]
          exact ⟨Nat.lt_succ_self _, ds, x, hx, hl, hr, rfl⟩
        · rw [if_neg e] at hq2 ⊢
          obtain ⟨k1, k2⟩ := hnd q hq2
          rw [updH_other _ _ fun e3 => e (pno_inj (by omega) hq e3).2]
          exact ⟨by omega, k2⟩
      · rw [t3] at hy
        rw [getD_set_eq (by rw [hnl]; exact hq)]
        by_cases e : q = B0.next
        · rw [if_pos e]
        · rw [if_neg e]
          rw [updH_other _ _ fun e3 => e (pno_inj hq2 hq e3).2] at hy
          exact hB.hn q y hq2 hy
      · show (B0.pg.set B0.next raw).getD q [] = _
        have hq2 : B0.next + 1 ≤ q := hq2
        rw [getD_set_eq (by rw [hpg]; exact hq), if_neg (by omega)]
        exact hbl q (by omega) hq3
  have hm : (s.c.nth b).marked = false := by
    cases e : (s.c.nth b).marked with
    | false => rfl
    | true => have := hB.mar.2 e; rcases h2 with h2 | h2 <;> rw [h2] at this <;> exact absurd this (by decide)
  rcases h2 with h3 | h3
  · obtain ⟨s0, r1, r2, r3, r4, r5, r6, r7⟩ := ready_nm h.sw h.yw h.wf hn hb h3 hm
    have hfr := h.yw.fr b hbS h3
    have hb0 : (base0 s.c.np s.c.long 1 (s.c.nth b)).next = 0 := by
      unfold base0
      split
      · rfl
      · next hne => have : ¬ 0 < (s.c.nth b).next := fun e => hne ⟨rfl, e⟩; omega
    refine key _ s0 rfl (by rw [h3]; rw [hb0]; exact r2) r3 r4 r5 r6 r7 (prog_free (by rw [stY_nat hbS]; exact h3) r1) (by rw [h3, hb0]; exact h.wf.np1) ?_ (fun q hq => ?_) (fun q hq1 hq2 => ?_) ?_
    · rw [h3]; unfold base0; split
      · exact hm
      · exact hm
    · rw [hfr.2 q] at hq; cases hq
    · rw [h3]; unfold base0; split
      · show (List.replicate s.c.np (List.replicate s.c.long 255)).getD q [] = _
        rw [getD_rep _ _ _ _ hq2]; rfl
      · next hne =>
        have hz : (s.c.nth b).next = 0 := by
          have : ¬ 0 < (s.c.nth b).next := fun e => hne ⟨rfl, e⟩
          omega
        exact hB.bl q (by omega) hq2
    · rw [h3]; unfold base0; split
      · show (List.replicate s.c.np _).length = _; simp
      · exact h.wf.pages b hb
  · have hop := hB.op h3
    have hbb : base0 s.c.np s.c.long (s.y.S.getD b 0) (s.c.nth b) = s.c.nth b := by unfold base0; rw [if_neg]; rintro ⟨e, _⟩; rw [h3] at e; exact absurd e (by decide)
    refine key (s.c.nth b) s hbb ⟨fun k => ?_, fun k => ?_, fun k => ?_, fun k => ?_, FrC.refl, rfl, rfl⟩ rfl hn h.yw h.wf rfl (prog_open (by rw [stY_nat hbS, h3]; decide)) hop.2 hm (fun q hq => hB.nd q hq) hB.bl (h.wf.pages b hb)
    · by_cases e : k = b
      · rw [if_pos e, e, h3]
      · rw [if_neg e]
    · by_cases e : k = b
      · rw [if_pos e, e, hop.1]
      · rw [if_neg e]
    · by_cases e : k = b
      · rw [if_pos e, e]
      · rw [if_neg e]
    · by_cases e : k = b
      · rw [if_pos e, e]
      · rw [if_neg e]
end
end Go.Proofs.YthgkdnegnecnjaaGreatDoor

/- A store as mathematics: New where nothing befalls the chip. No conditions. -/
set_option linter.unusedVariables false
set_option linter.unusedSimpArgs false
set_option maxRecDepth 20000
namespace Go.Proofs.YthgkdnegnecnjaaGreatDoor
open Go.RowKit

/-- The head of bytes that are a page. -/
noncomputable def rdH (raw : List Nat) : Option Hd.H := match rdB raw with
  | .valid _ h => some h
  | _ => none
theorem rdB_some {raw : List Nat} {ds : List Nat} {h : Hd.H} (e : rdB raw = .valid ds h) : Hd.Ok h ∧ Hd.fits ds.length ∧ raw = Hd.page ds h := by
  unfold rdB at e
  split at e
  · next hx =>
    have := Classical.choose_spec hx
    rw [e] at this
    exact this
  · cases e
theorem rdH_some {raw : List Nat} {h : Hd.H} (e : rdH raw = some h) : ∃ ds, rdB raw = .valid ds h := by
  unfold rdH at e
  split at e
  · next ds h2 e2 => cases e; exact ⟨ds, e2⟩
  · cases e
theorem rdH_page {ds : List Nat} {h : Hd.H} (ok : Hd.Ok h) (f : Hd.fits ds.length) : rdH (Hd.page ds h) = some h := by
  unfold rdH
  rw [rdB_of (Hd.Reads.page ok f)]
theorem rdB_page {ds : List Nat} {h : Hd.H} (ok : Hd.Ok h) (f : Hd.fits ds.length) : rdB (Hd.page ds h) = .valid ds h := rdB_of (Hd.Reads.page ok f)
/-- Which of a block's pages are needed behind New. -/
noncomputable def vN (np : Nat) (B : Blk) (j : Nat) : List Bool := (List.range np).map fun q => decide (q < j) && (rdH (B.pg.getD q [])).isSome
theorem vN_at {np j q : Nat} {B : Blk} (hq : q < np) : (vN np B j).getD q false = (decide (q < j) && (rdH (B.pg.getD q [])).isSome) := by
  unfold vN; rw [getD_map_range _ _ _ _ hq]
theorem vN_len {np j : Nat} {B : Blk} : (vN np B j).length = np := by simp [vN]
theorem vN_out {np j q : Nat} {B : Blk} (hq : np ≤ q) : (vN np B j).getD q false = false := by
  rw [List.getD_eq_getElem?_getD, List.getElem?_eq_none (by rw [vN_len]; exact hq)]; rfl
theorem vN_set {np j : Nat} {B : Blk} (hj : j < np) : (vN np B j).set j (rdH (B.pg.getD j [])).isSome = vN np B (j + 1) := by
  apply List.ext_getElem
  · simp [vN]
  · intro i h1 h2
    have hi : i < np := by simpa [vN] using h1
    by_cases e : j = i
    · subst e; simp [vN]
    · rw [List.getElem_set_ne e]
      have : decide (i < j + 1) = decide (i < j) := by simp; omega
      simp [vN, this]
theorem vN_zero {np : Nat} {B : Blk} : vN np B 0 = List.replicate np false := by
  apply List.ext_getElem
  · simp [vN]
  · intro i h1 h2; simp [vN]
/-- A chip with power, that nothing befalls. -/
structure RD (c : Chip) : Prop where
  ms : c.ms = []
  on : c.on = true
section
variable {s s1 : SS} {b j : Nat} {c : Chip}
theorem read_rd (hw : c.Wf) (hr : RD c) (hb : b < c.nb) (hj : j < c.np) : c.read (b : Int) (j : Int) = (c.tick, 0, (c.nth b).pg.getD j []) := by
  rw [Chip.read_ok (Chip.why_ok hr.on (by omega) (by omega) (by omega) (by omega) rfl) (Chip.dark_none hr.ms)]
  show (c.tick, (0 : Int), c.page (b : Int) (j : Int)) = _
  unfold Chip.page
  rw [blk_nth, Int.toNat_natCast]
theorem step_rd (hs : SW s) (hy : YW s.y) (hw : s.c.Wf) (hr : RD s.c) (hb : b < s.c.nb) (h2 : s.y.S.getD b 0 = 2) (hT : s.y.T.getD b 0 = (j : Int)) (hj : j < s.c.np) (hN : s.y.N.getD b [] = vN s.c.np (s.c.nth b) j) :
    ∃ s1, stepF s (b : Int) = (s1, 0) ∧ Eff s s1 b 2 ((j + 1 : Nat) : Int) (vN s.c.np (s.c.nth b) (j + 1)) (s.c.nth b) ∧ s1.hd = (match rdH ((s.c.nth b).pg.getD j []) with | some h => updH s.hd (pno s.c.np b j) (some h) | none => s.hd)
      ∧ RD s1.c ∧ YW s1.y ∧ s1.c.Wf ∧ s1.c = s.c.tick := by
  have hbS : b < s.y.S.length := by rw [hs.nb]; exact hb
  have hbT : b < s.y.T.length := by rw [hy.lt]; exact hbS
  have hbN : b < s.y.N.length := by rw [hy.ln]; exact hbS
  have hx : nextY s.y (b : Int) = (s.y.setT b ((j : Int) + 1), (j : Int), 0) := by
    unfold nextY
    rw [stY_nat hbS, h2, if_neg (by decide), if_neg (by decide), Int.toNat_natCast, hT, if_neg (by rw [hs.np]; omega)]
  have hrd := read_rd hw hr hb hj
  have hyn : YW (s.y.setT b ((j : Int) + 1)) := by
    have := yw_next (b := (b : Int)) hy
    rw [hx] at this
    exact this
  have hNj : (s.y.N.getD b []).getD j false = false := by rw [hN, vN_at hj]; simp
  have hB : ∀ k, s.c.tick.nth k = if k = b then s.c.nth b else s.c.nth k := fun k => by
    by_cases e : k = b
    · rw [if_pos e, e]; rfl
    · rw [if_neg e]; rfl
  have hT1 : ∀ k, (s.y.setT b ((j : Int) + 1)).T.getD k 0 = if k = b then ((j + 1 : Nat) : Int) else s.y.T.getD k 0 := fun k => by
    rw [Int.natCast_add]; exact getD_set_eq hbT _ _
  have hS1 : ∀ k, s.y.S.getD k 0 = if k = b then 2 else s.y.S.getD k 0 := fun k => by
    by_cases e : k = b
    · rw [if_pos e, e, h2]
    · rw [if_neg e]
  rw [stepF_took hx hrd]
  cases hv : rdB ((s.c.nth b).pg.getD j []) with
  | valid ds h =>
    have hH : rdH ((s.c.nth b).pg.getD j []) = some h := by unfold rdH; rw [hv]
    have hwant : wantY (s.y.setT b ((j : Int) + 1)) (b : Int) (j : Int) false = (((s.y.setT b ((j : Int) + 1)).setN b j true).setD b j false, 0) := by
      unfold wantY
      have h3 : pageY (s.y.setT b ((j : Int) + 1)) (b : Int) (j : Int) := ⟨by rw [show stY (s.y.setT b ((j : Int) + 1)) (b : Int) = stY s.y (b : Int) from rfl, stY_nat hbS, h2]; decide, by omega, by show (j : Int) < (s.y.P : Int); rw [hs.np]; omega⟩
      rw [if_neg (fun h => h h3)]
      have h4 : (s.y.setT b ((j : Int) + 1)).T.getD (b : Int).toNat 0 = (j : Int) + 1 := by
        rw [Int.toNat_natCast]
        show (s.y.T.set b _).getD b 0 = _
        rw [getD_set_eq hbT, if_pos rfl]
      have h5 : isN (s.y.setT b ((j : Int) + 1)) (b : Int) (j : Int) = false := by
        unfold isN
        rw [Int.toNat_natCast, Int.toNat_natCast]
        exact hNj
      rw [h4, h5, if_neg (by rintro (h | h); omega; cases h), Int.toNat_natCast, Int.toNat_natCast]
    have hyw : YW (((s.y.setT b ((j : Int) + 1)).setN b j true).setD b j false) := by
      have := yw_want (b := (b : Int)) (p := (j : Int)) hyn false
      rw [hwant] at this
      exact this
    have hnum : numS ⟨s.c.tick, s.y.setT b ((j : Int) + 1), s.hd⟩ (b : Int) (j : Int) = pno s.c.np b j :=
      numS_nat ⟨s.c.tick, s.y.setT b ((j : Int) + 1), s.hd⟩ ⟨hs.nb, hs.np, hs.may⟩ hb hj
    refine ⟨_, rfl, ⟨fun k => ?_, fun k => ?_, fun k => ?_, hB, ⟨rfl, rfl, rfl⟩, ?_, ?_⟩, ?_, ⟨hr.ms, hr.on⟩, ?_, hw.tick, rfl⟩
    · show (wantY (s.y.setT b ((j : Int) + 1)) (b : Int) (j : Int) false).1.S.getD k 0 = _
      rw [hwant]; exact hS1 k
    · show (wantY (s.y.setT b ((j : Int) + 1)) (b : Int) (j : Int) false).1.T.getD k 0 = _
      rw [hwant]; exact hT1 k
    · show (wantY (s.y.setT b ((j : Int) + 1)) (b : Int) (j : Int) false).1.N.getD k [] = _
      rw [hwant]
      show (s.y.N.set b ((s.y.N.getD b []).set j true)).getD k [] = _
      rw [getD_set_eq hbN, hN, ← vN_set hj, hH]; rfl
    · show (wantY (s.y.setT b ((j : Int) + 1)) (b : Int) (j : Int) false).1.S.length = _
      rw [hwant]; rfl
    · show (wantY (s.y.setT b ((j : Int) + 1)) (b : Int) (j : Int) false).1.P = _
      rw [hwant]; rfl
    · rw [hH]
      show updH s.hd (numS _ _ _) _ = _
      rw [hnum]
    · show YW (wantY (s.y.setT b ((j : Int) + 1)) (b : Int) (j : Int) false).1
      rw [hwant]; exact hyw
  | torn =>
    have hH : rdH ((s.c.nth b).pg.getD j []) = none := by unfold rdH; rw [hv]
    have hNs : vN s.c.np (s.c.nth b) (j + 1) = vN s.c.np (s.c.nth b) j := by
      rw [← vN_set hj, hH]
      have : (vN s.c.np (s.c.nth b) j).getD j false = false := by rw [vN_at hj]; simp
      rw [show (none : Option Hd.H).isSome = (vN s.c.np (s.c.nth b) j).getD j false from this.symm]
      exact set_same _ _ _
    refine ⟨_, rfl, ⟨hS1, hT1, fun k => ?_, hB, ⟨rfl, rfl, rfl⟩, rfl, rfl⟩, by rw [hH]; rfl, ⟨hr.ms, hr.on⟩, hyn, hw.tick, rfl⟩
    by_cases e : k = b
    · rw [if_pos e, e, hNs]; exact hN
    · rw [if_neg e]; rfl
  | erased =>
    have hH : rdH ((s.c.nth b).pg.getD j []) = none := by unfold rdH; rw [hv]
    have hNs : vN s.c.np (s.c.nth b) (j + 1) = vN s.c.np (s.c.nth b) j := by
      rw [← vN_set hj, hH]
      have : (vN s.c.np (s.c.nth b) j).getD j false = false := by rw [vN_at hj]; simp
      rw [show (none : Option Hd.H).isSome = (vN s.c.np (s.c.nth b) j).getD j false from this.symm]
      exact set_same _ _ _
    refine ⟨_, rfl, ⟨hS1, hT1, fun k => ?_, hB, ⟨rfl, rfl, rfl⟩, rfl, rfl⟩, by rw [hH]; rfl, ⟨hr.ms, hr.on⟩, hyn, hw.tick, rfl⟩
    by_cases e : k = b
    · rw [if_pos e, e, hNs]; exact hN
    · rw [if_neg e]; rfl
theorem stepHd {hd : Int → Option Hd.H} {np b j : Nat} {B : Blk} {o : Option Hd.H} (ho : rdH (B.pg.getD j []) = o) (hj : j < np) (hh : ∀ q, q < np → hd (pno np b q) = if q < j then rdH (B.pg.getD q []) else none) :
    (∀ q, q < np → (match o with | some h => updH hd (pno np b j) (some h) | none => hd) (pno np b q) = if q < j + 1 then rdH (B.pg.getD q []) else none)
      ∧ ∀ p, (∀ q, q < np → p ≠ pno np b q) → (match o with | some h => updH hd (pno np b j) (some h) | none => hd) p = hd p := by
  cases o with
  | some h =>
    refine ⟨fun q hq => ?_, fun p hp => updH_other _ _ (hp j hj)⟩
    show updH hd _ _ _ = _
    by_cases e : q = j
    · rw [e, updH_same, if_pos (Nat.lt_succ_self _), ho]
    · rw [updH_other _ _ fun h => e (pno_inj hq hj h).2, hh q hq]
      by_cases h2 : q < j
      · rw [if_pos h2, if_pos (by omega)]
      · rw [if_neg h2, if_neg (by omega)]
  | none =>
    refine ⟨fun q hq => ?_, fun p hp => rfl⟩
    show hd _ = _
    rw [hh q hq]
    by_cases e : q = j
    · rw [e, if_neg (by omega), if_pos (by omega), ho]
    · by_cases h2 : q < j
      · rw [if_pos h2, if_pos (by omega)]
      · rw [if_neg h2, if_neg (by omega)]
theorem findL_rd (hb : b < s.c.nb) : ∀ (f j : Nat) (s : SS), SW s → YW s.y → s.c.Wf → RD s.c → b < s.c.nb → s.y.S.getD b 0 = 2 → s.y.T.getD b 0 = (j : Int) → f + j ≤ s.c.np → s.y.N.getD b [] = vN s.c.np (s.c.nth b) j →
      (∀ q, q < s.c.np → s.hd (pno s.c.np b q) = if q < j then rdH ((s.c.nth b).pg.getD q []) else none) →
      ∃ s1, findL f s (b : Int) = (s1, 0) ∧ Eff s s1 b 2 ((f + j : Nat) : Int) (vN s.c.np (s.c.nth b) (f + j)) (s.c.nth b) ∧ (∀ q, q < s.c.np → s1.hd (pno s.c.np b q) = if q < f + j then rdH ((s.c.nth b).pg.getD q []) else none)
        ∧ (∀ p, (∀ q, q < s.c.np → p ≠ pno s.c.np b q) → s1.hd p = s.hd p) ∧ RD s1.c ∧ YW s1.y ∧ s1.c.Wf ∧ s1.c.bs = s.c.bs ∧ s1.c.ops = s.c.ops + f ∧ s1.c.misuse = s.c.misuse := by
  intro f
  induction f with
  | zero =>
    intro j s hs hy hw hr hb h2 hT hf hN hh
    rw [Nat.zero_add]
    refine ⟨s, rfl, ⟨fun k => ?_, fun k => ?_, fun k => ?_, fun k => ?_, FrC.refl, rfl, rfl⟩, hh, fun _ _ => rfl, hr, hy, hw, rfl, rfl, rfl⟩
    · by_cases e : k = b
      · rw [if_pos e, e, h2]
      · rw [if_neg e]
    · by_cases e : k = b
      · rw [if_pos e, e, hT]
      · rw [if_neg e]
    · by_cases e : k = b
      · rw [if_pos e, e, hN]
      · rw [if_neg e]
    · by_cases e : k = b
      · rw [if_pos e, e]
      · rw [if_neg e]
  | succ f ih =>
    intro j s hs hy hw hr hb h2 hT hf hN hh
    obtain ⟨s1, p1, p2, p3, p4, p5, p6, p7⟩ := step_rd hs hy hw hr hb h2 hT (by omega) hN
    obtain ⟨q1, q2⟩ := stepHd (o := rdH ((s.c.nth b).pg.getD j [])) rfl (show j < s.c.np by omega) hh
    rw [← p3] at q1 q2
    have hn : s1.c.nth b = s.c.nth b := by rw [p2.B, if_pos rfl]
    obtain ⟨s2, r1, r2, r3, r4, r5, r6, r7, r8, r9, r10⟩ := ih (j + 1) s1 (p2.sw hs) p5 p6 p4 (by rw [p2.fc.nb]; exact hb) (by rw [p2.S, if_pos rfl]) (by rw [p2.T, if_pos rfl]) (by rw [p2.fc.np]; omega) (by rw [p2.N, if_pos rfl, p2.fc.np, hn]) (by rw [p2.fc.np, hn]; exact q1)
    rw [p2.fc.np, hn] at r2 r3
    rw [p2.fc.np] at r4
    have e : f + (j + 1) = f + 1 + j := by omega
    rw [e] at r2 r3
    refine ⟨s2, ?_, p2.trans r2, r3, fun p hp => (r4 p hp).trans (q2 p hp), r5, r6, r7, by rw [r8, p7]; rfl, by rw [r9, p7]; show s.c.ops + 1 + f = _; omega, by rw [r10, p7]; rfl⟩
    rw [findL_next p1, r1]
end
end Go.Proofs.YthgkdnegnecnjaaGreatDoor

/- A store as mathematics: New, block by block, where nothing befalls the chip. No conditions. -/
set_option linter.unusedVariables false
set_option linter.unusedSimpArgs false
set_option maxRecDepth 20000
namespace Go.Proofs.YthgkdnegnecnjaaGreatDoor
open Go.RowKit

/-- Pages that were not programmed are blank. -/
def CBl (c : Chip) : Prop := ∀ k q, k < c.nb → (c.nth k).next ≤ q → q < c.np → (c.nth k).pg.getD q [] = List.replicate (c.ns + 28) 255
noncomputable def anyV (np : Nat) (B : Blk) : Bool := (List.range np).any fun q => (vN np B B.next).getD q false
theorem anyV_idx {np : Nat} {B : Blk} : idxB (vN np B B.next) = [] ↔ anyV np B = false := by
  rw [idx_nil]
  unfold anyV
  rw [List.any_eq_false]
  constructor
  · intro h q hq; rw [h q]; decide
  · intro h q
    by_cases hq : q < np
    · have := h q (List.mem_range.2 hq)
      cases e : (vN np B B.next).getD q false with
      | false => rfl
      | true => exact absurd e this
    · exact vN_out (by omega)
noncomputable def newSt (np : Nat) (B : Blk) : Int := if B.marked = true then 4 else if anyV np B = true then 3 else 1
noncomputable def newTk (np : Nat) (B : Blk) : Int := if anyV np B = true then (B.next : Int) else 0
section
variable {s : SS} {b : Nat} {c : Chip}
theorem marked_nat (c : Chip) {b : Nat} (hb : b < c.nb) : c.marked (b : Int) = (c.nth b).marked := by
  unfold Chip.marked; rw [has_nat c hb, blk_nth]; rfl
theorem find_rd (hs : SW s) (hy : YW s.y) (hw : s.c.Wf) (hr : RD s.c) (hb : b < s.c.nb) (h1 : s.y.S.getD b 0 = 1) (hh : ∀ q, q < s.c.np → s.hd (pno s.c.np b q) = none) :
    ∃ s1, findS s (b : Int) = (s1, 0) ∧ Eff s s1 b (newSt s.c.np (s.c.nth b)) (newTk s.c.np (s.c.nth b)) (vN s.c.np (s.c.nth b) (s.c.nth b).next) (s.c.nth b)
      ∧ (∀ q, q < s.c.np → s1.hd (pno s.c.np b q) = if q < (s.c.nth b).next then rdH ((s.c.nth b).pg.getD q []) else none) ∧ (∀ p, (∀ q, q < s.c.np → p ≠ pno s.c.np b q) → s1.hd p = s.hd p)
      ∧ RD s1.c ∧ YW s1.y ∧ s1.c.Wf ∧ s1.c.bs = s.c.bs ∧ s1.c.ops = s.c.ops + (s.c.nth b).next ∧ s1.c.misuse = s.c.misuse := by
  have hbS : b < s.y.S.length := by rw [hs.nb]; exact hb
  have hbT : b < s.y.T.length := by rw [hy.lt]; exact hbS
  have hfr := hy.fr b hbS h1
  have ho : openY s.y (b : Int) = ((s.y.setS b 2).setT b 0, 0) := by
    unfold openY
    rw [stY_nat hbS, h1]
    simp
  have hyo : YW ((s.y.setS b 2).setT b 0) := by
    have := yw_open (b := (b : Int)) hy
    rw [ho] at this
    exact this
  have hNb : s.y.N.getD b [] = vN s.c.np (s.c.nth b) 0 := by
    rw [vN_zero]
    apply List.ext_getElem
    · rw [hy.nl b hbS, hs.np]; simp
    · intro i i1 i2
      have := hfr.2 i
      rw [List.getD_eq_getElem?_getD, List.getElem?_eq_getElem i1] at this
      simpa using this
  have e0 : Eff s (openS s (b : Int)).1 b 2 0 (vN s.c.np (s.c.nth b) 0) (s.c.nth b) := by
    unfold openS
    rw [ho]
    refine ⟨fun k => getD_set_eq hbS _ _, fun k => getD_set_eq hbT _ _, fun k => ?_, fun k => ?_, FrC.refl, by simp [Yd.setS, Yd.setT], rfl⟩
    · show s.y.N.getD k [] = _
      by_cases e : k = b
      · rw [if_pos e, e, hNb]
      · rw [if_neg e]
    · show s.c.nth k = _
      by_cases e : k = b
      · rw [if_pos e, e]
      · rw [if_neg e]
  have hy0 : YW (openS s (b : Int)).1.y := by
    show YW (openY s.y (b : Int)).1
    rw [ho]; exact hyo
  obtain ⟨s1, p1, p2, p3, p4, p5, p6, p7, p8, p9, p10⟩ := findL_rd (s := s) (b := b) hb (s.c.nth b).next 0 (openS s (b : Int)).1 (e0.sw hs) hy0 hw hr hb (by rw [e0.S, if_pos rfl]) (by rw [e0.T, if_pos rfl]; rfl) (by show (s.c.nth b).next + 0 ≤ s.c.np; have h9 : (s.c.nth b).next ≤ s.c.np := hw.next b hb; omega) (by rw [e0.N, if_pos rfl]; rfl) (fun q hq => by rw [if_neg (by omega)]; exact hh q hq)
  rw [Nat.add_zero] at p2 p3
  have e1 := e0.trans p2
  have hcs : (openS s (b : Int)).1.c = s.c := rfl
  rw [show (openS s (b : Int)).1.hd = s.hd from rfl] at p4
  rw [hcs] at e1 p3 p4 p8 p9 p10
  have hbS1 : b < s1.y.S.length := by rw [e1.len]; exact hbS
  have hbT1 : b < s1.y.T.length := by rw [p6.lt]; exact hbS1
  have hseal : sealY s1.y (b : Int) = (s1.y.setS b 3, 0) := by
    unfold sealY
    rw [stY_nat hbS1, e1.S, if_pos rfl, if_neg (by decide), if_neg (by decide), Int.toNat_natCast]
  have hyw2 : YW (s1.y.setS b 3) := by
    have := yw_seal (b := (b : Int)) p6
    rw [hseal] at this
    exact this
  have hst : stY (s1.y.setS b 3) (b : Int) = 3 := by
    rw [stY_nat (by show b < (s1.y.S.set b 3).length; rw [List.length_set]; exact hbS1)]
    show (s1.y.S.set b 3).getD b 0 = 3
    rw [getD_set_eq hbS1, if_pos rfl]
  have hndY : neededY (s1.y.setS b 3) (b : Int) = idxB (vN s.c.np (s.c.nth b) (s.c.nth b).next) := by
    unfold neededY
    rw [hst, if_neg (by decide), Int.toNat_natCast]
    show idxB (s1.y.N.getD b []) = _
    rw [e1.N, if_pos rfl]
  -- the state behind shut
  obtain ⟨y2, hy2, hyS, hyT, hyN, hyl, hyp, hyw⟩ : ∃ y2, (freeY (sealY s1.y (b : Int)).1 (b : Int)).1 = y2 ∧ (∀ k, y2.S.getD k 0 = if k = b then (if anyV s.c.np (s.c.nth b) = true then 3 else 1) else s1.y.S.getD k 0) ∧ (∀ k, y2.T.getD k 0 = if k = b then newTk s.c.np (s.c.nth b) else s1.y.T.getD k 0) ∧ y2.N = s1.y.N ∧ y2.S.length = s1.y.S.length ∧ y2.P = s1.y.P ∧ YW y2 := by
    rw [hseal]
    cases ha : anyV s.c.np (s.c.nth b) with
    | true =>
      have hne : neededY (s1.y.setS b 3) (b : Int) ≠ [] := by
        rw [hndY]; intro e; rw [anyV_idx.1 e] at ha; cases ha
      have hf : freeY (s1.y.setS b 3) (b : Int) = (s1.y.setS b 3, 9) := by
        unfold freeY
        rw [hst, if_neg (by decide), if_pos (Or.inr hne)]
      refine ⟨s1.y.setS b 3, by rw [hf], fun k => ?_, fun k => ?_, rfl, by simp [Yd.setS], rfl, hyw2⟩
      · rw [if_pos rfl]; exact getD_set_eq hbS1 _ _
      · show s1.y.T.getD k 0 = _
        unfold newTk
        rw [ha, if_pos rfl]
        by_cases e : k = b
        · rw [if_pos e, e, e1.T, if_pos rfl]
        · rw [if_neg e]
    | false =>
      have he : neededY (s1.y.setS b 3) (b : Int) = [] := by rw [hndY]; exact anyV_idx.2 ha
      have hf : freeY (s1.y.setS b 3) (b : Int) = (((s1.y.setS b 3).setS b 1).setT b 0, 0) := by
        unfold freeY
        rw [hst, if_neg (by decide), if_neg (by rintro (h | h); exact h.2 rfl; exact h he), Int.toNat_natCast]
      have hyw3 := yw_free (b := (b : Int)) hyw2
      rw [hf] at hyw3
      refine ⟨((s1.y.setS b 3).setS b 1).setT b 0, by rw [hf], fun k => ?_, fun k => ?_, rfl, by simp [Yd.setS, Yd.setT], rfl, hyw3⟩
      · show ((s1.y.S.set b 3).set b 1).getD k 0 = _
        rw [getD_set_eq (by rw [List.length_set]; exact hbS1), getD_set_eq hbS1]
        by_cases e : k = b
        · rw [if_pos e, if_pos e]; rfl
        · rw [if_neg e, if_neg e, if_neg e]
      · show (s1.y.T.set b 0).getD k 0 = _
        rw [getD_set_eq hbT1]
        unfold newTk
        rw [ha]; rfl
  have hshut : shutS s1 (b : Int) = { s1 with y := y2 } := by unfold shutS; rw [hy2]
  have hfi : findL (s.c.next (b : Int)) (openS s (b : Int)).1 (b : Int) = (s1, 0) := by rw [next_nat _ hb]; exact p1
  have hmk : (shutS s1 (b : Int)).c.marked (b : Int) = (s.c.nth b).marked := by
    rw [hshut]
    show s1.c.marked (b : Int) = _
    rw [marked_nat _ (by rw [e1.fc.nb]; exact hb), e1.B, if_pos rfl]
  have hBk : ∀ k, s1.c.nth k = if k = b then s.c.nth b else s.c.nth k := e1.B
  cases hm : (s.c.nth b).marked with
  | false =>
    refine ⟨{ s1 with y := y2 }, ?_, ⟨fun k => ?_, fun k => ?_, fun k => ?_, hBk, e1.fc, by show y2.S.length = _; rw [hyl, e1.len], by show y2.P = _; rw [hyp, e1.p]⟩, p3, p4, p5, hyw, p7, p8, p9, p10⟩
    · rw [findS_end hfi, endF_no (by rw [hmk, hm]), hshut]
    · show y2.S.getD k 0 = _
      rw [hyS, e1.S]
      by_cases e : k = b
      · rw [if_pos e, if_pos e]
        unfold newSt
        rw [hm]; rfl
      · rw [if_neg e, if_neg e, if_neg e]
    · show y2.T.getD k 0 = _
      rw [hyT, e1.T]
      by_cases e : k = b
      · rw [if_pos e, if_pos e]
      · rw [if_neg e, if_neg e, if_neg e]
    · show y2.N.getD k [] = _
      rw [hyN]; exact e1.N k
  | true =>
    have hst2 : stY y2 (b : Int) ≠ 0 ∧ stY y2 (b : Int) ≠ 4 := by
      rw [stY_nat (by rw [hyl]; exact hbS1), hyS, if_pos rfl]
      split <;> exact ⟨by decide, by decide⟩
    have hret : retireY y2 (b : Int) = (y2.setS b 4, 0) := by
      unfold retireY
      rw [if_neg hst2.1, if_neg hst2.2, Int.toNat_natCast]
    have hyw4 := yw_retire (b := (b : Int)) hyw
    rw [hret] at hyw4
    refine ⟨{ s1 with y := y2.setS b 4 }, ?_, ⟨fun k => ?_, fun k => ?_, fun k => ?_, hBk, e1.fc, by show (y2.S.set b 4).length = _; rw [List.length_set, hyl, e1.len], by show y2.P = _; rw [hyp, e1.p]⟩, p3, p4, p5, hyw4, p7, p8, p9, p10⟩
    · rw [findS_end hfi, endF_bad (by rw [hmk, hm]) (y := y2.setS b 4) (q := 0) (by rw [hshut]; exact hret), hshut]
    · show (y2.S.set b 4).getD k 0 = _
      rw [getD_set_eq (by rw [hyl]; exact hbS1), hyS, e1.S]
      by_cases e : k = b
      · rw [if_pos e, if_pos e]
        unfold newSt
        rw [hm]; rfl
      · rw [if_neg e, if_neg e, if_neg e, if_neg e]
    · show y2.T.getD k 0 = _
      rw [hyT, e1.T]
      by_cases e : k = b
      · rw [if_pos e, if_pos e]
      · rw [if_neg e, if_neg e, if_neg e]
    · show y2.N.getD k [] = _
      rw [hyN]; exact e1.N k
/-- New's blocks, those behind number i yet to come. -/
structure NewI (c : Chip) (i : Nat) (s : SS) : Prop where
  sw : SW s
  yw : YW s.y
  wf : s.c.Wf
  rd : RD s.c
  fc : FrC c s.c
  bs : s.c.bs = c.bs
  mis : s.c.misuse = c.misuse
  ops : s.c.ops ≤ c.ops + 8 * i
  S : ∀ k, k < c.nb → s.y.S.getD k 0 = if k < i then newSt c.np (c.nth k) else 1
  T : ∀ k, k < c.nb → s.y.T.getD k 0 = if k < i then newTk c.np (c.nth k) else 0
  N : ∀ k, k < i → k < c.nb → s.y.N.getD k [] = vN c.np (c.nth k) (c.nth k).next
  hd : ∀ k q, k < c.nb → q < c.np → s.hd (pno c.np k q) = if k < i ∧ q < (c.nth k).next then rdH ((c.nth k).pg.getD q []) else none
  out : ∀ p, (∀ k q, k < c.nb → q < c.np → p ≠ pno c.np k q) → s.hd p = none
theorem newL_rd : ∀ (f i : Nat) (s : SS), NewI c i s → f + i = c.nb → ∃ s1, newL f s i = (s1, 0) ∧ NewI c c.nb s1 := by
  intro f
  induction f with
  | zero => intro i s h hf; exact ⟨s, rfl, by rw [Nat.zero_add] at hf; exact hf ▸ h⟩
  | succ f ih =>
    intro i s h hf
    have hi : i < c.nb := by omega
    have hn : s.c.nth i = c.nth i := by unfold Chip.nth; rw [h.bs]
    obtain ⟨s1, p1, p2, p3, p4, p5, p6, p7, p8, p9, p10⟩ := find_rd (b := i) h.sw h.yw h.wf h.rd (by rw [h.fc.nb]; exact hi) (by rw [h.S i hi, if_neg (Nat.lt_irrefl _)]) (fun q hq => by rw [h.fc.np, h.hd i q hi (by rw [← h.fc.np]; exact hq), if_neg (fun e => Nat.lt_irrefl _ e.1)])
    rw [hn, h.fc.np] at p2 p3
    rw [h.fc.np] at p4
    have hI : NewI c (i + 1) s1 := by
      refine ⟨p2.sw h.sw, p6, p7, p5, h.fc.trans p2.fc, p8.trans h.bs, p10.trans h.mis, by rw [p9]; have h8 : (s.c.nth i).next ≤ s.c.np := h.wf.next i (by rw [h.fc.nb]; exact hi); have := h.wf.np2; have := h.ops; omega, fun k hk => ?_, fun k hk => ?_, fun k hk1 hk => ?_, fun k q hk hq => ?_, fun p hp => ?_⟩
      · rw [p2.S]
        by_cases e : k = i
        · rw [if_pos e, if_pos (by omega), e]
        · rw [if_neg e, h.S k hk]
          by_cases e2 : k < i
          · rw [if_pos e2, if_pos (by omega)]
          · rw [if_neg e2, if_neg (by omega)]
      · rw [p2.T]
        by_cases e : k = i
        · rw [if_pos e, if_pos (by omega), e]
        · rw [if_neg e, h.T k hk]
          by_cases e2 : k < i
          · rw [if_pos e2, if_pos (by omega)]
          · rw [if_neg e2, if_neg (by omega)]
      · rw [p2.N]
        by_cases e : k = i
        · rw [if_pos e, e]
        · rw [if_neg e, h.N k (by omega) hk]
      · by_cases e : k = i
        · subst e
          rw [p3 q hq]
          by_cases e2 : q < (c.nth k).next
          · rw [if_pos e2, if_pos ⟨Nat.lt_succ_self _, e2⟩]
          · rw [if_neg e2, if_neg (fun e3 => e2 e3.2)]
        · rw [p4 _ (fun q' hq' e3 => e (pno_inj hq hq' e3).1), h.hd k q hk hq]
          by_cases e2 : k < i ∧ q < (c.nth k).next
          · rw [if_pos e2, if_pos ⟨by omega, e2.2⟩]
          · rw [if_neg e2, if_neg (fun e3 => e2 ⟨by omega, e3.2⟩)]
      · rw [p4 p (fun q hq => hp i q hi hq)]; exact h.out p hp
    obtain ⟨s2, q1, q2⟩ := ih (i + 1) s1 hI (by omega)
    exact ⟨s2, by rw [newL_next p1]; exact q1, q2⟩
theorem start_i (hw : c.Wf) (hr : RD c) (hm : mayG (geoOf c) = true) : NewI c 0 (startS c) := by
  have hy := fresh_yw hw.nb1 hw.nb2 hw.np1 hw.np2
  refine ⟨⟨by show (List.replicate c.nb _).length = c.nb; simp, rfl, hm⟩, hy, hw, hr, FrC.refl, rfl, rfl, Nat.le_refl _, fun k hk => ?_, fun k hk => ?_, fun k hk => absurd hk (Nat.not_lt_zero _), fun k q _ _ => ?_, fun _ _ => rfl⟩
  · rw [if_neg (Nat.not_lt_zero _)]; exact getD_rep _ _ _ _ hk
  · rw [if_neg (Nat.not_lt_zero _)]; exact getD_rep _ _ _ _ hk
  · rw [if_neg (fun e => Nat.not_lt_zero _ e.1)]; rfl
/-- New, over a chip that nothing befalls. -/
theorem new_rd (hw : c.Wf) (hr : RD c) (hm : mayG (geoOf c) = true) : ∃ s1, newS c = (s1, 0) ∧ NewI c c.nb s1 := newL_rd c.nb 0 (startS c) (start_i hw hr hm) rfl
theorem newSt_ne2 (np : Nat) (B : Blk) : newSt np B ≠ 2 := by
  unfold newSt
  split
  · decide
  · split <;> decide
theorem NewI.si (h : NewI c c.nb s) (hw : c.Wf) (hbl : CBl c) : SI s := by
  have hn : ∀ k, s.c.nth k = c.nth k := fun k => by unfold Chip.nth; rw [h.bs]
  refine ⟨h.sw, h.yw, h.wf, fun p x hp => ?_, fun j k hj hk h1 _ => ?_, fun k hk => ?_⟩
  · rw [h.fc.nb, h.fc.np]
    by_cases e : ∃ k q, k < c.nb ∧ q < c.np ∧ p = pno c.np k q
    · obtain ⟨k, q, hk, hq, rfl⟩ := e; exact pno_lt hk hq
    · rw [h.out p (fun k q hk hq e2 => e ⟨k, q, hk, hq, e2⟩)] at hp; cases hp
  · rw [h.S j (by rw [← h.fc.nb]; exact hj), if_pos (by rw [← h.fc.nb]; exact hj)] at h1
    exact absurd h1 (newSt_ne2 _ _)
  · have hk : k < c.nb := by rw [← h.fc.nb]; exact hk
    rw [h.S k hk, h.T k hk, h.N k hk hk, if_pos hk, if_pos hk, hn, h.fc.np, h.fc.ns]
    refine ⟨?_, fun e => absurd e (newSt_ne2 _ _), fun e => ?_, fun q hq => ?_, fun q x hq hx => ?_, fun q h1 h2 => hbl k q hk h1 h2⟩
    · unfold newSt
      constructor
      · intro e
        split at e
        · assumption
        · split at e <;> exact absurd e (by decide)
      · intro e; rw [if_pos e]
    · unfold newSt at e
      split at e
      · exact absurd e (by decide)
      · split at e
        · next ha =>
          obtain ⟨q, _, hq⟩ := List.any_eq_true.1 ha
          exact ⟨q, hq⟩
        · exact absurd e (by decide)
    · have hqn : q < c.np := Nat.lt_of_not_le fun e => by rw [vN_out e] at hq; cases hq
      rw [vN_at hqn] at hq
      obtain ⟨q1, q2⟩ := Bool.and_eq_true_iff.1 hq
      have q1 := of_decide_eq_true q1
      obtain ⟨x, hx⟩ := Option.isSome_iff_exists.1 q2
      obtain ⟨ds, hds⟩ := rdH_some hx
      obtain ⟨r1, r2, r3⟩ := rdB_some hds
      have hlen := hw.bytes k q hk hqn
      rw [show c.bs.getD k Blk.zero = c.nth k from rfl, r3, Hd.page_len] at hlen
      refine ⟨q1, ds, x, r1, by unfold Chip.long at hlen; omega, r3, ?_⟩
      show s.hd (pno c.np k q) = _
      rw [h.hd k q hk hqn, if_pos ⟨hk, q1⟩, hx]
    · show _ = true
      have hx : s.hd (pno c.np k q) = some x := hx
      rw [h.hd k q hk hq] at hx
      split at hx
      · next hc => rw [vN_at hq, decide_eq_true hc.2, hx]; rfl
      · cases hx
end
end Go.Proofs.YthgkdnegnecnjaaGreatDoor

/- The power goes, and comes again; a store over the same chip. Conditions: the chip's cells; what the listed variables hold. -/
set_option linter.unusedVariables false
set_option linter.unusedSimpArgs false
set_option maxRecDepth 20000
namespace Go.Proofs.YthgkdnegnecnjaaGreatDoor
open Go.RowKit

section
variable {w w0 : World} {base gc : Nat} {fc : Nat → Prop} {c : Chip} {L : CL}
theorem Rep.dim (h : Rep w base fc gc c L) : Rep (w.setCell ⟨gc, 5, none⟩ (.bool false)) base fc gc { c with on := false } L :=
  h.head (h.wf.turn false) rfl rfl rfl rfl rfl (by simp [World.setCell, Array.getElem?_modify, h.row, chipRow]) (fun b hb => setCell_heap _ _ _ _ _ hb) (by simp [World.setCell])
theorem off_any (hC : ChipAt w base fc gc c) : Calls Tryz.prog 48 #[.pointer (some ⟨gc, 0, none⟩)] w fun e w' => e = .returned (.tuple #[]) ∧ ChipAt w' base fc gc { c with on := false } ∧ Moves w fc w' fc := by
  obtain ⟨L, h⟩ := hC
  obtain ⟨c0, c1, c2, c3, c4, c5, c6, c7, c8⟩ := h.cells
  have f5 := h.free 5
  have H := Lib.hid h.dim
  have HM := Lib.hid (h.head_moves 5 (.bool false))
  clear h c0 c1 c2 c3 c4 c6 c7 c8
  go_enter Tryz.func48, Tryz.ntmps48
  go_wp2_with fail
  go_end0
  exact ⟨rfl, ⟨L, H.out⟩, HM.out⟩
set_option maxHeartbeats 4000000 in
theorem lost_ok (s1 : SS) (hmay : mayG (geoOf c) = true) (hnew : newS { c with on := true } = (s1, 0)) (hT : Tabs w0) (hW : Wid w0) (hB : Below w0.heap.size w0 w) (hbase : w0.heap.size ≤ base) (hops : c.ops < 980000) (hC : ChipAt w base fc gc c) :
    Calls Tryz.prog 16 #[.pointer (some ⟨gc, 0, none⟩)] w fun e w' => ∃ g fp, e = .returned (.tuple #[.pointer (some ⟨g, 0, none⟩), .int .i64 1]) ∧ StoreAt w' base fp g gc s1 ∧ Moves w fc w' fp := by
  have HMAY : Hid (mayG (geoOf { c with on := true }) = true) := hmay
  have HNEW := Lib.hid hnew
  have HT := Lib.hid hT
  have HW := Lib.hid hW
  have HB := Lib.hid hB
  have HBS := Lib.hid hbase
  have HOPS : Hid (({ c with on := true } : Chip).ops < 980000) := hops
  have HGE := Lib.hid hC.ge
  have CO := Lib.hid (off_any hC)
  clear hmay hnew hT hW hB hbase hops hC
  go_enter Tryz.func16, Tryz.ntmps16
  go_wp2_with fail
  go_loopw [4] (fun t4 wr => t4 = .int .i64 1 ∧ wr = w) (fun _ _ => 0)
  case atStart => exact ⟨rfl, rfl⟩
  case round =>
    obtain ⟨rfl, rfl⟩ := hrel
    go_wp2_with fail
    refine CO.out.mono ?_
    rintro e W1 ⟨rfl, hc1, hm1⟩
    have CB := Lib.hid (boot_any hc1)
    rw [show ({ c with on := false } : Chip).boot = ({ c with on := true }, 0) from if_neg (by show ¬ (false = true); decide)] at CB
    have M1 := Lib.hid hm1
    clear hc1 hm1 CO
    go_wp2_with fail
    refine CB.out.mono ?_
    rintro e W2 ⟨v2, fc2, rfl, he2, hc2, hm2⟩
    obtain rfl := he2.nil
    have M2 := Lib.hid (M1.out.trans hm2)
    have C2 := Lib.hid hc2
    clear he2 hc2 hm2 CB M1
    have CN := Lib.hid (snew_any HMAY.out rfl HT.out HW.out (M2.out.below HB.out (fun b hb => Nat.le_trans HBS.out (HGE.out b hb)) HB.out.size) HBS.out HOPS.out C2.out)
    rw [HNEW.out] at CN
    go_wp2_with fail
    refine CN.out.mono ?_
    rintro e W3 hn3
    obtain ⟨g, fp, rfl, hg3, hs3, hm3⟩ : ∃ g fp, e = .returned (.tuple #[.pointer (some ⟨g, 0, none⟩), .nilIface]) ∧ W2.heap.size ≤ g ∧ StoreAt W3 base fp g gc s1 ∧ Moves W2 fc2 W3 fp := by
      rcases hn3 with h | h
      · exact h.2
      · exact absurd rfl h.1
    have S3 := Lib.hid hs3
    have M3 := Lib.hid (M2.out.trans hm3)
    clear hn3 hs3 hm3 hg3 CN C2 M2
    go_wp2_with fail
    go_ret2
    exact ⟨g, fp, rfl, S3.out, M3.out⟩
end
theorem Moves.widen {w w' : World} {fp fq fr : Nat → Prop} (h : Moves w fp w' fq) (hs : ∀ b, fp b → fr b) : Moves w fr w' fq := ⟨h.turn.mono fun b hb => Or.inl (hs b hb), fun b hb => (h.grows b hb).imp (hs b) id⟩
end Go.Proofs.YthgkdnegnecnjaaGreatDoor

/- A store as mathematics: Drop; how much of the chip is used; which block a page may go to. No conditions. -/
set_option linter.unusedVariables false
set_option linter.unusedSimpArgs false
set_option maxRecDepth 20000
namespace Go.Proofs.YthgkdnegnecnjaaGreatDoor
open Go.RowKit

section
variable {s s1 : SS} {b k q : Nat} {x : Hd.H} {raw ds : List Nat} {K A S G : Int}
theorem place_pno (hs : SW s) (hk : k < s.c.nb) (hq : q < s.c.np) : placeS s (pno s.c.np k q) = ((k : Int), (q : Int)) := by
  have hp : 0 < s.c.np := by omega
  obtain ⟨p0, p1⟩ := pno_lt hk hq
  unfold placeS placeG placeIn
  rw [if_pos]
  · show (pno s.c.np k q / (s.c.np : Int), pno s.c.np k q % (s.c.np : Int)) = _
    unfold pno
    have e1 : (k * s.c.np + q) / s.c.np = k := by rw [Nat.mul_comm, Nat.mul_add_div hp, Nat.div_eq_of_lt hq, Nat.add_zero]
    have e2 : (k * s.c.np + q) % s.c.np = q := by rw [Nat.mul_comm, Nat.mul_add_mod, Nat.mod_eq_of_lt hq]
    rw [← Int.natCast_ediv, ← Int.natCast_emod, e1, e2]
  · rw [hs.may, Bool.true_and]
    refine decide_eq_true ⟨p0, ?_⟩
    show pno s.c.np k q < (s.c.nb : Int) * (s.c.np : Int)
    rw [← Int.natCast_mul]; exact p1
/-- A needed page is dropped. -/
theorem drop_nm (h : SI s) (hk : k < s.c.nb) (hN : (s.y.N.getD k []).getD q false = true) :
    ∃ s1 S1 T1, dropS s (pno s.c.np k q) = (s1, 0) ∧ q < s.c.np ∧ Eff s s1 k S1 T1 ((s.y.N.getD k []).set q false) (s.c.nth k) ∧ s1.hd = updH s.hd (pno s.c.np k q) none ∧ s1.c = s.c ∧ SI s1
      ∧ (S1 = s.y.S.getD k 0 ∨ (s.y.S.getD k 0 = 3 ∧ S1 = 1)) := by
  have hkS : k < s.y.S.length := by rw [h.sw.nb]; exact hk
  have hkT : k < s.y.T.length := by rw [h.yw.lt]; exact hkS
  have hkN : k < s.y.N.length := by rw [h.yw.ln]; exact hkS
  have hB := h.b k hk
  obtain ⟨n1, n2⟩ := hB.nd q hN
  have hnx : (s.c.nth k).next ≤ s.c.np := h.wf.next k hk
  have hq : q < s.c.np := by omega
  have hnl : (s.y.N.getD k []).length = s.c.np := by rw [h.yw.nl k hkS, h.sw.np]
  have hst0 := h.yw.st k hkS
  have hdr : dropY s.y (k : Int) (q : Int) = ((s.y.setN k q false).setD k q false, 0) := by
    unfold dropY
    have h3 : pageY s.y (k : Int) (q : Int) := ⟨by rw [stY_nat hkS]; omega, by omega, by rw [h.sw.np]; omega⟩
    rw [if_neg (fun e => e h3)]
    have h4 : isN s.y (k : Int) (q : Int) = true := by unfold isN; rw [Int.toNat_natCast, Int.toNat_natCast]; exact hN
    rw [h4, if_neg (by decide), Int.toNat_natCast, Int.toNat_natCast]
  obtain ⟨y1, hy1⟩ : ∃ y1, (s.y.setN k q false).setD k q false = y1 := ⟨_, rfl⟩
  have hyw1 : YW y1 := by
    have := yw_drop (b := (k : Int)) (p := (q : Int)) h.yw
    rw [hdr, hy1] at this
    exact this
  rw [hy1] at hdr
  have hS1 : ∀ j, y1.S.getD j 0 = s.y.S.getD j 0 := fun j => by rw [← hy1]; rfl
  have hT1 : ∀ j, y1.T.getD j 0 = s.y.T.getD j 0 := fun j => by rw [← hy1]; rfl
  have hN1 : ∀ j, y1.N.getD j [] = if j = k then (s.y.N.getD k []).set q false else s.y.N.getD j [] := fun j => by rw [← hy1]; exact getD_set_eq hkN _ _
  have hlen1 : y1.S.length = s.y.S.length := by rw [← hy1]; rfl
  have hP1 : y1.P = s.y.P := by rw [← hy1]; rfl
  have hst : stY y1 (k : Int) = s.y.S.getD k 0 := by rw [stY_nat (by rw [hlen1]; exact hkS), hS1]
  -- what SI asks of the block
  have key : ∀ (S1 T1 : Int) (s1 : SS), Eff s s1 k S1 T1 ((s.y.N.getD k []).set q false) (s.c.nth k) → s1.hd = updH s.hd (pno s.c.np k q) none → s1.c = s.c → YW s1.y → (S1 = s.y.S.getD k 0 ∧ T1 = s.y.T.getD k 0 ∧ (S1 = 3 → ∃ j, ((s.y.N.getD k []).set q false).getD j false = true) ∨ s.y.S.getD k 0 = 3 ∧ S1 = 1) → SI s1 := by
    intro S1 T1 s1 e ehd ec eyw ho
    refine h.eff e eyw (by rw [ec]; exact h.wf) (fun j i hj hi hne => ?_) (fun p y hp => ?_) (fun e2 j hj hne e3 => ?_) (fun _ => ?_)
    · rw [ehd, updH_other _ _ fun e3 => hne (pno_inj hi hq e3).1]
    · rw [ehd] at hp
      by_cases e3 : p = pno s.c.np k q
      · rw [e3, updH_same] at hp; cases hp
      · rw [updH_other _ _ e3] at hp; exact h.sup p y hp
    · rcases ho with ⟨o1, _⟩ | ⟨_, o1⟩
      · exact hne (h.one j k hj hk e3 (by rw [← o1]; exact e2))
      · rw [o1] at e2; exact absurd e2 (by decide)
    · refine ⟨?_, fun e2 => ?_, fun e2 => ?_, fun j hj => ?_, fun j y hj hy => ?_, hB.bl⟩
      · rcases ho with ⟨o1, _⟩ | ⟨o0, o1⟩
        · rw [o1]; exact hB.mar
        · rw [o1]
          constructor
          · intro e2; exact absurd e2 (by decide)
          · intro e2; have := hB.mar.2 e2; rw [o0] at this; exact absurd this (by decide)
      · rcases ho with ⟨o1, o2, _⟩ | ⟨_, o1⟩
        · rw [o2]; exact hB.op (by rw [← o1]; exact e2)
        · rw [o1] at e2; exact absurd e2 (by decide)
      · rcases ho with ⟨_, _, o3⟩ | ⟨_, o1⟩
        · exact o3 e2
        · rw [o1] at e2; exact absurd e2 (by decide)
      · rw [getD_set_eq (by rw [hnl]; exact hq)] at hj
        by_cases e3 : j = q
        · rw [if_pos e3] at hj; cases hj
        · rw [if_neg e3] at hj
          obtain ⟨j1, d, y, j2, j3, j4, j5⟩ := hB.nd j hj
          refine ⟨j1, d, y, j2, j3, j4, ?_⟩
          show s1.hd (pno s.c.np k j) = _
          rw [ehd, updH_other _ _ fun e4 => e3 (pno_inj (by omega) hq e4).2]; exact j5
      · have hy : s1.hd (pno s.c.np k j) = some y := hy
        rw [ehd] at hy
        rw [getD_set_eq (by rw [hnl]; exact hq)]
        by_cases e3 : j = q
        · rw [e3, updH_same] at hy; cases hy
        · rw [if_neg e3]
          rw [updH_other _ _ fun e4 => e3 (pno_inj hj hq e4).2] at hy
          exact hB.hn j y hj hy
  have hBk : ∀ j, s.c.nth j = if j = k then s.c.nth k else s.c.nth j := fun j => by
    by_cases e : j = k
    · rw [if_pos e, e]
    · rw [if_neg e]
  have hpl := place_pno h.sw hk hq
  by_cases h3 : s.y.S.getD k 0 = 3
  · by_cases hne : neededY y1 (k : Int) = []
    · have hf : freeY y1 (k : Int) = ((y1.setS k 1).setT k 0, 0) := by
        unfold freeY
        rw [hst, h3, if_neg (by decide), if_neg (by rintro (e | e); exact e.2 rfl; exact e hne), Int.toNat_natCast]
      have hyw2 := yw_free (b := (k : Int)) hyw1
      rw [hf] at hyw2
      have e1 : Eff s ⟨s.c, (y1.setS k 1).setT k 0, updH s.hd (pno s.c.np k q) none⟩ k 1 0 ((s.y.N.getD k []).set q false) (s.c.nth k) := by
        refine ⟨fun j => ?_, fun j => ?_, hN1, hBk, FrC.refl, ?_, hP1⟩
        · show (y1.S.set k 1).getD j 0 = _
          rw [getD_set_eq (by rw [hlen1]; exact hkS), hS1]
        · show (y1.T.set k 0).getD j 0 = _
          rw [getD_set_eq (by rw [hyw1.lt, hlen1]; exact hkS), hT1]
        · show (y1.S.set k 1).length = _
          rw [List.length_set, hlen1]
      refine ⟨_, 1, 0, ?_, hq, e1, rfl, rfl, key 1 0 _ e1 rfl rfl hyw2 (Or.inr ⟨h3, rfl⟩), Or.inr ⟨h3, rfl⟩⟩
      rw [dropS_free hpl hdr (by rw [hst, h3]), hf]
    · have hf : freeY y1 (k : Int) = (y1, 9) := by
        unfold freeY
        rw [hst, h3, if_neg (by decide), if_pos (Or.inr hne)]
      have e1 : Eff s ⟨s.c, y1, updH s.hd (pno s.c.np k q) none⟩ k (s.y.S.getD k 0) (s.y.T.getD k 0) ((s.y.N.getD k []).set q false) (s.c.nth k) := by
        refine ⟨fun j => ?_, fun j => ?_, hN1, hBk, FrC.refl, hlen1, hP1⟩
        · show y1.S.getD j 0 = _
          rw [hS1]
          by_cases e : j = k
          · rw [if_pos e, e]
          · rw [if_neg e]
        · show y1.T.getD j 0 = _
          rw [hT1]
          by_cases e : j = k
          · rw [if_pos e, e]
          · rw [if_neg e]
      refine ⟨_, _, _, ?_, hq, e1, rfl, rfl, key _ _ _ e1 rfl rfl hyw1 (Or.inl ⟨rfl, rfl, fun _ => ?_⟩), Or.inl rfl⟩
      · rw [dropS_free hpl hdr (by rw [hst, h3]), hf]
      · have : ¬ ∀ j, ((s.y.N.getD k []).set q false).getD j false = false := fun e => hne (by
          unfold neededY
          rw [hst, h3, if_neg (by decide), Int.toNat_natCast, hN1, if_pos rfl]
          exact idx_nil.2 e)
        obtain ⟨j, hj⟩ := Classical.not_forall.1 this
        exact ⟨j, by cases e : ((s.y.N.getD k []).set q false).getD j false with
          | true => rfl
          | false => exact absurd e hj⟩
  · have e1 : Eff s ⟨s.c, y1, updH s.hd (pno s.c.np k q) none⟩ k (s.y.S.getD k 0) (s.y.T.getD k 0) ((s.y.N.getD k []).set q false) (s.c.nth k) := by
      refine ⟨fun j => ?_, fun j => ?_, hN1, hBk, FrC.refl, hlen1, hP1⟩
      · show y1.S.getD j 0 = _
        rw [hS1]
        by_cases e : j = k
        · rw [if_pos e, e]
        · rw [if_neg e]
      · show y1.T.getD j 0 = _
        rw [hT1]
        by_cases e : j = k
        · rw [if_pos e, e]
        · rw [if_neg e]
    refine ⟨_, _, _, dropS_ok hpl hdr (by rw [hst]; exact h3), hq, e1, rfl, rfl, key _ _ _ e1 rfl rfl hyw1 (Or.inl ⟨rfl, rfl, fun e => absurd e h3⟩), Or.inl rfl⟩
/-- There is no block for a page only where none is free, and none is open. -/
theorem goal_none (h : SI s) (hg : goalS s = -1) : ∀ k, k < s.c.nb → s.y.S.getD k 0 = 3 ∨ s.y.S.getD k 0 = 4 := by
  intro k hk
  have hkS : k < s.y.S.length := by rw [h.sw.nb]; exact hk
  have hst := h.yw.st k hkS
  have h2 : s.y.S.getD k 0 ≠ 2 := fun e => by
    have : (k : Int) ∈ listY s.y 2 := by
      unfold listY
      exact List.mem_map.2 ⟨k, List.mem_filter.2 ⟨List.mem_range.2 hkS, by rw [e]; rfl⟩, rfl⟩
    cases e2 : listY s.y 2 with
    | nil => rw [e2] at this; cases this
    | cons z l =>
      rw [goalS_open e2] at hg
      have := (listY_mem (y := s.y) (x := 2) (b := z) (by rw [e2]; exact List.mem_cons_self ..)).1
      omega
  have h1 : s.y.S.getD k 0 ≠ 1 := fun e => by
    have hm : (k : Int) ∈ listY s.y 1 := by
      unfold listY
      exact List.mem_map.2 ⟨k, List.mem_filter.2 ⟨List.mem_range.2 hkS, by rw [e]; rfl⟩, rfl⟩
    have hl2 : listY s.y 2 = [] := by
      cases e2 : listY s.y 2 with
      | nil => rfl
      | cons z l =>
        rw [goalS_open e2] at hg
        have := (listY_mem (y := s.y) (x := 2) (b := z) (by rw [e2]; exact List.mem_cons_self ..)).1
        omega
    rw [goalS_none hl2] at hg
    unfold leastW at hg
    rw [if_pos (by rw [wsL_len, csL_len]), wsL_len] at hg
    have hc : isC (csL s (listY s.y 1)) k = true := by
      unfold isC csL
      rw [getD_map_range _ _ _ _ hk]
      exact List.contains_iff_mem.2 hm
    have := least_is (ws := wsL s (listY s.y 1)) (cs := csL s (listY s.y 1)) s.c.nb
    rcases this with ⟨_, h6⟩ | ⟨i, h6, _⟩
    · rw [h6 k hk] at hc; cases hc
    · rw [h6] at hg; omega
  omega
/-- How many pages of the chip are used up till their blocks are free again. -/
def usedAt (np : Nat) (S : Int) (B : Blk) : Nat := if S = 3 then np else if S = 2 then B.next else 0
def usedN (s : SS) : Nat := ((List.range s.c.nb).map fun k => usedAt s.c.np (s.y.S.getD k 0) (s.c.nth k)).sum
theorem sum_range_one {n b : Nat} {f g : Nat → Nat} (hb : b < n) (h : ∀ k, k ≠ b → f k = g k) : ((List.range n).map f).sum + g b = ((List.range n).map g).sum + f b := by
  induction n with
  | zero => omega
  | succ n ih =>
    rw [List.range_succ, List.map_append, List.map_append, List.sum_append, List.sum_append]
    by_cases e : b = n
    · subst e
      have : (List.range b).map f = (List.range b).map g := List.map_congr_left fun k hk => h k (by have := List.mem_range.1 hk; omega)
      rw [this]
      simp
      omega
    · have := ih (by omega)
      have e2 := h n (fun e3 => e e3.symm)
      simp [e2]
      omega
theorem used_eff {S1 T1 : Int} {N1 : List Bool} {B1 : Blk} (e : Eff s s1 b S1 T1 N1 B1) (hb : b < s.c.nb) : usedN s1 + usedAt s.c.np (s.y.S.getD b 0) (s.c.nth b) = usedN s + usedAt s.c.np S1 B1 := by
  unfold usedN
  rw [e.fc.nb, e.fc.np]
  have := sum_range_one (f := fun k => usedAt s.c.np (s1.y.S.getD k 0) (s1.c.nth k)) (g := fun k => usedAt s.c.np (s.y.S.getD k 0) (s.c.nth k)) hb (fun k hk => by
    show usedAt _ (s1.y.S.getD k 0) (s1.c.nth k) = _
    rw [e.S, e.B, if_neg hk, if_neg hk])
  rw [show usedAt s.c.np (s1.y.S.getD b 0) (s1.c.nth b) = usedAt s.c.np S1 B1 by rw [e.S, e.B, if_pos rfl, if_pos rfl]] at this
  exact this
end
end Go.Proofs.YthgkdnegnecnjaaGreatDoor

/- A store as mathematics: a Put that goes well; when there is a block for it. No conditions. -/
set_option linter.unusedVariables false
set_option linter.unusedSimpArgs false
set_option maxRecDepth 20000
namespace Go.Proofs.YthgkdnegnecnjaaGreatDoor
open Go.RowKit

/-- What a Put that goes well leaves. -/
structure PutOk (s s1 : SS) (b : Nat) (B0 : Blk) (x : Hd.H) (raw : List Nat) : Prop where
  b0 : B0 = base0 s.c.np s.c.long (s.y.S.getD b 0) (s.c.nth b)
  lt : b < s.c.nb
  st : s.y.S.getD b 0 = 1 ∨ s.y.S.getD b 0 = 2
  q : B0.next < s.c.np
  no : (s.y.N.getD b []).getD B0.next false = false
  eff : Eff s s1 b (if B0.next + 1 = s.c.np then 3 else 2) ((B0.next + 1 : Nat) : Int) ((s.y.N.getD b []).set B0.next true) (putB B0 raw)
  hd : s1.hd = updH s.hd (pno s.c.np b B0.next) (some x)
  nm : NM s1.c
  si : SI s1
  mis : s1.c.misuse = s.c.misuse
  ops : s1.c.ops ≤ s.c.ops + 2
section
variable {s s1 : SS} {b k q : Nat} {x : Hd.H} {raw ds : List Nat} {K A S G : Int} {B0 : Blk}
theorem putL_ops : ∀ f (s : SS), (∀ b, (progS s b x raw).2.2 = 0) → (putL (f + 1) s x raw).1.c.ops ≤ s.c.ops + 2 := by
  intro f s h
  have hp := (progS_ops (s := s) (b := goalS s) (x := x) (raw := raw)).2.1
  unfold putL
  split
  · exact Nat.le_add_right _ _
  · rw [if_pos (h _)]; exact hp
theorem put_nm (h : SI s) (hn : NM s.c) (hg : goalS s = (b : Int)) (hlay : layO ds K A S G = some raw) (a0 : 0 ≤ A) (a1 : A ≤ 18446744073709551615) (hl : ds.length = s.c.ns) :
    ∃ B0 s1, putS s K A S G ds = (s1, pno s.c.np b B0.next, 0) ∧ PutOk s s1 b B0 (hN K A S G) raw ∧ Hd.Ok (hN K A S G) ∧ raw = Hd.page ds (hN K A S G) := by
  obtain ⟨hm, hr⟩ : mayB K A S G = true ∧ raw = Hd.page ds (hN K A S G) := by
    unfold layO at hlay
    split at hlay
    · next hx => exact ⟨hx.2, (Option.some.inj hlay).symm⟩
    · cases hlay
  have hok := hN_ok hm a0 a1
  obtain ⟨B0, s1, p1, p2, p3, p4, p5, p6, p7, p8, p9, p10, p11⟩ := prog_nm h hn hg hok hl hr
  have hops := (progS_ops (s := s) (b := (b : Int)) (x := hN K A S G) (raw := raw)).2.1
  rw [p6] at hops
  refine ⟨B0, s1, ?_, ⟨p1, p2, p3, p4, p5, p7, p8, p9, p10, p11, hops⟩, hok, hr⟩
  rw [putS_on hlay (by rw [hl]) hn.on]
  exact putL_ok hg (by omega) p6
theorem PutOk.next0 (h : PutOk s s1 b B0 x raw) (hs : s.y.S.getD b 0 = 1) : B0.next = 0 := by
  rw [h.b0, hs]
  unfold base0
  split
  · rfl
  · next hne => have : ¬ 0 < (s.c.nth b).next := fun e => hne ⟨rfl, e⟩; omega
theorem PutOk.same (h : PutOk s s1 b B0 x raw) (hs : s.y.S.getD b 0 = 2) : B0 = s.c.nth b := by
  rw [h.b0, hs]
  unfold base0
  rw [if_neg (fun e => absurd e.1 (by decide))]
theorem PutOk.used (h : PutOk s s1 b B0 x raw) : usedN s1 = usedN s + 1 := by
  have hu := used_eff h.eff h.lt
  have h1 : usedAt s.c.np (if B0.next + 1 = s.c.np then 3 else 2) (putB B0 raw) = B0.next + 1 := by
    unfold usedAt
    by_cases e : B0.next + 1 = s.c.np
    · rw [if_pos e, if_pos rfl, e]
    · rw [if_neg e, if_neg (by decide), if_pos rfl]; rfl
  have h2 : usedAt s.c.np (s.y.S.getD b 0) (s.c.nth b) = B0.next := by
    rcases h.st with e | e
    · rw [e, h.next0 e]; rfl
    · rw [e, h.same e]; rfl
  rw [h1, h2] at hu
  omega
theorem sum34 (g : Nat → Int) (u : Nat → Nat) (np : Nat) : ∀ n, (∀ k, k < n → (g k = 3 ∧ u k = np) ∨ (g k = 4 ∧ u k = 0)) → ((List.range n).map u).sum = np * ((List.range n).countP fun k => g k == 3) ∧ ((List.range n).countP fun k => g k == 3) + ((List.range n).countP fun k => g k == 4) = n
  | 0, _ => ⟨rfl, rfl⟩
  | n + 1, h => by
    obtain ⟨h1, h2⟩ := sum34 g u np n fun k hk => h k (by omega)
    rw [List.range_succ, List.map_append, List.sum_append, List.countP_append, List.countP_append, Nat.mul_add, h1]
    rcases h n (Nat.lt_succ_self _) with ⟨e, e2⟩ | ⟨e, e2⟩
    · have d3 : ((List.countP (fun k => g k == 3) [n])) = 1 := by simp [e]
      have d4 : ((List.countP (fun k => g k == 4) [n])) = 0 := by simp [e]
      rw [d3, d4]
      simp [e2]
      omega
    · have d3 : ((List.countP (fun k => g k == 3) [n])) = 0 := by simp [e]
      have d4 : ((List.countP (fun k => g k == 4) [n])) = 1 := by simp [e]
      rw [d3, d4]
      simp [e2]
      omega
theorem used_all (hg : ∀ k, k < s.c.nb → s.y.S.getD k 0 = 3 ∨ s.y.S.getD k 0 = 4) : usedN s = s.c.np * ((List.range s.c.nb).countP fun k => s.y.S.getD k 0 == 3) ∧ ((List.range s.c.nb).countP fun k => s.y.S.getD k 0 == 3) + ((List.range s.c.nb).countP fun k => s.y.S.getD k 0 == 4) = s.c.nb :=
  sum34 (fun k => s.y.S.getD k 0) (fun k => usedAt s.c.np (s.y.S.getD k 0) (s.c.nth k)) s.c.np s.c.nb fun k hk => by
    rcases hg k hk with e | e
    · exact Or.inl ⟨e, by show usedAt _ _ _ = _; rw [e]; rfl⟩
    · exact Or.inr ⟨e, by show usedAt _ _ _ = _; rw [e]; rfl⟩
/-- There is a block for a page, as long as not all is used up. -/
theorem goal_ex (h : SI s) {m : Nat} (hm : ((List.range s.c.nb).countP fun k => s.y.S.getD k 0 == 4) ≤ m) (hu : usedN s < s.c.np * (s.c.nb - m)) : ∃ b : Nat, goalS s = (b : Int) := by
  rcases goalS_is s h.sw with e | e
  · have hg := goal_none h e
    obtain ⟨h1, h2⟩ := used_all hg
    have h3 : s.c.np * (s.c.nb - m) ≤ s.c.np * ((List.range s.c.nb).countP fun k => s.y.S.getD k 0 == 3) := Nat.mul_le_mul_left _ (by omega)
    omega
  · exact ⟨(goalS s).toNat, by omega⟩
end
end Go.Proofs.YthgkdnegnecnjaaGreatDoor

/- A store as mathematics: which pages are needed behind a Put, behind a Drop, and what stands there. No conditions. -/
set_option linter.unusedVariables false
set_option linter.unusedSimpArgs false
set_option maxRecDepth 20000
namespace Go.Proofs.YthgkdnegnecnjaaGreatDoor
open Go.RowKit

/-- A page is needed. -/
def nee (s : SS) (k q : Nat) : Bool := (s.y.N.getD k []).getD q false
/-- What stands at a page. -/
def pgA (s : SS) (k q : Nat) : List Nat := (s.c.nth k).pg.getD q []
section
variable {s s1 : SS} {b k q r : Nat} {x : Hd.H} {raw : List Nat} {B0 : Blk} {S1 T1 : Int}
theorem PutOk.need (h : PutOk s s1 b B0 x raw) (hs : SI s) (k r : Nat) : nee s1 k r = if k = b ∧ r = B0.next then true else nee s k r := by
  have hbS : b < s.y.S.length := by rw [hs.sw.nb]; exact h.lt
  unfold nee
  rw [h.eff.N]
  by_cases e : k = b
  · rw [if_pos e, e, getD_set_eq (by rw [hs.yw.nl b hbS, hs.sw.np]; exact h.q)]
    by_cases e2 : r = B0.next
    · rw [if_pos e2, if_pos ⟨rfl, e2⟩]
    · rw [if_neg e2, if_neg fun e3 => e2 e3.2]
  · rw [if_neg e, if_neg fun e3 => e e3.1]
theorem PutOk.new (h : PutOk s s1 b B0 x raw) (hs : SI s) : pgA s1 b B0.next = raw ∧ s1.hd (pno s.c.np b B0.next) = some x ∧ (s1.c.nth b).next = B0.next + 1 := by
  refine ⟨?_, by rw [h.hd, updH_same], by rw [h.eff.B, if_pos rfl]; rfl⟩
  unfold pgA
  rw [h.eff.B, if_pos rfl]
  show (B0.pg.set B0.next raw).getD B0.next [] = raw
  have hl : B0.pg.length = s.c.np := by
    rw [h.b0]; unfold base0; split
    · show (List.replicate s.c.np _).length = _; simp
    · exact hs.wf.pages b h.lt
  rw [getD_set_eq (by rw [hl]; exact h.q), if_pos rfl]
/-- What was needed stays as it was. -/
theorem PutOk.stay (h : PutOk s s1 b B0 x raw) (hs : SI s) (hk : k < s.c.nb) (hr : r < s.c.np) (hN : nee s k r = true) : pgA s1 k r = pgA s k r ∧ s1.hd (pno s.c.np k r) = s.hd (pno s.c.np k r) ∧ ¬ (k = b ∧ r = B0.next) := by
  have hne : ¬ (k = b ∧ r = B0.next) := fun e => by
    unfold nee at hN
    rw [e.1, e.2, h.no] at hN
    cases hN
  refine ⟨?_, by rw [h.hd, updH_other _ _ fun e => hne (by obtain ⟨e1, e2⟩ := pno_inj hr h.q e; exact ⟨e1, e2⟩)], hne⟩
  unfold pgA
  rw [h.eff.B]
  by_cases e : k = b
  · subst e
    rw [if_pos rfl]
    have h2 : s.y.S.getD k 0 = 2 := by
      rcases h.st with e | e
      · have := (hs.yw.fr k (by rw [hs.sw.nb]; exact hk) e).2 r
        unfold nee at hN
        rw [this] at hN
        cases hN
      · exact e
    rw [h.same h2]
    show ((s.c.nth k).pg.set (s.c.nth k).next raw).getD r [] = _
    have hl : (s.c.nth k).pg.length = s.c.np := hs.wf.pages k hk
    have hq := h.q
    rw [h.same h2] at hq hne
    rw [getD_set_eq (by rw [hl]; exact hq), if_neg fun e => hne ⟨rfl, e⟩]
  · rw [if_neg e]
theorem PutOk.mark (h : PutOk s s1 b B0 x raw) (k : Nat) : (s1.c.nth k).marked = (s.c.nth k).marked := by
  rw [h.eff.B]
  by_cases e : k = b
  · rw [if_pos e, e]
    show B0.marked = _
    rw [h.b0]; unfold base0; split <;> rfl
  · rw [if_neg e]
theorem drop_need (hs : SI s) (hk : k < s.c.nb) (hq : q < s.c.np) (e : Eff s s1 k S1 T1 ((s.y.N.getD k []).set q false) (s.c.nth k)) (j r : Nat) : nee s1 j r = if j = k ∧ r = q then false else nee s j r := by
  have hkS : k < s.y.S.length := by rw [hs.sw.nb]; exact hk
  unfold nee
  rw [e.N]
  by_cases e : j = k
  · rw [if_pos e, e, getD_set_eq (by rw [hs.yw.nl k hkS, hs.sw.np]; exact hq)]
    by_cases e2 : r = q
    · rw [if_pos e2, if_pos ⟨rfl, e2⟩]
    · rw [if_neg e2, if_neg fun e3 => e2 e3.2]
  · rw [if_neg e, if_neg fun e3 => e e3.1]
theorem need_lt (hs : SI s) (hk : k < s.c.nb) (h : nee s k q = true) : q < (s.c.nth k).next ∧ q < s.c.np := by
  have h1 := ((hs.b k hk).nd q h).1
  have h2 : (s.c.nth k).next ≤ s.c.np := hs.wf.next k hk
  exact ⟨h1, by omega⟩
/-- As many blocks, as many different ones. -/
theorem pigeon : ∀ (n : Nat) (L : List Nat), (∀ k, k < n → k ∈ L) → n ≤ L.length
  | 0, _, _ => Nat.zero_le _
  | n + 1, L, h => by
    have h1 := h n (Nat.lt_succ_self _)
    have h2 := pigeon n (L.erase n) fun k hk => (List.mem_erase_of_ne (by omega)).2 (h k (by omega))
    rw [List.length_erase_of_mem h1] at h2
    have := List.length_pos_of_mem h1
    omega
end
end Go.Proofs.YthgkdnegnecnjaaGreatDoor

/- How many pages are needed, and how many there is room for. No conditions. -/
set_option linter.unusedVariables false
set_option linter.unusedSimpArgs false
set_option maxRecDepth 20000
namespace Go.Proofs.YthgkdnegnecnjaaGreatDoor
open Go.RowKit

theorem idxB_count (l : List Bool) : (idxB l).length = l.count true := by
  have h : l = (List.range l.length).map fun k => l.getD k false := List.ext_getElem (by simp) fun i h1 h2 => by
    simp [List.getD_eq_getElem?_getD, List.getElem?_eq_getElem h1]
  unfold idxB
  rw [List.length_map, ← List.countP_eq_length_filter]
  conv => rhs; rw [h]
  rw [List.count_eq_countP, List.countP_map]
  refine List.countP_congr fun k _ => ?_
  simp
def cntN (s : SS) : Nat := ((List.range s.c.nb).map fun k => (s.y.N.getD k []).count true).sum
theorem count_yes {l : List Bool} {q : Nat} (hq : q < l.length) (h : l.getD q false = false) : (l.set q true).count true = l.count true + 1 := by
  rw [List.getD_eq_getElem?_getD, List.getElem?_eq_getElem hq] at h
  have h2 : l[q] = false := h
  rw [List.count_set hq, h2]; simp
theorem count_no {l : List Bool} {q : Nat} (h : l.getD q false = true) : (l.set q false).count true + 1 = l.count true := by
  have hq : q < l.length := by
    by_cases e : q < l.length
    · exact e
    · rw [List.getD_eq_getElem?_getD, List.getElem?_eq_none (by omega)] at h; cases h
  rw [List.getD_eq_getElem?_getD, List.getElem?_eq_getElem hq] at h
  have h2 : l[q] = true := h
  have h3 : 0 < l.count true := List.count_pos_iff.2 (h2 ▸ List.getElem_mem hq)
  rw [List.count_set hq, h2]; simp; omega
theorem sumI_append (l m : List Int) : sumI (l ++ m) = sumI l + sumI m := by
  induction l with
  | nil => show sumI m = 0 + sumI m; omega
  | cons x l ih => show x + sumI (l ++ m) = x + sumI l + sumI m; rw [ih]; omega
theorem room_sum (np : Nat) (S g : Nat → Int) (r : Nat → Nat) : ∀ n, (∀ k, k < n → (r k : Int) = if S k = 1 then (np : Int) else if S k = 2 then g k else 0) →
    (((List.range n).filter fun k => S k == 1).length : Int) * (np : Int) + sumI (((List.range n).filter fun k => S k == 2).map g) = (((List.range n).map r).sum : Int)
  | 0, _ => by simp [sumI]
  | n + 1, h => by
    have ih := room_sum np S g r n fun k hk => h k (by omega)
    have hn := h n (Nat.lt_succ_self n)
    rw [List.range_succ, List.filter_append, List.filter_append, List.map_append, List.map_append, sumI_append, List.sum_append, List.length_append]
    have e1 : ([n].filter fun k => S k == 1) = if S n = 1 then [n] else [] := by
      by_cases e : S n = 1
      · rw [if_pos e]; simp [e]
      · rw [if_neg e]; simp [e]
    have e2 : ([n].filter fun k => S k == 2) = if S n = 2 then [n] else [] := by
      by_cases e : S n = 2
      · rw [if_pos e]; simp [e]
      · rw [if_neg e]; simp [e]
    rw [e1, e2]
    have e3 : ([n].map r).sum = r n := by simp
    rw [e3]
    by_cases e : S n = 1
    · have e4 : ¬ S n = 2 := by omega
      rw [if_pos e] at hn
      rw [if_pos e, if_neg e4]
      show ((((List.range n).filter fun k => S k == 1).length + 1 : Nat) : Int) * (np : Int) + (sumI _ + 0) = ((_ + r n : Nat) : Int)
      rw [Int.natCast_add, Int.natCast_add, Int.add_mul, ← ih, hn]; omega
    · rw [if_neg e] at hn
      rw [if_neg e]
      by_cases e5 : S n = 2
      · rw [if_pos e5] at hn
        rw [if_pos e5]
        show ((((List.range n).filter fun k => S k == 1).length + 0 : Nat) : Int) * (np : Int) + (sumI _ + (g n + 0)) = ((_ + r n : Nat) : Int)
        rw [Nat.add_zero, Int.natCast_add, ← ih, hn]; omega
      · rw [if_neg e5] at hn
        rw [if_neg e5]
        show ((((List.range n).filter fun k => S k == 1).length + 0 : Nat) : Int) * (np : Int) + (sumI _ + 0) = ((_ + r n : Nat) : Int)
        rw [Nat.add_zero, Int.natCast_add, ← ih, hn]; omega
theorem sum_le (f g : Nat → Nat) : ∀ n, (∀ k, k < n → f k ≤ g k) → ((List.range n).map f).sum ≤ ((List.range n).map g).sum
  | 0, _ => Nat.le_refl _
  | n + 1, h => by
    rw [List.range_succ, List.map_append, List.map_append, List.sum_append, List.sum_append]
    have := sum_le f g n fun k hk => h k (by omega)
    have := h n (Nat.lt_succ_self n)
    simp; omega
theorem sum_add (f g : Nat → Nat) : ∀ n, ((List.range n).map f).sum + ((List.range n).map g).sum = ((List.range n).map fun k => f k + g k).sum
  | 0 => rfl
  | n + 1 => by
    rw [List.range_succ, List.map_append, List.map_append, List.map_append, List.sum_append, List.sum_append, List.sum_append, ← sum_add f g n]
    simp; omega
theorem sum_rep (c : Nat) : ∀ n, ((List.range n).map fun _ => c).sum = n * c
  | 0 => by simp
  | n + 1 => by
    rw [List.range_succ, List.map_append, List.sum_append, sum_rep c n, Nat.succ_mul]; simp
section
variable {s s1 : SS} {b k q : Nat} {x : Hd.H} {raw : List Nat} {B0 : Blk} {S1 T1 : Int}
theorem needed_len (h : SI s) : (neededS s).length = cntN s := by
  unfold neededS cntN
  rw [List.length_flatMap]
  refine congrArg List.sum (List.map_congr_left fun k hk => ?_)
  have hkb := List.mem_range.1 hk
  have hkS : k < s.y.S.length := by rw [h.sw.nb]; exact hkb
  unfold blockS neededY
  have h2 := (h.yw.st k hkS).1
  have h1 : stY s.y (k : Int) ≠ 0 := by
    unfold stY
    rw [if_neg (by omega), Int.toNat_natCast]
    omega
  rw [List.length_map, if_neg h1, Int.toNat_natCast, idxB_count]
theorem PutOk.cnt (h : PutOk s s1 b B0 x raw) (hs : SI s) : cntN s1 = cntN s + 1 := by
  have hbS : b < s.y.S.length := by rw [hs.sw.nb]; exact h.lt
  unfold cntN
  rw [h.eff.fc.nb]
  have := sum_range_one (f := fun k => (s1.y.N.getD k []).count true) (g := fun k => (s.y.N.getD k []).count true) h.lt (fun k hk => by
    show (s1.y.N.getD k []).count true = _
    rw [h.eff.N, if_neg hk])
  have e : (s1.y.N.getD b []).count true = (s.y.N.getD b []).count true + 1 := by
    rw [h.eff.N, if_pos rfl]
    exact count_yes (by rw [hs.yw.nl b hbS, hs.sw.np]; exact h.q) h.no
  omega
theorem drop_cnt (hk : k < s.c.nb) (hN : (s.y.N.getD k []).getD q false = true) (e : Eff s s1 k S1 T1 ((s.y.N.getD k []).set q false) (s.c.nth k)) : cntN s1 + 1 = cntN s := by
  unfold cntN
  rw [e.fc.nb]
  have := sum_range_one (f := fun k => (s1.y.N.getD k []).count true) (g := fun k => (s.y.N.getD k []).count true) hk (fun j hj => by
    show (s1.y.N.getD j []).count true = _
    rw [e.N, if_neg hj])
  have e1 : (s1.y.N.getD k []).count true + 1 = (s.y.N.getD k []).count true := by
    rw [e.N, if_pos rfl]
    exact count_no hN
  omega
def roomAt (s : SS) (k : Nat) : Nat := if s.y.S.getD k 0 = 1 then s.c.np else if s.y.S.getD k 0 = 2 then s.c.np - (s.c.nth k).next else 0
theorem room_is (h : SI s) : roomS s = (((List.range s.c.nb).map (roomAt s)).sum : Int) := by
  rw [← room_sum s.c.np (fun k => s.y.S.getD k 0) (fun k => leftS s (k : Int)) (roomAt s) s.c.nb fun k hk => ?_]
  · unfold roomS listY
    rw [List.length_map, List.map_map, h.sw.nb]; rfl
  · unfold roomAt leftS
    rw [next_nat _ hk]
    split
    · rfl
    · split
      · next e => have := ((h.b k hk).op e).2; omega
      · rfl
theorem count_lt {l : List Bool} {n : Nat} (h : ∀ q, l.getD q false = true → q < n) : l.count true ≤ n := by
  have h1 : l = l.take n ++ l.drop n := (List.take_append_drop n l).symm
  rw [h1, List.count_append]
  have h2 : (l.drop n).count true = 0 := List.count_eq_zero.2 fun hm => by
    obtain ⟨i, hi, he⟩ := List.mem_iff_getElem.1 hm
    rw [List.getElem_drop] at he
    rw [List.length_drop] at hi
    have := h (n + i) (by rw [List.getD_eq_getElem?_getD, List.getElem?_eq_getElem (by omega)]; exact he)
    omega
  have h3 : (l.take n).count true ≤ (l.take n).length := List.count_le_length
  rw [List.length_take] at h3
  omega
theorem room_cnt (h : SI s) : roomS s + (cntN s : Int) ≤ ((s.c.nb * s.c.np : Nat) : Int) := by
  rw [room_is h]
  have h1 : ((List.range s.c.nb).map (roomAt s)).sum + cntN s ≤ s.c.nb * s.c.np := by
    unfold cntN
    rw [sum_add, ← sum_rep s.c.np s.c.nb]
    refine sum_le _ _ _ fun k hk => ?_
    have hkS : k < s.y.S.length := by rw [h.sw.nb]; exact hk
    have hnd := (h.b k hk).nd
    have hlt : (s.y.N.getD k []).count true ≤ s.c.np := by
      have := List.count_le_length (a := true) (l := s.y.N.getD k [])
      rw [h.yw.nl k hkS, h.sw.np] at this
      exact this
    show roomAt s k + (s.y.N.getD k []).count true ≤ s.c.np
    unfold roomAt
    split
    · next e =>
      have : (s.y.N.getD k []).count true = 0 := List.count_eq_zero.2 fun hm => by
        obtain ⟨i, hi, he⟩ := List.mem_iff_getElem.1 hm
        have h2 := (h.yw.fr k hkS e).2 i
        rw [List.getD_eq_getElem?_getD, List.getElem?_eq_getElem hi] at h2
        rw [show (s.y.N.getD k [])[i] = true from he] at h2
        cases h2
      omega
    · split
      · next e =>
        have h2 := ((h.b k hk).op e).2
        have h3 : (s.y.N.getD k []).count true ≤ (s.c.nth k).next := count_lt fun q hq => (hnd q hq).1
        omega
      · omega
  omega
end
end Go.Proofs.YthgkdnegnecnjaaGreatDoor
