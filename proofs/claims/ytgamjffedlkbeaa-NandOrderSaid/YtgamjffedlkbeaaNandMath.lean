/- A chip as plain mathematics: what each call of it answers, and what it leaves. No conditions. -/
import Derived.Test.YtgamjffedlkbeaaMish
set_option linter.unusedVariables false
set_option linter.unusedSimpArgs false
namespace Go.Proofs.Ytgamjffedlkbeaa

/-- A block. -/
structure Blk where
  pg : List (List Nat)
  next : Nat
  wear : Nat
  marked : Bool
  failed : Bool
def Blk.zero : Blk := ⟨[], 0, 0, false, false⟩
/-- A chip. -/
structure Chip where
  nb : Nat
  np : Nat
  ns : Nat
  ms : List M
  bs : List Blk
  on : Bool
  ops : Nat
  misuse : Nat
  programs : Nat
namespace Chip
def long (s : Chip) : Nat := s.ns + 28
def blk (s : Chip) (b : Int) : Blk := s.bs.getD b.toNat Blk.zero
def page (s : Chip) (b p : Int) : List Nat := (s.blk b).pg.getD p.toNat []
def has (s : Chip) (b : Int) : Bool := decide (0 ≤ b ∧ b < (s.nb : Int))
/-- Why a call is no operation: 0, if it is one. -/
def why (s : Chip) (b p : Int) (l : Nat) : Int := if s.on = false then 4 else if 0 ≤ b ∧ b < (s.nb : Int) ∧ 0 ≤ p ∧ p < (s.np : Int) ∧ l = s.long then 0 else 2
/-- What befalls the next operation. -/
def bef (s : Chip) : M := (atM ((s.ops + 1 : Nat) : Int) s.ms).getD M.zero
def tick (s : Chip) : Chip := { s with ops := s.ops + 1 }
def off (s : Chip) : Chip := { s with on := false }
def offIf (s : Chip) (d : Bool) : Chip := { s with on := s.on && !d }
def setB (s : Chip) (b : Int) (x : Blk) : Chip := { s with bs := s.bs.set b.toNat x }
def dark (s : Chip) : Bool := decide (s.bef.kind = 2)
def fails (s : Chip) : Bool := decide (s.bef.kind = 1)
def err (d : Bool) (c : Int) : Int := if d = true then 4 else c
/-- Read. -/
def read (s : Chip) (b p : Int) : Chip × Int × List Nat :=
  if s.why b p s.long ≠ 0 then (s, s.why b p s.long, []) else if s.dark = true then (s.tick.off, 4, []) else (s.tick, 0, s.page b p)
def part (raw old : List Nat) (k : Nat) : List Nat := raw.take k ++ old.drop k
def wrote (x : Blk) (p : Int) (bs : List Nat) : Blk := { x with pg := x.pg.set p.toNat bs, next := x.next + 1 }
/-- Program. -/
def program (s : Chip) (b p : Int) (raw : List Nat) : Chip × Int :=
  if s.why b p raw.length ≠ 0 then (s, s.why b p raw.length)
  else if (s.blk b).marked = true ∨ p ≠ ((s.blk b).next : Int) then ({ s.tick.offIf s.dark with misuse := s.misuse + 1 }, err s.dark 6)
  else if (s.blk b).failed = true then ((s.tick.offIf s.dark).setB b { s.blk b with next := (s.blk b).next + 1 }, err s.dark 5)
  else if s.dark = true then (s.tick.off.setB b (wrote (s.blk b) p (part raw (s.page b p) s.bef.bytes.toNat)), 4)
  else if s.fails = true then (s.tick.setB b { wrote (s.blk b) p (part raw (s.page b p) (min s.bef.bytes.toNat (s.long - 1))) with failed := true }, 5)
  else ({ s.tick.setB b (wrote (s.blk b) p raw) with programs := s.programs + 1 }, 0)
def filled (s : Chip) (x : Nat) : List (List Nat) := List.replicate s.np (List.replicate s.long x)
/-- Erase. -/
def erase (s : Chip) (b : Int) : Chip × Int :=
  if s.why b 0 s.long ≠ 0 then (s, s.why b 0 s.long)
  else if (s.blk b).marked = true then ({ s.tick.offIf s.dark with misuse := s.misuse + 1 }, err s.dark 6)
  else if (s.blk b).failed = true ∨ s.fails = true then ((s.tick.offIf s.dark).setB b { s.blk b with failed := true }, err s.dark 5)
  else if s.dark = true then (s.tick.off.setB b { s.blk b with pg := s.filled s.bef.fill.toNat, next := if s.bef.fill = 255 then 0 else s.np, wear := (s.blk b).wear + 1 }, 4)
  else (s.tick.setB b { s.blk b with pg := s.filled 255, next := 0, wear := (s.blk b).wear + 1 }, 0)
/-- Mark. -/
def mark (s : Chip) (b : Int) : Chip × Int :=
  if s.why b 0 s.long ≠ 0 then (s, s.why b 0 s.long)
  else if s.dark = true then (s.tick.off, 4)
  else (s.tick.setB b { s.blk b with marked := true }, 0)
/-- Boot. -/
def boot (s : Chip) : Chip × Int := if s.on = true then (s, 9) else ({ s with on := true }, 0)
def next (s : Chip) (b : Int) : Nat := if s.has b = true then (s.blk b).next else 0
def wear (s : Chip) (b : Int) : Nat := if s.has b = true then (s.blk b).wear else 0
def marked (s : Chip) (b : Int) : Bool := s.has b && (s.blk b).marked
/-- New: whether there is one, and what it is. -/
def mayNew (nb np ns : Int) (marks : List Int) (ms : List M) : Bool :=
  decide (1 ≤ nb ∧ nb ≤ 32 ∧ 1 ≤ np ∧ np ≤ 8 ∧ 128 ≤ ns ∧ ns ≤ 256) && mayM ms && marks.all fun m => decide (0 ≤ m ∧ m < nb)
def fresh (nb np ns : Nat) (marks : List Int) (ms : List M) : Chip :=
  ⟨nb, np, ns, ms, (List.range nb).map fun (i : Nat) => ⟨List.replicate np (List.replicate (ns + 28) 255), 0, 0, marks.contains (i : Int), false⟩, true, 0, 0, 0⟩
/-- What holds of every chip. -/
structure Wf (s : Chip) : Prop where
  nb1 : 1 ≤ s.nb
  nb2 : s.nb ≤ 32
  np1 : 1 ≤ s.np
  np2 : s.np ≤ 8
  ns1 : 128 ≤ s.ns
  ns2 : s.ns ≤ 256
  may : mayM s.ms = true
  len : s.bs.length = s.nb
  pages : ∀ b, b < s.nb → (s.bs.getD b Blk.zero).pg.length = s.np
  bytes : ∀ b p, b < s.nb → p < s.np → ((s.bs.getD b Blk.zero).pg.getD p []).length = s.long
  next : ∀ b, b < s.nb → (s.bs.getD b Blk.zero).next ≤ s.np
  wear : ∀ b, b < s.nb → (s.bs.getD b Blk.zero).wear ≤ s.ops
  misuse : s.misuse ≤ s.ops
  programs : s.programs ≤ s.ops
section
variable {s : Chip} {b p : Int} {raw : List Nat} {l : Nat}
theorem why_dark (h : s.on = false) : s.why b p l = 4 := by unfold why; rw [if_pos h]
theorem why_ok (h : s.on = true) (b0 : 0 ≤ b) (b1 : b < (s.nb : Int)) (p0 : 0 ≤ p) (p1 : p < (s.np : Int)) (hl : l = s.long) : s.why b p l = 0 := by
  unfold why
  rw [if_neg (by rw [h]; decide), if_pos ⟨b0, b1, p0, p1, hl⟩]
theorem read_ok (h : s.why b p s.long = 0) (hd : s.dark = false) : s.read b p = (s.tick, 0, s.page b p) := by
  unfold read
  rw [if_neg (by rw [h]; decide), if_neg (by rw [hd]; decide)]
theorem read_off (h : s.on = false) : s.read b p = (s, 4, []) := by
  unfold read
  rw [why_dark h, if_pos (by decide)]
theorem program_ok (h : s.why b p raw.length = 0) (hm : (s.blk b).marked = false) (hn : p = ((s.blk b).next : Int)) (hf : (s.blk b).failed = false) (hd : s.dark = false) (hx : s.fails = false) :
    s.program b p raw = ({ s.tick.setB b (wrote (s.blk b) p raw) with programs := s.programs + 1 }, 0) := by
  unfold program
  rw [if_neg (by rw [h]; decide), if_neg (by rw [hm]; simp [hn]), if_neg (by rw [hf]; decide), if_neg (by rw [hd]; decide), if_neg (by rw [hx]; decide)]
theorem program_bad (h : s.why b p raw.length = 0) (hn : (s.blk b).marked = true ∨ p ≠ ((s.blk b).next : Int)) (hd : s.dark = false) :
    s.program b p raw = ({ s.tick with misuse := s.misuse + 1 }, 6) := by
  unfold program
  rw [if_neg (by rw [h]; decide), if_pos hn, hd]
  simp [offIf, tick, err]
theorem program_why (h : s.why b p raw.length ≠ 0) : s.program b p raw = (s, s.why b p raw.length) := by
  unfold program
  rw [if_pos h]
theorem erase_ok (h : s.why b 0 s.long = 0) (hm : (s.blk b).marked = false) (hf : (s.blk b).failed = false) (hd : s.dark = false) (hx : s.fails = false) :
    s.erase b = (s.tick.setB b { s.blk b with pg := s.filled 255, next := 0, wear := (s.blk b).wear + 1 }, 0) := by
  unfold erase
  rw [if_neg (by rw [h]; decide), if_neg (by rw [hm]; decide), if_neg (by rw [hf, hx]; simp), if_neg (by rw [hd]; decide)]
theorem program_dark (h : s.why b p raw.length = 0) (hm : (s.blk b).marked = false) (hn : p = ((s.blk b).next : Int)) (hf : (s.blk b).failed = false) (hd : s.dark = true) :
    s.program b p raw = (s.tick.off.setB b (wrote (s.blk b) p (part raw (s.page b p) s.bef.bytes.toNat)), 4) := by
  unfold program
  rw [if_neg (by rw [h]; decide), if_neg (by rw [hm]; simp [hn]), if_neg (by rw [hf]; decide), if_pos hd]
theorem program_fails (h : s.why b p raw.length = 0) (hm : (s.blk b).marked = false) (hn : p = ((s.blk b).next : Int)) (hf : (s.blk b).failed = false) (hd : s.dark = false) (hx : s.fails = true) :
    s.program b p raw = (s.tick.setB b { wrote (s.blk b) p (part raw (s.page b p) (min s.bef.bytes.toNat (s.long - 1))) with failed := true }, 5) := by
  unfold program
  rw [if_neg (by rw [h]; decide), if_neg (by rw [hm]; simp [hn]), if_neg (by rw [hf]; decide), if_neg (by rw [hd]; decide), if_pos hx]
theorem program_failed (h : s.why b p raw.length = 0) (hm : (s.blk b).marked = false) (hn : p = ((s.blk b).next : Int)) (hf : (s.blk b).failed = true) (hd : s.dark = false) :
    s.program b p raw = (s.tick.setB b { s.blk b with next := (s.blk b).next + 1 }, 5) := by
  unfold program
  rw [if_neg (by rw [h]; decide), if_neg (by rw [hm]; simp [hn]), if_pos hf, hd]
  have e : s.tick.offIf false = s.tick := by cases s; simp [offIf, tick]
  rw [e]; rfl
theorem erase_dark (h : s.why b 0 s.long = 0) (hm : (s.blk b).marked = false) (hf : (s.blk b).failed = false) (hx : s.fails = false) (hd : s.dark = true) :
    s.erase b = (s.tick.off.setB b { s.blk b with pg := s.filled s.bef.fill.toNat, next := if s.bef.fill = 255 then 0 else s.np, wear := (s.blk b).wear + 1 }, 4) := by
  unfold erase
  rw [if_neg (by rw [h]; decide), if_neg (by rw [hm]; decide), if_neg (by rw [hf, hx]; simp), if_pos hd]
theorem erase_why (h : s.why b 0 s.long ≠ 0) : s.erase b = (s, s.why b 0 s.long) := by
  unfold erase
  rw [if_pos h]
theorem erase_off (h : s.on = false) : s.erase b = (s, 4) := by rw [erase_why (by rw [why_dark h]; decide), why_dark h]
theorem erase_marked (h : s.why b 0 s.long = 0) (hm : (s.blk b).marked = true) (hd : s.dark = false) : s.erase b = ({ s.tick with misuse := s.misuse + 1 }, 6) := by
  unfold erase
  rw [if_neg (by rw [h]; decide), if_pos hm, hd]
  simp [offIf, tick, err]
theorem erase_failed (h : s.why b 0 s.long = 0) (hm : (s.blk b).marked = false) (hf : (s.blk b).failed = true) (hd : s.dark = false) : s.erase b = (s.tick.setB b { s.blk b with failed := true }, 5) := by
  unfold erase
  rw [if_neg (by rw [h]; decide), if_neg (by rw [hm]; decide), if_pos (Or.inl hf), hd]
  have e : s.tick.offIf false = s.tick := by cases s; simp [offIf, tick]
  rw [e]; rfl
theorem mark_off (h : s.on = false) : s.mark b = (s, 4) := by
  unfold mark
  rw [why_dark h, if_pos (by decide)]
theorem mark_ok (h : s.why b 0 s.long = 0) (hd : s.dark = false) : s.mark b = (s.tick.setB b { s.blk b with marked := true }, 0) := by
  unfold mark
  rw [if_neg (by rw [h]; decide), if_neg (by rw [hd]; decide)]
theorem bef_none (h : s.ms = []) : s.bef = M.zero := by unfold bef; rw [h]; rfl
theorem dark_none (h : s.ms = []) : s.dark = false := by unfold dark; rw [bef_none h]; rfl
theorem fails_none (h : s.ms = []) : s.fails = false := by unfold fails; rw [bef_none h]; rfl
theorem blk_setB (hb : 0 ≤ b) (hl : b.toNat < s.bs.length) (x : Blk) : (s.setB b x).blk b = x := by
  unfold blk setB
  simp [List.getD_eq_getElem?_getD, hl]
theorem blk_other {c : Int} (h : c.toNat ≠ b.toNat) (x : Blk) : (s.setB b x).blk c = s.blk c := by
  unfold blk setB
  simp [List.getD_eq_getElem?_getD, List.getElem?_set, Ne.symm h]
end
end Chip
end Go.Proofs.Ytgamjffedlkbeaa
