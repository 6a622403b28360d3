/- The document's own disk (package sculleryref9) as a thing in memory: what stands where; why, Firm, Read, Waiting. Conditions: the disk's blocks. -/
import Derived.Test.YtfhfjfgajbgdcaaTurn
import Derived.Test.YtfhfjfgajbgdcaaInts
import Derived.Test.YtfhfjfgajbgdcaaBools

set_option linter.unusedVariables false
set_option linter.unusedSimpArgs false
namespace Go.Proofs.Ytfhfjfgajbgdcaa
open Go.RowKit

/-- A slice, as a value. -/
structure SV where
  a : Option Addr
  n : Nat
  c : Nat
def SV.zero : SV := ⟨none, 0, 0⟩
theorem infoR : (Try.prog.info? 34).map (fun i => (i.zero, i.size, i.bytes)) = some (some (.slice none 0 0), 1, 24) := by kernel_rfl
def sliceK : Kind SV where
  T := 34
  L := 65
  k := 1
  cv := fun v => [.slice v.a v.n v.c]
  wf := fun _ => True
  dflt := SV.zero
  len := fun v => rfl
  one := fun v u hu => by rw [List.mem_singleton.1 hu]; rfl
  pos := by decide
  ok := trivial
  under := Try.underlying65
  elem := by kernel_rfl
  info := by
    obtain ⟨i0, hi, hz0, hz1, hz2⟩ := info_parts infoR
    exact ⟨i0, _, hi, hz0, hz1, by rw [hz2]; omega, rfl⟩
/-- A write that waits, as its cells have it. -/
structure WV where
  at_ : Int
  s : SV
theorem infoW : (Try.prog.info? 80).map (fun i => (i.zero, i.size, i.bytes)) = some (some (.agg #[.int .i64 0, .slice none 0 0]), 2, 32) := by kernel_rfl
def waitK : Kind WV where
  T := 80
  L := 66
  k := 2
  cv := fun v => [.int .i64 v.at_, .slice v.s.a v.s.n v.s.c]
  wf := fun v => True
  dflt := ⟨0, SV.zero⟩
  len := fun v => rfl
  one := fun v u hu => by
    simp only [List.mem_cons, List.not_mem_nil, or_false] at hu
    rcases hu with rfl | rfl <;> rfl
  pos := by decide
  ok := trivial
  under := Try.underlying66
  elem := by kernel_rfl
  info := by
    obtain ⟨i0, hi, hz0, hz1, hz2⟩ := info_parts infoW
    exact ⟨i0, _, hi, hz0, hz1, by rw [hz2]; omega, rfl⟩
theorem sliceK_at {w : World} {p : Addr} {v : SV} (h : sliceK.At w p v) : w.cell? p = some (.slice v.a v.n v.c) := by
  have := h 0 _ rfl
  rwa [add_none] at this
structure WaitAt (w : World) (p : Addr) (v : WV) : Prop where
  c0 : w.cell? p = some (.int .i64 v.at_)
  c1 : w.cell? ⟨p.block, p.off + 1, none⟩ = some (.slice v.s.a v.s.n v.s.c)
theorem waitK_at {w : World} {p : Addr} {v : WV} (h : waitK.At w p v) : WaitAt w p v :=
  ⟨by have := h 0 _ rfl; rwa [add_none] at this, by have := h 1 _ rfl; rwa [add_at p 0] at this⟩
/-- What a disk is: the sectors, what waits, which are broken, how great. -/
structure RD where
  F : List (List Nat)
  W : List (Int × List Nat)
  B : List Bool
  size : Nat
/-- Where it stands. -/
structure RL where
  AF : Option Addr
  cF : Nat
  vF : List SV
  AW : Option Addr
  cW : Nat
  vW : List WV
  AB : Option Addr
  cB : Nat
structure RDisk (w : World) (base g : Nat) (s : RD) (L : RL) : Prop where
  base_le : base ≤ g
  row : w.heap[g]? = some (.cells #[.slice L.AF s.F.length L.cF, .slice L.AW s.W.length L.cW, .slice L.AB s.B.length L.cB, .int .i64 (s.size : Int)] 68 (0, 0))
  f : sliceK.Row w base L.AF s.F.length L.cF L.vF
  fb : ∀ k, k < s.F.length → Own w base (L.vF.getD k SV.zero).a (L.vF.getD k SV.zero).n (L.vF.getD k SV.zero).c (s.F.getD k [])
  wr : waitK.Row w base L.AW s.W.length L.cW L.vW
  wb : ∀ k, k < s.W.length → (L.vW.getD k ⟨0, SV.zero⟩).at_ = (s.W.getD k (0, [])).1 ∧ Own w base (L.vW.getD k ⟨0, SV.zero⟩).s.a (L.vW.getD k ⟨0, SV.zero⟩).s.n (L.vW.getD k ⟨0, SV.zero⟩).s.c (s.W.getD k (0, [])).2
  br : boolK.Row w base L.AB s.B.length L.cB s.B
  same : s.F.length = s.B.length
  few : s.F.length ≤ 256
  many : s.W.length ≤ 1000
  size : s.size ≤ 256
  sizes : ∀ k, (s.F.getD k []).length ≤ 256
  sizew : ∀ k, (s.W.getD k (0, [])).2.length ≤ 256
  ins : ∀ k, k < s.W.length → 0 ≤ (s.W.getD k (0, [])).1 ∧ (s.W.getD k (0, [])).1 < (s.F.length : Int)
structure CellsD (w : World) (g : Nat) (s : RD) (L : RL) : Prop where
  c0 : w.cell? ⟨g, 0, none⟩ = some (.slice L.AF s.F.length L.cF)
  c1 : w.cell? ⟨g, 1, none⟩ = some (.slice L.AW s.W.length L.cW)
  c2 : w.cell? ⟨g, 2, none⟩ = some (.slice L.AB s.B.length L.cB)
  c3 : w.cell? ⟨g, 3, none⟩ = some (.int .i64 (s.size : Int))
section
variable {w w' : World} {base g : Nat} {s : RD} {L : RL}
theorem RDisk.lt (h : RDisk w base g s L) : g < w.heap.size := (Array.getElem?_eq_some_iff.1 h.row).1
theorem RDisk.cells (h : RDisk w base g s L) : CellsD w g s L :=
  ⟨by rw [cell_of_row _ _ _ _ _ _ h.row]; rfl, by rw [cell_of_row _ _ _ _ _ _ h.row]; rfl, by rw [cell_of_row _ _ _ _ _ _ h.row]; rfl, by rw [cell_of_row _ _ _ _ _ _ h.row]; rfl⟩
theorem RDisk.free (h : RDisk w base g s L) (k : Nat) : w.frozen? ⟨g, k, none⟩ = false := by simp [World.frozen?, h.row]
theorem RDisk.since (h : RDisk w base g s L) (hb : Below w.heap.size w w') : RDisk w' base g s L :=
  ⟨h.base_le, (hb.block g h.lt).trans h.row, h.f.since hb, fun k hk => (h.fb k hk).since hb, h.wr.since hb, fun k hk => ⟨(h.wb k hk).1, (h.wb k hk).2.since hb⟩, h.br.since hb, h.same, h.few, h.many, h.size, h.sizes, h.sizew, h.ins⟩
theorem RDisk.broken (h : RDisk w base g s L) {k : Nat} (hk : k < s.F.length) : ∃ ad, L.AB = some ad ∧ ad.block < w.heap.size ∧ w.cell? (ad.add k) = some (.bool (s.B.getD k false)) := by
  obtain ⟨ad, e1, e2, e3⟩ := h.br.lie.each k (by rw [← h.same]; exact hk)
  refine ⟨ad, e1, e2, ?_⟩
  have := boolK_at e3
  rwa [show k * boolK.k = k from Nat.mul_one k] at this
theorem RDisk.sector (h : RDisk w base g s L) {k : Nat} (hk : k < s.F.length) : ∃ ad A n c, L.AF = some ad ∧ ad.block < w.heap.size ∧ w.cell? (ad.add k) = some (.slice A n c) ∧ Own w base A n c (s.F.getD k []) := by
  obtain ⟨ad, e1, e2, e3⟩ := h.f.lie.each k hk
  refine ⟨ad, _, _, _, e1, e2, ?_, h.fb k hk⟩
  have := sliceK_at e3
  rwa [show k * sliceK.k = k from Nat.mul_one k] at this
theorem RDisk.wait (h : RDisk w base g s L) {k : Nat} (hk : k < s.W.length) : ∃ ad A n c, L.AW = some ad ∧ ad.block < w.heap.size ∧ w.cell? (ad.add (k * 2)) = some (.int .i64 (s.W.getD k (0, [])).1) ∧ w.cell? ⟨(ad.add (k * 2)).block, (ad.add (k * 2)).off + 1, none⟩ = some (.slice A n c) ∧ Own w base A n c (s.W.getD k (0, [])).2 := by
  obtain ⟨ad, e1, e2, e3⟩ := h.wr.lie.each k hk
  obtain ⟨h1, h2⟩ := h.wb k hk
  obtain ⟨c0, c1⟩ := waitK_at (v := L.vW.getD k ⟨0, SV.zero⟩) e3
  refine ⟨ad, _, _, _, e1, e2, ?_, c1, h2⟩
  rw [← h1]; exact c0
theorem RDisk.wait' (h : RDisk w base g s L) {k : Nat} (hk : k < s.W.length) : ∃ ad A n c, L.AW = some ad ∧ ad.block < w.heap.size ∧ w.cell? (ad.add (k * 2)) = some (.int .i64 (s.W.getD k (0, [])).1) ∧ w.cell? ⟨(ad.add (k * 2)).block, (ad.add (k * 2)).off + 1, none⟩ = some (.slice A n c) ∧ Own w base A n c (s.W.getD k (0, [])).2 ∧ ∃ u ∈ L.vW, (⟨A, n, c⟩ : SV) = u.s := by
  obtain ⟨ad, e1, e2, e3⟩ := h.wr.lie.each k hk
  obtain ⟨h1, h2⟩ := h.wb k hk
  obtain ⟨c0, c1⟩ := waitK_at (v := L.vW.getD k ⟨0, SV.zero⟩) e3
  have hl : k < L.vW.length := by rw [h.wr.len]; exact hk
  refine ⟨ad, _, _, _, e1, e2, ?_, c1, h2, L.vW.getD k ⟨0, SV.zero⟩, ?_, rfl⟩
  · rw [← h1]; exact c0
  · rw [List.getD_eq_getElem?_getD, List.getElem?_eq_getElem hl]; exact List.getElem_mem hl
end
/- why -/
def whyO (s : RD) (x : Int) : Int := if x < 0 ∨ (s.F.length : Int) ≤ x then 2 else if s.B.getD x.toNat false then 5 else 0
set_option maxHeartbeats 2000000 in
theorem refwhy_any (x : Int) (g base : Nat) (s : RD) (L : RL) (w : World) (hD : RDisk w base g s L) :
    Calls Try.prog 35 #[.pointer (some ⟨g, 0, none⟩), .int .i64 x] w fun e w' => e = .returned (.int .i64 (whyO s x)) ∧ w = w' := by
  have HD := Lib.hid hD
  obtain ⟨c0, c1, c2, c3⟩ := hD.cells
  have hfew := hD.few
  have hsame := hD.same
  obtain ⟨n, HN⟩ : ∃ n, Hid (n = s.F.length) := ⟨_, rfl⟩
  rw [← hsame] at c2
  rw [← HN.out] at c0 c2 hfew
  by_cases h0 : x < 0
  · rw [show whyO s x = 2 from if_pos (Or.inl h0)]
    clear hD hsame
    go_enter Try.func35, Try.ntmps35
    go_wp2_with fail
    go_ret
    exact ⟨rfl, rfl⟩
  by_cases h1 : (n : Int) ≤ x
  · rw [show whyO s x = 2 from if_pos (Or.inr (by rw [← HN.out]; exact h1))]
    clear hD hsame
    go_enter Try.func35, Try.ntmps35
    go_wp2_with fail
    go_ret
    exact ⟨rfl, rfl⟩
  obtain ⟨k, rfl⟩ : ∃ k : Nat, x = (k : Int) := ⟨x.toNat, by omega⟩
  have hk : k < n := by omega
  have i0 : (0 : Int) ≤ (k : Int) := by omega
  have i1 : (k : Int) < (n : Int) := by omega
  obtain ⟨ad, e1, e2, e3⟩ := hD.broken (k := k) (by rw [← HN.out]; exact hk)
  rw [e1] at c2
  have HW : Hid (whyO s (k : Int) = if s.B.getD k false then 5 else 0) := by
    show _ = _
    unfold whyO
    rw [if_neg (by rw [← HN.out]; omega), Int.toNat_natCast]
  rw [HW.out]
  clear hD hsame e1
  rcases hb : s.B.getD k false with _ | _
  all_goals
    rw [hb] at e3
    go_enter Try.func35, Try.ntmps35
    go_wp2_with fail
    go_ret
    exact ⟨rfl, rfl⟩
/- Firm -/
def firmO (s : RD) (x : Int) : Int × List Nat := if whyO s x = 0 then (0, s.F.getD x.toNat []) else (whyO s x, [])
/-- What a call that answers a code and bytes of its own leaves. -/
def GotB (w : World) (o : Int × List Nat) (e : Ending) (w' : World) : Prop := ∃ A n c, e = .returned (.tuple #[.slice A n c, .int .i64 o.1]) ∧ Hid (Own w' w.heap.size A n c o.2) ∧ Hid (Below w.heap.size w w')
theorem why_zero {s : RD} {x : Int} (h : whyO s x = 0) : ∃ k : Nat, x = (k : Int) ∧ k < s.F.length := by
  unfold whyO at h
  by_cases h0 : x < 0 ∨ (s.F.length : Int) ≤ x
  · rw [if_pos h0] at h; cases h
  · exact ⟨x.toNat, by omega, by omega⟩
set_option maxHeartbeats 2000000 in
theorem reffirm_any (x : Int) (g base : Nat) (s : RD) (L : RL) (w : World) (hD : RDisk w base g s L) :
    Calls Try.prog 13 #[.pointer (some ⟨g, 0, none⟩), .int .i64 x] w (GotB w (firmO s x)) := by
  have HD := Lib.hid hD
  have C1 := Lib.hid (refwhy_any x g base s L w hD)
  clear hD
  by_cases h : whyO s x = 0
  · rw [show firmO s x = (0, s.F.getD x.toNat []) from if_pos h]
    rw [h] at C1
    obtain ⟨k, rfl, hk⟩ := why_zero h
    rw [Int.toNat_natCast]
    obtain ⟨c0, c1, c2, c3⟩ := HD.out.cells
    obtain ⟨ad, A1, n1, q1, e1, e2, e3, e4⟩ := HD.out.sector hk
    have hn1 : n1 ≤ 256 := by rw [← e4.len]; exact HD.out.sizes k
    have hfew := HD.out.few
    rw [e1] at c0
    obtain ⟨n, HN⟩ : ∃ n, Hid (n = s.F.length) := ⟨_, rfl⟩
    rw [← HN.out] at c0 hk hfew
    have i0 : (0 : Int) ≤ (k : Int) := by omega
    have i1 : (k : Int) < (n : Int) := by omega
    obtain ⟨A6, c6, W6, hr6, ho6, hb6⟩ := own_append (c' := q1) (Below.refl w.heap.size w) Own.none_ e4.bytes (by omega)
    rw [Nat.zero_add] at hr6 ho6
    rw [List.nil_append] at ho6
    have R6 := Lib.hid hr6
    have O6 := Lib.hid ho6
    have S6 := Lib.hid hb6
    clear hr6 ho6 hb6 e4 h c1 c2 c3
    go_enter Try.func13, Try.ntmps13
    go_wp2_with fail
    refine C1.out.mono ?_
    rintro e w' ⟨rfl, rfl⟩
    go_wp2_with (at_builtin; refine wpList_append_run rfl (.const (.slice none 0 0)) (.tmp 19) 34 rfl rfl rfl R6.out ?_)
    go_ret2
    exact ⟨_, _, _, rfl, O6, S6⟩
  · rw [show firmO s x = (whyO s x, []) from if_neg h]
    obtain ⟨q, HQ⟩ : ∃ q, Hid (whyO s x = q) := ⟨_, rfl⟩
    rw [HQ.out] at C1 h ⊢
    have hb : (q != 0) = true := by simpa using h
    clear h
    go_enter Try.func13, Try.ntmps13
    go_wp2_with fail
    refine C1.out.mono ?_
    rintro e w' ⟨rfl, rfl⟩
    go_wp2_with fail
    go_ret2
    exact ⟨none, 0, 0, rfl, Own.none_, Below.refl _ _⟩
end Go.Proofs.Ytfhfjfgajbgdcaa
