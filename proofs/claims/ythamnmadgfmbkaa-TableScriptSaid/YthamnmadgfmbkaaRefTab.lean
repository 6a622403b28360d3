/- The document's own table: where an address stands, Get, From, Dirty. Conditions: its cells. -/
import Derived.Test.YthamnmadgfmbkaaMoves
import Derived.Test.YthamnmadgfmbkaaKindMade
import Derived.Test.YthamnmadgfmbkaaEntShared
import Derived.Test.YthamnmadgfmbkaaTabMath
import Derived.Test.YthamnmadgfmbkaaTabTwo
import Derived.Test.YthamnmadgfmbkaaGives
set_option linter.unusedVariables false
set_option linter.unusedSimpArgs false
namespace Go.Proofs.Ythamnmadgfmbkaa
open Go.RowKit

structure RTab (w : World) (base g : Nat) (l : List E) (A : Option Addr) (n c : Nat) : Prop where
  base_le : base ≤ g
  row : w.heap[g]? = some (.cells #[.slice A n c] 29 (0, 0))
  lr : entK.Row w base A n c l
/-- The same as an object apart: its blocks are of the set fp. -/
structure RefTb (w : World) (base : Nat) (fp : Nat → Prop) (g : Nat) (l : List E) : Prop where
  wf : TW l
  own : fp g
  ge : ∀ b, fp b → base ≤ b
  lt : ∀ b, fp b → b < w.heap.size
  ex : ∃ A n c, RTab w base g l A n c ∧ ∀ b ∈ blk A, fp b
section
variable {w w' : World} {base g n c : Nat} {A : Option Addr} {l : List E} {fp fq : Nat → Prop}
theorem RTab.lt (h : RTab w base g l A n c) : g < w.heap.size := (Array.getElem?_eq_some_iff.1 h.row).1
theorem RTab.c0 (h : RTab w base g l A n c) : w.cell? ⟨g, 0, none⟩ = some (.slice A n c) := by rw [cell_of_row _ _ _ _ _ _ h.row]; rfl
theorem RTab.free (h : RTab w base g l A n c) : w.frozen? ⟨g, 0, none⟩ = false := by simp [World.frozen?, h.row]
theorem RTab.since (h : RTab w base g l A n c) (hb : Below w.heap.size w w') : RTab w' base g l A n c := ⟨h.base_le, (hb.block g h.lt).trans h.row, h.lr.since hb⟩
theorem RTab.elder (h : RTab w base g l A n c) {base' : Nat} (hb : base' ≤ base) : RTab w base' g l A n c := ⟨Nat.le_trans hb h.base_le, h.row, h.lr.elder hb⟩
theorem RefTb.keep (h : RefTb w base fp g l) (ht : Turn fq w w') (hd : Two fq fp) : RefTb w' base fp g l := by
  obtain ⟨A, n, c, h1, h2⟩ := h.ex
  have hb : ∀ b, fp b → w'.heap[b]? = w.heap[b]? := fun b hb => ht.block b (h.lt b hb) fun hq => hd b hq hb
  exact ⟨h.wf, h.own, h.ge, fun b hb => Nat.lt_of_lt_of_le (h.lt b hb) ht.size, ⟨A, n, c, ⟨h1.base_le, (hb g h.own).trans h1.row, Row.at_block h1.lr fun b hm => hb b (h2 b hm)⟩, h2⟩⟩
theorem RefTb.since (h : RefTb w base fp g l) (hb : Below w.heap.size w w') : RefTb w' base fp g l := h.keep (fq := fun _ => False) (Turn.of_below hb) fun b hb => hb.elim
theorem RefTb.elder (h : RefTb w base fp g l) {base' : Nat} (hb : base' ≤ base) : RefTb w base' fp g l := by
  obtain ⟨A, n, c, h1, h2⟩ := h.ex
  exact ⟨h.wf, h.own, fun b hf => Nat.le_trans hb (h.ge b hf), h.lt, ⟨A, n, c, h1.elder hb, h2⟩⟩
theorem RefTb.base_le (h : RefTb w base fp g l) : base ≤ w.heap.size := Nat.le_of_lt (Nat.lt_of_le_of_lt (h.ge g h.own) (h.lt g h.own))
end
/-- What is known of the place of an address. -/
structure AtK (l : List E) (a : Int) (k : Nat) (ok : Bool) : Prop where
  le : k ≤ l.length
  take : l.take k = l.filter fun e => decide (e.addr < a)
  get : getT l a = if ok = true then some (l.getD k E.zero) else none
  drop : l.drop (if ok = true then k + 1 else k) = l.filter fun e => decide (a < e.addr)
  lt : ok = true → k < l.length
theorem atK_of {l : List E} {a : Int} {k : Nat} (hs : Srt l) (hk : k ≤ l.length) (h1 : ∀ j, j < k → (l.getD j E.zero).addr < a) (h2 : k < l.length → a ≤ (l.getD k E.zero).addr) : AtK l a k (decide (k < l.length) && ((l.getD k E.zero).addr == a)) := by
  have hs' := hs
  unfold Srt at hs'
  have gd : ∀ j (h : j < l.length), l.getD j E.zero = l[j] := fun j h => by rw [List.getD_eq_getElem?_getD, List.getElem?_eq_getElem h]; rfl
  have hsplit : ∀ (p : E → Bool) (j : Nat), l.filter p = (l.take j).filter p ++ (l.drop j).filter p := fun p j => by rw [← List.filter_append, List.take_append_drop]
  have hta : ∀ e ∈ l.take k, e.addr < a := fun e he => by
    obtain ⟨i, hi, rfl⟩ := List.mem_take_iff_getElem.1 he
    have := h1 i (by omega)
    rwa [gd i (by omega)] at this
  have hdr : ∀ (q : Nat) (b : Int), (∀ h : q < l.length, b ≤ l[q].addr) → ∀ e ∈ l.drop q, b ≤ e.addr := fun q b hq e he => by
    obtain ⟨i, hi, rfl⟩ := List.mem_drop_iff_getElem.1 he
    have h3 := hq (by omega)
    by_cases e0 : i = 0
    · subst e0; exact h3
    · have : l[q].addr < l[q + i].addr := List.pairwise_iff_getElem.1 hs' q (q + i) (by omega) (by omega) (by omega)
      omega
  have hda : ∀ e ∈ l.drop k, a ≤ e.addr := hdr k a fun h => by have := h2 h; rwa [gd k h] at this
  have htk : l.take k = l.filter fun e => decide (e.addr < a) := by
    rw [hsplit _ k, List.filter_eq_self.2 fun e he => decide_eq_true (hta e he), List.filter_eq_nil_iff.2 fun e he => by have := hda e he; simp; omega, List.append_nil]
  have hn : (l.take k).filter (fun e => decide (a < e.addr)) = [] := List.filter_eq_nil_iff.2 fun e he => by have := hta e he; simp; omega
  by_cases hkl : k < l.length
  · have hk2 := h2 hkl
    rw [gd k hkl] at hk2
    rw [decide_eq_true hkl, Bool.true_and, gd k hkl]
    by_cases e : l[k].addr = a
    · rw [show (l[k].addr == a) = true by simp [e]]
      refine ⟨hk, htk, ?_, ?_, fun _ => hkl⟩
      · rw [if_pos rfl, gd k hkl, ← e]
        exact getT_mem hs (List.getElem_mem _)
      · rw [if_pos rfl, hsplit _ k, hn, List.nil_append, List.drop_eq_getElem_cons hkl, List.filter_cons, if_neg (by simp; omega)]
        refine (List.filter_eq_self.2 fun x hx => decide_eq_true ?_).symm
        obtain ⟨i, hi, rfl⟩ := List.mem_drop_iff_getElem.1 hx
        have : l[k].addr < l[k + 1 + i].addr := List.pairwise_iff_getElem.1 hs' k (k + 1 + i) (by omega) (by omega) (by omega)
        omega
    · rw [show (l[k].addr == a) = false by simp [e]]
      refine ⟨hk, htk, ?_, ?_, fun h => by cases h⟩
      · rw [if_neg (by decide)]
        refine getT_none.2 fun x hx he => ?_
        rw [← List.take_append_drop k l] at hx
        rcases List.mem_append.1 hx with hx | hx
        · have := hta x hx; omega
        · have := hdr k (a + 1) (fun _ => by omega) x hx; omega
      · rw [if_neg (by decide), hsplit _ k, hn, List.nil_append]
        exact (List.filter_eq_self.2 fun x hx => decide_eq_true (by have := hdr k (a + 1) (fun _ => by omega) x hx; omega)).symm
  · rw [decide_eq_false hkl, Bool.false_and]
    have : k = l.length := by omega
    subst this
    refine ⟨hk, htk, ?_, ?_, fun h => by cases h⟩
    · rw [if_neg (by decide)]
      refine getT_none.2 fun x hx he => ?_
      rw [List.take_length] at hta
      have := hta x hx; omega
    · rw [List.take_length] at hn
      rw [if_neg (by decide), List.drop_length, hn]
theorem atK_put {l : List E} {x : E} {k : Nat} (h : AtK l x.addr k false) : (l.take k ++ [x]) ++ l.drop k = putT l x := by
  have h1 := h.take
  have h2 := h.drop
  rw [if_neg (by decide)] at h2
  unfold putT
  rw [h1, h2, List.append_assoc]; rfl
theorem atK_set {l : List E} {x : E} {k : Nat} (h : AtK l x.addr k true) : l.set k x = putT l x := by
  have h1 := h.take
  have h2 := h.drop
  rw [if_pos rfl] at h2
  unfold putT
  rw [← h1, ← h2, List.set_eq_take_append_cons_drop, if_pos (h.lt rfl)]
theorem atK_drop {l : List E} {a : Int} {k : Nat} (hs : Srt l) (h : AtK l a k true) : l.take k ++ l.drop (k + 1) = dropT l a := by
  have h1 := h.take
  have h2 := h.drop
  rw [if_pos rfl] at h2
  rw [h1, h2]
  unfold dropT
  clear h h1 h2
  induction l with
  | nil => rfl
  | cons y l ih =>
    obtain ⟨l1, l2⟩ := List.pairwise_cons.1 hs
    rw [List.filter_cons, List.filter_cons, List.filter_cons]
    by_cases c1 : y.addr < a
    · rw [if_pos (decide_eq_true c1), if_neg (by simp; omega), if_pos (by simp; omega), List.cons_append, ih l2]
    · have hnone : (l.filter fun e => decide (e.addr < a)) = [] := List.filter_eq_nil_iff.2 fun e he => by have := l1 e he; simp; omega
      have ih2 := ih l2
      rw [hnone, List.nil_append] at ih2
      rw [if_neg (by simp; omega), hnone, List.nil_append]
      by_cases c2 : a < y.addr
      · rw [if_pos (decide_eq_true c2), if_pos (by simp; omega), ih2]
      · rw [if_neg (by simp; omega), if_neg (by simp; omega), ih2]
section
variable {w : World} {base g n c : Nat} {A : Option Addr} {l : List E}
set_option maxHeartbeats 4000000 in
theorem refat_any (a : Int) (h : RTab w base g l A n c) (hs : Srt l) (hn : n ≤ 120) : Calls Try.prog 29 #[.pointer (some ⟨g, 0, none⟩), .int .u64 a] w fun e w' => ∃ (k : Nat) (ok : Bool), e = .returned (.tuple #[.int .i64 (k : Int), .bool ok]) ∧ AtK l a k ok ∧ Below w.heap.size w w' := by
  have HR := Lib.hid h
  have HL : Hid (l.length = n) := h.lr.len
  have HSR := Lib.hid hs
  have c0 := h.c0
  clear h hs
  go_enter Try.func29, Try.ntmps29
  go_wp2_with fail
  go_loopw [6] (fun t6 wr => ∃ (k : Nat), t6 = .int .i64 k ∧ k ≤ n ∧ Hid (∀ j, j < k → (l.getD j E.zero).addr < a) ∧ w = wr) (fun t6 _ => n - (intOf t6).toNat)
  case atStart => exact ⟨0, rfl, Nat.zero_le _, fun j hj => absurd hj (Nat.not_lt_zero j), rfl⟩
  case round =>
    obtain ⟨k, rfl, hk, HK, rfl⟩ := hrel
    have k0 : (0 : Int) ≤ (k : Int) := by omega
    by_cases hlt : k < n
    · have k1 : (k : Int) < (n : Int) := by omega
      obtain ⟨ad, hA, hblk, hat⟩ := ent_at HR.out.lr.lie hlt
      obtain rfl := hA
      have d0 := hat.c0
      obtain ⟨u, HU⟩ : ∃ u, Hid ((getEn l k).addr = u) := ⟨_, rfl⟩
      rw [HU.out] at d0
      clear hat
      by_cases hua : u < a
      · go_wp2_with fail
        go_roundw
        case rel => exact ⟨k + 1, by go_num, by omega, fun j hj => by
          by_cases e : j = k
          · subst e; rw [show (l.getD j E.zero).addr = u from HU.out]; exact hua
          · exact HK.out j (by omega), by first | rfl | trivial⟩
        case measure => simp [intOf]; omega
      · have HAT := Lib.hid (atK_of HSR.out (by rw [HL.out]; omega) HK.out (fun _ => by rw [show (l.getD k E.zero).addr = u from HU.out]; omega))
        rw [HL.out, decide_eq_true hlt, Bool.true_and, show (l.getD k E.zero).addr = u from HU.out] at HAT
        by_cases hue : u = a
        · subst hue
          rw [show (u == u) = true by simp] at HAT
          go_wp2_with fail
          go_quiet (fail)
          go_wp2_with fail
          go_ret2
          exact ⟨k, true, rfl, HAT.out, below_drewN (Below.refl _ _) _⟩
        · have hub : (u == a) = false := by simp [hue]
          rw [hub] at HAT
          go_wp2_with fail
          go_quiet (fail)
          go_wp2_with fail
          go_ret2
          exact ⟨k, false, rfl, HAT.out, below_drewN (Below.refl _ _) _⟩
    · obtain rfl : k = n := by omega
      have HAT := Lib.hid (atK_of HSR.out (by rw [HL.out]; omega) HK.out (fun hh => by rw [HL.out] at hh; omega))
      rw [HL.out, decide_eq_false hlt, Bool.false_and] at HAT
      have D1 : decide ((k : Int) < (k : Int)) = false := decide_eq_false (by omega)
      go_wp2_with fail
      go_quiet (fail)
      go_wp2_with fail
      go_ret2
      exact ⟨k, false, rfl, HAT.out, below_drewN (Below.refl _ _) _⟩
end
end Go.Proofs.Ythamnmadgfmbkaa
namespace Go.Proofs.Ythamnmadgfmbkaa
open Go.RowKit

section
variable {w : World} {base g n c : Nat} {A : Option Addr} {l : List E}
set_option maxHeartbeats 4000000 in
theorem refget_any (a : Int) (h : RTab w base g l A n c) (hs : Srt l) (hn : n ≤ 120) : Calls Try.prog 13 #[.pointer (some ⟨g, 0, none⟩), .int .u64 a] w (TGets w (getT l a)) := by
  obtain ⟨W0, HW0⟩ : ∃ W0, Hid (W0 = w.alloc (.cells #[.int .u64 0, .int .i64 0, .bool false, .int .i64 0] 32)) := ⟨_, rfl⟩
  have S0 : Hid (Below w.heap.size w W0) := by rw [HW0.out]; exact (Below.refl _ _).alloc (Nat.le_refl _) _
  have R0 : Hid (RowEn W0 w.heap.size E.zero) := by rw [HW0.out]; exact rowEn_new w E.zero
  have H0 := Lib.hid (h.since S0.out)
  have C := Lib.hid (refat_any a H0.out hs hn)
  obtain ⟨b0, HB0⟩ : ∃ b0, Hid (w.heap.size = b0) := ⟨_, rfl⟩
  rw [HB0.out] at R0
  have HBW : Hid (b0 = w.heap.size) := HB0.out.symm
  have HL : Hid (l.length = n) := h.lr.len
  clear h hs hn
  go_enter Try.func13, Try.ntmps13
  go_wp2_with fail
  rw [← HW0.out, HB0.out]
  clear HW0 HB0
  refine C.out.mono ?_
  rintro e W1 ⟨k, ok, rfl, hat, hb1⟩
  have HAT := Lib.hid hat
  have S1 := Lib.hid (below_chain S0.out hb1)
  have R1 := Lib.hid (R0.out.since hb1)
  have H1 := Lib.hid (H0.out.since hb1)
  clear hat hb1 S0 R0 H0 C
  have c0 := H1.out.c0
  obtain ⟨d0, d1, d2, d3⟩ := R1.out.at_
  have f0 := R1.out.free 0
  have f1 := R1.out.free 1
  have f2 := R1.out.free 2
  have f3 := R1.out.free 3
  unfold E.zero at d0 d1 d2 d3
  dsimp only at d0 d1 d2 d3
  cases ok with
  | false =>
    have HG : Hid (getT l a = none) := HAT.out.get
    go_wp2_with fail
    have S9 := Lib.hid (S1.out.grown (putEn_else W1 b0 (.int .u64 0) (.int .i64 0) (.bool false) (.int .i64 0)) S1.out.size (fun q hq => by rw [← Option.some.inj hq, HBW.out]; exact Nat.le_refl _))
    have R9 := Lib.hid (R1.out.put ⟨0, 0, false, 0⟩)
    dsimp only at R9
    obtain ⟨W9, HW9⟩ : ∃ W9, Hid (W9 = ((((W1.setCell ⟨b0, 0, none⟩ (.int .u64 0)).setCell ⟨b0, 1, none⟩ (.int .i64 0)).setCell ⟨b0, 2, none⟩ (.bool false)).setCell ⟨b0, 3, none⟩ (.int .i64 0))) := ⟨_, rfl⟩
    rw [← HW9.out] at S9 R9 ⊢
    obtain ⟨r0, r1, r2, r3⟩ := R9.out.at_
    dsimp only at r0 r1 r2 r3
    exact bodyPost_ret (v := pairO none) (by simp [results, Try.results13, go_sem, r0, r1, r2, r3, pairO_none]) rfl (by rw [HG.out]; exact ⟨rfl, S9⟩)
  | true =>
    have HG : Hid (getT l a = some (l.getD k E.zero)) := HAT.out.get
    have hk : k < n := by have := HAT.out.lt rfl; rw [HL.out] at this; exact this
    obtain ⟨ad, hA, hblk, hat⟩ := ent_at H1.out.lr.lie hk
    obtain rfl := hA
    obtain ⟨⟨xa, xp, xd, xq⟩, HX⟩ : ∃ x, Hid (l.getD k E.zero = x) := ⟨_, rfl⟩
    rw [show getEn l k = ⟨xa, xp, xd, xq⟩ from HX.out] at hat
    rw [HX.out] at HG
    obtain ⟨e0, e1, e2, e3⟩ := hat
    dsimp only at e0 e1 e2 e3
    have k0 : (0 : Int) ≤ (k : Int) := by omega
    have k1 : (k : Int) < (n : Int) := by omega
    go_wp2_with fail
    have S9 := Lib.hid (S1.out.grown (putEn_else W1 b0 (.int .u64 xa) (.int .i64 xp) (.bool xd) (.int .i64 xq)) S1.out.size (fun q hq => by rw [← Option.some.inj hq, HBW.out]; exact Nat.le_refl _))
    have R9 := Lib.hid (R1.out.put ⟨xa, xp, xd, xq⟩)
    dsimp only at R9
    obtain ⟨W9, HW9⟩ : ∃ W9, Hid (W9 = ((((W1.setCell ⟨b0, 0, none⟩ (.int .u64 xa)).setCell ⟨b0, 1, none⟩ (.int .i64 xp)).setCell ⟨b0, 2, none⟩ (.bool xd)).setCell ⟨b0, 3, none⟩ (.int .i64 xq))) := ⟨_, rfl⟩
    rw [← HW9.out] at S9 R9 ⊢
    obtain ⟨r0, r1, r2, r3⟩ := R9.out.at_
    dsimp only at r0 r1 r2 r3
    exact bodyPost_ret (v := pairO (some ⟨xa, xp, xd, xq⟩)) (by simp [results, Try.results13, go_sem, r0, r1, r2, r3, pairO_some]) rfl (by rw [HG.out]; exact ⟨rfl, S9⟩)
/- From -/
def fromP (l : List E) (a : Int) (d : Bool) (k : Nat) : List E := (l.take k).filter fun e => decide (a ≤ e.addr) && (!d || e.dirty)
def fromK (l : List E) (a n : Int) (d : Bool) (k : Nat) : List E := (fromP l a d k).take n.toNat
theorem fromP_next {l : List E} {a : Int} {d : Bool} {k : Nat} (hk : k < l.length) : fromP l a d (k + 1) = fromP l a d k ++ if (decide (a ≤ (l.getD k E.zero).addr) && (!d || (l.getD k E.zero).dirty)) = true then [l.getD k E.zero] else [] := by
  have e : l.getD k E.zero = l[k] := by rw [List.getD_eq_getElem?_getD, List.getElem?_eq_getElem hk]; rfl
  unfold fromP
  rw [List.take_succ_eq_append_getElem hk, List.filter_append, e, List.filter_cons, List.filter_nil]
theorem fromP_le {l : List E} {a : Int} {d : Bool} {k : Nat} : (fromP l a d k).length ≤ k := Nat.le_trans (List.length_filter_le _ _) (by rw [List.length_take]; omega)
theorem fromP_pre {l : List E} {a : Int} {d : Bool} {k : Nat} : ∃ r, (l.filter fun e => decide (a ≤ e.addr) && (!d || e.dirty)) = fromP l a d k ++ r := ⟨(l.drop k).filter fun e => decide (a ≤ e.addr) && (!d || e.dirty), by unfold fromP; rw [← List.filter_append, List.take_append_drop]⟩
theorem from_full {l : List E} {a n : Int} {d : Bool} {k : Nat} (h : n ≤ ((fromP l a d k).length : Int)) (h2 : ((fromP l a d k).length : Int) ≤ n ∨ fromP l a d k = []) : fromT l a n d = fromP l a d k := by
  obtain ⟨r, hr⟩ := fromP_pre (l := l) (a := a) (d := d) (k := k)
  unfold fromT
  rw [hr]
  rcases h2 with h2 | h2
  · have : n.toNat = (fromP l a d k).length := by omega
    rw [this, List.take_left]
  · rw [h2] at h ⊢
    have h3 : ((([] : List E).length : Nat) : Int) = 0 := rfl
    rw [h3] at h
    have : n.toNat = 0 := by omega
    rw [this]; rfl
theorem from_end {l : List E} {a n : Int} {d : Bool} {k : Nat} (hk : l.length ≤ k) (h2 : ((fromP l a d k).length : Int) ≤ n) : fromT l a n d = fromP l a d k := by
  unfold fromT fromP at *
  rw [List.take_of_length_le hk] at h2 ⊢
  exact List.take_of_length_le (by omega)
set_option maxHeartbeats 8000000 in
theorem reffrom_any (a x : Int) (d : Bool) (h : RTab w base g l A n c) (hw : ∀ e ∈ l, EWf e) (hn : n ≤ 120) (h2 : -9223372036854775808 ≤ x) (h3 : x ≤ 9223372036854775807) : Calls Try.prog 18 #[.pointer (some ⟨g, 0, none⟩), .int .u64 a, .int .i64 x, .bool d] w (GivesE w (fromT l a x d)) := by
  have HR := Lib.hid h
  have HL : Hid (l.length = n) := h.lr.len
  have HWF := Lib.hid hw
  clear h hw
  go_enter Try.func18, Try.ntmps18
  go_wp2_with fail
  go_loopw [9, 10] (fun t9 t10 wr => ∃ (k m : Nat) (A3 : Option Addr) (c3 : Nat), t9 = .slice A3 m c3 ∧ t10 = .int .i64 k ∧ k ≤ n ∧ m ≤ k ∧ ((m : Int) ≤ x ∨ m = 0) ∧ Hid (entK.Row wr w.heap.size A3 m c3 (fromP l a d k)) ∧ Hid (Below w.heap.size w wr)) (fun _ t10 _ => n - (intOf t10).toNat)
  case atStart => exact ⟨0, 0, none, 0, rfl, rfl, Nat.zero_le _, Nat.le_refl _, Or.inr rfl, Kind.Row.none_, Below.refl _ _⟩
  case round =>
    obtain ⟨k, m, A3, c3, rfl, rfl, hk, hmk, hmx, HP, HB⟩ := hrel
    have k0 : (0 : Int) ≤ (k : Int) := by omega
    have H1 := Lib.hid (HR.out.since HB.out)
    have c0 := H1.out.c0
    by_cases hlt : k < n
    · have k1 : (k : Int) < (n : Int) := by omega
      by_cases hml : (m : Int) < x
      · obtain ⟨ad, hA, hblk, hat⟩ := ent_at H1.out.lr.lie hlt
        obtain rfl := hA
        have HNX := Lib.hid (fromP_next (l := l) (a := a) (d := d) (k := k) (by rw [HL.out]; exact hlt))
        have HE : Hid (EWf (l.getD k E.zero)) := HWF.out _ (by rw [List.getD_eq_getElem?_getD, List.getElem?_eq_getElem (by rw [HL.out]; exact hlt)]; exact List.getElem_mem _)
        obtain ⟨⟨xa, xp, xd, xq⟩, HX⟩ : ∃ x, Hid (l.getD k E.zero = x) := ⟨_, rfl⟩
        rw [show getEn l k = ⟨xa, xp, xd, xq⟩ from HX.out] at hat
        rw [HX.out] at HNX HE
        obtain ⟨e0, e1, e2, e3⟩ := hat
        dsimp only at e0 e1 e2 e3 HNX
        by_cases hax : a ≤ xa
        · cases hdd : (!d || xd) with
          | true =>
            rw [decide_eq_true hax, hdd, Bool.true_and, if_pos rfl] at HNX
            have hm4 : m + 1 ≤ 8000 := by omega
            obtain ⟨A4, c4, W4, hr4, ho4, hb4, _⟩ := Kind.append_one (K := entK) HB.out HP.out ⟨xa, xp, xd, xq⟩ HE.out #[.int .u64 xa, .int .i64 xp, .bool xd, .int .i64 xq] rfl hm4
            have R4 := Lib.hid (ho4.same HNX.out.symm)
            have B4 := Lib.hid hb4
            have HR4 := Lib.hid hr4
            have hmx2 : ((m + 1 : Nat) : Int) ≤ x := by omega
            clear ho4 hb4 hr4 HNX HE HX HP
            cases d with
            | false =>
              clear hdd
              go_wp2_with (at_builtin; refine wpList_append_run rfl (.tmp 50) (.tmp 58) 27 rfl rfl rfl HR4.out ?_)
              go_roundw
              case rel => exact ⟨k + 1, m + 1, A4, c4, rfl, by go_num, by omega, by omega, Or.inl hmx2, R4, B4⟩
              case measure => simp [intOf]; omega
            | true =>
              obtain rfl : xd = true := hdd
              go_wp2_with (at_builtin; refine wpList_append_run rfl (.tmp 50) (.tmp 58) 27 rfl rfl rfl HR4.out ?_)
              go_roundw
              case rel => exact ⟨k + 1, m + 1, A4, c4, rfl, by go_num, by omega, by omega, Or.inl hmx2, R4, B4⟩
              case measure => simp [intOf]; omega
          | false =>
            rw [hdd, Bool.and_false, if_neg (by decide), List.append_nil] at HNX
            have R4 := Lib.hid (HP.out.same HNX.out.symm)
            obtain ⟨rfl, rfl⟩ : d = true ∧ xd = false := by revert hdd; cases d <;> cases xd <;> decide
            clear HNX HE HX HP
            go_wp2_with fail
            go_roundw
            case rel => exact ⟨k + 1, m, A3, c3, rfl, by go_num, by omega, by omega, hmx, R4, HB⟩
            case measure => simp [intOf]; omega
        · rw [decide_eq_false hax, Bool.false_and, if_neg (by decide), List.append_nil] at HNX
          have R4 := Lib.hid (HP.out.same HNX.out.symm)
          clear HNX HE HX HP
          go_wp2_with fail
          go_roundw
          case rel => exact ⟨k + 1, m, A3, c3, rfl, by go_num, by omega, by omega, hmx, R4, HB⟩
          case measure => simp [intOf]; omega
      · have HT : Hid (fromT l a x d = fromP l a d k) := by
          have hl := HP.out.len
          refine from_full (by rw [hl]; omega) ?_
          rcases hmx with h | h
          · exact Or.inl (by rw [hl]; omega)
          · exact Or.inr (List.eq_nil_of_length_eq_zero (by rw [hl]; exact h))
        have R4 := Lib.hid (HP.out.same HT.out.symm)
        clear HP HT
        go_wp2_with fail
        go_ret
        exact ⟨A3, m, c3, rfl, R4, HB⟩
    · have HT : Hid (fromT l a x d = fromP l a d k) := by
        have hl := HP.out.len
        rcases hmx with h | h
        · exact from_end (by rw [HL.out]; omega) (by rw [hl]; exact h)
        · by_cases h4 : x < 0
          · exact from_full (by rw [hl]; omega) (Or.inr (List.eq_nil_of_length_eq_zero (by rw [hl]; exact h)))
          · exact from_end (by rw [HL.out]; omega) (by rw [hl]; omega)
      have R4 := Lib.hid (HP.out.same HT.out.symm)
      clear HP HT
      go_wp2_with fail
      go_ret
      exact ⟨A3, m, c3, rfl, R4, HB⟩
theorem from_dirty {l : List E} (hw : ∀ e ∈ l, EWf e) : (fromT l 0 (l.length : Int) true).length = dirtyT l := by
  unfold fromT dirtyT
  rw [List.countP_eq_length_filter, List.filter_congr (q := fun e => e.dirty) fun e he => by simp [(hw e he).a0], List.take_of_length_le (by rw [Int.toNat_natCast]; exact List.length_filter_le _ _)]
theorem refdirty_any (h : RTab w base g l A n c) (hw : ∀ e ∈ l, EWf e) (hn : n ≤ 120) : Calls Try.prog 23 #[.pointer (some ⟨g, 0, none⟩)] w (SaysI w (dirtyT l : Int)) := by
  have hl := h.lr.len
  have C := Lib.hid (reffrom_any 0 (n : Int) true h hw hn (by omega) (by omega))
  have c0 := h.c0
  have HD := Lib.hid (from_dirty hw)
  rw [hl] at HD
  clear h hw hl
  go_enter Try.func23, Try.ntmps23
  go_wp2_with fail
  refine C.out.mono ?_
  rintro e W1 ⟨A1, n1, c1, rfl, hi1, hb1⟩
  have HN : Hid (dirtyT l = n1) := by rw [← HD.out]; exact hi1.out.len
  clear hi1 HD C
  go_wp2_with fail
  go_ret
  exact ⟨by rw [HN.out]; rfl, hb1⟩
end
end Go.Proofs.Ythamnmadgfmbkaa
