/- SumTells answers true, for all parts, sums and bytes. Conditions: what the two tables hold; the slices' cells. -/
import Derived.Test.YteglhfimmbphmaaDoorLend
import Derived.Test.YteglhfimmbphmaaDoorLow
set_option linter.unusedVariables false
set_option linter.unusedSimpArgs false
namespace Go.Proofs.YteglhfimmbphmaaDoor
open Go.RowKit

theorem Lent.since {w wr w' : World} {n j : Nat} {bs : List Nat} (h : Lent w wr n j bs) (hb : Below wr.heap.size wr w') : Lent w w' n j bs := by
  refine ⟨h.below.trans (hb.mono (Nat.le_of_lt h.lt)), ?_⟩
  obtain ⟨cur, e, rest⟩ := h.row
  exact ⟨cur, (hb.block _ h.lt).trans e, rest⟩
theorem Tabs.since {w w' : World} (h : Tabs w) (hb : Below w.heap.size w w') : Tabs w' := h.below h.size hb
theorem Bytes.since {w w' : World} {A : Option Addr} {n : Nat} {bs : List Nat} (h : Bytes w w.heap.size A n bs) (hb : Below w.heap.size w w') : Bytes w' w'.heap.size A n bs := (h.below hb).wider hb.size
theorem Parts.since {w w' : World} {A : Option Addr} {n : Nat} {ps : List (List Nat)} (h : Parts w w.heap.size A n ps) (hb : Below w.heap.size w w') : Parts w' w'.heap.size A n ps := (h.below hb).wider hb.size
theorem below_chain {w a b : World} (h : Below w.heap.size w a) (k : Below a.heap.size a b) : Below w.heap.size w b := h.trans (k.mono (by have := h.size; omega))

/- the same contracts; of the world behind them only that nothing old has turned -/
theorem of_since (A : Option Addr) (n c : Nat) (ps : List (List Nat)) (w : World) (hn : n ≤ 9223372036854775807) (hT : Tabs w) (hA : Parts w w.heap.size A n ps) :
    Calls Tryd.prog 11 #[.slice A n c] w fun e w' => e = .returned (.int .u32 ((Crc.more 0#32 ps.flatten).toNat : Int)) ∧ Below w.heap.size w w' :=
  (of_any A n c ps w hn hT hA).mono fun e w' ⟨he, m, hw⟩ => ⟨he, hw ▸ below_drewN (Below.refl _ _) m⟩
theorem more_since (x : Int) (s : BitVec 32) (A : Option Addr) (n c : Nat) (bs : List Nat) (w : World) (h0 : 0 ≤ x) (h1 : x ≤ 4294967295) (HX : Hid (x = ((s.toNat : Nat) : Int))) (hn : n ≤ 9223372036854775807) (hT : Tabs w) (hA : Bytes w w.heap.size A n bs) :
    Calls Tryd.prog 13 #[.int .u32 x, .slice A n c] w fun e w' => e = .returned (.int .u32 ((Crc.more s bs).toNat : Int)) ∧ Below w.heap.size w w' :=
  (more_int x s A n c bs w h0 h1 HX hn hT hA).mono fun e w' ⟨he, m, hw⟩ => ⟨he, hw ▸ below_drewN (Below.refl _ _) m⟩
theorem kept_since (A : Option Addr) (n c : Nat) (bs : List Nat) (w wr : World) (hn : n ≤ 300) (hL : Lent w wr n 3 bs) (hl : bs.length = n) (hsm : ∀ k, bs.getD k 0 < 256) (hA : Bytes wr wr.heap.size A n bs) :
    Calls Tryd.prog 15 #[.slice (some ⟨w.heap.size, 0, none⟩) n (n + 3), .slice A n c] wr fun e w' => e = .returned (.bool true) ∧ Below wr.heap.size wr w' :=
  (kept_any A n c bs w wr hn hL hl hsm hA).mono fun e w' ⟨he, m, hw⟩ => ⟨he, hw ▸ below_drewN (Below.refl _ _) m⟩

set_option maxHeartbeats 1000000 in
theorem tells_any (x : Int) (s : BitVec 32) (A A' : Option Addr) (n c n' c' : Nat) (ps : List (List Nat)) (bs : List Nat) (w : World) (h0 : 0 ≤ x) (h1 : x ≤ 4294967295) (HX : Hid (x = ((s.toNat : Nat) : Int)))
    (hn : n ≤ 9223372036854775807) (hn' : n' ≤ 9223372036854775807) (hT : Tabs w) (hA : Parts w w.heap.size A n ps) (hB : Bytes w w.heap.size A' n' bs) :
    Calls Tryd.prog 3 #[.slice A n c, .int .u32 x, .slice A' n' c'] w fun e w' => e = .returned (.bool true) ∧ Below w.heap.size w w' := by
  have HT := Lib.hid hT
  have HA := Lib.hid hA
  have HB := Lib.hid hB
  clear hT hA hB
  by_cases hl : n' ≤ 300
  all_goals
    go_enter Tryd.func3, Tryd.ntmps3
    go_wp2_with fail
    refine (great_any A n c ps 10 300 _ hn HA.out).mono ?_
    rintro e w' ⟨b, rfl, rfl⟩
    cases b
  all_goals
    go_wp2_with fail
  · refine (lend_any A' n' c' bs _ hl HB.out).mono ?_
    rintro e W1 ⟨rfl, hL⟩
    have HL := Lib.hid hL
    clear hL
    go_wp2_with fail
    refine (of_since A n c ps _ hn (HT.out.since HL.out.below) (HA.out.since HL.out.below)).mono ?_
    rintro e W2 ⟨rfl, b2⟩
    have c2 := below_chain HL.out.below b2
    go_wp2_with fail
    refine (ref_of A n c ps _ hn (HA.out.since c2)).mono ?_
    rintro e w' ⟨rfl, rfl⟩
    have L2 := HL.out.since b2
    go_wp2_with fail
    refine (more_since x s _ n' (n' + 3) bs _ h0 h1 HX hn' (HT.out.since c2) (L2.bytes L2.lt HB.out.len HB.out.small)).mono ?_
    rintro e W3 ⟨rfl, b3⟩
    have c3 := below_chain c2 b3
    have L3 := L2.since b3
    go_wp2_with fail
    refine (ref_more x s _ n' c' bs _ h0 h1 HX hn' (HB.out.since c3)).mono ?_
    rintro e w' ⟨rfl, rfl⟩
    go_wp2_with fail
    refine (kept_since A' n' c' bs w _ hl L3 HB.out.len HB.out.small (HB.out.since c3)).mono ?_
    rintro e W4 ⟨rfl, b4⟩
    have c4 := below_chain c3 b4
    go_wp2_with fail
    refine (awake_any _ (HT.out.since c4)).mono ?_
    rintro e w' ⟨rfl, hb⟩
    go_wp2_with fail
    go_ret
    exact ⟨rfl, below_chain c4 hb⟩
  all_goals
    refine (awake_any _ HT.out).mono ?_
    rintro e w' ⟨rfl, hb⟩
    go_wp2_with fail
    go_ret
    exact ⟨rfl, hb⟩
theorem bv_of {x : Int} (h0 : 0 ≤ x) (h1 : x ≤ 4294967295) : ∃ s : BitVec 32, x = ((s.toNat : Nat) : Int) :=
  ⟨BitVec.ofNat 32 x.toNat, by rw [BitVec.toNat_ofNat, Nat.mod_eq_of_lt (show x.toNat < 2 ^ 32 by omega)]; omega⟩
theorem tells_law (A : Option Addr) (n c : Nat) (ps : List (List Nat)) (x : Int) (A' : Option Addr) (n' c' : Nat) (bs : List Nat) (hn : n ≤ 9223372036854775807) (h0 : 0 ≤ x) (h1 : x ≤ 4294967295) (hn' : n' ≤ 9223372036854775807)
    (w : World) (hT : Tabs w) (hA : Parts w w.heap.size A n ps) (hB : Bytes w w.heap.size A' n' bs) :
    Calls Tryd.prog 3 #[.slice A n c, .int .u32 x, .slice A' n' c'] w fun e w' => e = .returned (.bool true) ∧ Below w.heap.size w w' := by
  obtain ⟨s, hs⟩ := bv_of h0 h1
  exact tells_any x s A A' n c n' c' ps bs w h0 h1 hs hn hn' hT hA hB
end Go.Proofs.YteglhfimmbphmaaDoor
