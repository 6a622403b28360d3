/- The document's own disk: Read, Waiting, Write, Crash. Conditions: the disk's blocks; fewer than 1000 writes wait. -/
import Derived.Test.YtfhfjfgajbgdcaaRefDisk
set_option linter.unusedVariables false
set_option linter.unusedSimpArgs false
namespace Go.Proofs.Ytfhfjfgajbgdcaa
open Go.RowKit

abbrev waitAt (W : List (Int × List Nat)) (k : Nat) : Int × List Nat := W.getD k (0, [])
/-- The bytes of the last write of a sector. -/
def lastW (x : Int) (W : List (Int × List Nat)) : Option (List Nat) := ((W.filter fun p => decide (p.1 = x)).getLast?).map Prod.snd
theorem waitAt_at {W : List (Int × List Nat)} {k : Nat} (h : k < W.length) : waitAt W k = W[k] := by
  unfold waitAt
  rw [List.getD_eq_getElem?_getD, List.getElem?_eq_getElem h]; rfl
theorem lastW_hit {x : Int} {W : List (Int × List Nat)} {k : Nat} (hk : k < W.length) (h : (waitAt W k).1 = x) (hn : ∀ j, k < j → j < W.length → (waitAt W j).1 ≠ x) : lastW x W = some (waitAt W k).2 := by
  have e : W = W.take k ++ (W[k] :: W.drop (k + 1)) := by rw [← List.drop_eq_getElem_cons hk, List.take_append_drop]
  have hd : (W.drop (k + 1)).filter (fun p => decide (p.1 = x)) = [] := by
    rw [List.filter_eq_nil_iff]
    intro p hp
    obtain ⟨j, hj, rfl⟩ := List.mem_iff_getElem.1 hp
    rw [List.length_drop] at hj
    rw [List.getElem_drop]
    have := hn (k + 1 + j) (by omega) (by omega)
    rw [waitAt_at (by omega)] at this
    simpa using this
  rw [waitAt_at hk] at h ⊢
  have hf := congrArg (List.filter fun p => decide (p.1 = x)) e
  rw [List.filter_append, List.filter_cons_of_pos (by simpa using h), hd] at hf
  unfold lastW
  rw [hf]
  simp
theorem lastW_miss {x : Int} {W : List (Int × List Nat)} (hn : ∀ j, j < W.length → (waitAt W j).1 ≠ x) : lastW x W = none := by
  unfold lastW
  have : W.filter (fun p => decide (p.1 = x)) = [] := by
    rw [List.filter_eq_nil_iff]
    intro p hp
    obtain ⟨j, hj, rfl⟩ := List.mem_iff_getElem.1 hp
    have := hn j hj
    rw [waitAt_at hj] at this
    simpa using this
  rw [this]; rfl
def readO (s : RD) (x : Int) : Int × List Nat := if whyO s x = 0 then (match lastW x s.W with | some b => (0, b) | none => (0, s.F.getD x.toNat [])) else (whyO s x, [])
set_option maxHeartbeats 4000000 in
theorem refread_any (x : Int) (g base : Nat) (s : RD) (L : RL) (w : World) (hD : RDisk w base g s L) :
    Calls Try.prog 28 #[.pointer (some ⟨g, 0, none⟩), .int .i64 x] w (GotB w (readO s x)) := by
  have HD := Lib.hid hD
  have C1 := Lib.hid (refwhy_any x g base s L w hD)
  have C2 := Lib.hid (reffirm_any x g base s L w hD)
  clear hD
  by_cases h : whyO s x = 0
  · have HR : Hid (readO s x = match lastW x s.W with | some b => (0, b) | none => (0, s.F.getD x.toNat [])) := if_pos h
    rw [show firmO s x = (0, s.F.getD x.toNat []) from if_pos h] at C2
    rw [h] at C1
    obtain ⟨c0, c1, c2, c3⟩ := HD.out.cells
    have hmany := HD.out.many
    obtain ⟨n, HN⟩ : ∃ n, Hid (n = s.W.length) := ⟨_, rfl⟩
    rw [← HN.out] at c1 hmany
    clear h c0 c2 c3
    go_enter Try.func28, Try.ntmps28
    go_wp2_with fail
    refine C1.out.mono ?_
    rintro e w' ⟨rfl, rfl⟩
    go_wp2_with fail
    go_loop [7] (fun t7 => ∃ a : Int, t7 = .int .i64 a ∧ -1 ≤ a ∧ a < n ∧ Hid (∀ j : Nat, a < (j : Int) → j < n → (waitAt s.W j).1 ≠ x)) (fun t7 => (intOf t7 + 1).toNat)
    case atStart => exact ⟨(n : Int) - 1, by go_num, by omega, by omega, fun j h1 h2 => by omega⟩
    case round =>
      obtain ⟨a, rfl, ha0, ha1, HK⟩ := hrel
      by_cases hlt : 0 ≤ a
      · obtain ⟨k, rfl⟩ : ∃ k : Nat, a = (k : Int) := ⟨a.toNat, by omega⟩
        have hk : k < n := by omega
        obtain ⟨ad, A1, n1, q1, e1, e2, e3, e4, e5⟩ := HD.out.wait (k := k) (by rw [← HN.out]; exact hk)
        have hn1 : n1 ≤ 256 := by rw [← e5.len]; exact HD.out.sizew k
        have HHIT := Lib.hid fun h => lastW_hit (x := x) (W := s.W) (k := k) (by rw [← HN.out]; exact hk) h (fun j h1 h2 => HK.out j (by omega) (by rw [HN.out]; exact h2))
        rw [e1] at c1
        obtain ⟨p, HP⟩ : ∃ p, Hid (p = waitAt s.W k) := ⟨_, rfl⟩
        rw [show s.W.getD k (0, []) = p from HP.out.symm] at e3 e5
        rw [← HP.out] at HHIT
        obtain ⟨pa, pb⟩ := p
        dsimp only at e3 e5 HHIT
        have i0 : (0 : Int) ≤ (k : Int) := by omega
        by_cases hx : pa = x
        · have HL := Lib.hid (HHIT.out hx)
          obtain ⟨A6, c6, W6, hr6, ho6, hb6⟩ := own_append (c' := q1) (Below.refl w.heap.size w) Own.none_ e5.bytes (by omega)
          rw [Nat.zero_add] at hr6 ho6
          rw [List.nil_append] at ho6
          have R6 := Lib.hid hr6
          have O6 := Lib.hid ho6
          have S6 := Lib.hid hb6
          have hb : (pa == x) = true := by simpa using hx
          clear hr6 ho6 hb6 e5 hx HHIT
          go_wp2_with (at_builtin; refine wpList_append_run rfl (.const (.slice none 0 0)) (.tmp 41) 34 rfl rfl rfl R6.out ?_)
          go_ret2
          rw [HR.out, HL.out]
          exact ⟨_, _, _, rfl, O6, S6⟩
        · have hb : (pa == x) = false := by simpa using hx
          have HK2 : Hid (∀ j : Nat, (k : Int) - 1 < (j : Int) → j < n → (waitAt s.W j).1 ≠ x) := fun j h1 h2 => by
            by_cases e : j = k
            · subst e; rw [← HP.out]; exact hx
            · exact HK.out j (by omega) h2
          clear hx HHIT e5
          go_wp2_with fail
          go_round
          case rel => exact ⟨(k : Int) - 1, by go_num, by omega, by omega, HK2⟩
          case measure => simp [intOf] <;> omega
      · have HM : Hid (lastW x s.W = none) := lastW_miss fun j hj => HK.out j (by omega) (by rw [HN.out]; exact hj)
        go_wp2_with fail
        refine C2.out.mono ?_
        rintro e W1 ⟨A1, n1, q1, rfl, O1, S1⟩
        go_wp2_with fail
        go_ret2
        rw [HR.out, HM.out]
        exact ⟨_, _, _, rfl, O1, S1⟩
  · rw [show readO s x = (whyO s x, []) from if_neg h]
    obtain ⟨q, HQ⟩ : ∃ q, Hid (whyO s x = q) := ⟨_, rfl⟩
    rw [HQ.out] at C1 h ⊢
    have hb : (q != 0) = true := by simpa using h
    clear h
    go_enter Try.func28, Try.ntmps28
    go_wp2_with fail
    refine C1.out.mono ?_
    rintro e w' ⟨rfl, rfl⟩
    go_wp2_with fail
    go_ret2
    exact ⟨none, 0, 0, rfl, Own.none_, Below.refl _ _⟩
/- Waiting -/
def GivesI (w : World) (xs : List Int) (e : Ending) (w' : World) : Prop := ∃ A n c, e = .returned (.slice A n c) ∧ Hid (intK.Row w' w.heap.size A n c xs) ∧ Hid (Below w.heap.size w w')
theorem map_next {W : List (Int × List Nat)} {k : Nat} (hk : k < W.length) : (W.take (k + 1)).map Prod.fst = (W.take k).map Prod.fst ++ [(waitAt W k).1] := by
  rw [List.take_succ_eq_append_getElem hk, List.map_append, waitAt_at hk]; rfl
set_option maxHeartbeats 4000000 in
theorem refwaiting_any (g base : Nat) (s : RD) (L : RL) (w : World) (hD : RDisk w base g s L) (hin : ∀ k, k < s.W.length → intK.wf (waitAt s.W k).1) :
    Calls Try.prog 15 #[.pointer (some ⟨g, 0, none⟩)] w (GivesI w (s.W.map Prod.fst)) := by
  have HD := Lib.hid hD
  have HIN := Lib.hid hin
  have hmany := hD.many
  obtain ⟨n, HN⟩ : ∃ n, Hid (n = s.W.length) := ⟨_, rfl⟩
  rw [← HN.out] at hmany
  clear hD hin
  go_enter Try.func15, Try.ntmps15
  go_wp2_with fail
  go_loopw [3, 4] (fun t3 t4 wr => ∃ (k c3 : Nat) (A3 : Option Addr) (us : List Int), t4 = .int .i64 k ∧ k ≤ n ∧ t3 = .slice A3 k c3 ∧ Hid (us = (s.W.take k).map Prod.fst) ∧ Hid (intK.Row wr w.heap.size A3 k c3 us) ∧ Hid (Below w.heap.size w wr)) (fun _ t4 _ => n - (intOf t4).toNat)
  case atStart => exact ⟨0, 0, none, [], rfl, Nat.zero_le _, rfl, rfl, Kind.Row.none_, Below.refl _ _⟩
  case round =>
    obtain ⟨k, c3, A3, us, rfl, hk, rfl, HU, HR, HB⟩ := hrel
    have D := HD.out.since HB.out
    obtain ⟨d0, d1, d2, d3⟩ := D.cells
    rw [← HN.out] at d1
    by_cases hlt : k < n
    · obtain ⟨ad, A1, n1, q1, e1, e2, e3, e4, e5⟩ := D.wait (k := k) (by rw [← HN.out]; exact hlt)
      have HNX := Lib.hid (map_next (W := s.W) (k := k) (by rw [← HN.out]; exact hlt))
      have HWF := Lib.hid (HIN.out k (by rw [← HN.out]; exact hlt))
      rw [e1] at d1
      obtain ⟨p, HP⟩ : ∃ p, Hid (p = (waitAt s.W k).1) := ⟨_, rfl⟩
      rw [show (s.W.getD k (0, [])).1 = p from HP.out.symm] at e3
      rw [← HP.out] at HNX HWF
      have i0 : (0 : Int) ≤ (k : Int) := by omega
      have i1 : (k : Int) < (n : Int) := by omega
      obtain ⟨A9, c9, W9, hr9, ho9, hg9⟩ := Kind.append_one_b (K := intK) HB.out.size HR.out p HWF.out #[.int .i64 p] rfl (by omega)
      have R9 := Lib.hid hr9
      have Q9 := Lib.hid ho9
      have S9 : Hid (Below w.heap.size w W9) := HB.out.grown hg9 HB.out.size (fun b hb => (HR.out.row.lt b hb).1)
      have HU9 : Hid (us ++ [p] = (s.W.take (k + 1)).map Prod.fst) := by show _ = _; rw [HNX.out, HU.out]
      clear hr9 ho9 hg9 D d0 d2 d3 e4 e5
      go_wp2_with (at_builtin; refine wpList_append_run rfl (.tmp 14) (.tmp 23) 22 rfl rfl rfl R9.out ?_)
      go_roundw
      case rel => exact ⟨k + 1, c9, A9, us ++ [p], by go_num, by omega, rfl, HU9, Q9, S9⟩
      case measure => simp [intOf]; omega
    · have HF : Hid (us = s.W.map Prod.fst) := by show _ = _; rw [HU.out, List.take_of_length_le (by have := HN.out; omega)]
      clear D d0 d2 d3
      go_wp2_with fail
      go_ret
      exact ⟨_, _, _, rfl, HR.out.same HF.out, HB⟩
end Go.Proofs.Ytfhfjfgajbgdcaa
