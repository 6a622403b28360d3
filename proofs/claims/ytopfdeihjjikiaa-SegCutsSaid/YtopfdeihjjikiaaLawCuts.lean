/- SegCuts answers true, for all sizes, labels, entries and numbers. Conditions: the entries' cells; the label's length. -/
import Derived.Test.YtopfdeihjjikiaaRefSegCut
import Derived.Test.YtopfdeihjjikiaaSegAwake
import Derived.Test.YtopfdeihjjikiaaQuiet
set_option linter.unusedVariables false
set_option linter.unusedSimpArgs false
namespace Go.Proofs.Ytopfdeihjjikiaa
open Go.RowKit
open Go.Sort (grow)

theorem sliceK_at {w : World} {p : Addr} {v : SV} (h : sliceK.At w p v) : w.cell? p = some (.slice v.a v.n v.c) := by
  have := h 0 _ rfl
  rwa [add_none] at this
theorem ret_true {a b : Bool} (h : a = b) : Ending.returned (.bool a) = .returned (.bool b) := by rw [h]
set_option maxHeartbeats 4000000 in
/-- Two lists of the same parts are the same. -/
theorem sameparts_yes (A A' : Option Addr) (n c c' : Nat) (vs us : List SV) (ps : List (List Nat)) (w : World) (hn : n ≤ 9223372036854775807) (hs : ∀ k, (ps.getD k []).length ≤ 9223372036854775807) (hA : Lays w w.heap.size A n vs ps) (hA' : Lays w w.heap.size A' n us ps) :
    Calls Try.prog 10 #[.slice A n c, .slice A' n c'] w (SaysB w true) := by
  have HA := Lib.hid hA
  have HA' := Lib.hid hA'
  have HS := Lib.hid hs
  clear hA hA' hs
  go_enter Try.func10, Try.ntmps10
  go_wp2
  go_loopw [5] (fun t5 wr => ∃ (k : Nat), k ≤ n ∧ t5 = .int .i64 k ∧ Hid (Below w.heap.size w wr)) (fun t5 _ => n - (intOf t5).toNat)
  case atStart => exact ⟨0, Nat.zero_le _, rfl, Below.refl _ _⟩
  case round =>
    obtain ⟨k, hk, rfl, HB⟩ := hrel
    by_cases hlt : k < n
    · obtain ⟨ad, B1, n1, c1, hA, hblk, hcell, hcap, hby⟩ := (HA.out.since HB.out).at_ hlt
      obtain ⟨ad', B2, n2, c2, hA', hblk', hcell', hcap', hby'⟩ := (HA'.out.since HB.out).at_ hlt
      obtain rfl : n1 = n2 := hby.len.symm.trans hby'.len
      have hn1 : n1 ≤ 9223372036854775807 := by rw [← hby.len]; exact HS.out k
      subst hA hA'
      have i0 : (0 : Int) ≤ (k : Int) := by omega
      have i1 : (k : Int) < (n : Int) := by omega
      have cS := Lib.hid fun (d : Nat) (os : Array Obj) => quiet_says ((same_since B1 B2 n1 c1 c2 _ (grow (redrawn wr d) os) hn1 (hby.since (below_regrown wr d os)) (hby'.since (below_regrown wr d os))).mono fun e w' (h : _ ∧ _) => (⟨h.1, h.2⟩ : SaysB _ true e w'))
      have e0 := cell_regrown hcell
      have e1 := cell_regrown hcell'
      clear hcell hcell' hby hby'
      go_wp2_with fail
      refine wp_region_quiet_below (by kernel_rfl) (by kernel_rfl) ?_
      repeat (go_big_quiet_step (first | (go_at_call 28; exact cS.out _ _)))
      refine wpQuiet_nil ?_
      intro W2 hw'
      have S2 : Hid (Below w.heap.size w W2) := by obtain ⟨⟨dq, osq⟩, hw''⟩ := hw'; rw [hw'']; exact below_chain HB.out (below_regrown _ _ _)
      clear hw' e0 e1 cS
      go_wp2_with fail
      go_roundw
      case rel => exact ⟨k + 1, by omega, by go_num, S2⟩
      case measure => simp [intOf]; omega
    · go_wp2
      go_ret
      exact ⟨rfl, HB⟩
/-- The rows that are not yet written over: from the j-th on. -/
structure RowsFrom (w : World) (base g n j s : Nat) (ps : List (List Nat)) (B C : Nat → Nat) : Prop where
  row : ∃ cur, w.heap[g]? = some (.cells cur 38 (0, 0)) ∧ ∀ i, i < n → cur[i]? = some (.slice (some ⟨B i, 0, none⟩) s (C i))
  own : ∀ i, j ≤ i → i < n → Own w base (some ⟨B i, 0, none⟩) s (C i) (ps.getD i [])
  above : ∀ i, i < n → g < B i
  apart : ∀ i k, i < k → k < n → B i < B k
theorem Rows2.from_ {w : World} {base g n s : Nat} {ps : List (List Nat)} {B C : Nat → Nat} (h : Rows2 w base g n n s ps B C) : RowsFrom w base g n 0 s ps B C := by
  obtain ⟨cur, e, _, hc⟩ := h.row
  exact ⟨⟨cur, e, hc⟩, fun i _ hi => (h.each i hi).2, fun i hi => (h.each i hi).1, h.apart⟩
section
variable {w w' : World} {base g n j s : Nat} {ps : List (List Nat)} {B C : Nat → Nat}
theorem RowsFrom.cell (h : RowsFrom w base g n j s ps B C) {i : Nat} (hi : i < n) : w.cell? ⟨g, i, none⟩ = some (.slice (some ⟨B i, 0, none⟩) s (C i)) := by
  obtain ⟨cur, e, hc⟩ := h.row
  rw [cell_of_row _ _ _ cur 38 (0, 0) e]; exact hc i hi
theorem RowsFrom.over (h : RowsFrom w base g n j s ps B C) (hj : j < n) (hg : w.grownBy w' (some (B j))) : RowsFrom w' base g n (j + 1) s ps B C := by
  obtain ⟨cur, e, hc⟩ := h.row
  refine ⟨⟨cur, ?_, hc⟩, fun i hi hn => ?_, h.above, h.apart⟩
  · rw [hg.block g (Array.getElem?_eq_some_iff.1 e).1 (fun e => by have := h.above j hj; have := Option.some.inj e; omega)]; exact e
  · have := h.apart j i (by omega) hn
    exact own_other (h.own i (by omega) hn) hg (by omega)
end
theorem grown_none0 {w w' : World} (h : w.grownBy w' none) : Below w.heap.size w w' := ⟨h.os, h.tape, h.output, h.size, fun i hi => h.block i hi (by simp)⟩
/-- append(nil, vs...): a new row, or nil. -/
theorem copy_all {α : Type} (K : Kind α) {W : World} {A : Option Addr} {n c : Nat} {vs : List α} (hA : K.Lie W W.heap.size A n vs) (hn : n ≤ 8000) :
    ∃ A2 c2 W2, (Builtin.append_ #[K.L, K.L] K.L #[.slice none 0 0, .slice A n c]).run Try.prog W = .ok (.slice A2 n c2) W2 ∧ K.Row W2 W.heap.size A2 n c2 vs ∧ Below W.heap.size W W2 := by
  obtain ⟨A2, c2, W2, hr, ho, hg⟩ := Kind.append_b (c' := c) (Nat.le_refl _) Kind.Row.none_ hA (by omega)
  rw [Nat.zero_add] at hr ho
  rw [List.nil_append] at ho
  exact ⟨A2, c2, W2, hr, ho, grown_none0 hg⟩
set_option maxHeartbeats 16000000 in
set_option maxRecDepth 20000 in
theorem cuts_bad (x : Int) (st : ByteArray) (es : List E) (y : Int) (A : Option Addr) (n c : Nat) (w : World) (hst : st.size ≤ 100) (hn : n ≤ 300) (hc : n ≤ c) (hy : y ≤ 9223372036854775807) (h : ¬((128 ≤ x ∧ x ≤ 256) ∧ mayL st.data.toList = true ∧ mayE es = true)) (hA : entK.Lie w w.heap.size A n es) :
    Calls Try.prog 3 #[.int .i64 x, .string st, .slice A n c, .int .i64 y] w (SaysB w true) := by
  have HA := Lib.hid hA
  have HNO := Lib.hid h
  obtain ⟨A9, c9, W1, hr9, ho9, hb9⟩ := copy_all (c := c) entK hA (by omega)
  have R9 := Lib.hid hr9
  have S1 := Lib.hid hb9
  have HA1 := Lib.hid (hA.since hb9)
  have HW1 := Lib.hid ho9.lie
  obtain ⟨b, HMB⟩ : ∃ b, Hid (mayE es = b) := ⟨_, rfl⟩
  obtain ⟨q, HQ⟩ : ∃ q, Hid (eachI x = q) := ⟨_, rfl⟩
  obtain ⟨p, HP⟩ : ∃ p, Hid (partsI x y = p) := ⟨_, rfl⟩
  have C1 := Lib.hid fun W => segmay_any A n c es W (by omega)
  have C2 := Lib.hid fun W => refmay_any A n c es W (by omega)
  rw [HMB.out] at C1 C2
  have C3 := Lib.hid fun W => each_any x W
  have C4 := Lib.hid fun W => refeach_any x W
  rw [HQ.out] at C3 C4
  have C5 := Lib.hid fun W => parts_any x y W hy
  have C6 := Lib.hid fun W => refparts_any x y W hy
  rw [HP.out] at C5 C6
  have K1 := Lib.hid (cut_no x st A n c es W1 (by omega) (by omega) HA1.out h)
  have K2 := Lib.hid fun (W : World) hA => refcut_no x st A n c es W (by omega) (by omega) hA h
  clear h
  clear hA hr9 ho9 hb9
  go_enter Try.func3, Try.ntmps3
  go_wp2_with (at_builtin; refine wpList_append_run rfl (.const (.slice none 0 0)) (.tmp 25) 22 rfl rfl rfl R9.out ?_)
  refine K1.out.mono ?_
  rintro e W2 ⟨v2, rfl, V2, hb2⟩
  have S2 := Lib.hid hb2.out
  have V2 := Lib.hid V2.out
  clear hb2 K1 R9
  go_wp2_with fail
  refine (K2.out _ (HA1.out.since S2.out)).mono ?_
  rintro e W3 ⟨rfl, hb3⟩
  have S3 := Lib.hid (below_chain S2.out hb3.out)
  have V3 := Lib.hid (V2.out.since hb3.out)
  clear hb3 K2 V2 S2
  go_wp2_with fail
  refine (sameparts_yes none none 0 0 0 [] [] [] _ (by omega) (fun k => by simp) Lays.none_ Lays.none_).mono ?_
  rintro e W4 ⟨rfl, hb4⟩
  have S4 := Lib.hid (below_chain S3.out hb4.out)
  have V4 := Lib.hid (V3.out.since hb4.out)
  clear hb4 V3 S3
  go_wp2_with fail
  refine (num_wrong 2 (by omega) v2 _ V4.out).mono ?_
  rintro e w' ⟨rfl, rfl⟩
  go_wp2_with fail
  refine (C1.out _ (HA1.out.since S4.out)).mono ?_
  rintro e W5 ⟨rfl, hb5⟩
  have S5 := Lib.hid (below_chain S4.out hb5.out)
  clear hb5 S4
  go_wp2_with fail
  refine (C2.out _ (HA1.out.since S5.out)).mono ?_
  rintro e W6 ⟨rfl, hb6⟩
  have S6 := Lib.hid (below_chain S5.out hb6.out)
  clear hb6 S5
  have bb : (b == b) = true := by simp
  have bq : (q == q) = true := by simp
  have bp : (p == p) = true := by simp
  go_wp2_with fail
  refine (C3.out _).mono ?_
  rintro e w' ⟨rfl, rfl⟩
  go_wp2_with fail
  refine (C4.out _).mono ?_
  rintro e w' ⟨rfl, rfl⟩
  go_wp2_with fail
  refine (C5.out _).mono ?_
  rintro e w' ⟨rfl, rfl⟩
  go_wp2_with fail
  refine (C6.out _).mono ?_
  rintro e w' ⟨rfl, rfl⟩
  go_wp2_with fail
  go_loopw [15] (fun t15 wr => t15 = .int .i64 0 ∧ Hid (Below W1.heap.size W1 wr)) (fun _ _ => 0)
  case atStart => exact ⟨rfl, S6⟩
  case round =>
    obtain ⟨rfl, HB⟩ := hrel
    go_wp2_with fail
    refine (sameentries_since A A9 n c c9 _ _ (by omega) (HA1.out.since HB.out) (HW1.out.since HB.out)).mono ?_
    rintro e W8 ⟨rfl, hb8⟩
    have S8 := Lib.hid (below_chain (below_chain S1.out HB.out) hb8.out)
    clear hb8
    go_wp2_with fail
    refine (awake_any _).mono ?_
    rintro e W9 ⟨rfl, hb9⟩
    have S9 := Lib.hid (below_chain S8.out hb9.out)
    go_wp2_with fail
    go_ret
    exact ⟨rfl, S9⟩
set_option maxHeartbeats 16000000 in
set_option maxRecDepth 20000 in
theorem cuts_good (s : Nat) (nm : List Nat) (ns : List Sg.E) (y : Int) (A : Option Addr) (n c : Nat) (w : World) (hn : n ≤ 300) (hc : n ≤ c) (hy : y ≤ 9223372036854775807) (hs : Sg.sizeOk s) (hnm : OkN nm) (hok : Sg.Ok ns) (hst : (strOf nm).size ≤ 36) (hA : entK.Lie w w.heap.size A n (ns.map ofE)) :
    Calls Try.prog 3 #[.int .i64 (s : Int), .string (strOf nm), .slice A n c, .int .i64 y] w (SaysB w true) := by
  have HA := Lib.hid hA
  have HS := Lib.hid hs
  have HNM := Lib.hid hnm
  have HOK := Lib.hid hok
  have HPN : Hid (∀ k, ((Sg.cut s nm ns).getD k []).length ≤ 9223372036854775807) := fun k => by
    by_cases hk : k < Sg.parts s ns.length
    · rw [cut_getD hk, Sg.part_len hs hnm.len (Sg.chunk_few s ns k)]
      have := hs.2
      omega
    · rw [List.getD_eq_getElem?_getD, List.getElem?_eq_none (by rw [Sg.cut_len]; omega)]; exact Nat.zero_le _
  have HPC : Hid ((Sg.cut s nm ns).length ≤ 300) := by
    show _ ≤ _
    rw [Sg.cut_len]
    have := Sg.parts_few hs hok.many
    omega
  have HMY := Lib.hid (ok_mayE hok)
  have hs900 : s ≤ 900 := by have := hs.2; omega
  obtain ⟨A9, c9, W1, hr9, ho9, hb9⟩ := copy_all (c := c) entK hA (by omega)
  have R9 := Lib.hid hr9
  have S1 := Lib.hid hb9
  have HA1 := Lib.hid (hA.since hb9)
  have HW1 := Lib.hid ho9.lie
  obtain ⟨b, HMB⟩ : ∃ b, Hid (mayE (ns.map ofE) = b) := ⟨_, rfl⟩
  obtain ⟨q, HQ⟩ : ∃ q, Hid (eachI (s : Int) = q) := ⟨_, rfl⟩
  obtain ⟨p, HP⟩ : ∃ p, Hid (partsI (s : Int) y = p) := ⟨_, rfl⟩
  have C1 := Lib.hid fun W => segmay_any A n c (ns.map ofE) W (by omega)
  have C2 := Lib.hid fun W => refmay_any A n c (ns.map ofE) W (by omega)
  rw [HMB.out] at C1 C2
  have C3 := Lib.hid fun W => each_any (s : Int) W
  have C4 := Lib.hid fun W => refeach_any (s : Int) W
  rw [HQ.out] at C3 C4
  have C5 := Lib.hid fun W => parts_any (s : Int) y W hy
  have C6 := Lib.hid fun W => refparts_any (s : Int) y W hy
  rw [HP.out] at C5 C6
  have K1 := Lib.hid (cut_yes s nm A n c ns W1 hs hnm hok hc HA1.out)
  have K2 := Lib.hid fun (W : World) => refcut_yes s nm A n c ns W hs hnm hok hc
  obtain ⟨ps, HPS⟩ : ∃ ps, Hid (ps = Sg.cut s nm ns) := ⟨_, rfl⟩
  obtain ⟨P, HPP⟩ : ∃ P, Hid (P = ps.length) := ⟨_, rfl⟩
  rw [← HPS.out] at K1 K2 HPN HPC
  rw [← HPP.out] at HPC
  have hP := HPC.out
  obtain ⟨st, HST⟩ : ∃ st, Hid (st = strOf nm) := ⟨_, rfl⟩
  rw [← HST.out] at K1 K2 hst ⊢
  have hst2 : ¬ 100 < st.size := by omega
  clear hs hnm hok
  clear hA hr9 ho9 hb9
  go_enter Try.func3, Try.ntmps3
  go_wp2_with (at_builtin; refine wpList_append_run rfl (.const (.slice none 0 0)) (.tmp 25) 22 rfl rfl rfl R9.out ?_)
  refine K1.out.mono ?_
  rintro e W2 ⟨g, B, C, rfl, R2, hb2⟩
  have S2 := Lib.hid hb2.out
  have R2 := Lib.hid R2.out
  rw [← HPP.out] at R2 ⊢
  clear hb2 K1 R9
  go_wp2_with fail
  refine (K2.out _ (HA1.out.since S2.out)).mono ?_
  rintro e W3 ⟨A3, c3, us, rfl, hcap, L3, hb3⟩
  have S3 := Lib.hid (below_chain S2.out hb3.out)
  have R3 := Lib.hid (R2.out.since hb3.out)
  have L3 := Lib.hid L3.out
  rw [← HPP.out] at L3 hcap ⊢
  clear hb3 K2 R2 S2
  go_wp2_with fail
  refine (sameparts_yes (some ⟨g, 0, none⟩) A3 P P c3 _ us ps _ (by omega) HPN.out (R3.out.lays HPP.out.symm) L3.out).mono ?_
  rintro e W4 ⟨rfl, hb4⟩
  have S4 := Lib.hid (below_chain S3.out hb4.out)
  have R4 := Lib.hid (R3.out.since hb4.out)
  clear hb4 R3 S3 L3
  go_wp2_with fail
  refine (num_nil _).mono ?_
  rintro e w' ⟨rfl, rfl⟩
  go_wp2_with fail
  refine (C1.out _ (HA1.out.since S4.out)).mono ?_
  rintro e W5 ⟨rfl, hb5⟩
  have S5 := Lib.hid (below_chain S4.out hb5.out)
  have R5 := Lib.hid (R4.out.since hb5.out)
  clear hb5 S4 R4
  go_wp2_with fail
  refine (C2.out _ (HA1.out.since S5.out)).mono ?_
  rintro e W6 ⟨rfl, hb6⟩
  have S6 := Lib.hid (below_chain S5.out hb6.out)
  have R6 := Lib.hid (R5.out.since hb6.out)
  clear hb6 S5 R5
  have bb : (b == b) = true := by simp
  have bq : (q == q) = true := by simp
  have bp : (p == p) = true := by simp
  go_wp2_with fail
  refine (C3.out _).mono ?_
  rintro e w' ⟨rfl, rfl⟩
  go_wp2_with fail
  refine (C4.out _).mono ?_
  rintro e w' ⟨rfl, rfl⟩
  go_wp2_with fail
  refine (C5.out _).mono ?_
  rintro e w' ⟨rfl, rfl⟩
  go_wp2_with fail
  refine (C6.out _).mono ?_
  rintro e w' ⟨rfl, rfl⟩
  go_wp2_with fail
  have F6 := Lib.hid R6.out.from_
  have hg6 : W1.heap.size ≤ g := R6.out.base_le
  go_loopw [15] (fun t15 wr => ∃ j : Nat, t15 = .int .i64 j ∧ j ≤ P ∧ Hid (RowsFrom wr W1.heap.size g P j s ps B C) ∧ Hid (Below W1.heap.size W1 wr)) (fun t15 _ => P - (intOf t15).toNat)
  case atStart => exact ⟨0, rfl, Nat.zero_le _, F6, S6⟩
  case round =>
    obtain ⟨j, rfl, hj, HR, HB⟩ := hrel
    by_cases hlt : j < P
    · have hcell := HR.out.cell hlt
      have i0 : (0 : Int) ≤ (j : Int) := by omega
      have i1 : (j : Int) < (P : Int) := by omega
      have HO := Lib.hid (over_any (some ⟨B j, 0, none⟩) s (C j) W1.heap.size _ wr hs900 HB.out.size (HR.out.own j (Nat.le_refl _) hlt))
      have HOW := Lib.hid (HR.out.own j (Nat.le_refl _) hlt)
      go_wp2_with fail
      refine HO.out.mono ?_
      rintro e W7 ⟨rfl, hg7⟩
      have R7 := Lib.hid (HR.out.over hlt hg7)
      have S7 : Hid (Below W1.heap.size W1 W7) := HB.out.grown hg7 HB.out.size (fun b hb => (HOW.out.row.lt b hb).1)
      clear hg7 hcell
      go_wp2_with fail
      go_roundw
      case rel => exact ⟨j + 1, by go_num, by omega, R7, S7⟩
      case measure => simp [intOf]; omega
    · go_wp2_with fail
      refine (sameentries_since A A9 n c c9 _ _ (by omega) (HA1.out.since HB.out) (HW1.out.since HB.out)).mono ?_
      rintro e W8 ⟨rfl, hb8⟩
      have S8 := Lib.hid (below_chain (below_chain S1.out HB.out) hb8.out)
      clear hb8
      go_wp2_with fail
      refine (awake_any _).mono ?_
      rintro e W9 ⟨rfl, hb9⟩
      have S9 := Lib.hid (below_chain S8.out hb9.out)
      go_wp2_with fail
      go_ret
      exact ⟨rfl, S9⟩
set_option maxHeartbeats 4000000 in
set_option maxRecDepth 20000 in
theorem cuts_law (x y : Int) (st : ByteArray) (A : Option Addr) (n c : Nat) (es : List E) (w : World) (hst : st.size ≤ 9223372036854775807) (hn : n ≤ 9223372036854775807) (hc : n ≤ c) (hy : y ≤ 9223372036854775807) (hA : entK.Lie w w.heap.size A n es) :
    Calls Try.prog 3 #[.int .i64 x, .string st, .slice A n c, .int .i64 y] w (SaysB w true) := by
  by_cases hgt : 300 < n ∨ 100 < st.size
  · clear hA
    by_cases h1 : 300 < n
    · go_enter Try.func3, Try.ntmps3
      go_wp2_with fail
      refine (awake_any _).mono ?_
      rintro e W1 ⟨rfl, hb⟩
      go_wp2_with fail
      go_ret
      exact ⟨rfl, hb⟩
    · have h2 : 100 < st.size := by omega
      go_enter Try.func3, Try.ntmps3
      go_wp2_with fail
      refine (awake_any _).mono ?_
      rintro e W1 ⟨rfl, hb⟩
      go_wp2_with fail
      go_ret
      exact ⟨rfl, hb⟩
  · have hn300 : n ≤ 300 := by omega
    have hst100 : st.size ≤ 100 := by omega
    by_cases h : (128 ≤ x ∧ x ≤ 256) ∧ mayL st.data.toList = true ∧ mayE es = true
    · obtain ⟨⟨h0, h1⟩, h2, h3⟩ := h
      obtain ⟨s, rfl⟩ := Int.eq_ofNat_of_zero_le (show 0 ≤ x by omega)
      obtain ⟨e1, e2⟩ := mayE_ok h3 hA.all
      have hN : OkN (natsOf st) := ⟨natsOf_lt st, by rw [← strOf_data, strOf_nats]; exact h2⟩
      have := cuts_good s (natsOf st) (es.map toE) y A n c w hn300 hc hy ⟨by omega, by omega⟩ hN e2 (by rw [strOf_size]; exact hN.len) (by rw [← e1]; exact hA)
      rwa [strOf_nats] at this
    · exact cuts_bad x st es y A n c w hst100 hn300 hc hy h hA
end Go.Proofs.Ytopfdeihjjikiaa
