/- LabelClips, walked: whatever the text and the width, it answers true. Condition: what the listed variables hold. -/
import Derived.Test.YtbeliifgflgboaaDoorLawJoins
import Derived.Test.YtbeliifgflgboaaDoorConv
import Derived.Test.YtbeliifgflgboaaDoorLow
import Derived.BigGuard
set_option linter.unusedVariables false
set_option linter.unusedSimpArgs false
namespace Go.Proofs.YtbeliifgflgboaaDoor
open Go.RowKit

set_option maxHeartbeats 1000000 in
set_option maxRecDepth 100000 in
theorem clips_long (s : ByteArray) (c : Int) (hs : 100 < s.size) (hs' : s.size ≤ 9223372036854775807) (w : World) (hL : Laid w) :
    Calls Tryd.prog 5 #[.string s, .int .i64 c] w fun e w' => e = .returned (.bool true) ∧ Below w.heap.size w w' := by
  have HL := Lib.hid hL
  clear hL
  go_enter Tryd.func5, Tryd.ntmps5
  go_wp2_with fail
  refine (awake_any _ HL.out).mono ?_
  rintro e W1 ⟨rfl, hb1⟩
  go_wp2_with fail
  go_ret
  exact ⟨rfl, hb1⟩
set_option maxHeartbeats 1000000 in
set_option maxRecDepth 100000 in
theorem clips_no (s : ByteArray) (c : Int) (hs : s.size ≤ 100)
    (m1 : ∀ w, Calls Tryd.prog 11 #[.string s] w fun e w' => e = .returned (.bool false) ∧ Below w.heap.size w w')
    (c1 : ∀ w, Calls Tryd.prog 13 #[.string s] w fun e w' => e = .returned (.int .i64 0) ∧ Below w.heap.size w w')
    (cl : ∀ w, Calls Tryd.prog 15 #[.string s, .int .i64 c] w fun e w' => e = .returned (.string ⟨#[]⟩) ∧ Below w.heap.size w w')
    (f1 : ∀ w, Calls Tryd.prog 17 #[.string s] w fun e w' => e = .returned (.string ⟨#[]⟩) ∧ Below w.heap.size w w')
    (sm : ∀ w, Calls Tryd.prog 19 #[.string s, .string s] w fun e w' => e = .returned (.bool false) ∧ Below w.heap.size w w')
    (w : World) (hL : Laid w) :
    Calls Tryd.prog 5 #[.string s, .int .i64 c] w fun e w' => e = .returned (.bool true) ∧ Below w.heap.size w w' := by
  have HL := Lib.hid hL
  clear hL
  go_enter Tryd.func5, Tryd.ntmps5
  go_wp2_with fail
  refine (m1 _).mono ?_
  rintro e W1 ⟨rfl, B⟩
  go_wp2_with fail
  refine (c1 _).mono ?_
  rintro e W2 ⟨rfl, k⟩
  replace B := below_chain B k
  clear k
  go_wp2_with fail
  refine (cl _).mono ?_
  rintro e W3 ⟨rfl, k⟩
  replace B := below_chain B k
  clear k
  go_wp2_with fail
  refine (f1 _).mono ?_
  rintro e W4 ⟨rfl, k⟩
  replace B := below_chain B k
  clear k
  go_wp2_with fail
  refine (sm _).mono ?_
  rintro e W5 ⟨rfl, k⟩
  replace B := below_chain B k
  clear k
  go_wp2_with fail
  refine (awake_any _ (HL.out.below B)).mono ?_
  rintro e W6 ⟨rfl, k⟩
  replace B := below_chain B k
  clear k
  go_wp2_with fail
  go_ret
  exact ⟨rfl, B⟩

/- a rune between two letters -/
theorem aXa_may (r : Int) (h : goodB r = true) : mayL (97 :: (enc [r] ++ [97])) = true ∧ columnsL (97 :: (enc [r] ++ [97])) = colsI r + 2 := by
  have e : 97 :: (enc [r] ++ [97]) = enc [97, r, 97] := by
    have ea : enc [97] = [97] := by decide +kernel
    have : enc [97, r, 97] = enc [97] ++ (enc [r] ++ enc [97]) := by rw [← enc_append, ← enc_append]; rfl
    rw [this, ea]
    rfl
  have hg : Good [97, r, 97] := by
    unfold Good
    simp only [List.all_cons, List.all_nil, h, Bool.and_true]
    decide
  have hm : mayL (enc [97, r, 97]) = true := by
    rw [mayL_enc _ hg]
    unfold mayR
    unfold Good at hg
    rw [hg]
    rfl
  rw [e]
  refine ⟨hm, ?_⟩
  rw [columnsL_may hm, runes_enc _ hg.low, colsR_cons, colsR_cons, colsR_cons, colsR_nil, show colsI 97 = 1 by decide]
  omega
def letterA : ByteArray := ⟨#[97]⟩
theorem aXa_size (S : ByteArray) (r : Int) (hS : S = runesBytes [r]) : S.size ≤ 4 := by
  have := runesBytes_size_le [r]
  rw [hS]
  simpa using this
theorem aXa (r : Int) (h : goodB r = true) (S : ByteArray) (hS : S = runesBytes [r]) (w : World) :
    Calls Tryd.prog 13 #[.string ((⟨#[97]⟩ : ByteArray) ++ S ++ ⟨#[97]⟩)] w fun e w' => e = .returned (.int .i64 (colsI r + 2)) ∧ Below w.heap.size w w' := by
  have hlow := good_low h
  have hd : ((⟨#[97]⟩ : ByteArray) ++ S ++ ⟨#[97]⟩).data.toList = 97 :: (enc [r] ++ [97]) := by
    rw [ByteArray.data_append, Array.toList_append, ByteArray.data_append, Array.toList_append, hS, runesBytes_enc [r] (by intro x hx; simp at hx; unfold Scalar; omega)]
    rfl
  refine columns_at _ _ (by rw [hd]; exact (aXa_may r h).2) ?_ w
  have := aXa_size S r hS
  rw [ByteArray.size_append, ByteArray.size_append]
  have e1 : (⟨#[97]⟩ : ByteArray).size = 1 := rfl
  omega
theorem slice_one (W : World) (B n cap i : Nat) (h : i < n) (hc : n ≤ cap) : (Instr.slice 36 (.slice (some ⟨B, 0, none⟩) n cap) (some (.int .i64 (i : Int))) (some (.int .i64 ((i : Int) + 1))) none).run Tryd.prog W = .ok (.slice (some ⟨B, i, none⟩) 1 (cap - i)) W := by
  have he : Tryd.prog.elem 36 = 21 := by kernel_rfl
  rw [run_slice_lh W 36 (some ⟨B, 0, none⟩) n cap (by rw [he]; exact Tryd.underlying36) .i64 .i64 (i : Int) ((i : Int) + 1) (by omega) (by omega) (by omega), he, Tryd.sizeOf21 W]
  simp only [Result.andThen, sliced]
  rw [if_neg (by omega)]
  have e1 : ((i : Int) + 1).toNat = i + 1 := by omega
  rw [e1]
  by_cases h0 : i = 0
  · subst h0
    simp [Addr.add]
  · simp [Addr.add, h0]

theorem conv_single (W : World) (B off cap : Nat) (r : Int) (hc : W.cell? ⟨B, off, none⟩ = some (.int .i32 r)) (S : ByteArray) (hS : S = runesBytes [r]) :
    (convert 36 9 (.slice (some ⟨B, off, none⟩) 1 cap)).run Tryd.prog W = .ok (.string S) W :=
  conv_text W B off 1 cap [r] rfl (fun j hj => by
    obtain rfl : j = 0 := by omega
    exact hc) S hS
theorem cols_take (rs : List Int) (k : Nat) (h : k < rs.length) : colsR (rs.take (k + 1)) = colsR (rs.take k) + colsI (rs.getD k 0) := by
  rw [List.take_succ_eq_append_getElem h, colsR_append, colsR_cons, colsR_nil]
  simp [List.getD, List.getElem?_eq_getElem h]
theorem cols_take_le (rs : List Int) (k : Nat) : 0 ≤ colsR (rs.take k) ∧ colsR (rs.take k) ≤ colsR rs := by
  have h : colsR (rs.take k) + colsR (rs.drop k) = colsR rs := by rw [← colsR_append, List.take_append_drop]
  have h1 := colsR_bd (rs.take k)
  have h2 := colsR_bd (rs.drop k)
  omega
theorem good_get {rs : List Int} (h : Good rs) (k : Nat) (hk : k < rs.length) : goodB (rs.getD k 0) = true := by
  have : rs.getD k 0 = rs[k] := by simp [List.getD, List.getElem?_eq_getElem hk]
  rw [this]
  exact List.all_eq_true.1 h _ (List.getElem_mem hk)
/- the rune behind a beginning is too wide -/
theorem clipR_next : ∀ (rs : List Int) (p : Int), 0 ≤ p → (clipR rs p).length < rs.length → p < colsR (clipR rs p) + colsI (rs.getD (clipR rs p).length 0)
  | [], p, _, h => by simp [clipR] at h
  | r :: rs, p, hp, h => by
    by_cases c : colsI r ≤ p
    · have e : clipR (r :: rs) p = r :: clipR rs (p - colsI r) := by rw [clipR, if_pos c]
      rw [e] at h ⊢
      have := clipR_next rs (p - colsI r) (by omega) (by simpa using h)
      rw [colsR_cons]
      simp only [List.length_cons, List.getD_cons_succ]
      omega
    · have e : clipR (r :: rs) p = [] := by rw [clipR, if_neg c]
      rw [e, colsR_nil]
      simp only [List.length_nil, List.getD_cons_zero]
      omega

set_option maxHeartbeats 8000000 in
set_option maxRecDepth 100000 in
theorem clips_yes (s C F : ByteArray) (c p A : Int) (rs crs : List Int) (hs : s.size ≤ 100) (hp0 : 0 ≤ p) (hp1 : p < 30)
    (hrs : runes s.data.toList = rs) (hcrs : runes C.data.toList = crs) (hgr : Good rs) (hgc : Good crs)
    (hCs : C.size ≤ s.size) (hpre2 : (C.toList == (s.extract 0 C.size).toList) = true)
    (hA : colsR crs ≤ p) (hle : crs.length ≤ rs.length) (h12 : rs.length ≤ 12) (hnext : crs.length < rs.length → p < colsR crs + colsI (rs.getD crs.length 0))
    (l1 : ∀ w, Calls Tryd.prog 27 #[.int .i64 c, .int .i64 30] w fun e w' => e = .returned (.int .i64 p) ∧ w = w')
    (m1 : ∀ w, Calls Tryd.prog 11 #[.string s] w fun e w' => e = .returned (.bool true) ∧ Below w.heap.size w w')
    (cl : ∀ w, Calls Tryd.prog 15 #[.string s, .int .i64 p] w fun e w' => e = .returned (.string C) ∧ Below w.heap.size w w')
    (f1 : ∀ w, Calls Tryd.prog 17 #[.string s] w fun e w' => e = .returned (.string F) ∧ Below w.heap.size w w')
    (f2 : ∀ w, Calls Tryd.prog 17 #[.string F] w fun e w' => e = .returned (.string F) ∧ Below w.heap.size w w')
    (c1 : ∀ w, Calls Tryd.prog 13 #[.string F] w fun e w' => e = .returned (.int .i64 A) ∧ Below w.heap.size w w')
    (c2 : ∀ w, Calls Tryd.prog 13 #[.string s] w fun e w' => e = .returned (.int .i64 A) ∧ Below w.heap.size w w')
    (s1 : ∀ w, Calls Tryd.prog 19 #[.string s, .string F] w fun e w' => e = .returned (.bool true) ∧ Below w.heap.size w w')
    (s2 : ∀ w, Calls Tryd.prog 19 #[.string F, .string s] w fun e w' => e = .returned (.bool true) ∧ Below w.heap.size w w')
    (w : World) (hL : Laid w) :
    Calls Tryd.prog 5 #[.string s, .int .i64 c] w fun e w' => e = .returned (.bool true) ∧ Below w.heap.size w w' := by
  have HL := Lib.hid hL
  have HRS := Lib.hid hrs
  have HCRS := Lib.hid hcrs
  have HGR := Lib.hid hgr
  have HGC := Lib.hid hgc
  have HA := Lib.hid hA
  have HX := Lib.hid hnext
  clear hL hrs hcrs hgr hgc hA hnext
  obtain ⟨n1, hn1⟩ : ∃ n, n = rs.length := ⟨_, rfl⟩
  obtain ⟨n2, hn2⟩ : ∃ n, n = crs.length := ⟨_, rfl⟩
  rw [← hn1, ← hn2] at hle
  rw [← hn1] at h12
  have HN1 := Lib.hid hn1
  have HN2 := Lib.hid hn2
  have hdd : decide (s.size < C.size) = false := by simpa using hCs
  clear hn1 hn2
  go_enter Tryd.func5, Tryd.ntmps5
  go_wp2_with fail
  refine (m1 _).mono ?_
  rintro e W1 ⟨rfl, B⟩
  go_wp2_with fail
  refine (l1 _).mono ?_
  rintro e W2 ⟨rfl, rfl⟩
  go_wp2_with fail
  refine (cl _).mono ?_
  rintro e W2 ⟨rfl, k⟩
  replace B := below_chain B k
  clear k
  obtain ⟨cap1, W3, hcv1, hcap1, hb3, hz3, hcell3, _, _⟩ := conv_runes s (by omega) W2
  obtain ⟨cap2, W4, hcv2, hcap2, hb4, hz4, hcell4, _, _⟩ := conv_runes C (by omega) W3
  rw [HRS.out, ← HN1.out] at hcv1 hcap1 hcell3
  rw [HCRS.out, ← HN2.out] at hcv2 hcap2 hcell4
  rw [hz3] at hcv2 hcell4
  have hz : W4.heap.size = W2.heap.size + 2 := by omega
  have hB4 : Below w.heap.size w W4 := (below_chain B hb3).trans (hb4.mono (by have := hb3.size; have := B.size; omega))
  have hcell3' : ∀ j, j < n1 → W4.cell? ⟨W2.heap.size, j, none⟩ = some (.int .i32 (rs.getD j 0)) := fun j hj => (hb4.cell (p := ⟨W2.heap.size, j, none⟩) (by show W2.heap.size < W3.heap.size; omega)).trans (hcell3 j hj)
  have HC1 := Lib.hid hcell3'
  have HC2 := Lib.hid hcell4
  have HZ := Lib.hid hz
  have HB4 := Lib.hid hB4
  clear hcell3 hcell3' hcell4 hb3 hb4 hz hB4 hz4 B
  go_wp2_with fail
  clear hcv1 hcv2 hz3
  go_loopw [6, 10] (fun vn vi wr => ∃ (k : Nat) (x : Int), vn = .int .i64 x ∧ vi = .int .i64 k ∧ k ≤ n2 ∧ 0 ≤ x ∧ x ≤ 30 ∧ Below W4.heap.size W4 wr ∧ Hid (x = colsR (crs.take k))) (fun _ vi _ => n2 - (intOf vi).toNat)
  case atStart => exact ⟨0, 0, rfl, rfl, by omega, by omega, by omega, Below.refl _ _, Lib.hid (by simp [colsR_nil])⟩
  case round =>
    obtain ⟨k, x, rfl, rfl, hk, hx0, hx1, hbw, hx⟩ := hrel
    by_cases hkn : k < n2
    · have hkc : k < crs.length := by rw [← HN2.out]; exact hkn
      obtain ⟨r, hr⟩ : ∃ r, r = crs.getD k 0 := ⟨_, rfl⟩
      have hgood := good_get HGC.out k hkc
      rw [← hr] at hgood
      have hcell : wr.cell? ⟨W2.heap.size + 1, k, none⟩ = some (.int .i32 r) := by
        rw [hr, ← HC2.out k hkn]
        exact hbw.cell (p := ⟨W2.heap.size + 1, k, none⟩) (by show W2.heap.size + 1 < W4.heap.size; rw [HZ.out]; omega)
      obtain ⟨S, hS⟩ : ∃ S, S = runesBytes [r] := ⟨_, rfl⟩
      have hsl := fun W => slice_one W (W2.heap.size + 1) n2 cap2 k hkn hcap2
      have hcv := conv_single wr (W2.heap.size + 1) k (cap2 - k) r hcell S hS
      have hSz := aXa_size S r hS
      have hcol := aXa r hgood S hS wr
      have hci := colsI_bd r
      have hstep := cols_take crs k hkc
      rw [← hx.out, ← hr] at hstep
      have hbd := cols_take_le crs (k + 1)
      have HN : Hid (x + (colsI r + 2) - 2 = colsR (crs.take (k + 1)) ∧ 0 ≤ x + (colsI r + 2) - 2 ∧ x + (colsI r + 2) - 2 ≤ 30) := Lib.hid ⟨by omega, by omega, by have := HA.out; omega⟩
      obtain ⟨hci0, hci1⟩ := hci
      clear hstep hbd hS hgood hr hkc hcell
      go_wp2_with fail
      refine hcol.mono ?_
      rintro e W5 ⟨rfl, k5⟩
      clear hcol hcv
      have hbw5 : Below W4.heap.size W4 W5 := below_chain hbw k5
      clear k5 hbw
      go_wp2_with fail
      go_roundw
      case rel => exact ⟨k + 1, _, rfl, by go_num, by omega, HN.out.2.1, HN.out.2.2, hbw5, Lib.hid HN.out.1⟩
      case measure => simp [intOf]; omega
    · have hk2 : k = n2 := by omega
      subst hk2
      have hxe : x = colsR crs := by rw [hx.out, HN2.out, List.take_length]
      have hxp : x ≤ p := by rw [hxe]; exact HA.out
      have B : Below w.heap.size w wr := HB4.out.trans (hbw.mono (by have := HB4.out.size; omega))
      by_cases hlast : k < n1
      · obtain ⟨r, hr⟩ : ∃ r, r = rs.getD k 0 := ⟨_, rfl⟩
        have hkr : k < rs.length := by rw [← HN1.out]; exact hlast
        have hgood := good_get HGR.out k hkr
        rw [← hr] at hgood
        have hcell : wr.cell? ⟨W2.heap.size, k, none⟩ = some (.int .i32 r) := by
          rw [hr, ← HC1.out k hlast]
          exact hbw.cell (p := ⟨W2.heap.size, k, none⟩) (by show W2.heap.size < W4.heap.size; rw [HZ.out]; omega)
        obtain ⟨S, hS⟩ : ∃ S, S = runesBytes [r] := ⟨_, rfl⟩
        have hsl := fun W => slice_one W W2.heap.size n1 cap1 k hlast hcap1
        have hcv := conv_single wr W2.heap.size k (cap1 - k) r hcell S hS
        have hSz := aXa_size S r hS
        have hcol := aXa r hgood S hS wr
        have hci := colsI_bd r
        have hnx := HX.out (by rw [← HN2.out]; exact hkr)
        rw [← HN2.out, ← hr, ← hxe] at hnx
        obtain ⟨hci0, hci1⟩ := hci
        clear hS hgood hr hkr hcell hxe hbw hx
        go_wp2_with fail
        refine hcol.mono ?_
        rintro e W5 ⟨rfl, k5⟩
        clear hcol hcv
        replace B := below_chain B k5
        clear k5
        go_wp2_with fail
        refine (f1 _).mono ?_
        rintro e W10 ⟨rfl, k⟩
        replace B := below_chain B k
        clear k
        go_wp2_with fail
        refine (f2 _).mono ?_
        rintro e W11 ⟨rfl, k⟩
        replace B := below_chain B k
        clear k
        go_wp2_with fail
        refine (c1 _).mono ?_
        rintro e W12 ⟨rfl, k⟩
        replace B := below_chain B k
        clear k
        go_wp2_with fail
        refine (c2 _).mono ?_
        rintro e W13 ⟨rfl, k⟩
        replace B := below_chain B k
        clear k
        go_wp2_with fail
        refine (s1 _).mono ?_
        rintro e W14 ⟨rfl, k⟩
        replace B := below_chain B k
        clear k
        go_wp2_with fail
        refine (s2 _).mono ?_
        rintro e W15 ⟨rfl, k⟩
        replace B := below_chain B k
        clear k
        go_wp2_with fail
        refine (awake_any _ (HL.out.below B)).mono ?_
        rintro e W16 ⟨rfl, k⟩
        replace B := below_chain B k
        clear k
        go_wp2_with fail
        go_ret
        exact ⟨rfl, B⟩
      · have hge : n1 ≤ k := by omega
        clear hxe hbw hx
        go_wp2_with fail
        refine (f1 _).mono ?_
        rintro e W10 ⟨rfl, k⟩
        replace B := below_chain B k
        clear k
        go_wp2_with fail
        refine (f2 _).mono ?_
        rintro e W11 ⟨rfl, k⟩
        replace B := below_chain B k
        clear k
        go_wp2_with fail
        refine (c1 _).mono ?_
        rintro e W12 ⟨rfl, k⟩
        replace B := below_chain B k
        clear k
        go_wp2_with fail
        refine (c2 _).mono ?_
        rintro e W13 ⟨rfl, k⟩
        replace B := below_chain B k
        clear k
        go_wp2_with fail
        refine (s1 _).mono ?_
        rintro e W14 ⟨rfl, k⟩
        replace B := below_chain B k
        clear k
        go_wp2_with fail
        refine (s2 _).mono ?_
        rintro e W15 ⟨rfl, k⟩
        replace B := below_chain B k
        clear k
        go_wp2_with fail
        refine (awake_any _ (HL.out.below B)).mono ?_
        rintro e W16 ⟨rfl, k⟩
        replace B := below_chain B k
        clear k
        go_wp2_with fail
        go_ret
        exact ⟨rfl, B⟩

theorem labelClips_any (s : ByteArray) (c : Int) (hs : s.size ≤ 9223372036854775807) (hc : -9223372036854775808 ≤ c ∧ c ≤ 9223372036854775807) (w : World) (hL : Laid w) :
    Calls Tryd.prog 5 #[.string s, .int .i64 c] w fun e w' => e = .returned (.bool true) ∧ Below w.heap.size w w' := by
  by_cases h1 : 100 < s.size
  · exact clips_long s c h1 hs w hL
  have hz : s.size ≤ 281474976710656 := by omega
  cases hm : mayL s.data.toList with
  | false =>
    exact clips_no s c (by omega) (may_at s false hm hz) (columns_at s 0 (by unfold columnsL; rw [hm]; rfl) hz) (clip_at s c ⟨#[]⟩ (by unfold clipL; rw [hm]; rfl) hz hc.1 hc.2)
      (fold_at s ⟨#[]⟩ (by unfold foldL; rw [hm]; rfl) hz) (same_at s s false (by unfold sameL; rw [hm]; rfl) hz hz) w hL
  | true =>
    have hp := lowM_bd c 30 (by omega)
    obtain ⟨C, hC⟩ : ∃ C : ByteArray, C.data.toList = clipL s.data.toList (lowM c 30) := ⟨⟨(clipL s.data.toList (lowM c 30)).toArray⟩, rfl⟩
    obtain ⟨F, hF⟩ : ∃ F : ByteArray, F.data.toList = foldL s.data.toList := ⟨⟨(foldL s.data.toList).toArray⟩, rfl⟩
    have hgr := may_good hm
    obtain ⟨q, hq⟩ := clipR_is (runes s.data.toList) (lowM c 30)
    have hgc : Good (clipR (runes s.data.toList) (lowM c 30)) := by
      have := hgr
      unfold Good at this ⊢
      rw [hq, List.all_append, Bool.and_eq_true] at this
      exact this.1
    have hrc : runes C.data.toList = clipR (runes s.data.toList) (lowM c 30) := by rw [hC, clipL_may hm, runes_enc _ hgc.low]
    have he : s.data.toList = C.data.toList ++ enc q := by rw [hC, clipL_may hm, ← enc_append, ← hq, may_enc hm]
    have hCs : C.size ≤ s.size := by
      rw [Lib.size_eq, Lib.size_eq, he, List.length_append]
      omega
    have hpre : (C.toList == (s.extract 0 C.size).toList) = true := by
      rw [beq_iff_eq, Lib.extract_toList, Lib.toList_data, he, Lib.size_eq]
      simp
    have hlen := congrArg List.length hq
    rw [List.length_append] at hlen
    have hfz : F.size ≤ 281474976710656 := by
      rw [Lib.size_eq, hF]
      have := fold_len hm
      omega
    exact clips_yes s C F c _ (columnsL s.data.toList) _ _ (by omega) hp.1 hp.2 rfl hrc hgr hgc hCs hpre (clipR_fits _ _ hp.1) (by omega) (may_len hm).2 (clipR_next _ _ hp.1)
      (fun w => low_any c 30 (by omega) (by omega) w) (may_at s true hm hz) (clip_at s _ C hC.symm hz (by omega) (by omega)) (fold_at s F hF.symm hz) (fold_at F F (by rw [hF]; exact fold_fold hm) hfz)
      (columns_at F _ (by rw [hF]; exact cols_fold hm) hfz) (columns_at s _ rfl hz) (same_at s F true (by unfold sameL; rw [hF, hm, may_fold hm, fold_fold hm]; simp) hz hfz)
      (same_at F s true (by unfold sameL; rw [hF, hm, may_fold hm, fold_fold hm]; simp) hfz hz) w hL
end Go.Proofs.YtbeliifgflgboaaDoor
