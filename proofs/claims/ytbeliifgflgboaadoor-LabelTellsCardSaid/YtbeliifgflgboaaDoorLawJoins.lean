/- LabelJoins, walked: whatever the two texts, it answers true. Condition: what the listed variables hold. -/
import Derived.Test.YtbeliifgflgboaaDoorAwake
import Derived.Test.YtbeliifgflgboaaDoorMath
set_option linter.unusedVariables false
set_option linter.unusedSimpArgs false
namespace Go.Proofs.YtbeliifgflgboaaDoor
open Go.RowKit

set_option maxHeartbeats 1000000 in
set_option maxRecDepth 100000 in
theorem joins_long1 (s t : ByteArray) (hs : 60 < s.size) (hs' : s.size ≤ 9223372036854775807) (w : World) (hL : Laid w) :
    Calls Tryd.prog 7 #[.string s, .string t] w fun e w' => e = .returned (.bool true) ∧ Below w.heap.size w w' := by
  have HL := Lib.hid hL
  clear hL
  go_enter Tryd.func7, Tryd.ntmps7
  go_wp2_with fail
  refine (awake_any _ HL.out).mono ?_
  rintro e W1 ⟨rfl, hb1⟩
  go_wp2_with fail
  go_ret
  exact ⟨rfl, hb1⟩
set_option maxHeartbeats 1000000 in
set_option maxRecDepth 100000 in
theorem joins_long2 (s t : ByteArray) (hs : s.size ≤ 60) (ht : 60 < t.size) (ht' : t.size ≤ 9223372036854775807) (w : World) (hL : Laid w) :
    Calls Tryd.prog 7 #[.string s, .string t] w fun e w' => e = .returned (.bool true) ∧ Below w.heap.size w w' := by
  have HL := Lib.hid hL
  clear hL
  go_enter Tryd.func7, Tryd.ntmps7
  go_wp2_with fail
  refine (awake_any _ HL.out).mono ?_
  rintro e W1 ⟨rfl, hb1⟩
  go_wp2_with fail
  go_ret
  exact ⟨rfl, hb1⟩

/- the contracts at one text, with what they answer under a name -/
theorem may_at (s : ByteArray) (b : Bool) (h : mayL s.data.toList = b) (hs : s.size ≤ 281474976710656) (w : World) : Calls Tryd.prog 11 #[.string s] w fun e w' => e = .returned (.bool b) ∧ Below w.heap.size w w' := by
  rw [← h]
  exact may_any s w (by omega)
theorem columns_at (s : ByteArray) (c : Int) (h : columnsL s.data.toList = c) (hs : s.size ≤ 281474976710656) (w : World) : Calls Tryd.prog 13 #[.string s] w fun e w' => e = .returned (.int .i64 c) ∧ Below w.heap.size w w' := by
  rw [← h]
  exact columns_any s w (by omega)
theorem mk_of {a : ByteArray} {l : List UInt8} (h : l = a.data.toList) : (⟨l.toArray⟩ : ByteArray) = a := by
  apply ByteArray.ext
  rw [h]
theorem clip_at (s : ByteArray) (c : Int) (r : ByteArray) (h : clipL s.data.toList c = r.data.toList) (hs : s.size ≤ 281474976710656) (hc : -9223372036854775808 ≤ c) (hc1 : c ≤ 9223372036854775807) (w : World) : Calls Tryd.prog 15 #[.string s, .int .i64 c] w fun e w' => e = .returned (.string r) ∧ Below w.heap.size w w' := by
  have := clip_any s c w hs hc hc1
  rw [mk_of h] at this
  exact this
theorem fold_at (s r : ByteArray) (h : foldL s.data.toList = r.data.toList) (hs : s.size ≤ 281474976710656) (w : World) : Calls Tryd.prog 17 #[.string s] w fun e w' => e = .returned (.string r) ∧ Below w.heap.size w w' := by
  have := fold_any s w hs
  rw [mk_of h] at this
  exact this
theorem same_at (s t : ByteArray) (b : Bool) (h : sameL s.data.toList t.data.toList = b) (hs : s.size ≤ 281474976710656) (ht : t.size ≤ 281474976710656) (w : World) : Calls Tryd.prog 19 #[.string s, .string t] w fun e w' => e = .returned (.bool b) ∧ Below w.heap.size w w' := by
  rw [← h]
  exact same_any s t w hs ht

set_option maxHeartbeats 1000000 in
set_option maxRecDepth 100000 in
theorem joins_no1 (s t : ByteArray) (hs : s.size ≤ 60) (ht : t.size ≤ 60) (h1 : mayL s.data.toList = false) (w : World) (hL : Laid w) :
    Calls Tryd.prog 7 #[.string s, .string t] w fun e w' => e = .returned (.bool true) ∧ Below w.heap.size w w' := by
  have m1 := may_at s false h1 (by omega)
  have HL := Lib.hid hL
  clear hL h1
  go_enter Tryd.func7, Tryd.ntmps7
  go_wp2_with fail
  refine (m1 _).mono ?_
  rintro e W1 ⟨rfl, hb1⟩
  go_wp2_with fail
  refine (awake_any _ (HL.out.below hb1)).mono ?_
  rintro e W2 ⟨rfl, hb2⟩
  go_wp2_with fail
  go_ret
  exact ⟨rfl, below_chain hb1 hb2⟩
set_option maxHeartbeats 1000000 in
set_option maxRecDepth 100000 in
theorem joins_no2 (s t : ByteArray) (hs : s.size ≤ 60) (ht : t.size ≤ 60) (h1 : mayL s.data.toList = true) (h2 : mayL t.data.toList = false) (w : World) (hL : Laid w) :
    Calls Tryd.prog 7 #[.string s, .string t] w fun e w' => e = .returned (.bool true) ∧ Below w.heap.size w w' := by
  have m1 := may_at s true h1 (by omega)
  have m2 := may_at t false h2 (by omega)
  have HL := Lib.hid hL
  clear hL h1 h2
  go_enter Tryd.func7, Tryd.ntmps7
  go_wp2_with fail
  refine (m1 _).mono ?_
  rintro e W1 ⟨rfl, hb1⟩
  go_wp2_with fail
  refine (m2 _).mono ?_
  rintro e W2 ⟨rfl, hb2⟩
  have hb12 := below_chain hb1 hb2
  clear hb1 hb2
  go_wp2_with fail
  refine (awake_any _ (HL.out.below hb12)).mono ?_
  rintro e W3 ⟨rfl, hb3⟩
  go_wp2_with fail
  go_ret
  exact ⟨rfl, below_chain hb12 hb3⟩
set_option maxHeartbeats 1000000 in
set_option maxRecDepth 100000 in
theorem joins_no3 (s t : ByteArray) (hs : s.size ≤ 60) (ht : t.size ≤ 60) (h1 : mayL s.data.toList = true) (h2 : mayL t.data.toList = true) (h3 : mayL (s ++ t).data.toList = false) (w : World) (hL : Laid w) :
    Calls Tryd.prog 7 #[.string s, .string t] w fun e w' => e = .returned (.bool true) ∧ Below w.heap.size w w' := by
  have m1 := may_at s true h1 (by omega)
  have m2 := may_at t true h2 (by omega)
  have m3 := may_at (s ++ t) false h3 (by rw [ByteArray.size_append]; omega)
  have HL := Lib.hid hL
  clear hL h1 h2 h3
  go_enter Tryd.func7, Tryd.ntmps7
  go_wp2_with fail
  refine (m1 _).mono ?_
  rintro e W1 ⟨rfl, hb1⟩
  go_wp2_with fail
  refine (m2 _).mono ?_
  rintro e W2 ⟨rfl, hb2⟩
  have hb12 := below_chain hb1 hb2
  clear hb1 hb2
  go_wp2_with fail
  refine (m3 _).mono ?_
  rintro e W3 ⟨rfl, hb3⟩
  have hb13 := below_chain hb12 hb3
  clear hb12 hb3
  go_wp2_with fail
  refine (awake_any _ (HL.out.below hb13)).mono ?_
  rintro e W4 ⟨rfl, hb4⟩
  go_wp2_with fail
  go_ret
  exact ⟨rfl, below_chain hb13 hb4⟩

set_option maxHeartbeats 4000000 in
set_option maxRecDepth 100000 in
theorem joins_yes (s t FS FT : ByteArray) (a b : Int) (hs : s.size ≤ 60) (ht : t.size ≤ 60) (hfs : FS.size ≤ 60) (hft : FT.size ≤ 60) (ha0 : 0 ≤ a) (ha1 : a ≤ 24) (hb0 : 0 ≤ b) (hb1 : b ≤ 24)
    (m1 : ∀ w, Calls Tryd.prog 11 #[.string s] w fun e w' => e = .returned (.bool true) ∧ Below w.heap.size w w')
    (m2 : ∀ w, Calls Tryd.prog 11 #[.string t] w fun e w' => e = .returned (.bool true) ∧ Below w.heap.size w w')
    (m3 : ∀ w, Calls Tryd.prog 11 #[.string (s ++ t)] w fun e w' => e = .returned (.bool true) ∧ Below w.heap.size w w')
    (c1 : ∀ w, Calls Tryd.prog 13 #[.string s] w fun e w' => e = .returned (.int .i64 a) ∧ Below w.heap.size w w')
    (c2 : ∀ w, Calls Tryd.prog 13 #[.string t] w fun e w' => e = .returned (.int .i64 b) ∧ Below w.heap.size w w')
    (c3 : ∀ w, Calls Tryd.prog 13 #[.string (s ++ t)] w fun e w' => e = .returned (.int .i64 (a + b)) ∧ Below w.heap.size w w')
    (f1 : ∀ w, Calls Tryd.prog 17 #[.string s] w fun e w' => e = .returned (.string FS) ∧ Below w.heap.size w w')
    (f2 : ∀ w, Calls Tryd.prog 17 #[.string t] w fun e w' => e = .returned (.string FT) ∧ Below w.heap.size w w')
    (f3 : ∀ w, Calls Tryd.prog 17 #[.string (s ++ t)] w fun e w' => e = .returned (.string (FS ++ FT)) ∧ Below w.heap.size w w')
    (cl : ∀ w, Calls Tryd.prog 15 #[.string (s ++ t), .int .i64 a] w fun e w' => e = .returned (.string s) ∧ Below w.heap.size w w')
    (sm : ∀ w, Calls Tryd.prog 19 #[.string (s ++ t), .string (FS ++ t)] w fun e w' => e = .returned (.bool true) ∧ Below w.heap.size w w')
    (w : World) (hL : Laid w) :
    Calls Tryd.prog 7 #[.string s, .string t] w fun e w' => e = .returned (.bool true) ∧ Below w.heap.size w w' := by
  have HL := Lib.hid hL
  clear hL
  go_enter Tryd.func7, Tryd.ntmps7
  go_wp2_with fail
  refine (m1 _).mono ?_
  rintro e W1 ⟨rfl, B⟩
  go_wp2_with fail
  refine (m2 _).mono ?_
  rintro e W2 ⟨rfl, k⟩
  replace B := below_chain B k
  clear k
  go_wp2_with fail
  refine (m3 _).mono ?_
  rintro e W3 ⟨rfl, k⟩
  replace B := below_chain B k
  clear k
  go_wp2_with fail
  refine (c3 _).mono ?_
  rintro e W4 ⟨rfl, k⟩
  replace B := below_chain B k
  clear k
  go_wp2_with fail
  refine (c1 _).mono ?_
  rintro e W5 ⟨rfl, k⟩
  replace B := below_chain B k
  clear k
  go_wp2_with fail
  refine (c2 _).mono ?_
  rintro e W6 ⟨rfl, k⟩
  replace B := below_chain B k
  clear k
  go_wp2_with fail
  refine (f3 _).mono ?_
  rintro e W7 ⟨rfl, k⟩
  replace B := below_chain B k
  clear k
  go_wp2_with fail
  refine (f1 _).mono ?_
  rintro e W8 ⟨rfl, k⟩
  replace B := below_chain B k
  clear k
  go_wp2_with fail
  refine (f2 _).mono ?_
  rintro e W9 ⟨rfl, k⟩
  replace B := below_chain B k
  clear k
  go_wp2_with fail
  refine (c1 _).mono ?_
  rintro e W10 ⟨rfl, k⟩
  replace B := below_chain B k
  clear k
  go_wp2_with fail
  refine (cl _).mono ?_
  rintro e W11 ⟨rfl, k⟩
  replace B := below_chain B k
  clear k
  go_wp2_with fail
  refine (f1 _).mono ?_
  rintro e W12 ⟨rfl, k⟩
  replace B := below_chain B k
  clear k
  go_wp2_with fail
  refine (sm _).mono ?_
  rintro e W13 ⟨rfl, k⟩
  replace B := below_chain B k
  clear k
  go_wp2_with fail
  refine (awake_any _ (HL.out.below B)).mono ?_
  rintro e W14 ⟨rfl, k⟩
  replace B := below_chain B k
  clear k
  go_wp2_with fail
  go_ret
  exact ⟨rfl, B⟩

theorem fold_len {l : List UInt8} (h : mayL l = true) : (foldL l).length ≤ 48 :=
  FoldAt.len (l := l) (pos := l.length) h ⟨runes l, ⟨by simp [runes_nil], Nat.le_refl _⟩, foldL_may h⟩

theorem labelJoins_any (s t : ByteArray) (hs : s.size ≤ 9223372036854775807) (ht : t.size ≤ 9223372036854775807) (w : World) (hL : Laid w) :
    Calls Tryd.prog 7 #[.string s, .string t] w fun e w' => e = .returned (.bool true) ∧ Below w.heap.size w w' := by
  by_cases l1 : 60 < s.size
  · exact joins_long1 s t l1 hs w hL
  by_cases l2 : 60 < t.size
  · exact joins_long2 s t (by omega) l2 ht w hL
  have l1' : s.size ≤ 60 := by omega
  have l2' : t.size ≤ 60 := by omega
  cases h1 : mayL s.data.toList with
  | false => exact joins_no1 s t l1' l2' h1 w hL
  | true =>
    cases h2 : mayL t.data.toList with
    | false => exact joins_no2 s t l1' l2' h1 h2 w hL
    | true =>
      cases h3 : mayL (s ++ t).data.toList with
      | false => exact joins_no3 s t l1' l2' h1 h2 h3 w hL
      | true =>
        have ha : (s ++ t).data.toList = s.data.toList ++ t.data.toList := by rw [ByteArray.data_append, Array.toList_append]
        have hsz : (s ++ t).size ≤ 281474976710656 := by rw [ByteArray.size_append]; omega
        have hst : mayL (s.data.toList ++ t.data.toList) = true := by rw [← ha]; exact h3
        obtain ⟨FS, hFS⟩ : ∃ F : ByteArray, F.data.toList = foldL s.data.toList := ⟨⟨(foldL s.data.toList).toArray⟩, rfl⟩
        obtain ⟨FT, hFT⟩ : ∃ F : ByteArray, F.data.toList = foldL t.data.toList := ⟨⟨(foldL t.data.toList).toArray⟩, rfl⟩
        have hfs : FS.size ≤ 60 := by
          rw [Lib.size_eq, hFS]
          have := fold_len h1
          omega
        have hft : FT.size ≤ 60 := by
          rw [Lib.size_eq, hFT]
          have := fold_len h2
          omega
        have b1 := columns_bd h1
        have b2 := columns_bd h2
        obtain ⟨hm, hf⟩ := may_two_fold h1 h2 hst
        have hFst : (FS ++ t).data.toList = foldL s.data.toList ++ t.data.toList := by rw [ByteArray.data_append, Array.toList_append, hFS]
        refine joins_yes s t FS FT (columnsL s.data.toList) (columnsL t.data.toList) l1' l2' hfs hft (by omega) (by omega) (by omega) (by omega)
          (may_at s true h1 (by omega)) (may_at t true h2 (by omega)) (may_at _ true h3 hsz) (columns_at s _ rfl (by omega)) (columns_at t _ rfl (by omega)) (columns_at _ _ ?_ hsz)
          (fold_at s FS hFS.symm (by omega)) (fold_at t FT hFT.symm (by omega)) (fold_at _ _ ?_ hsz) (clip_at _ _ s ?_ hsz (by omega) (by omega)) (same_at _ _ true ?_ hsz (by rw [ByteArray.size_append]; omega)) w hL
        · rw [ha]; exact columns_two h1 h2 hst
        · rw [ha, ByteArray.data_append, Array.toList_append, hFS, hFT]; exact fold_two h1 h2 hst
        · rw [ha]; exact clip_two h1 hst
        · unfold sameL
          rw [hFst, ha, hst, hm, hf, fold_two h1 h2 hst]
          simp
end Go.Proofs.YtbeliifgflgboaaDoor
