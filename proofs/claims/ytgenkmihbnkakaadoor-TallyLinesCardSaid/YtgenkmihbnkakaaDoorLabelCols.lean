/- The contracts of label.Columns, Clip, Fold and Same, in terms of the runes of the text. Conditions: the text's length is one that a string may have (Clip, Fold, Same: at most 2^47 bytes). -/
import Derived.Test.YtgenkmihbnkakaaDoorLabelRunes
import Derived.Test.YtgenkmihbnkakaaDoorShelf
set_option linter.unusedVariables false
set_option linter.unusedSimpArgs false
set_option maxRecDepth 20000
namespace Go.Proofs.YtgenkmihbnkakaaDoor
open Go.RowKit Go.Lib

def ColAt (l : List UInt8) (pos : Nat) (acc : Int) : Prop := ∃ done, At l pos done ∧ acc = colsR done
theorem ColAt.step {l : List UInt8} {pos : Nat} {acc : Int} (h : pos < l.length) (m : ColAt l pos acc) : ColAt l (pos + (decodeL (l.drop pos)).2) (acc + colsI ((decodeL (l.drop pos)).1 : Int)) := by
  obtain ⟨done, m, rfl⟩ := m
  exact ⟨_, at_step h m, by rw [colsR_append, colsR_cons, colsR_nil]; omega⟩
theorem ret_i {a b : Int} (h : a = b) : Ending.returned (.int .i64 a) = .returned (.int .i64 b) := by rw [h]

set_option maxHeartbeats 4000000 in
set_option maxRecDepth 100000 in
theorem columns_any (s : ByteArray) (w : World) (hs : s.size ≤ 9223372036854775807) :
    Calls Tryd.prog 46 #[.string s] w fun e w' => e = .returned (.int .i64 (columnsL s.data.toList)) ∧ Below w.heap.size w w' := by
  cases hmay : mayL s.data.toList with
  | false =>
    have HF : Hid (columnsL s.data.toList = 0) := Lib.hid (by unfold columnsL; rw [hmay]; rfl)
    go_enter Tryd.func46, Tryd.ntmps46
    go_wp2_with (go_at_call 21; refine (labelmay_any s _ hs).mono ?_; rintro e W1 ⟨rfl, hb1⟩)
    go_ret
    exact ⟨ret_i HF.out.symm, hb1⟩
  | true =>
    have HM : Hid (mayL s.data.toList = true) := Lib.hid hmay
    have HV : Hid (columnsL s.data.toList = colsR (runes s.data.toList)) := Lib.hid (by unfold columnsL; rw [hmay]; rfl)
    have HD : Hid (∀ pos, decodeL (s.data.toList.drop pos) = Utf8.decode s pos) := Lib.hid (fun pos => decodeL_drop s pos)
    have HN : Hid (s.data.toList.length = s.size) := Lib.hid (Lib.size_eq s).symm
    go_enter Tryd.func46, Tryd.ntmps46
    go_wp2_with (go_at_call 21; refine (labelmay_any s _ hs).mono ?_; rintro e W1 ⟨rfl, hb1⟩)
    clear hmay
    go_loopw [3] (fun vn wr => ∃ (pos : Nat) (acc : Int), vn = .int .i64 acc ∧ 0 ≤ acc ∧ acc ≤ 24 ∧ wr.heap[W1.heap.size]? = some (.stringIter s pos) ∧ Below W1.heap.size W1 wr ∧ ColAt s.data.toList pos acc) (fun _ wr => s.size - wr.iterPos W1.heap.size)
    case atStart =>
      refine ⟨0, 0, rfl, by omega, by omega, ?_, (Below.refl _ W1).alloc (Nat.le_refl _) _, [], at_start _, rfl⟩
      have := World.iter_heap W1 s 0
      simpa using this
    case round =>
      obtain ⟨pos, acc, rfl, ha0, ha1, hit, hbw, hm⟩ := hrel
      by_cases hp : pos < s.size
      · have hnx : ∀ ty, (Instr.next (.pointer (some ⟨W1.heap.size, 0, none⟩)) true ty).run Tryd.prog wr = _ := fun ty => Lib.run_next_any_at wr W1.heap.size s pos ty hit hp
        have hm2 := ColAt.step (by rw [HN.out]; exact hp) hm
        rw [HD.out pos] at hm2
        have hbd : 0 ≤ acc + colsI ((Utf8.decode s pos).1 : Int) ∧ acc + colsI ((Utf8.decode s pos).1 : Int) ≤ 24 := by
          obtain ⟨done, hd, he⟩ := hm2
          rw [he]
          exact at_sum HM.out hd
        have hit2 := Lib.iterAt_heap wr W1.heap.size s pos (pos + (Utf8.decode s pos).2) hit
        have hbw2 := Lib.below_iterAt hbw (k := W1.heap.size) (by omega) s (pos + (Utf8.decode s pos).2)
        have hwd : 1 ≤ (Utf8.decode s pos).2 := by rw [← HD.out pos]; exact decodeL_width _
        obtain ⟨hbd0, hbd1⟩ := hbd
        go_wp2_with (go_at_call 41; refine (cols_any _ _).mono ?_; rintro e w' ⟨rfl, rfl⟩)
        go_roundw
        case rel =>
          exact ⟨pos + (Utf8.decode s pos).2, _, rfl, hbd0, hbd1, hit2, hbw2, hm2⟩
        case measure =>
          simp only [World.iterPos, hit2, hit]
          omega
      · have hnx : ∀ ty, (Instr.next (.pointer (some ⟨W1.heap.size, 0, none⟩)) true ty).run Tryd.prog wr = _ := fun ty => Lib.run_next_end_at wr W1.heap.size s pos ty hit hp
        have HE : Hid (acc = colsR (runes s.data.toList)) := by
          obtain ⟨done, hd, he⟩ := hm
          exact Lib.hid (by rw [at_end (by rw [HN.out]; exact hp) hd]; exact he)
        go_wp2
        go_ret
        exact ⟨ret_i (by rw [HV.out, HE.out]), hb1.trans (hbw.mono (by have := hb1.size; omega))⟩

set_option maxRecDepth 100000 in
theorem clone_any (t : ByteArray) (w : World) (hs : t.size ≤ 281474976710656) :
    Calls Tryd.prog 42 #[.string t] w fun e w' => e = .returned (.string t) ∧ Below w.heap.size w w' := by
  go_enter Tryd.func42, Tryd.ntmps42
  go_wp2_with (go_at_call 53; refine (Tryd.stringslite_Clone t _ hs).mono ?_; rintro e W1 ⟨rfl, hb1⟩)
  go_ret
  exact ⟨rfl, hb1⟩

def ClipAt (l : List UInt8) (c : Int) (pos : Nat) (acc : Int) : Prop := ∃ done, At l pos done ∧ acc = colsR done ∧ (done = [] ∨ acc ≤ c)
theorem ClipAt.step {l : List UInt8} {c : Int} {pos : Nat} {acc : Int} (h : pos < l.length) (m : ClipAt l c pos acc) (hc : acc + colsI ((decodeL (l.drop pos)).1 : Int) ≤ c) : ClipAt l c (pos + (decodeL (l.drop pos)).2) (acc + colsI ((decodeL (l.drop pos)).1 : Int)) := by
  obtain ⟨done, m, rfl, _⟩ := m
  exact ⟨_, at_step h m, by rw [colsR_append, colsR_cons, colsR_nil]; omega, Or.inr hc⟩
theorem ClipAt.stop {l : List UInt8} {c : Int} {pos : Nat} {acc : Int} (hm : mayL l = true) (h : pos < l.length) (m : ClipAt l c pos acc) (hc : c < acc + colsI ((decodeL (l.drop pos)).1 : Int)) : l.take pos = clipL l c := by
  obtain ⟨done, m, rfl, hd⟩ := m
  unfold clipL
  rw [hm, if_pos rfl, at_rest h m, clipR_stop done _ _ c hd hc, at_take (may_good hm) m]
theorem ClipAt.all {l : List UInt8} {c : Int} {pos : Nat} {acc : Int} (hm : mayL l = true) (h : ¬ pos < l.length) (m : ClipAt l c pos acc) : l = clipL l c := by
  obtain ⟨done, m, rfl, hd⟩ := m
  have e := at_end h m
  have hl := (may_len hm).1
  unfold clipL
  rw [hm, if_pos rfl]
  rcases hd with rfl | hd
  · rw [e] at hl
    simp at hl
  · rw [e, clipR_all _ _ hd, ← e, may_enc hm]
theorem ret_s {a : ByteArray} {b : List UInt8} (h : a.data.toList = b) : Ending.returned (.string a) = .returned (.string ⟨b.toArray⟩) := by
  rw [← h]

set_option maxHeartbeats 4000000 in
set_option maxRecDepth 100000 in
theorem clip_any (s : ByteArray) (c : Int) (w : World) (hs : s.size ≤ 281474976710656) (hc : -9223372036854775808 ≤ c) (hc1 : c ≤ 9223372036854775807) :
    Calls Tryd.prog 23 #[.string s, .int .i64 c] w fun e w' => e = .returned (.string ⟨(clipL s.data.toList c).toArray⟩) ∧ Below w.heap.size w w' := by
  have hs' : s.size ≤ 9223372036854775807 := by omega
  cases hmay : mayL s.data.toList with
  | false =>
    have HF : Hid (clipL s.data.toList c = []) := Lib.hid (by unfold clipL; rw [hmay]; rfl)
    go_enter Tryd.func23, Tryd.ntmps23
    go_wp2_with (go_at_call 21; refine (labelmay_any s _ hs').mono ?_; rintro e W1 ⟨rfl, hb1⟩)
    go_ret
    exact ⟨ret_s HF.out.symm, hb1⟩
  | true =>
    have HM : Hid (mayL s.data.toList = true) := Lib.hid hmay
    have HD : Hid (∀ pos, decodeL (s.data.toList.drop pos) = Utf8.decode s pos) := Lib.hid (fun pos => decodeL_drop s pos)
    have HN : Hid (s.data.toList.length = s.size) := Lib.hid (Lib.size_eq s).symm
    go_enter Tryd.func23, Tryd.ntmps23
    go_wp2_with (go_at_call 21; refine (labelmay_any s _ hs').mono ?_; rintro e W1 ⟨rfl, hb1⟩)
    clear hmay
    go_loopw [5] (fun vn wr => ∃ (pos : Nat) (acc : Int), vn = .int .i64 acc ∧ 0 ≤ acc ∧ acc ≤ 24 ∧ pos ≤ s.size ∧ wr.heap[W1.heap.size]? = some (.stringIter s pos) ∧ Below W1.heap.size W1 wr ∧ ClipAt s.data.toList c pos acc) (fun _ wr => s.size - wr.iterPos W1.heap.size)
    case atStart =>
      refine ⟨0, 0, rfl, by omega, by omega, by omega, ?_, (Below.refl _ W1).alloc (Nat.le_refl _) _, [], at_start _, rfl, Or.inl rfl⟩
      have := World.iter_heap W1 s 0
      simpa using this
    case round =>
      obtain ⟨pos, acc, rfl, ha0, ha1, hps, hit, hbw, hm⟩ := hrel
      by_cases hp : pos < s.size
      · have hnx : ∀ ty, (Instr.next (.pointer (some ⟨W1.heap.size, 0, none⟩)) true ty).run Tryd.prog wr = _ := fun ty => Lib.run_next_any_at wr W1.heap.size s pos ty hit hp
        have hpl : pos < s.data.toList.length := by rw [HN.out]; exact hp
        have hst := ClipAt.step hpl hm
        have hsp := ClipAt.stop HM.out hpl hm
        rw [HD.out pos] at hst hsp
        have hci := colsI_bd ((Utf8.decode s pos).1 : Int)
        obtain ⟨hci0, hci1⟩ := hci
        have hbd : acc + colsI ((Utf8.decode s pos).1 : Int) ≤ 24 := by
          obtain ⟨done, hd, he, _⟩ := hm
          have := at_step hpl hd
          have h2 := (at_sum HM.out this).2
          rw [HD.out pos, colsR_append, colsR_cons, colsR_nil] at h2
          omega
        have hit2 := Lib.iterAt_heap wr W1.heap.size s pos (pos + (Utf8.decode s pos).2) hit
        have hbw2 := Lib.below_iterAt hbw (k := W1.heap.size) (by omega) s (pos + (Utf8.decode s pos).2)
        have hwd : 1 ≤ (Utf8.decode s pos).2 := by rw [← HD.out pos]; exact decodeL_width _
        have hle : pos + (Utf8.decode s pos).2 ≤ s.size := by
          have := decodeL_le (s.data.toList.drop pos) (drop_ne hpl)
          rw [HD.out pos, List.length_drop, HN.out] at this
          omega
        by_cases hcc : acc + colsI ((Utf8.decode s pos).1 : Int) ≤ c
        · have hm2 := hst hcc
          clear hst hsp
          go_wp2_with (go_at_call 41; refine (cols_any _ _).mono ?_; rintro e w' ⟨rfl, rfl⟩)
          go_roundw
          case rel =>
            exact ⟨pos + (Utf8.decode s pos).2, _, rfl, by omega, hbd, hle, hit2, hbw2, hm2⟩
          case measure =>
            simp only [World.iterPos, hit2, hit]
            omega
        · have HS := Lib.hid (hsp (by omega))
          have hcc' : c < acc + colsI ((Utf8.decode s pos).1 : Int) := by omega
          clear hst hsp hcc
          have hb2 : Below w.heap.size w (wr.iterAt W1.heap.size s (pos + (Utf8.decode s pos).2)) := hb1.trans (hbw2.mono (by have := hb1.size; omega))
          have hcl := clone_any (s.extract 0 pos) (wr.iterAt W1.heap.size s (pos + (Utf8.decode s pos).2)) (by rw [ByteArray.size_extract]; omega)
          go_wp2_with (first | (go_at_call 41; refine (cols_any _ _).mono ?_; rintro e w' ⟨rfl, rfl⟩) | (go_at_call 42; refine hcl.mono ?_; rintro e W2 ⟨rfl, hb3⟩))
          go_ret
          exact ⟨ret_s (by rw [extract_data]; simpa using HS.out), hb2.trans (hb3.mono (by have := hb2.size; omega))⟩
      · have hnx : ∀ ty, (Instr.next (.pointer (some ⟨W1.heap.size, 0, none⟩)) true ty).run Tryd.prog wr = _ := fun ty => Lib.run_next_end_at wr W1.heap.size s pos ty hit hp
        have HE := Lib.hid (ClipAt.all HM.out (by rw [HN.out]; exact hp) hm)
        have hb2 : Below w.heap.size w wr := hb1.trans (hbw.mono (by have := hb1.size; omega))
        go_wp2_with (go_at_call 42; refine (clone_any s _ hs).mono ?_; rintro e W2 ⟨rfl, hb3⟩)
        go_ret
        exact ⟨ret_s HE.out, hb2.trans (hb3.mono (by have := hb2.size; omega))⟩

def FoldAt (l : List UInt8) (pos : Nat) (acc : List UInt8) : Prop := ∃ done, At l pos done ∧ acc = enc (done.map smallI)
theorem FoldAt.step {l : List UInt8} {pos : Nat} {acc : List UInt8} (h : pos < l.length) (m : FoldAt l pos acc) : FoldAt l (pos + (decodeL (l.drop pos)).2) (acc ++ encodeRune (smallI ((decodeL (l.drop pos)).1 : Int))) := by
  obtain ⟨done, m, rfl⟩ := m
  exact ⟨_, at_step h m, by rw [List.map_append, enc_append]; simp [enc]⟩
theorem FoldAt.len {l : List UInt8} {pos : Nat} {acc : List UInt8} (hm : mayL l = true) (m : FoldAt l pos acc) : acc.length ≤ 48 := by
  obtain ⟨done, m, rfl⟩ := m
  have h1 := at_bd hm m
  have h2 : ∀ rs : List Int, (enc rs).length ≤ 4 * rs.length := by
    intro rs
    induction rs with
    | nil => simp [enc]
    | cons r rs ih =>
      have := runeCells_le r
      rw [runeCells_length] at this
      rw [enc_cons, List.length_append, List.length_cons]
      omega
  have := h2 (done.map smallI)
  rw [List.length_map] at this
  omega
theorem FoldAt.all {l : List UInt8} {pos : Nat} {acc : List UInt8} (hm : mayL l = true) (h : ¬ pos < l.length) (m : FoldAt l pos acc) : acc = foldL l := by
  obtain ⟨done, m, rfl⟩ := m
  unfold foldL
  rw [hm, if_pos rfl, at_end h m]

def sameL (a b : List UInt8) : Bool := mayL a && mayL b && foldL a == foldL b

end Go.Proofs.YtgenkmihbnkakaaDoor
