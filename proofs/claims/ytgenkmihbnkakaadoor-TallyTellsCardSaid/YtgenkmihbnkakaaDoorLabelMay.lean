/- The contract of label.May: it tells whether the runes of a text are 1 to 12 good ones, the first and the last byte no hyphen. Condition: the text's length is one that a string may have. -/
import Derived.Test.YtgenkmihbnkakaaDoorLabelPlain
import Derived.Test.YtgenkmihbnkakaaDoorLabelA
import Derived.Lib.OthersKept
import Derived.Lib.Hide
import Derived.WalkKit
import Derived.BigCall
set_option linter.unusedVariables false
set_option linter.unusedSimpArgs false
set_option maxRecDepth 20000
namespace Go.Proofs.YtgenkmihbnkakaaDoor
open Go.RowKit Go.Lib

def mayL (l : List UInt8) : Bool :=
  decide (1 ≤ (runes l).length ∧ (runes l).length ≤ 12) && (runes l).all goodB && ((l.getD 0 0) != 45 && (l.getD (l.length - 1) 0) != 45)
def MayAt (l : List UInt8) (pos k : Nat) : Prop := ∃ done : List Int, done.length = k ∧ runes l = done ++ runes (l.drop pos) ∧ done.all goodB = true

theorem mayAt_start (l : List UInt8) : MayAt l 0 0 := ⟨[], rfl, by simp, rfl⟩
theorem drop_ne {l : List UInt8} {pos : Nat} (h : pos < l.length) : l.drop pos ≠ [] := by
  intro e
  have := congrArg List.length e
  simp at this
  omega
theorem mayAt_step {l : List UInt8} {pos k : Nat} (h : pos < l.length) (m : MayAt l pos k) (hg : goodB ((decodeL (l.drop pos)).1 : Int) = true) : MayAt l (pos + (decodeL (l.drop pos)).2) (k + 1) := by
  obtain ⟨done, h1, h2, h3⟩ := m
  refine ⟨done ++ [((decodeL (l.drop pos)).1 : Int)], by simp [h1], ?_, by simp [h3, hg]⟩
  rw [h2, runes_cons _ (drop_ne h), List.drop_drop]
  simp
theorem may_bad {l : List UInt8} {pos k : Nat} (h : pos < l.length) (m : MayAt l pos k) (hg : goodB ((decodeL (l.drop pos)).1 : Int) = false) : mayL l = false := by
  obtain ⟨done, h1, h2, h3⟩ := m
  unfold mayL
  rw [h2, runes_cons _ (drop_ne h)]
  simp [hg]
theorem may_long {l : List UInt8} {pos k : Nat} (h : pos < l.length) (m : MayAt l pos k) (hk : 12 ≤ k) : mayL l = false := by
  obtain ⟨done, h1, h2, h3⟩ := m
  unfold mayL
  have : ¬ (runes l).length ≤ 12 := by
    rw [h2, runes_cons _ (drop_ne h)]
    simp
    omega
  simp [this]
theorem may_end {l : List UInt8} {pos k : Nat} (h : ¬ pos < l.length) (m : MayAt l pos k) (hk : k ≤ 12) : mayL l = (decide (0 < k) && ((l.getD 0 0) != 45 && (l.getD (l.length - 1) 0) != 45)) ∧ (0 < k → 0 < l.length) := by
  obtain ⟨done, h1, h2, h3⟩ := m
  have e : l.drop pos = [] := List.drop_eq_nil_of_le (by omega)
  rw [e, runes_nil, List.append_nil] at h2
  constructor
  · unfold mayL
    rw [h2, h3, h1]
    have : (1 ≤ k) = (0 < k) := rfl
    simp [hk, this]
  · intro hp
    have := runes_length_le l.length l (Nat.le_refl _)
    rw [h2] at this
    omega

theorem ret_b {a b : Bool} (h : a = b) : Ending.returned (.bool a) = .returned (.bool b) := by rw [h]
theorem byte_ne (x : UInt8) : ((x.toNat : Int) != 45) = (x != 45) := by
  rw [Bool.eq_iff_iff]
  simp only [bne_iff_ne, ne_eq]
  constructor
  · intro h e
    subst e
    exact h rfl
  · intro h e
    apply h
    apply UInt8.toNat_inj.1
    simpa using (by omega : x.toNat = 45)
theorem getD_byte (s : ByteArray) (i : Nat) (h : i < s.size) : s.data.toList.getD i 0 = s[i]'h := by
  have : i < s.data.toList.length := by rw [← Lib.size_eq]; exact h
  simp only [List.getD, List.getElem?_eq_getElem this, Option.getD_some]
  rfl

set_option maxHeartbeats 4000000 in
set_option maxRecDepth 100000 in
theorem labelmay_any (s : ByteArray) (w : World) (hs : s.size ≤ 9223372036854775807) :
    Calls Tryd.prog 21 #[.string s] w fun e w' => e = .returned (.bool (mayL s.data.toList)) ∧ Below w.heap.size w w' := by
  have hlen : s.data.toList.length = s.size := (Lib.size_eq s).symm
  obtain ⟨l, hl⟩ : ∃ l, l = s.data.toList := ⟨_, rfl⟩
  have hdec : ∀ pos, decodeL (l.drop pos) = Utf8.decode s pos := fun pos => by rw [hl]; exact decodeL_drop s pos
  rw [← hl] at hlen ⊢
  have HL : Hid (l = s.data.toList) := Lib.hid hl
  have HD : Hid (∀ pos, decodeL (l.drop pos) = Utf8.decode s pos) := Lib.hid hdec
  have HN : Hid (l.length = s.size) := Lib.hid hlen
  clear hl hdec hlen
  go_enter Tryd.func21, Tryd.ntmps21
  go_wp2
  go_loopw [3] (fun vn wr => ∃ (pos k : Nat), vn = .int .i64 k ∧ k ≤ 12 ∧ wr.heap[w.heap.size]? = some (.stringIter s pos) ∧ Below w.heap.size w wr ∧ MayAt l pos k) (fun _ wr => s.size - wr.iterPos w.heap.size)
  case atStart =>
    refine ⟨0, 0, rfl, by omega, ?_, (Below.refl _ w).alloc (Nat.le_refl _) _, mayAt_start l⟩
    have := World.iter_heap w s 0
    simpa using this
  case round =>
    obtain ⟨pos, k, rfl, hk, hit, hbw, hm⟩ := hrel
    by_cases hp : pos < s.size
    · have hnx : ∀ ty, (Instr.next (.pointer (some ⟨w.heap.size, 0, none⟩)) true ty).run Tryd.prog wr = _ := fun ty => Lib.run_next_any_at wr w.heap.size s pos ty hit hp
      have hpl : pos < l.length := by rw [HN.out]; exact hp
      have hst := @mayAt_step l pos k hpl hm
      have hbad := @may_bad l pos k hpl hm
      rw [HD.out pos] at hst hbad
      have hlong := @may_long l pos k hpl hm
      have hit2 := Lib.iterAt_heap wr w.heap.size s pos (pos + (Utf8.decode s pos).2) hit
      have hbw2 := Lib.below_iterAt hbw (k := w.heap.size) (by omega) s (pos + (Utf8.decode s pos).2)
      have hwd : 1 ≤ (Utf8.decode s pos).2 := by rw [← HD.out pos]; exact decodeL_width _
      by_cases h12 : 12 ≤ k
      · have HF := Lib.hid (hlong h12)
        clear hst hbad hlong
        go_wp2_with (go_at_call 40; refine (good_any _ _).mono ?_; rintro e w' ⟨rfl, rfl⟩)
        go_ret
        exact ⟨by rw [HF.out]; rfl, hbw2⟩
      · cases hg : goodB ((Utf8.decode s pos).1 : Int) with
        | false =>
          have HF := Lib.hid (hbad hg)
          clear hst hbad hlong
          go_wp2_with (go_at_call 40; refine (good_any _ _).mono ?_; rintro e w' ⟨rfl, rfl⟩)
          go_ret
          exact ⟨by rw [HF.out]; rfl, hbw2⟩
        | true =>
          have hm2 := hst hg
          clear hst hbad hlong
          go_wp2_with (go_at_call 40; refine (good_any _ _).mono ?_; rintro e w' ⟨rfl, rfl⟩)
          go_roundw
          case rel =>
            exact ⟨pos + (Utf8.decode s pos).2, k + 1, by go_num, by omega, hit2, hbw2, hm2⟩
          case measure =>
            simp only [World.iterPos, hit2, hit]
            omega
    · have hnx : ∀ ty, (Instr.next (.pointer (some ⟨w.heap.size, 0, none⟩)) true ty).run Tryd.prog wr = _ := fun ty => Lib.run_next_end_at wr w.heap.size s pos ty hit hp
      obtain ⟨hE, h0⟩ := may_end (by rw [HN.out]; exact hp) hm hk
      have HE := Lib.hid hE
      clear hE
      by_cases hk0 : 0 < k
      · have hpos : 0 < s.size := by rw [← HN.out]; exact h0 hk0
        have HB : Hid (l.getD 0 0 = s[0]'hpos ∧ l.getD (l.length - 1) 0 = s[s.size - 1]'(by omega)) := by
          refine Lib.hid ?_
          rw [HN.out, HL.out]
          exact ⟨getD_byte s 0 hpos, getD_byte s (s.size - 1) (by omega)⟩
        go_wp2
        · go_ret
          have h1 : ((s[0]'hpos).toNat : Int) = 45 := by assumption
          refine ⟨ret_b ?_, hbw⟩
          rw [HE.out, HB.out.1, ← byte_ne, h1]
          simp
        · go_ret
          refine ⟨ret_b ?_, hbw⟩
          rw [HE.out, HB.out.1, HB.out.2, ← byte_ne, ← byte_ne]
          simp [hk0]
      · obtain rfl : k = 0 := by omega
        have HF : Hid (mayL l = false) := Lib.hid HE.out
        clear HE
        go_wp2
        go_ret
        exact ⟨by rw [HF.out]; rfl, hbw⟩
end Go.Proofs.YtgenkmihbnkakaaDoor
