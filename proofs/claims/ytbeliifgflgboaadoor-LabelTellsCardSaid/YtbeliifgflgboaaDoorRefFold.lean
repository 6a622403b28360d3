/- The contracts of the document's own Fold and Same (package sculleryref1): the same answers as label's. Condition: the texts at most a million bytes. -/
import Derived.Test.YtbeliifgflgboaaDoorRefCols
set_option linter.unusedVariables false
set_option linter.unusedSimpArgs false
namespace Go.Proofs.YtbeliifgflgboaaDoor
open Go.RowKit

def part (rs : List Int) (k j : Nat) : Int := if j < k then smallR (rs.getD j 0) else rs.getD j 0
structure FoldW (w wr : World) (B n : Nat) (rs : List Int) (k : Nat) : Prop where
  cells : ∀ j, j < n → wr.cell? ⟨B, j, none⟩ = some (.int .i32 (part rs k j))
  free : ∀ j, wr.frozen? ⟨B, j, none⟩ = false
  below : Below w.heap.size w wr
theorem FoldW.step {w wr : World} {B n : Nat} {rs : List Int} {k : Nat} (h : FoldW w wr B n rs k) (hk : k < n) (hB : w.heap.size ≤ B) : FoldW w (wr.setCell ⟨B, k, none⟩ (.int .i32 (smallR (rs.getD k 0)))) B n rs (k + 1) := by
  refine ⟨fun j hj => ?_, fun j => ?_, h.below.setCell (p := ⟨B, k, none⟩) hB _⟩
  · by_cases e : j = k
    · subst e
      have e1 : (wr.setCell ⟨B, j, none⟩ (.int .i32 (smallR (rs.getD j 0)))).cell? ⟨B, j, none⟩ = some (.int .i32 (smallR (rs.getD j 0))) := by
        apply World.cell?_setCell_same
        exact h.cells j hk
      rw [e1]
      unfold part
      rw [if_pos (by omega)]
    · have e1 : (wr.setCell ⟨B, k, none⟩ (.int .i32 (smallR (rs.getD k 0)))).cell? ⟨B, j, none⟩ = wr.cell? ⟨B, j, none⟩ := by
        apply World.cell?_setCell_other
        intro x
        injection x with _ x _
        exact e x.symm
      rw [e1, h.cells j hj]
      unfold part
      by_cases c : j < k
      · rw [if_pos c, if_pos (by omega)]
      · rw [if_neg c, if_neg (by omega)]
  · rw [World.frozen?_setCell]
    exact h.free j

set_option maxHeartbeats 4000000 in
set_option maxRecDepth 100000 in
theorem refFold_any (s : ByteArray) (hs : s.size ≤ 1000000) (w : World) :
    Calls Tryd.prog 18 #[.string s] w fun e w' => e = .returned (.string ⟨(foldL s.data.toList).toArray⟩) ∧ Below w.heap.size w w' := by
  cases hmay : mayL s.data.toList with
  | false =>
    have m1 := refMay_at s false hmay hs w
    have HF : Hid (foldL s.data.toList = []) := Lib.hid (by unfold foldL; rw [hmay]; rfl)
    clear hmay
    go_enter Tryd.func18, Tryd.ntmps18
    go_wp2_with fail
    refine m1.mono ?_
    rintro e W1 ⟨rfl, hb1⟩
    go_wp2_with fail
    go_ret
    exact ⟨ret_s HF.out.symm, hb1⟩
  | true =>
    have m1 := refMay_at s true hmay hs w
    have HV := Lib.hid (foldL_may hmay)
    have hl12 := may_len hmay
    have HG := Lib.hid (may_good hmay)
    clear hmay
    go_enter Tryd.func18, Tryd.ntmps18
    go_wp2_with fail
    refine m1.mono ?_
    rintro e W1 ⟨rfl, hb1⟩
    clear m1
    obtain ⟨cap, W, hcv, hcap, hb, hz, hcell, hfree, _⟩ := conv_runes s hs W1
    obtain ⟨rs, hrs⟩ : ∃ rs, rs = runes s.data.toList := ⟨_, rfl⟩
    rw [← hrs] at hcv hcap hcell HV hl12 HG
    obtain ⟨n, hn⟩ : ∃ n, n = rs.length := ⟨_, rfl⟩
    rw [← hn] at hcv hcap hcell hl12
    have HN := Lib.hid hn
    obtain ⟨B, hBq⟩ : ∃ B, B = W1.heap.size := ⟨_, rfl⟩
    rw [← hBq] at hcv hcell hfree
    have hBw : w.heap.size ≤ B := by rw [hBq]; exact hb1.size
    have HW : Hid (FoldW w W B n rs 0) := Lib.hid ⟨fun j hj => by rw [hcell j hj]; rfl, hfree, bch hb1 hb⟩
    have HE : Hid ((runesBytes (rs.map smallR)).data.toList = foldL s.data.toList) := by
      refine Lib.hid ?_
      have e : rs.map smallR = rs.map smallI := List.map_congr_left (fun r hr => smallR_good (List.all_eq_true.1 HG.out r hr))
      rw [HV.out, e]
      exact runesBytes_enc _ (fun r hr => by have := (mapS_good HG.out).low r hr; unfold Scalar; omega)
    obtain ⟨hl1, hl2⟩ := hl12
    clear hrs hn hb hb1 hcell hz hfree hBq
    go_wp2_with fail
    clear hcv
    go_loopw [4] (fun vi wr => ∃ k : Nat, vi = .int .i64 k ∧ k ≤ n ∧ Hid (FoldW w wr B n rs k)) (fun vi _ => n - (intOf vi).toNat)
    case atStart => exact ⟨0, rfl, by omega, HW⟩
    case round =>
      obtain ⟨k, rfl, hk, hw⟩ := hrel
      by_cases hkn : k < n
      · obtain ⟨r, hr⟩ : ∃ r, r = rs.getD k 0 := ⟨_, rfl⟩
        have hck : wr.cell? ⟨B, k, none⟩ = some (.int .i32 r) := by
          rw [hw.out.cells k hkn, hr]
          unfold part
          rw [if_neg (by omega)]
        have hfk := hw.out.free k
        have HS := Lib.hid (hw.out.step hkn hBw)
        rw [← hr] at HS
        clear hr hw
        go_wp2_with fail
        refine (refSmall_any r _).mono ?_
        rintro e W5 ⟨rfl, rfl⟩
        go_wp2_with fail
        go_roundw
        case rel => exact ⟨k + 1, by go_num, by omega, HS⟩
        case measure => simp [intOf]; omega
      · have hkk : k = n := by omega
        subst hkk
        have htx := conv_text wr B 0 k cap (rs.map smallR) (by rw [List.length_map]; exact HN.out.symm) (fun j hj => by
          rw [Nat.zero_add, hw.out.cells j hj]
          unfold part
          rw [if_pos hj]
          have hjl : j < rs.length := by rw [← HN.out]; exact hj
          simp [List.getD, List.getElem?_eq_getElem hjl]) (runesBytes (rs.map smallR)) rfl
        obtain ⟨T, hT⟩ : ∃ T, T = runesBytes (rs.map smallR) := ⟨_, rfl⟩
        rw [← hT] at htx HE
        have HBl := Lib.hid hw.out.below
        clear hT hw
        go_wp2_with fail
        go_ret
        exact ⟨ret_s HE.out, HBl.out⟩

theorem refFold_at (s r : ByteArray) (h : foldL s.data.toList = r.data.toList) (hs : s.size ≤ 1000000) (w : World) : Calls Tryd.prog 18 #[.string s] w fun e w' => e = .returned (.string r) ∧ Below w.heap.size w w' := by
  have := refFold_any s hs w
  have e : (⟨(foldL s.data.toList).toArray⟩ : ByteArray) = r := by
    apply ByteArray.ext
    rw [h]
  rw [e] at this
  exact this

set_option maxHeartbeats 4000000 in
set_option maxRecDepth 100000 in
theorem refSame_any (s t : ByteArray) (hs : s.size ≤ 1000000) (ht : t.size ≤ 1000000) (w : World) :
    Calls Tryd.prog 20 #[.string s, .string t] w fun e w' => e = .returned (.bool (sameL s.data.toList t.data.toList)) ∧ Below w.heap.size w w' := by
  cases h1 : mayL s.data.toList with
  | false =>
    have m1 := refMay_at s false h1 hs w
    have HF : Hid (sameL s.data.toList t.data.toList = false) := Lib.hid (by unfold sameL; rw [h1]; rfl)
    clear h1
    go_enter Tryd.func20, Tryd.ntmps20
    go_wp2_with fail
    refine m1.mono ?_
    rintro e W1 ⟨rfl, hb1⟩
    go_wp2_with fail
    go_ret
    exact ⟨ret_b HF.out.symm, hb1⟩
  | true =>
    cases h2 : mayL t.data.toList with
    | false =>
      have m1 := refMay_at s true h1 hs w
      have m2 := refMay_at t false h2 ht
      have HF : Hid (sameL s.data.toList t.data.toList = false) := Lib.hid (by unfold sameL; rw [h1, h2]; rfl)
      clear h1 h2
      go_enter Tryd.func20, Tryd.ntmps20
      go_wp2_with fail
      refine m1.mono ?_
      rintro e W1 ⟨rfl, hb1⟩
      go_wp2_with fail
      refine (m2 _).mono ?_
      rintro e W2 ⟨rfl, hb2⟩
      go_wp2_with fail
      go_ret
      exact ⟨ret_b HF.out.symm, bch hb1 hb2⟩
    | true =>
      have m1 := refMay_at s true h1 hs w
      have m2 := refMay_at t true h2 ht
      have HF : Hid (sameL s.data.toList t.data.toList = (foldL s.data.toList == foldL t.data.toList)) := Lib.hid (by unfold sameL; rw [h1, h2]; simp)
      clear h1 h2
      go_enter Tryd.func20, Tryd.ntmps20
      go_wp2_with fail
      refine m1.mono ?_
      rintro e W1 ⟨rfl, B⟩
      go_wp2_with fail
      refine (m2 _).mono ?_
      rintro e W2 ⟨rfl, k⟩
      replace B := bch B k
      clear k
      go_wp2_with fail
      refine (refFold_any s hs _).mono ?_
      rintro e W3 ⟨rfl, k⟩
      replace B := bch B k
      clear k
      go_wp2_with fail
      refine (refFold_any t ht _).mono ?_
      rintro e W4 ⟨rfl, k⟩
      replace B := bch B k
      clear k
      go_wp2_with fail
      go_ret
      refine ⟨ret_b ?_, B⟩
      rw [HF.out]
end Go.Proofs.YtbeliifgflgboaaDoor
