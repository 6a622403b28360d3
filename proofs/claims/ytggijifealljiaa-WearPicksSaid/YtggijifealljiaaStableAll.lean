/- slices.SortStableFunc of numbers: the row is put in order, each as it came among its equals. Conditions: the row's cells; at most 40 elements; the comparison's contract. -/
import Derived.Test.YtggijifealljiaaStableSym
import Derived.Test.YtggijifealljiaaStableIns
set_option linter.unusedVariables false
set_option linter.unusedSimpArgs false
namespace Go.Proofs.Ytggijifealljiaa
open Go.RowKit

/-- Two sorted blocks, and an empty third one. -/
structure Blocks2 (tg : Int → Int) (ll : Int → Int → Prop) (V M1 M2 : List Int) (k : Nat) : Prop where
  lv : V.length = k
  l1 : M1.length = 20
  p1 : M1.Perm (V.take 20)
  p2 : M2.Perm (V.drop 20)
  s1 : M1.Pairwise ll
  s2 : M2.Pairwise ll
  tag : V.Pairwise fun x y => tg x < tg y
section
variable {h : Nat} {p : Addr} {cf : Int → Int → Int} {tg : Int → Int} {ll : Int → Int → Prop} {ok : Int → Prop} {g n c : Nat} {W0 : World} {V M1 M2 : List Int}
theorem Blocks2.perm (B : Blocks2 tg ll V M1 M2 n) : (M1 ++ M2).Perm V := by
  have := B.p1.append B.p2
  rwa [List.take_append_drop] at this
theorem Blocks2.halves (B : Blocks2 tg ll V M1 M2 n) : Halves tg ll ([] ++ (M1 ++ (M2 ++ []))) [] M1 M2 [] 0 20 n := by
  have e := B.perm.length_eq
  rw [List.length_append, B.l1, B.lv] at e
  refine ⟨rfl, rfl, by rw [B.l1], by omega, B.s1, B.s2, fun x hx y hy => ?_⟩
  have t := B.tag
  rw [← List.take_append_drop 20 V] at t
  exact (List.pairwise_append.1 t).2.2 x (B.p1.mem_iff.1 hx) y (B.p2.mem_iff.1 hy)
/-- What the whole sort leaves. -/
def Stable3 (ll : Int → Int → Prop) (g n c : Nat) (W0 : World) (V : List Int) (e : Ending) (w' : World) : Prop :=
  e = .returned (.tuple #[]) ∧ Hid (∃ M : List Int, SRow g n c W0 M w' ∧ M.Perm V ∧ M.Pairwise ll)
theorem pw_take {α : Type} {R : α → α → Prop} {V : List α} (k : Nat) (h : V.Pairwise R) : (V.take k).Pairwise R ∧ (V.drop k).Pairwise R := by
  rw [← List.take_append_drop k V] at h
  exact ⟨(List.pairwise_append.1 h).1, (List.pairwise_append.1 h).2.1⟩
set_option maxRecDepth 100000 in
set_option maxHeartbeats 4000000 in
theorem stable_any (C : Cmp3 h p cf tg ll ok g W0) (w : World) (hn : n ≤ 40) (S0 : SRow g n c W0 V w) (hok : AllOk ok V) (ht : V.Pairwise fun x y => tg x < tg y) :
    Calls Try.prog 31 #[.slice (some ⟨g, 0, none⟩) n c, .int .i64 n, .func (.func h) #[] #[.pointer (some p)]] w (Stable3 ll g n c W0 V) := by
  have HC := Lib.hid C
  have HOK := Lib.hid hok
  have HT := Lib.hid ht
  have HS := Lib.hid S0
  have HL : Hid (V.length = n) := S0.len
  clear C hok ht S0
  by_cases h20 : n < 20
  · have C1 := Lib.hid (inssort_any (X := []) (L := V) (Y := []) (a := 0) (b := n) HC.out w (by omega) (HS.out.same (by simp)) (by simpa using HOK.out) rfl (by rw [HL.out]; omega) HT.out)
    have z1 : ¬ (20 : Int) ≤ (n : Int) := by omega
    have z2 : ¬ (20 : Int) < (n : Int) := by omega
    go_enter Try.func31, Try.ntmps31
    go_wp2_with fail
    refine wp_loop_rounds 1 ?_
    rw [rounds_succ]
    go_wp2_with fail
    refine C1.out.mono ?_
    rintro e w' ⟨rfl, HM⟩
    go_wp2_with fail
    refine wp_loop_rounds 1 ?_
    rw [rounds_succ]
    go_wp2_with fail
    go_end0
    obtain ⟨M, k1, k2, k3⟩ := HM.out
    exact ⟨rfl, M, k1.same (by simp), k2, k3⟩
  · have HB1 : Hid (AllOk ok ([] ++ (V.take 20 ++ V.drop 20))) := by
      rw [List.nil_append, List.take_append_drop]; exact HOK.out
    have C1 := Lib.hid (inssort_any (X := []) (L := V.take 20) (Y := V.drop 20) (a := 0) (b := 20) HC.out w (by omega) (HS.out.same (by simp)) HB1.out rfl (by rw [List.length_take, HL.out]; omega) (pw_take 20 HT.out).1)
    have HIN : Hid (∀ {M1 : List Int}, M1.Perm (V.take 20) → M1.length = 20) := fun {M1} h => by
      rw [h.length_eq, List.length_take, HL.out]; omega
    have HOK2 : Hid (∀ {M1 : List Int}, M1.Perm (V.take 20) → AllOk ok (M1 ++ (V.drop 20 ++ []))) := fun {M1} h x hx => HOK.out x (by
      rw [List.append_nil] at hx
      have := (h.append_right (V.drop 20)).mem_iff (a := x)
      rw [List.take_append_drop] at this
      exact this.1 hx)
    have HLD : Hid (20 + (V.drop 20).length = n) := by show _ = _; rw [List.length_drop, HL.out]; omega
    by_cases h2 : n = 20
    · subst h2
      go_enter Try.func31, Try.ntmps31
      go_wp2_with fail
      refine wp_loop_rounds 2 ?_
      rw [rounds_succ]
      go_wp2_with fail
      refine C1.out.mono ?_
      rintro e w1 ⟨rfl, HM⟩
      obtain ⟨M1, k1, k2, k3⟩ := HM.out
      have HD0 : Hid (V.drop 20 = []) := List.eq_nil_of_length_eq_zero (by have := HLD.out; omega)
      have K1 := Lib.hid k1
      have K2 := Lib.hid k2
      have K3 := Lib.hid k3
      have C2 := Lib.hid (inssort_any (X := M1) (L := []) (Y := []) (a := 20) (b := 20) HC.out w1 (by omega) (K1.out.same (by rw [HD0.out]; simp)) (by have := HOK2.out K2.out; rwa [HD0.out] at this) (HIN.out K2.out) rfl List.Pairwise.nil)
      clear HM k1 k2 k3
      go_wp2_with fail
      rw [rounds_succ]
      go_wp2_with fail
      refine C2.out.mono ?_
      rintro e w2 ⟨rfl, HM⟩
      go_wp2_with fail
      refine wp_loop_rounds 1 ?_
      rw [rounds_succ]
      go_wp2_with fail
      go_end0
      obtain ⟨M, k1, k2, k3⟩ := HM.out
      have e0 : M = [] := List.perm_nil.1 k2
      subst e0
      have ev : V.take 20 = V := List.take_of_length_le (by rw [HL.out]; omega)
      exact ⟨rfl, M1, k1.same (by simp), by have := K2.out; rwa [ev] at this, K3.out⟩
    · have HMG : Hid (∀ {M1 M2 : List Int} {w3 : World}, M1.Perm (V.take 20) → M1.Pairwise ll → M2.Perm (V.drop 20) → M2.Pairwise ll → SRow g n c W0 (M1 ++ (M2 ++ [])) w3 →
          Calls Try.prog 34 #[.slice (some ⟨g, 0, none⟩) n c, .int .i64 0, .int .i64 20, .int .i64 n, .func (.func h) #[] #[.pointer (some p)]] w3 (Stable3 ll g n c W0 V)) := fun {M1 M2 w3} k1 k2 k3 k4 k5 => by
        have B : Blocks2 tg ll V M1 M2 n := ⟨HL.out, HIN.out k1, k1, k3, k2, k4, HT.out⟩
        have c0 := sym_all HC.out (by omega) (n + 1) _ [] M1 M2 [] 0 20 n w3 (by omega) (k5.same (by simp)) B.halves (fun x hx => HOK.out x (B.perm.mem_iff.1 (by simpa using hx))) (by omega) (by omega)
        exact c0.mono fun e w' hw => ⟨hw.1, by
          obtain ⟨M, q1, q2, q3⟩ := hw.2.out
          exact ⟨M, q1.same (by simp), q2.trans B.perm, q3⟩⟩
      by_cases h3 : n < 40
      · have z1 : (20 : Int) ≤ (n : Int) := by omega
        have z2 : (20 : Int) < (n : Int) := by omega
        have z3 : ¬ (40 : Int) ≤ (n : Int) := by omega
        have z4 : ¬ (40 : Int) < (n : Int) := by omega
        go_enter Try.func31, Try.ntmps31
        go_wp2_with fail
        refine wp_loop_rounds 2 ?_
        rw [rounds_succ]
        go_wp2_with fail
        refine C1.out.mono ?_
        rintro e w1 ⟨rfl, HM⟩
        obtain ⟨M1, k1, k2, k3⟩ := HM.out
        have K1 := Lib.hid k1
        have K2 := Lib.hid k2
        have K3 := Lib.hid k3
        have C2 := Lib.hid (inssort_any (X := M1) (L := V.drop 20) (Y := []) (a := 20) (b := n) HC.out w1 (by omega) (K1.out.same (by simp)) (HOK2.out K2.out) (HIN.out K2.out) HLD.out (pw_take 20 HT.out).2)
        clear HM k1 k2 k3
        go_wp2_with fail
        rw [rounds_succ]
        go_wp2_with fail
        refine C2.out.mono ?_
        rintro e w2 ⟨rfl, HM⟩
        obtain ⟨M2, k1, k2, k3⟩ := HM.out
        have C3 := Lib.hid (HMG.out K2.out K3.out k2 k3 k1)
        clear HM k1 k2 k3
        go_wp2_with fail
        refine wp_loop_rounds 2 ?_
        rw [rounds_succ]
        go_wp2_with fail
        refine wp_loop_rounds 1 ?_
        rw [rounds_succ]
        go_wp2_with fail
        refine C3.out.mono ?_
        rintro e w3 ⟨rfl, HM⟩
        go_wp2_with fail
        rw [rounds_succ]
        go_wp2_with fail
        go_end0
        exact ⟨rfl, HM⟩
      · obtain rfl : n = 40 := by omega
        go_enter Try.func31, Try.ntmps31
        go_wp2_with fail
        refine wp_loop_rounds 3 ?_
        rw [rounds_succ]
        go_wp2_with fail
        refine C1.out.mono ?_
        rintro e w1 ⟨rfl, HM⟩
        obtain ⟨M1, k1, k2, k3⟩ := HM.out
        have K1 := Lib.hid k1
        have K2 := Lib.hid k2
        have K3 := Lib.hid k3
        have C2 := Lib.hid (inssort_any (X := M1) (L := V.drop 20) (Y := []) (a := 20) (b := 40) HC.out w1 (by omega) (K1.out.same (by simp)) (HOK2.out K2.out) (HIN.out K2.out) HLD.out (pw_take 20 HT.out).2)
        clear HM k1 k2 k3
        go_wp2_with fail
        rw [rounds_succ]
        go_wp2_with fail
        refine C2.out.mono ?_
        rintro e w2 ⟨rfl, HM⟩
        obtain ⟨M2, k1, k2, k3⟩ := HM.out
        have P1 := Lib.hid k1
        have P2 := Lib.hid k2
        have P3 := Lib.hid k3
        have C4 := Lib.hid (inssort_any (X := M1 ++ M2) (L := []) (Y := []) (a := 40) (b := 40) HC.out w2 (by omega) (P1.out.same (by simp)) (fun x hx => HOK2.out K2.out x (by
          simp only [List.append_nil, List.mem_append] at hx ⊢
          rcases hx with h | h
          · exact Or.inl h
          · exact Or.inr (P2.out.mem_iff.1 h))) (by rw [List.length_append, HIN.out K2.out, P2.out.length_eq]; have := HLD.out; omega) rfl List.Pairwise.nil)
        clear HM k1 k2 k3
        go_wp2_with fail
        rw [rounds_succ]
        go_wp2_with fail
        refine C4.out.mono ?_
        rintro e w3 ⟨rfl, HM⟩
        obtain ⟨M, k1, k2, k3⟩ := HM.out
        have e0 : M = [] := List.perm_nil.1 k2
        subst e0
        have C3 := Lib.hid (HMG.out K2.out K3.out P2.out P3.out (k1.same (by simp)))
        clear HM k1 k2 k3
        go_wp2_with fail
        refine wp_loop_rounds 2 ?_
        rw [rounds_succ]
        go_wp2_with fail
        refine wp_loop_rounds 2 ?_
        rw [rounds_succ]
        go_wp2_with fail
        refine C3.out.mono ?_
        rintro e w4 ⟨rfl, HM⟩
        go_wp2_with fail
        rw [rounds_succ]
        go_wp2_with fail
        rw [rounds_succ]
        go_wp2_with fail
        go_end0
        exact ⟨rfl, HM⟩
theorem sortstable_any (C : Cmp3 h p cf tg ll ok g W0) (w : World) (hn : n ≤ 40) (S0 : SRow g n c W0 V w) (hok : AllOk ok V) (ht : V.Pairwise fun x y => tg x < tg y) :
    Calls Try.prog 23 #[.slice (some ⟨g, 0, none⟩) n c, .func (.func h) #[] #[.pointer (some p)]] w (Stable3 ll g n c W0 V) := by
  have C1 := Lib.hid (stable_any C w hn S0 hok ht)
  clear C S0 hok ht
  go_enter Try.func23, Try.ntmps23
  go_wp2_with fail
  refine C1.out.mono ?_
  rintro e w' ⟨rfl, HM⟩
  go_wp2_with fail
  go_end0
  exact ⟨rfl, HM⟩
end
end Go.Proofs.Ytggijifealljiaa
