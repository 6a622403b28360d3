/- Two halves merged in their place, as mathematics: the search, the parts, what is left. No conditions. -/
import Derived.Test.YtggijifealljiaaStableOne
set_option linter.unusedVariables false
set_option linter.unusedSimpArgs false
namespace Go.Proofs.Ytggijifealljiaa
open Go.RowKit

/-- Between lo and hi the later one is not less. -/
def SymPre (cf : Int → Int → Int) (V : List Int) (pp lo hi : Nat) : Prop := ∀ c, lo ≤ c → c < hi → ¬ cf (V.getD (pp - c) 0) (V.getD c 0) < 0
def SymPost (cf : Int → Int → Int) (V : List Int) (pp lo hi : Nat) : Prop := ∀ c, lo ≤ c → c < hi → cf (V.getD (pp - c) 0) (V.getD c 0) < 0
/-- Where the search begins and ends. -/
structure Bis (a m b md s0 r0 pp : Nat) : Prop where
  am : a + 1 < m
  mb : m + 1 < b
  lo : 2 * md ≤ a + b
  hi : a + b ≤ 2 * md + 1
  pe : pp + 1 = md + m
  way : (md < m ∧ s0 + b = md + m ∧ r0 = md) ∨ (m ≤ md ∧ s0 = a ∧ r0 = m)
/-- The four parts. -/
structure Quar (tg : Int → Int) (ll : Int → Int → Prop) (X L1 L2 R1 R2 Y : List Int) (a s m en b md : Nat) : Prop where
  la : X.length = a
  l1 : a + L1.length = s
  l2 : s + L2.length = m
  l3 : m + R1.length = en
  l4 : en + R2.length = b
  lm : s + R1.length = md
  p1 : L1.Pairwise ll
  p2 : L2.Pairwise ll
  p3 : R1.Pairwise ll
  p4 : R2.Pairwise ll
  tag : ∀ x ∈ L1 ++ L2, ∀ y ∈ R1 ++ R2, tg x < tg y
  less : ∀ x ∈ L1 ++ R1, ∀ y ∈ L2 ++ R2, ll x y
section
variable {cf : Int → Int → Int} {tg : Int → Int} {ll : Int → Int → Prop} {V X L R Y L1 L2 R1 R2 M1 M2 : List Int} {a s m en b md s0 r0 pp : Nat}
theorem Bis.ends (B : Bis a m b md s0 r0 pp) : a ≤ s0 ∧ s0 ≤ r0 ∧ r0 ≤ m ∧ a < md ∧ md < b := by
  have := B.am; have := B.mb; have := B.lo; have := B.hi; have := B.way
  omega
theorem Bis.in_ (B : Bis a m b md s0 r0 pp) {c : Nat} (h0 : s0 ≤ c) (h1 : c < r0) : a ≤ c ∧ c < m ∧ m ≤ pp - c ∧ pp - c < b ∧ c ≤ pp := by
  have := B.am; have := B.mb; have := B.lo; have := B.hi; have := B.way; have := B.pe
  omega
theorem Bis.less (B : Bis a m b md s0 r0 pp) (H : Halves tg ll V X L R Y a m b) (O : Ord3 cf tg ll) {q : Nat} (h0 : s0 ≤ q) (h1 : q < r0) (h : cf (V.getD (pp - q) 0) (V.getD q 0) < 0) : SymPost cf V pp q r0 := fun c k1 k2 => by
  have b1 := B.in_ h0 h1
  have b2 := B.in_ (show s0 ≤ c by omega) k2
  exact H.mono O b1.1 k1 b2.2.1 b2.2.2.1 (by omega) b1.2.2.2.1 h
theorem Bis.not_less (B : Bis a m b md s0 r0 pp) (H : Halves tg ll V X L R Y a m b) (O : Ord3 cf tg ll) {q : Nat} (h0 : s0 ≤ q) (h1 : q < r0) (h : ¬ cf (V.getD (pp - q) 0) (V.getD q 0) < 0) : SymPre cf V pp s0 (q + 1) := fun c k1 k2 k => by
  have b1 := B.in_ h0 h1
  have b2 := B.in_ k1 (show c < r0 by omega)
  exact h (H.mono O b2.1 (show c ≤ q by omega) b1.2.1 b1.2.2.1 (by omega) b2.2.2.2.1 k)
/-- Behind the search: the four parts. -/
theorem Bis.parts (B : Bis a m b md s0 r0 pp) (H : Halves tg ll V X L R Y a m b) (O : Ord3 cf tg ll) (h0 : s0 ≤ s) (h1 : s ≤ r0) (h2 : s + en = md + m) (hA : SymPre cf V pp s0 s) (hB : SymPost cf V pp s r0) :
    ∃ L1 L2 R1 R2, L = L1 ++ L2 ∧ R = R1 ++ R2 ∧ Quar tg ll X L1 L2 R1 R2 Y a s m en b md := by
  have e := B.ends
  have w := B.way; have pe := B.pe; have lo := B.lo; have hi := B.hi
  have k1 := H.la; have k2 := H.lm; have k3 := H.lb
  obtain ⟨L1, L2, R1, R2, hL, hR, n1, n2, hl⟩ := H.parted O (d := 0) (s := s) (e := en) (by omega) (by omega) (by omega) (by omega)
    (by
      by_cases hs : s0 < s
      · right; right
        have := hA (s - 1) (by omega) (by omega)
        rwa [show pp - (s - 1) = en by omega] at this
      · omega)
    (by
      by_cases hs : s < r0
      · right; right
        have := hB s (Nat.le_refl _) hs
        rwa [show pp - s = en - 1 by omega] at this
      · omega)
  have sL := H.sL
  have sR := H.sR
  have tg := H.tag
  rw [hL] at sL k2 tg
  rw [hR] at sR k3 tg
  rw [List.length_append] at k2 k3
  exact ⟨L1, L2, R1, R2, hL, hR, k1, n1, by omega, n2, by omega, by omega, (List.pairwise_append.1 sL).1, (List.pairwise_append.1 sL).2.1, (List.pairwise_append.1 sR).1, (List.pairwise_append.1 sR).2.1, tg, hl⟩
theorem Quar.half1 (Q : Quar tg ll X L1 L2 R1 R2 Y a s m en b md) : Halves tg ll (X ++ (L1 ++ (R1 ++ (L2 ++ (R2 ++ Y))))) X L1 R1 (L2 ++ (R2 ++ Y)) a s md :=
  ⟨rfl, Q.la, Q.l1, Q.lm, Q.p1, Q.p3, fun x hx y hy => Q.tag x (by simp [hx]) y (by simp [hy])⟩
theorem Quar.half2 (Q : Quar tg ll X L1 L2 R1 R2 Y a s m en b md) (hp : M1.Perm (L1 ++ R1)) : Halves tg ll (X ++ (M1 ++ (L2 ++ (R2 ++ Y)))) (X ++ M1) L2 R2 Y md en b := by
  have := hp.length_eq
  rw [List.length_append] at this
  have := Q.la; have := Q.l1; have := Q.l2; have := Q.l3; have := Q.l4; have := Q.lm
  exact ⟨by simp, by rw [List.length_append]; omega, by omega, by omega, Q.p2, Q.p4, fun x hx y hy => Q.tag x (by simp [hx]) y (by simp [hy])⟩
theorem Quar.done (Q : Quar tg ll X L1 L2 R1 R2 Y a s m en b md) (h1 : M1.Perm (L1 ++ R1)) (h2 : M2.Perm (L2 ++ R2)) (s1 : M1.Pairwise ll) (s2 : M2.Pairwise ll) : (M1 ++ M2).Perm ((L1 ++ L2) ++ (R1 ++ R2)) ∧ (M1 ++ M2).Pairwise ll := by
  refine ⟨(h1.append h2).trans ?_, List.pairwise_append.2 ⟨s1, s2, fun x hx y hy => Q.less x (h1.mem_iff.1 hx) y (h2.mem_iff.1 hy)⟩⟩
  rw [List.append_assoc, List.append_assoc]
  refine List.Perm.append_left _ ?_
  rw [← List.append_assoc, ← List.append_assoc]
  exact List.Perm.append_right _ List.perm_append_comm
theorem Quar.same1 (Q : Quar tg ll X L1 L2 R1 R2 Y a s m en b md) (h : L1 = [] ∨ R1 = []) : (L1 ++ R1).Pairwise ll := by
  rcases h with rfl | rfl
  · simpa using Q.p3
  · simpa using Q.p1
theorem Quar.same2 (Q : Quar tg ll X L1 L2 R1 R2 Y a s m en b md) (h : L2 = [] ∨ R2 = []) : (L2 ++ R2).Pairwise ll := by
  rcases h with rfl | rfl
  · simpa using Q.p4
  · simpa using Q.p2
theorem AllOk.perm {ok : Int → Prop} {V V' : List Int} (h : AllOk ok V) (hp : ∀ x, x ∈ V' → x ∈ V) : AllOk ok V' := fun x hx => h x (hp x hx)
end
end Go.Proofs.Ytggijifealljiaa
