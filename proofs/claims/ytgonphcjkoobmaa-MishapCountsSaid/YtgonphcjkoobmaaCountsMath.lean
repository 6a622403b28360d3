/- Mishaps that are made one behind the other, in plain words; the lowest bit of a number; a copy of a list. No conditions. -/
import Derived.Test.YtgonphcjkoobmaaPartsMath
import Derived.Test.YtgonphcjkoobmaaShared
set_option linter.unusedVariables false
set_option linter.unusedSimpArgs false
namespace Go.Proofs.Ytgonphcjkoobmaa
open Go.RowKit

theorem i64_and1 (n : Int) : bits .and .i64 n 1 = n % 2 := by
  have h1 : (BitVec.ofInt 64 1).toNat = 2 ^ 1 - 1 := by decide
  have key : (BitVec.ofInt 64 n &&& BitVec.ofInt 64 1).toNat = (n % ((2 ^ 64 : Nat) : Int)).toNat % 2 ^ 1 := by
    rw [BitVec.toNat_and, BitVec.toNat_ofInt, h1, Nat.and_two_pow_sub_one_eq_mod]
  show IntKind.i64.wrap ((BitVec.ofInt 64 n &&& BitVec.ofInt 64 1).toNat : Nat) = n % 2
  rw [key, IntKind.wrap_i64]
  omega
theorem wf_of {a k b f : Int} (ha0 : -9223372036854775808 ≤ a) (ha1 : a ≤ 9223372036854775807) (hk0 : -9223372036854775808 ≤ k) (hk1 : k ≤ 9223372036854775807) (hb0 : -9223372036854775808 ≤ b) (hb1 : b ≤ 9223372036854775807) (hf0 : 0 ≤ f) (hf1 : f ≤ 255) : MWf ⟨a, k, b, f⟩ := ⟨ha0, ha1, hk0, hk1, hb0, hb1, hf0, hf1⟩
theorem grown_none7 {w w' : World} (h : w.grownBy w' none) : Below w.heap.size w w' := ⟨h.os, h.tape, h.output, h.size, fun i hi => h.block i hi (by simp)⟩
/-- append(nil, vs...): a new row, or nil. -/
theorem copy_new {α : Type} (K : Kind α) {W : World} {A : Option Addr} {n c : Nat} {vs : List α} (hA : K.Lie W W.heap.size A n vs) (hn : n ≤ 8000) :
    ∃ A2 c2 W2, (Builtin.append_ #[K.L, K.L] K.L #[.slice none 0 0, .slice A n c]).run Try.prog W = .ok (.slice A2 n c2) W2 ∧ K.Row W2 W.heap.size A2 n c2 vs ∧ Below W.heap.size W W2 := by
  obtain ⟨A2, c2, W2, hr, ho, hg⟩ := Kind.append_b (c' := c) (Nat.le_refl _) Kind.Row.none_ hA (by omega)
  rw [Nat.zero_add] at hr ho
  rw [List.nil_append] at ho
  exact ⟨A2, c2, W2, hr, ho, grown_none7 hg⟩
/-- What the loop has made: mishaps that rise up to 'a', up of them not behind z, dk of them dark. -/
structure CInv (z : Int) (us : List M) (a : Int) (up dk : Nat) : Prop where
  ok : ∀ m ∈ us, okM m = true
  rise : us.Pairwise fun p q => p.at_ < q.at_
  top : ∀ m ∈ us, m.at_ ≤ a
  last : us ≠ [] → ∃ m ∈ us, m.at_ = a
  none_ : us = [] → a = 0
  low : 0 ≤ a
  high : a ≤ 20 * (us.length : Int)
  upto : up + (afterM z us).length = us.length
  darks : dk = darksM us
theorem cinv_start (z : Int) : CInv z [] 0 0 0 := ⟨by simp, List.Pairwise.nil, by simp, fun h => absurd rfl h, fun _ => rfl, by omega, by simp, by simp [afterM], rfl⟩
theorem afterM_snoc (z : Int) (us : List M) (m : M) : afterM z (us ++ [m]) = afterM z us ++ (if z < m.at_ then [m] else []) := by
  unfold afterM
  rw [List.filter_append]
  congr 1
  by_cases h : z < m.at_ <;> simp [h]
theorem darksM_snoc (us : List M) (m : M) : darksM (us ++ [m]) = darksM us + (if m.kind = 2 then 1 else 0) := by
  unfold darksM
  rw [List.filter_append, List.length_append]
  congr 1
  by_cases h : m.kind = 2 <;> simp [h]
theorem rise_snoc {us : List M} {m : M} {a : Int} (h : us.Pairwise fun p q => p.at_ < q.at_) (ht : ∀ m ∈ us, m.at_ ≤ a) (hm : a < m.at_) : (us ++ [m]).Pairwise fun p q => p.at_ < q.at_ := by
  rw [List.pairwise_append]
  refine ⟨h, List.pairwise_singleton _ _, fun p hp q hq => ?_⟩
  rw [List.mem_singleton.1 hq]
  have := ht p hp
  omega
theorem CInv.step {z a : Int} {us : List M} {up dk : Nat} (h : CInv z us a up dk) (hl : us.length < 20) {g β : Int} (hg0 : 0 ≤ g) (hg1 : g ≤ 19) (hβ : β = 0 ∨ β = 1) :
    CInv z (us ++ [⟨a + 1 + g, 1 + β, 0, 0⟩]) (a + 1 + g) (up + if a + 1 + g ≤ z then 1 else 0) (dk + β.toNat) := by
  have h1 := h.low
  have h2 := h.high
  refine ⟨fun m hm => ?_, rise_snoc h.rise h.top (by show a < a + 1 + g; omega), fun m hm => ?_, fun _ => ⟨⟨a + 1 + g, 1 + β, 0, 0⟩, by simp, rfl⟩, fun e => by simp at e, by omega, by rw [List.length_append, List.length_singleton]; omega, ?_, ?_⟩
  · rcases List.mem_append.1 hm with hm | hm
    · exact h.ok m hm
    · rw [List.mem_singleton.1 hm]
      exact decide_eq_true ⟨by show 1 ≤ a + 1 + g; omega, by show a + 1 + g ≤ _; omega, by show 1 + β = 1 ∨ 1 + β = 2; omega, by show (0 : Int) ≤ 0; omega, by show (0 : Int) ≤ _; omega⟩
  · rcases List.mem_append.1 hm with hm | hm
    · have := h.top m hm; omega
    · rw [List.mem_singleton.1 hm]; show a + 1 + g ≤ a + 1 + g; omega
  · have h3 := h.upto
    rw [afterM_snoc, List.length_append, List.length_append, List.length_singleton]
    show _ + (_ + (if z < a + 1 + g then [_] else []).length) = _
    by_cases hz : a + 1 + g ≤ z
    · rw [if_pos hz, if_neg (by omega)]; simp; omega
    · rw [if_neg hz, if_pos (by omega)]; simp; omega
  · rw [darksM_snoc, h.darks]
    show _ = _ + (if 1 + β = 2 then 1 else 0)
    rcases hβ with rfl | rfl
    · simp
    · simp
theorem CInv.may {z a : Int} {us : List M} {up dk : Nat} (h : CInv z us a up dk) (hl : us.length ≤ 20) : mayM us = true := (mayM_iff us).2 ⟨by omega, h.ok, h.rise⟩
theorem CInv.more {z a q : Int} {us : List M} {up dk : Nat} (h : CInv z us a up dk) (hq0 : 0 ≤ q) (hq1 : q ≤ a) : mayM (us ++ [⟨q, 2, 0, 0⟩]) = false := by
  rw [Bool.eq_false_iff]
  intro e
  obtain ⟨_, h2, h3⟩ := (mayM_iff _).1 e
  by_cases hu : us = []
  · have ha := h.none_ hu
    have := okM_out (h2 ⟨q, 2, 0, 0⟩ (by simp))
    have h4 : 1 ≤ q := this.1
    omega
  · obtain ⟨m, hm, he⟩ := h.last hu
    rw [List.pairwise_append] at h3
    have h4 : m.at_ < q := h3.2.2 m hm ⟨q, 2, 0, 0⟩ (by simp)
    omega
theorem CInv.behind {z a : Int} {us : List M} {up dk : Nat} (h : CInv z us a up dk) (hl : us.length ≤ 20) : mayM (us ++ [⟨a + 1, 1, 65536, 0⟩]) = true := by
  have h1 := h.low
  have h2 := h.high
  refine (mayM_iff _).2 ⟨by rw [List.length_append, List.length_singleton]; omega, fun m hm => ?_, rise_snoc h.rise h.top (by show a < a + 1; omega)⟩
  rcases List.mem_append.1 hm with hm | hm
  · exact h.ok m hm
  · rw [List.mem_singleton.1 hm]
    exact decide_eq_true ⟨by show 1 ≤ a + 1; omega, by show a + 1 ≤ _; omega, Or.inl rfl, by show (0 : Int) ≤ 65536; omega, by show (65536 : Int) ≤ 65536; omega⟩
theorem CInv.after {z a : Int} {us : List M} {up dk : Nat} (h : CInv z us a up dk) : darksM (afterM z us) ≤ dk := by
  rw [h.darks]
  unfold darksM
  exact ((afterM_sub z us).filter _).length_le
theorem CInv.one {z a q : Int} {us : List M} {up dk : Nat} (h : CInv z us a up dk) : darksM (us ++ [⟨q, 2, 0, 0⟩]) = dk + 1 := by
  rw [darksM_snoc, h.darks]; rfl
end Go.Proofs.Ytgonphcjkoobmaa
