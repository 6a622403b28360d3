/- slices.Delete of one element: of entries, of rows of entries. Conditions: the row's cells; at most 8000 elements. -/
import Derived.Test.YthamnmadgfmbkaaTabSays
import Derived.Test.YthamnmadgfmbkaaRunK
set_option linter.unusedVariables false
set_option linter.unusedSimpArgs false
namespace Go.Proofs.Ythamnmadgfmbkaa
open Go.RowKit

theorem Kind.slice_from_at {α : Type} (K : Kind α) (g n c k : Nat) (hk : k ≤ n) (hc : n ≤ c) (W : World) : (Instr.slice K.L (.slice (some ⟨g, 0, none⟩) n c) (some (.int .i64 (k : Int))) none none).run Try.prog W = .ok (.slice (if c = k then some ⟨g, 0, none⟩ else some ⟨g, k * K.k, none⟩) (n - k) (c - k)) W := by
  have := K.slice_from (some ⟨g, 0, none⟩) n c k hk W
  simpa only [Option.map_some, Kind.add_zero_k] using this
theorem Kind.slice_mid_at {α : Type} (K : Kind α) (g n c lo hi : Nat) (h1 : lo ≤ hi) (h2 : hi ≤ c) (hlt : lo < c) (W : World) : (Instr.slice K.L (.slice (some ⟨g, 0, none⟩) n c) (some (.int .i64 (lo : Int))) (some (.int .i64 (hi : Int))) none).run Try.prog W = .ok (.slice (some ⟨g, lo * K.k, none⟩) (hi - lo) (c - lo)) W := by
  have := K.slice_mid (some ⟨g, 0, none⟩) n c lo hi h1 h2 W
  rw [if_neg (by omega)] at this
  simpa only [Option.map_some, Kind.add_zero_k] using this
set_option maxHeartbeats 4000000 in
theorem delE_any (g n c i j base : Nat) (l : List E) (w : World) (hi : i < n) (hj : j = i + 1) (hn : n ≤ 8000) (h : entK.Row w base (some ⟨g, 0, none⟩) n c l) :
    Calls Try.prog 39 #[.slice (some ⟨g, 0, none⟩) n c, .int .i64 (i : Int), .int .i64 (j : Int)] w fun e w' => e = .returned (.slice (some ⟨g, 0, none⟩) (n - 1) c) ∧ entK.Row w' base (some ⟨g, 0, none⟩) (n - 1) c (l.take i ++ l.drop j) ∧ Turn (fun b => b = g) w w' := by
  subst hj
  obtain ⟨W1, W2, r1, r2, hR, hG⟩ := (h.since (Below.refl _ _).drew).delete entK_zero hi 27 0
  have hcap : n ≤ c := h.cap
  have HR := Lib.hid hR
  have HT : Hid (Turn (fun b => b = g) w W2) := (Turn.of_below (fp := fun b => b = g) (Below.refl _ _).drew).trans (Turn.of_grown (fp := fun b => b = g) hG fun b e => (Option.some.inj e).symm) fun b hb => Or.inl hb
  have hmx : c ≤ maxLen := by obtain ⟨cur, h1, h2, h3, h4, _⟩ := h.open_; exact h4
  have hne : ¬ ((i : Int) = ((i + 1 : Nat) : Int)) := by omega
  have i0 : (0 : Int) ≤ (i : Int) := by omega
  obtain ⟨j, HJ⟩ : ∃ j, Hid (i + 1 = j) := ⟨_, rfl⟩
  obtain ⟨q, HQ⟩ : ∃ q, Hid (n - 1 = q) := ⟨_, rfl⟩
  have hs1 : ∀ W : World, (Instr.slice 27 (.slice (some ⟨g, 0, none⟩) n c) none (some (.int .i64 (i : Int))) none).run Try.prog W = .ok (.slice (some ⟨g, 0, none⟩) i c) W := fun W => entK.slice_to (some ⟨g, 0, none⟩) n c i (by omega) hcap W
  have hs2 : ∀ W : World, (Instr.slice 27 (.slice (some ⟨g, 0, none⟩) n c) (some (.int .i64 (j : Int))) none none).run Try.prog W = .ok (.slice (if c = j then some ⟨g, 0, none⟩ else some ⟨g, j * entK.k, none⟩) (n - j) (c - j)) W := fun W => entK.slice_from_at g n c j (by rw [← HJ.out]; omega) hcap W
  have hs3 : ∀ W : World, (Instr.slice 27 (.slice (some ⟨g, 0, none⟩) q c) (some (.int .i64 (q : Int))) (some (.int .i64 (n : Int))) none).run Try.prog W = .ok (.slice (some ⟨g, q * entK.k, none⟩) (n - q) (c - q)) W := fun W => entK.slice_mid_at g q c q n (by rw [← HQ.out]; omega) hcap (by rw [← HQ.out]; omega) W
  have e1 : n - q = 1 := by rw [← HQ.out]; omega
  rw [e1] at hs3
  rw [HJ.out] at r1 HR hne
  rw [HQ.out] at r1 r2 HR
  rw [HQ.out, HJ.out]
  have hij : (i : Int) ≤ (j : Int) := by rw [← HJ.out]; omega
  have hjn : (j : Int) ≤ (n : Int) := by rw [← HJ.out]; omega
  have hj0 : (0 : Int) ≤ (j : Int) := by omega
  have hcz : (n : Int) ≤ (c : Int) := by omega
  obtain ⟨v2, HV2⟩ : ∃ v, Hid (Value.slice (if c = j then some ⟨g, 0, none⟩ else some ⟨g, j * entK.k, none⟩) (n - j) (c - j) = v) := ⟨_, rfl⟩
  rw [HV2.out] at hs2 r1
  obtain ⟨v3, HV3⟩ : ∃ v, Hid (Value.slice (some ⟨g, q * entK.k, none⟩) 1 (c - q) = v) := ⟨_, rfl⟩
  rw [HV3.out] at hs3 r2
  have R1 := Lib.hid r1
  have R2 : Hid ((Builtin.clear_ #[27] 0 #[v3]).run Try.prog W1 = .ok (.tuple #[]) W2) := r2
  clear h hR hG r1 r2 e1 hmx
  go_enter Try.func39, Try.ntmps39
  go_wp2_with fail
  go_region_law (refine step_append_k rfl _ _ 27 27 rfl (by simp [Act.eval, Act.put]) (by simp [Act.eval, Act.put]) R1.out ?_)
  go_wp2_with (simp only [R2.out])
  go_ret
  exact ⟨rfl, HR.out, HT.out⟩
set_option maxHeartbeats 4000000 in
theorem delR_any (g n c i j base : Nat) (l : List SV) (w : World) (hi : i < n) (hj : j = i + 1) (hn : n ≤ 8000) (h : esK.Row w base (some ⟨g, 0, none⟩) n c l) :
    Calls Try.prog 40 #[.slice (some ⟨g, 0, none⟩) n c, .int .i64 (i : Int), .int .i64 (j : Int)] w fun e w' => e = .returned (.slice (some ⟨g, 0, none⟩) (n - 1) c) ∧ esK.Row w' base (some ⟨g, 0, none⟩) (n - 1) c (l.take i ++ l.drop j) ∧ Turn (fun b => b = g) w w' := by
  subst hj
  obtain ⟨W1, W2, r1, r2, hR, hG⟩ := (h.since (Below.refl _ _).drew).delete esK_zero hi 50 0
  have hcap : n ≤ c := h.cap
  have HR := Lib.hid hR
  have HT : Hid (Turn (fun b => b = g) w W2) := (Turn.of_below (fp := fun b => b = g) (Below.refl _ _).drew).trans (Turn.of_grown (fp := fun b => b = g) hG fun b e => (Option.some.inj e).symm) fun b hb => Or.inl hb
  have hmx : c ≤ maxLen := by obtain ⟨cur, h1, h2, h3, h4, _⟩ := h.open_; exact h4
  have hne : ¬ ((i : Int) = ((i + 1 : Nat) : Int)) := by omega
  have i0 : (0 : Int) ≤ (i : Int) := by omega
  obtain ⟨j, HJ⟩ : ∃ j, Hid (i + 1 = j) := ⟨_, rfl⟩
  obtain ⟨q, HQ⟩ : ∃ q, Hid (n - 1 = q) := ⟨_, rfl⟩
  have hs1 : ∀ W : World, (Instr.slice 50 (.slice (some ⟨g, 0, none⟩) n c) none (some (.int .i64 (i : Int))) none).run Try.prog W = .ok (.slice (some ⟨g, 0, none⟩) i c) W := fun W => esK.slice_to (some ⟨g, 0, none⟩) n c i (by omega) hcap W
  have hs2 : ∀ W : World, (Instr.slice 50 (.slice (some ⟨g, 0, none⟩) n c) (some (.int .i64 (j : Int))) none none).run Try.prog W = .ok (.slice (if c = j then some ⟨g, 0, none⟩ else some ⟨g, j * esK.k, none⟩) (n - j) (c - j)) W := fun W => esK.slice_from_at g n c j (by rw [← HJ.out]; omega) hcap W
  have hs3 : ∀ W : World, (Instr.slice 50 (.slice (some ⟨g, 0, none⟩) q c) (some (.int .i64 (q : Int))) (some (.int .i64 (n : Int))) none).run Try.prog W = .ok (.slice (some ⟨g, q * esK.k, none⟩) (n - q) (c - q)) W := fun W => esK.slice_mid_at g q c q n (by rw [← HQ.out]; omega) hcap (by rw [← HQ.out]; omega) W
  have e1 : n - q = 1 := by rw [← HQ.out]; omega
  rw [e1] at hs3
  rw [HJ.out] at r1 HR hne
  rw [HQ.out] at r1 r2 HR
  rw [HQ.out, HJ.out]
  have hij : (i : Int) ≤ (j : Int) := by rw [← HJ.out]; omega
  have hjn : (j : Int) ≤ (n : Int) := by rw [← HJ.out]; omega
  have hj0 : (0 : Int) ≤ (j : Int) := by omega
  have hcz : (n : Int) ≤ (c : Int) := by omega
  obtain ⟨v2, HV2⟩ : ∃ v, Hid (Value.slice (if c = j then some ⟨g, 0, none⟩ else some ⟨g, j * esK.k, none⟩) (n - j) (c - j) = v) := ⟨_, rfl⟩
  rw [HV2.out] at hs2 r1
  obtain ⟨v3, HV3⟩ : ∃ v, Hid (Value.slice (some ⟨g, q * esK.k, none⟩) 1 (c - q) = v) := ⟨_, rfl⟩
  rw [HV3.out] at hs3 r2
  have R1 := Lib.hid r1
  have R2 : Hid ((Builtin.clear_ #[50] 0 #[v3]).run Try.prog W1 = .ok (.tuple #[]) W2) := r2
  clear h hR hG r1 r2 e1 hmx
  go_enter Try.func40, Try.ntmps40
  go_wp2_with fail
  go_region_law (refine step_append_k rfl _ _ 50 50 rfl (by simp [Act.eval, Act.put]) (by simp [Act.eval, Act.put]) R1.out ?_)
  go_wp2_with (simp only [R2.out])
  go_ret
  exact ⟨rfl, HR.out, HT.out⟩
end Go.Proofs.Ythamnmadgfmbkaa
