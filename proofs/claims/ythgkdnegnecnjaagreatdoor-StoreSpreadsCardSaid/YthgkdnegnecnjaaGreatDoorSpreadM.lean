/- StoreSpreads as mathematics: which block each page goes to, reckoned. No conditions. -/
import Derived.Test.YthgkdnegnecnjaaGreatDoorSinv
set_option linter.unusedVariables false
set_option linter.unusedSimpArgs false
set_option maxRecDepth 20000
namespace Go.Proofs.YthgkdnegnecnjaaGreatDoor
open Go.RowKit

/-- States, pages programmed, erases, and the block of the page before. -/
structure Sg where
  st : List Int
  nx : List Nat
  we : List Nat
  ob : Int
def Sg.y (σ : Sg) : Yd := ⟨σ.st, [], [], [], 0⟩
def goalG (σ : Sg) : Int := match listY σ.y 2 with
  | b :: _ => b
  | [] => leastW ((List.range 16).map fun (k : Nat) => if (listY σ.y 1).contains (k : Int) then (σ.we.getD k 0 : Int) else 0) ((List.range 16).map fun (k : Nat) => (listY σ.y 1).contains (k : Int))
def stepG (σ : Sg) : Sg :=
  let b := (goalG σ).toNat
  let q := if σ.st.getD b 0 = 1 then 0 else σ.nx.getD b 0
  let st1 := σ.st.set b (if q + 1 = 4 then 3 else 2)
  ⟨if σ.ob < 0 ∨ σ.ob = (b : Int) then st1 else st1.set σ.ob.toNat 1, σ.nx.set b (q + 1), if σ.st.getD b 0 = 1 ∧ 0 < σ.nx.getD b 0 then σ.we.set b (σ.we.getD b 0 + 1) else σ.we, (b : Int)⟩
def loG (l : List Nat) : Nat := l.foldl min (l.getD 0 0)
def hiG (l : List Nat) : Nat := l.foldl max (l.getD 0 0)
def okG (σ : Sg) : Bool := decide (0 ≤ goalG σ) && decide (hiG (stepG σ).we ≤ loG (stepG σ).we + 2) && (decide (σ.ob < 0) || decide (σ.ob = goalG σ) || decide (σ.st.getD σ.ob.toNat 0 = 3))
def allG : Nat → Sg → Bool
  | 0, _ => true
  | n + 1, σ => okG σ && allG n (stepG σ)
def sg0 : Sg := ⟨List.replicate 16 1, List.replicate 16 0, List.replicate 16 0, -1⟩
theorem all300 : allG 300 sg0 = true := by kernel_rfl
/-- A store whose pages are all dropped but the last one, and its numbers. -/
structure RG (s : SS) (σ : Sg) (old : Option (Nat × Nat)) : Prop where
  si : SI s
  nm : NM s.c
  nb : s.c.nb = 16
  np : s.c.np = 4
  ns : s.c.ns = 128
  st : s.y.S = σ.st
  nxl : σ.nx.length = 16
  wel : σ.we.length = 16
  nx : ∀ k, k < 16 → (s.c.nth k).next = σ.nx.getD k 0
  we : ∀ k, k < 16 → (s.c.nth k).wear = σ.we.getD k 0
  o0 : old = none → σ.ob = -1 ∧ ∀ j r, j < 16 → (s.y.N.getD j []).getD r false = false
  o1 : ∀ k q, old = some (k, q) → σ.ob = (k : Int) ∧ k < 16 ∧ ∀ j r, j < 16 → ((s.y.N.getD j []).getD r false = true ↔ (j = k ∧ r = q))
section
variable {s s1 : SS} {σ : Sg} {old : Option (Nat × Nat)} {b : Nat} {S1 T1 : Int} {N1 : List Bool} {B1 : Blk} {K A S G : Int} {ds raw : List Nat}
theorem Eff.listS (e : Eff s s1 b S1 T1 N1 B1) (hb : b < s.y.S.length) : s1.y.S = s.y.S.set b S1 := by
  apply List.ext_getElem
  · rw [e.len, List.length_set]
  · intro i h1 h2
    have h3 : i < s.y.S.length := by rw [← e.len]; exact h1
    have := e.S i
    rw [List.getD_eq_getElem?_getD, List.getElem?_eq_getElem h1, List.getD_eq_getElem?_getD, List.getElem?_eq_getElem h3] at this
    simp only [Option.getD_some] at this
    rw [this, List.getElem_set]
    by_cases e2 : b = i
    · rw [if_pos e2, if_pos e2.symm]
    · rw [if_neg e2, if_neg (Ne.symm e2)]
theorem wear_nat (c : Chip) {b : Nat} (hb : b < c.nb) : c.wear (b : Int) = (c.nth b).wear := by
  unfold Chip.wear; rw [if_pos (has_nat c hb), blk_nth]
theorem RG.goal (h : RG s σ old) : goalS s = goalG σ := by
  have hl : ∀ x, listY s.y x = listY σ.y x := fun x => by unfold listY; rw [show s.y.S = σ.y.S from h.st]
  unfold goalS goalG
  rw [hl 2, hl 1]
  cases listY σ.y 2 with
  | cons b l => rfl
  | nil =>
    show leastW (wsL s _) (csL s _) = leastW _ _
    unfold wsL csL
    rw [h.nb]
    congr 1
    refine List.map_congr_left fun k hk => ?_
    have hk := List.mem_range.1 hk
    rw [wear_nat _ (by rw [h.nb]; exact hk), h.we k hk]
theorem RG.step (h : RG s σ old) (ok : okG σ = true) (hlay : layO ds K A S G = some raw) (a0 : 0 ≤ A) (a1 : A ≤ 18446744073709551615) (hl : ds.length = 128) :
    ∃ s1 s2 b q, putS s K A S G ds = (s1, pno 4 b q, 0) ∧ (old = none → s2 = s1) ∧ (∀ k r, old = some (k, r) → dropS s1 (pno 4 k r) = (s2, 0)) ∧ b < 16 ∧ q < 4 ∧ RG s2 (stepG σ) (some (b, q)) ∧ s1.c.ops ≤ s.c.ops + 2 ∧ s2.c = s1.c ∧ s1.c.misuse = s.c.misuse ∧ SW s := by
  unfold okG at ok
  obtain ⟨ok1, ok3⟩ := Bool.and_eq_true_iff.1 ok
  obtain ⟨ok1, ok2⟩ := Bool.and_eq_true_iff.1 ok1
  have ok1 := of_decide_eq_true ok1
  obtain ⟨b, hb⟩ : ∃ b : Nat, goalG σ = (b : Int) := ⟨(goalG σ).toNat, by omega⟩
  obtain ⟨B0, s1, p1, p2, p3, p4⟩ := put_nm h.si h.nm (h.goal.trans hb) hlay a0 a1 (by rw [h.ns]; exact hl)
  rw [h.np] at p1
  have hb16 : b < 16 := by rw [← h.nb]; exact p2.lt
  have hbS : b < s.y.S.length := by rw [h.si.sw.nb]; exact p2.lt
  have hstl : σ.st.length = 16 := by rw [← h.st, h.si.sw.nb, h.nb]
  have hq : B0.next = if σ.st.getD b 0 = 1 then 0 else σ.nx.getD b 0 := by
    rw [← h.st]
    rcases p2.st with e | e
    · rw [if_pos e]; exact p2.next0 e
    · rw [if_neg (by rw [e]; decide), p2.same e]; exact h.nx b hb16
  have hwe : B0.wear = if σ.st.getD b 0 = 1 ∧ 0 < σ.nx.getD b 0 then σ.we.getD b 0 + 1 else σ.we.getD b 0 := by
    rw [← h.st, p2.b0]
    unfold base0
    rw [h.nx b hb16]
    by_cases e : s.y.S.getD b 0 = 1 ∧ 0 < σ.nx.getD b 0
    · rw [if_pos e, if_pos e]; show (s.c.nth b).wear + 1 = _; rw [h.we b hb16]
    · rw [if_neg e, if_neg e]; exact h.we b hb16
  have hs1 : s1.y.S = σ.st.set b (if B0.next + 1 = 4 then 3 else 2) := by rw [p2.eff.listS hbS, h.st, h.np]
  have hN1 : ∀ j r, (s1.y.N.getD j []).getD r false = if j = b ∧ r = B0.next then true else (s.y.N.getD j []).getD r false := fun j r => by
    rw [p2.eff.N]
    by_cases e : j = b
    · rw [if_pos e, e, getD_set_eq (by rw [h.si.yw.nl b hbS, h.si.sw.np]; exact p2.q)]
      by_cases e2 : r = B0.next
      · rw [if_pos e2, if_pos ⟨rfl, e2⟩]
      · rw [if_neg e2, if_neg fun e3 => e2 e3.2]
    · rw [if_neg e, if_neg fun e3 => e e3.1]
  have hnx1 : ∀ k, k < 16 → (s1.c.nth k).next = (σ.nx.set b (B0.next + 1)).getD k 0 := fun k hk => by
    rw [p2.eff.B, getD_set_eq (by rw [h.nxl]; exact hb16)]
    by_cases e : k = b
    · rw [if_pos e, if_pos e]; rfl
    · rw [if_neg e, if_neg e, h.nx k hk]
  have hwe1 : ∀ k, k < 16 → (s1.c.nth k).wear = (if σ.st.getD b 0 = 1 ∧ 0 < σ.nx.getD b 0 then σ.we.set b (σ.we.getD b 0 + 1) else σ.we).getD k 0 := fun k hk => by
    rw [p2.eff.B]
    by_cases e : k = b
    · rw [if_pos e]
      show B0.wear = _
      rw [hwe]
      split
      · rw [getD_set_eq (by rw [h.wel]; exact hb16), if_pos e]
      · rw [e]
    · rw [if_neg e, h.we k hk]
      split
      · rw [getD_set_eq (by rw [h.wel]; exact hb16), if_neg e]
      · rfl
  have hwl : (if σ.st.getD b 0 = 1 ∧ 0 < σ.nx.getD b 0 then σ.we.set b (σ.we.getD b 0 + 1) else σ.we).length = 16 := by
    split
    · rw [List.length_set]; exact h.wel
    · exact h.wel
  have hfc := p2.eff.fc
  have hstep : stepG σ = ⟨if σ.ob < 0 ∨ σ.ob = (b : Int) then σ.st.set b (if B0.next + 1 = 4 then 3 else 2) else (σ.st.set b (if B0.next + 1 = 4 then 3 else 2)).set σ.ob.toNat 1, σ.nx.set b (B0.next + 1), if σ.st.getD b 0 = 1 ∧ 0 < σ.nx.getD b 0 then σ.we.set b (σ.we.getD b 0 + 1) else σ.we, (b : Int)⟩ := by
    unfold stepG
    rw [hb, Int.toNat_natCast, hq]
  have hq4 : B0.next < 4 := by rw [← h.np]; exact p2.q
  cases old with
  | none =>
    obtain ⟨o1, o2⟩ := h.o0 rfl
    refine ⟨s1, s1, b, B0.next, p1, fun _ => rfl, (fun k r e => by cases e), hb16, hq4, ?_, p2.ops, rfl, p2.mis, h.si.sw⟩
    rw [hstep, if_pos (Or.inl (by rw [o1]; decide))]
    refine ⟨p2.si, p2.nm, hfc.nb.trans h.nb, hfc.np.trans h.np, hfc.ns.trans h.ns, hs1, by rw [List.length_set]; exact h.nxl, hwl, hnx1, hwe1, (fun e => by cases e), fun k q e => ?_⟩
    cases e
    refine ⟨rfl, hb16, fun j r hj => ?_⟩
    rw [hN1]
    by_cases e : j = b ∧ r = B0.next
    · rw [if_pos e]; exact ⟨fun _ => e, fun _ => rfl⟩
    · rw [if_neg e, o2 j r hj]; exact ⟨fun e2 => (by cases e2), fun e2 => absurd e2 e⟩
  | some kr =>
    obtain ⟨k, r⟩ := kr
    obtain ⟨o1, o2, o3⟩ := h.o1 k r rfl
    have hne : ¬ (k = b ∧ r = B0.next) := fun e => by
      have := (o3 k r o2).2 ⟨rfl, rfl⟩
      rw [e.1, e.2, p2.no] at this
      cases this
    have hNk : (s1.y.N.getD k []).getD r false = true := by rw [hN1, if_neg hne]; exact (o3 k r o2).2 ⟨rfl, rfl⟩
    obtain ⟨s2, S2, T2, d1, d2, d3, d4, d5, d6, d7⟩ := drop_nm p2.si (by rw [hfc.nb, h.nb]; exact o2) hNk
    rw [hfc.np, h.np] at d1 d2 d4
    have hkS1 : k < s1.y.S.length := by rw [p2.eff.len, h.si.sw.nb, h.nb]; exact o2
    have hN2 : ∀ j r', (s2.y.N.getD j []).getD r' false = if j = k ∧ r' = r then false else (s1.y.N.getD j []).getD r' false := fun j r' => by
      rw [d3.N]
      by_cases e : j = k
      · rw [if_pos e, e, getD_set_eq (by rw [p2.si.yw.nl k hkS1, p2.si.sw.np, hfc.np, h.np]; exact d2)]
        by_cases e2 : r' = r
        · rw [if_pos e2, if_pos ⟨rfl, e2⟩]
        · rw [if_neg e2, if_neg fun e3 => e2 e3.2]
      · rw [if_neg e, if_neg fun e3 => e e3.1]
    have hN3 : ∀ j r', j < 16 → ((s2.y.N.getD j []).getD r' false = true ↔ (j = b ∧ r' = B0.next)) := fun j r' hj => by
      rw [hN2, hN1]
      by_cases e : j = k ∧ r' = r
      · rw [if_pos e]
        exact ⟨fun e2 => (by cases e2), fun e2 => absurd ⟨e.1.symm.trans e2.1, e.2.symm.trans e2.2⟩ hne⟩
      · rw [if_neg e]
        by_cases e2 : j = b ∧ r' = B0.next
        · rw [if_pos e2]; exact ⟨fun _ => e2, fun _ => rfl⟩
        · rw [if_neg e2]; exact ⟨fun e3 => absurd ((o3 j r' hj).1 e3) e, fun e3 => absurd e3 e2⟩
    have hk2 : k < s2.y.S.length := by rw [d3.len]; exact hkS1
    have hS2 : S2 = if σ.ob < 0 ∨ σ.ob = (b : Int) then s1.y.S.getD k 0 else 1 := by
      by_cases e : k = b
      · rw [if_pos (Or.inr (by rw [o1, e]))]
        rcases d7 with d7 | ⟨d7, d8⟩
        · exact d7
        · -- the new page is needed still
          have := (d6.yw.fr k hk2 (by rw [d3.S, if_pos rfl]; exact d8)).2 B0.next
          rw [(hN3 k B0.next o2).2 ⟨e, rfl⟩] at this
          cases this
      · have hob : ¬ (σ.ob < 0 ∨ σ.ob = (b : Int)) := by rw [o1]; omega
        rw [if_neg hob]
        have hst : s1.y.S.getD k 0 = 3 := by
          rw [p2.eff.S, if_neg e, h.st]
          rcases Bool.or_eq_true_iff.1 ok3 with h3 | h3
          · rcases Bool.or_eq_true_iff.1 h3 with h4 | h4
            · exact absurd (Or.inl (of_decide_eq_true h4)) hob
            · exact absurd (Or.inr ((of_decide_eq_true h4).trans hb)) hob
          · have := of_decide_eq_true h3
            rw [o1, Int.toNat_natCast] at this
            exact this
        rcases d7 with d7 | ⟨_, d8⟩
        · rw [hst] at d7
          have hB2 := (d6.b k (by rw [d5, hfc.nb, h.nb]; exact o2)).se (by rw [d3.S, if_pos rfl]; exact d7)
          obtain ⟨r', hr'⟩ := hB2
          have := (hN3 k r' o2).1 hr'
          exact absurd this.1 e
        · exact d8
    have hfc2 := d3.fc
    refine ⟨s1, s2, b, B0.next, p1, (fun e => by cases e), (fun k' r' e => by cases e; exact d1), hb16, hq4, ?_, p2.ops, d5, p2.mis, h.si.sw⟩
    rw [hstep]
    refine ⟨d6, by rw [d5]; exact p2.nm, by rw [d5]; exact hfc.nb.trans h.nb, by rw [d5]; exact hfc.np.trans h.np, by rw [d5]; exact hfc.ns.trans h.ns, ?_, by rw [List.length_set]; exact h.nxl, hwl, fun j hj => by rw [d5]; exact hnx1 j hj, fun j hj => by rw [d5]; exact hwe1 j hj, (fun e => by cases e), fun k' q' e => ?_⟩
    · show s2.y.S = _
      rw [d3.listS hkS1, hS2, hs1]
      by_cases e : σ.ob < 0 ∨ σ.ob = (b : Int)
      · rw [if_pos e, if_pos e]
        apply set_same
      · rw [if_neg e, if_neg e, o1, Int.toNat_natCast]
    · cases e
      exact ⟨rfl, hb16, hN3⟩
end
end Go.Proofs.YthgkdnegnecnjaaGreatDoor
